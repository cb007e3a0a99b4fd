package lex

import (
	"strconv"
	"strings"

	"kinesphere/api"
)

// scanner is how what begins with a byte of one class is scanned.
type scanner struct {
	// size returns how many bytes at the beginning of rest belong together.
	size func(rest string) int
	// token returns what these bytes mean, at the place at; it has no kind if they mean nothing.
	// Where they are wrong, it panics with the place, and Lex recovers.
	token func(text string, at int) api.Token
}

// scanners is indexed by the class of the first byte.
func scanners() [slash + 1]scanner {
	return [slash + 1]scanner{
		other:      {size: sizeOne, token: wrong},
		white:      {size: sizeOne, token: nothing},
		letter:     {size: sizeName, token: name},
		digit:      {size: sizeNumber, token: number},
		underscore: {size: sizeOne, token: wrong},
		mark:       {size: sizeOne, token: sign},
		slash:      {size: sizeSlash, token: signOrComment},
	}
}

// scan returns the tokens of src. It panics with the place of the first one that is wrong.
func scan(src string) (l []api.Token) {
	all := scanners()
	for at := 0; at < len(src); {
		rest := src[at:]
		s := all[classOf(rest[0])]
		n := s.size(rest)
		if t := s.token(rest[:n], at); t.Kind != 0 {
			l = append(l, t)
		}
		at += n
	}
	return l
}

func sizeOne(rest string) int { return 1 }

func sizeName(rest string) int {
	return run(rest, func(class byte) bool { return class == letter || class == digit || class == underscore })
}

func sizeNumber(rest string) int {
	return run(rest, func(class byte) bool { return class == digit })
}

// run returns how many bytes at the beginning of rest are of classes that belong together.
func run(rest string, belongs func(class byte) bool) int {
	n := 0
	for n < len(rest) && belongs(classOf(rest[n])) {
		n++
	}
	return n
}

// sizeSlash ends a comment before the line feed: a comment of the last line need not have one.
func sizeSlash(rest string) int {
	if !strings.HasPrefix(rest, "//") {
		return 1
	}
	if n := strings.IndexByte(rest, '\n'); n >= 0 {
		return n
	}
	return len(rest)
}

func wrong(text string, at int) api.Token { panic(at) }

func nothing(text string, at int) api.Token { return api.Token{} }

func name(text string, at int) api.Token {
	if !Name(text) {
		panic(at)
	}
	return api.Token{Kind: api.NameT, Text: text, At: at}
}

func number(text string, at int) api.Token {
	n, err := strconv.Atoi(text)
	if err != nil || n > api.MaxNum || len(text) > 1 && text[0] == '0' {
		panic(at)
	}
	return api.Token{Kind: api.NumberT, N: n, At: at}
}

func sign(text string, at int) api.Token {
	return api.Token{Kind: api.SignT, Text: text, At: at}
}

func signOrComment(text string, at int) api.Token {
	if len(text) > 1 {
		return nothing(text, at)
	}
	return sign(text, at)
}
