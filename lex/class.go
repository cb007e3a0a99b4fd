package lex

// The classes of bytes.
const (
	other      = iota // begins no token
	white             // white space
	letter            // begins a name
	digit             // begins a number
	underscore        // continues a name, but begins none
	mark              // a sign
	slash             // a sign, unless another one follows it
)

// classes is indexed by the byte: 16 of them a line.
var classes = [128]byte{
	// the tab, the line feed and the carriage return
	other, other, other, other, other, other, other, other, other, white, white, other, other, white, other, other,
	// none of them is used
	other, other, other, other, other, other, other, other, other, other, other, other, other, other, other, other,
	// the space, ! ( ) * + , - . /
	white, mark, other, other, other, other, other, other, mark, mark, mark, mark, mark, mark, mark, slash,
	// 0 to 9, : ; < = >
	digit, digit, digit, digit, digit, digit, digit, digit, digit, digit, mark, mark, mark, mark, mark, other,
	// A to O
	other, letter, letter, letter, letter, letter, letter, letter, letter, letter, letter, letter, letter, letter, letter, letter,
	// P to Z, _
	letter, letter, letter, letter, letter, letter, letter, letter, letter, letter, letter, other, other, other, other, underscore,
	// a to o
	other, letter, letter, letter, letter, letter, letter, letter, letter, letter, letter, letter, letter, letter, letter, letter,
	// p to z, { }
	letter, letter, letter, letter, letter, letter, letter, letter, letter, letter, letter, mark, other, mark, other, other,
}

// classOf returns the class of a byte. Those from 128 on stand in comments only.
func classOf(b byte) byte {
	if int(b) >= len(classes) {
		return other
	}
	return classes[b]
}
