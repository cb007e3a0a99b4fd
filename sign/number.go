package sign

import (
	"kinesphere/api"
	"kinesphere/field"
)

// number is a number from 0 to Q - 1.
type number int

// plus adds modulo Q.
func (n number) plus(m number) number { return number(field.Add(int(n), int(m))) }

func isNumber(n int) bool { return 0 <= n && n < api.Q }
