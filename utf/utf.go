// Package utf: texts as code points.
package utf

import (
	"caesura/api"
)

// What stands for a byte with which no code point begins, and the numbers that UTF-16 keeps for itself: no code points.
const (
	unknown        = 0xfffd
	firstSurrogate = 0xd800
	lastSurrogate  = 0xdfff
)

// least has the least code points of one, two, three and four bytes: what is below them is written in fewer.
var least = [4]int{0, 0x80, 0x800, 0x10000}

// Decode are a text's units: code points of UTF-8; a byte with which none begins is one of its own: fffd.
func Decode(s string) (_ []api.Unit) {
	var units []api.Unit
	for at := 0; at < len(s); {
		u := api.Unit{Point: unknown, At: at, Len: 1}
		if p, n, ok := first(s[at:]); ok {
			u.Point, u.Len = p, n
		}
		units = append(units, u)
		at += u.Len
	}
	return units
}

// Encode are code points as UTF-8. ErrArg: one is none: an At at it.
func Encode(l []int) (_ string, _ error) {
	var b []byte
	for i, p := range l {
		if !isPoint(p) {
			return "", &api.At{Err: api.ErrArg, Place: i}
		}
		b = appendPoint(b, p)
	}
	return string(b), nil
}

// isPoint says whether a number is a code point that has UTF-8.
func isPoint(p int) bool {
	return 0 <= p && p <= api.MaxPoint && (p < firstSurrogate || p > lastSurrogate)
}

// first is the code point with whose UTF-8 a text begins, and how many bytes it has; false: it begins with none.
func first(s string) (point, length int, ok bool) {
	n := lengthBy(s[0])
	if n == 0 || n > len(s) {
		return 0, 0, false
	}
	p := int(s[0])
	if n > 1 {
		p &= 0x7f >> n // the ones ahead tell the length alone
	}
	for i := 1; i < n; i++ {
		if s[i]>>6 != 0b10 {
			return 0, 0, false
		}
		p = p<<6 | int(s[i]&0x3f)
	}
	if p < least[n-1] || !isPoint(p) {
		return 0, 0, false
	}
	return p, n, true
}

// lengthBy is how many bytes a code point has whose first one is given; 0: it is the first one of none.
func lengthBy(b byte) int {
	switch {
	case b>>7 == 0:
		return 1
	case b>>5 == 0b110:
		return 2
	case b>>4 == 0b1110:
		return 3
	case b>>3 == 0b11110:
		return 4
	}
	return 0
}

// lengthOf is how many bytes a code point has: as few as it may have.
func lengthOf(p int) int {
	n := 1
	for n < len(least) && p >= least[n] {
		n++
	}
	return n
}

// appendPoint puts a code point's UTF-8 behind bytes.
func appendPoint(b []byte, p int) []byte {
	n := lengthOf(p)
	if n == 1 {
		return append(b, byte(p))
	}
	b = append(b, byte(0xff00>>n|p>>(6*(n-1)))) // as many ones ahead as it has bytes
	for i := n - 2; i >= 0; i-- {
		b = append(b, byte(0x80|p>>(6*i)&0x3f))
	}
	return b
}
