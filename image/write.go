package image

import (
	"strings"

	"caesura/api"
)

// more is added to a byte behind which a number goes on: it has the seven bits below.
const more = 128

// writer writes an image.
type writer struct{ text strings.Builder }

func (w *writer) program(p api.Program) {
	w.bit(p.Else)
	w.numbers(len(p.Rules))
	for _, r := range p.Rules {
		w.bit(r.Break)
		w.code(r.Before)
		w.code(r.After)
	}
}

func (w *writer) code(c api.Code) {
	w.numbers(len(c.Sets))
	for _, s := range c.Sets {
		w.set(s)
	}
	w.numbers(len(c.Ins))
	for _, in := range c.Ins {
		w.numbers(in.Op, in.A, in.B)
	}
}

func (w *writer) set(s api.Set) {
	w.numbers(len(s))
	for _, r := range s {
		w.numbers(r.Lo, r.Hi)
	}
}

// bit writes 1 for yes, and 0 for no.
func (w *writer) bit(yes bool) {
	if yes {
		w.numbers(1)
		return
	}
	w.numbers(0)
}

// numbers writes numbers from 0 on.
func (w *writer) numbers(l ...int) {
	for _, n := range l {
		for ; n >= more; n /= more {
			w.text.WriteByte(byte(n%more + more))
		}
		w.text.WriteByte(byte(n))
	}
}

// sum writes the sum of what is written.
func (w *writer) sum() {
	n := Sum(w.text.String())
	for range 4 {
		w.text.WriteByte(byte(n))
		n >>= 8
	}
}
