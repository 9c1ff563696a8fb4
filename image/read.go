package image

import "caesura/api"

// mostRanges is how many ranges a set can have: every second point is one.
const mostRanges = api.MaxPoint/2 + 1

// reader reads an image: what is not there is 0.
type reader struct {
	rest string // what is not yet read
}

func (r *reader) program() api.Program {
	p := api.Program{Else: r.bit()}
	for range r.count(api.MaxRules) {
		p.Rules = append(p.Rules, api.Pair{Break: r.bit(), Before: r.code(), After: r.code()})
	}
	return p
}

func (r *reader) code() api.Code {
	var c api.Code
	for range r.count(api.MaxCode) {
		c.Sets = append(c.Sets, r.set())
	}
	for range r.count(api.MaxCode) {
		c.Ins = append(c.Ins, api.Inst{Op: r.number(), A: r.number(), B: r.number()})
	}
	return c
}

func (r *reader) set() api.Set {
	var s api.Set
	for range r.count(mostRanges) {
		s = append(s, api.Range{Lo: r.number(), Hi: r.number()})
	}
	return s
}

func (r *reader) bit() bool { return r.number() == 1 }

// count reads how many there are, at most so many: none, if it is a greater number.
func (r *reader) count(most int) int {
	n := r.number()
	// each has a byte at least: no room is made for what is not there
	if n > min(most, len(r.rest)) {
		return 0
	}
	return n
}

// number reads a number (0: it has no end).
func (r *reader) number() int {
	n := 0
	for i := range len(r.rest) {
		b := r.rest[i]
		n |= int(b%more) << (7 * i)
		if b < more {
			r.rest = r.rest[i+1:]
			return n
		}
	}
	r.rest = ""
	return 0
}
