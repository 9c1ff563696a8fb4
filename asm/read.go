package asm

import (
	"strconv"
	"strings"

	"caesura/api"
	"caesura/set"
)

// Where a line stands.
const (
	aheadOfRules = iota
	inBefore
	inAfter
	behindElse
)

// reader reads a program, line by line.
type reader struct {
	program api.Program
	part    int            // where the next line stands
	sets    map[string]int // the numbers of the sets of the code that is read, by their texts: a set has but one
}

// line reads a line, and says whether it may stand there.
func (r *reader) line(text string) bool {
	switch text {
	case ruleBreak, ruleKeep:
		return r.beginRule(text == ruleBreak)
	case after:
		return r.beginAfter()
	case elseBreak, elseKeep:
		return r.end(text == elseBreak)
	}
	return r.inst(text)
}

// beginRule begins a rule's Before.
func (r *reader) beginRule(breaks bool) bool {
	if r.part == inBefore {
		return false
	}
	r.program.Rules = append(r.program.Rules, api.Pair{Break: breaks})
	r.part, r.sets = inBefore, map[string]int{}
	return true
}

// beginAfter begins a rule's After.
func (r *reader) beginAfter() bool {
	if r.part != inBefore {
		return false
	}
	r.part, r.sets = inAfter, map[string]int{}
	return true
}

// end reads what is said else.
func (r *reader) end(breaks bool) bool {
	if r.part == inBefore {
		return false
	}
	r.program.Else, r.part = breaks, behindElse
	return true
}

// inst reads an instruction.
func (r *reader) inst(text string) bool {
	if r.part == aheadOfRules {
		return false
	}
	name, rest, more := strings.Cut(text, " ")
	in, ok := api.Inst{Op: opOf(name)}, false
	switch in.Op {
	case api.Take:
		in.A, ok = r.setOf(rest)
	case api.Split:
		in.A, in.B, ok = twoNumbers(rest)
	case api.Jump:
		in.A, ok = number(rest)
	case api.End, api.Yes:
		ok = !more
	}
	if ok {
		c := r.code()
		c.Ins = append(c.Ins, in)
	}
	return ok
}

// code is the one that is read.
func (r *reader) code() *api.Code {
	last := &r.program.Rules[len(r.program.Rules)-1]
	if r.part == inBefore {
		return &last.Before
	}
	return &last.After
}

// setOf reads a set, and tells its number in the code that is read.
func (r *reader) setOf(text string) (int, bool) {
	if n, ok := r.sets[text]; ok {
		return n, true
	}
	s, err := set.Parse(text)
	if err != nil {
		return 0, false
	}
	c := r.code()
	c.Sets = append(c.Sets, s)
	n := len(c.Sets) - 1
	r.sets[text] = n
	return n, true
}

// opOf is the Op of a name (0: there is none such).
func opOf(name string) int {
	for op, n := range names {
		if n == name {
			return op
		}
	}
	return 0
}

// twoNumbers reads two numbers with a blank between.
func twoNumbers(text string) (int, int, bool) {
	first, second, _ := strings.Cut(text, " ")
	a, ok := number(first)
	if !ok {
		return 0, 0, false
	}
	b, ok := number(second)
	return a, b, ok
}

// number reads a number: from 0 on, without a nought ahead.
func number(word string) (int, bool) {
	n, err := strconv.Atoi(word)
	// what may be read in some other way too is held against the one way in which it is written
	return n, err == nil && n >= 0 && strconv.Itoa(n) == word
}
