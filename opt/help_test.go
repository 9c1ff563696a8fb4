package opt_test

import (
	"errors"
	"fmt"
	"slices"
	"strings"
	"testing"

	"caesura/api"
	"caesura/opt"
	"caesura/plain"
	"caesura/set"
	"caesura/vm"
)

// die: numbers that look drawn, the same each time.
type die uint64

func (d *die) n(most int) int {
	*d = *d*6364136223846793005 + 1442695040888963407
	return int(uint64(*d>>33) % uint64(most))
}

// inst is an instruction.
func inst(op, a, b int) api.Inst { return api.Inst{Op: op, A: a, B: b} }

var yes = api.Inst{Op: api.Yes}

// coded is code in words: instructions with ; between; take tells its set, each of which is a set of its own.
func coded(t testing.TB, text string) api.Code {
	t.Helper()
	var c api.Code
	for _, line := range strings.Split(text, ";") {
		word, rest, _ := strings.Cut(strings.TrimSpace(line), " ")
		var in api.Inst
		switch word {
		case "take":
			s, err := set.Parse(rest)
			if err != nil {
				t.Fatalf("%q: %q is no set", text, rest)
			}
			in = inst(api.Take, len(c.Sets), 0)
			c.Sets = append(c.Sets, s)
		case "split":
			in.Op = api.Split
			fmt.Sscan(rest, &in.A, &in.B)
		case "jump":
			in.Op = api.Jump
			fmt.Sscan(rest, &in.A)
		case "end":
			in.Op = api.End
		case "yes":
			in.Op = api.Yes
		default:
			t.Fatalf("%q: %q is no instruction", text, word)
		}
		c.Ins = append(c.Ins, in)
	}
	if !vm.Right(c) {
		t.Fatalf("%q is not right", text)
	}
	return c
}

// words is code that is Right in words, as coded reads it.
func words(c api.Code) string {
	var l []string
	for _, in := range c.Ins {
		switch in.Op {
		case api.Take:
			l = append(l, "take "+set.Print(c.Sets[in.A]))
		case api.Split:
			l = append(l, fmt.Sprintf("split %d %d", in.A, in.B))
		case api.Jump:
			l = append(l, fmt.Sprintf("jump %d", in.A))
		case api.End:
			l = append(l, "end")
		case api.Yes:
			l = append(l, "yes")
		}
	}
	return strings.Join(l, "; ")
}

// pointsOf are the code points of a text.
func pointsOf(text string) []int {
	var l []int
	for _, r := range text {
		l = append(l, int(r))
	}
	return l
}

// numbers are numbers in words.
func numbers(l []int) string {
	return strings.Trim(fmt.Sprint(l), "[]")
}

// isArg says whether an error is ErrArg, and has no place.
func isArg(err error) bool {
	var a *api.At
	e, place := plain.Place(err)
	return errors.Is(err, api.ErrArg) && !errors.As(err, &a) && e == api.ErrArg && place == -1
}

// isNoCode says whether code is the zero value.
func isNoCode(c api.Code) bool { return c.Sets == nil && c.Ins == nil }

// isNoProgram says whether a program is the zero value.
func isNoProgram(p api.Program) bool { return p.Rules == nil && !p.Else }

// sets are those of drawn code: of some there are two, one is empty, one has all, and some have points in common.
func sets() []api.Set {
	a, c := api.Range{Lo: 'a', Hi: 'a'}, api.Range{Lo: 'c', Hi: 'c'}
	return []api.Set{{a}, {{Lo: 'b', Hi: 'c'}}, {{Lo: 0, Hi: api.MaxPoint}}, nil, {a, c}, {a}, {{Lo: 'b', Hi: 'b'}}, {}, {c}}
}

// drawCode is code that is Right, of at most so many instructions: of few sets, or of many, with loops, and with roads ahead.
func drawCode(d *die, most int) api.Code {
	c := api.Code{Sets: sets()}
	n, few := 1+d.n(most), 1+d.n(len(c.Sets))
	for i := range n {
		one := []api.Inst{
			inst(api.Take, d.n(few), 0), inst(api.Take, d.n(few), 0), inst(api.Take, 0, 0), inst(api.Take, d.n(2), 0), inst(api.End, 0, 0),
			inst(api.Split, min(i+1, n-1), d.n(n)), inst(api.Split, d.n(n), min(i+1, n-1)), inst(api.Split, d.n(n), d.n(n)), inst(api.Jump, d.n(n), 0), yes,
		}
		if i == n-1 {
			one = append(one[5:], yes, yes, yes)
		}
		c.Ins = append(c.Ins, one[d.n(len(one))])
	}
	return c
}

// drawPoints are at most so many code points, some of which there are none of.
func drawPoints(d *die, most int) []int {
	var l []int
	for range d.n(most + 1) {
		l = append(l, []int{'a', 'a', 'a', 'b', 'b', 'c', 'd', 0, api.MaxPoint, api.MaxPoint + 1, -1}[d.n(11)])
	}
	return l
}

// drawProgram is a program that is RightProgram.
func drawProgram(d *die) api.Program {
	p := api.Program{Else: d.n(2) == 0}
	for range d.n(6) {
		p.Rules = append(p.Rules, api.Pair{Break: d.n(2) == 0, Before: drawCode(d, 9), After: drawCode(d, 9)})
	}
	return p
}

// made is Code of what is Right: it is Right, and has no more instructions.
func made(t testing.TB, c api.Code) api.Code {
	t.Helper()
	o, err := opt.Code(c)
	if err != nil || !vm.Right(o) || len(o.Ins) > len(c.Ins) {
		t.Fatalf("Code(%s) is %v, %v", words(c), o, err)
	}
	return o
}

// matches is Match of what is Right.
func matches(t testing.TB, c api.Code, points []int) bool {
	t.Helper()
	yes, _, err := vm.Match(c, points)
	if err != nil {
		t.Fatalf("Match(%v, %v): %v", c, points, err)
	}
	return yes
}

// every are all lists of so many of the points that matter, or less.
func every(most int, points ...int) [][]int {
	l := [][]int{nil}
	for first := 0; most > 0; most-- {
		end := len(l)
		for _, x := range l[first:end] {
			for _, p := range points {
				l = append(l, append(slices.Clone(x), p))
			}
		}
		first = end
	}
	return l
}

// walk is where code has come to: the instructions that are met (6.2) at a point that is there, whether Yes is among them, and whether it is, if no point is left.
type walk struct {
	code          api.Code
	met           []int
	yes, atTheEnd bool
}

// walkFrom is where code has come to that begins with instructions.
func walkFrom(c api.Code, first []int) walk {
	w := walk{code: c, met: met(c, first, false)}
	isYes := func(i int) bool { return c.Ins[i].Op == api.Yes }
	w.yes = slices.ContainsFunc(w.met, isYes)
	w.atTheEnd = slices.ContainsFunc(met(c, first, true), isYes)
	return w
}

// met are all that are met, rising.
func met(c api.Code, first []int, end bool) []int {
	has := make([]bool, len(c.Ins))
	todo, l := slices.Clone(first), []int(nil)
	for len(todo) > 0 {
		i := todo[0]
		todo = todo[1:]
		if has[i] {
			continue
		}
		has[i] = true
		l = append(l, i)
		switch in := c.Ins[i]; {
		case in.Op == api.Split:
			todo = append(todo, in.A, in.B)
		case in.Op == api.Jump:
			todo = append(todo, in.A)
		case in.Op == api.End && end:
			todo = append(todo, i+1)
		}
	}
	slices.Sort(l)
	return l
}

// on is where code comes to by a point.
func (w walk) on(point int) walk {
	var first []int
	for _, i := range w.met {
		if in := w.code.Ins[i]; in.Op == api.Take && slices.ContainsFunc(w.code.Sets[in.A], func(r api.Range) bool { return r.Lo <= point && point <= r.Hi }) {
			first = append(first, i+1)
		}
	}
	return walkFrom(w.code, first)
}

// sameMatches holds two codes against each other at all points that there are (one of each kind is asked for): it tells points at which one matches alone.
func sameMatches(c, o api.Code) (differ []int, same bool) {
	type pair struct {
		a, b   walk
		points []int
	}
	kinds := []int{-1}
	for _, s := range slices.Concat(c.Sets, o.Sets) {
		for _, r := range s {
			kinds = append(kinds, r.Lo, r.Hi+1)
		}
	}
	slices.Sort(kinds)
	kinds = slices.Compact(kinds)
	todo, seen := []pair{{walkFrom(c, []int{0}), walkFrom(o, []int{0}), nil}}, map[string]bool{}
	for ; len(todo) > 0; todo = todo[1:] {
		p := todo[0]
		if p.a.atTheEnd != p.b.atTheEnd {
			return p.points, false
		}
		if p.a.yes != p.b.yes {
			return append(p.points, -1), false
		}
		if key := fmt.Sprint(p.a.met, p.b.met); !p.a.yes && !seen[key] {
			seen[key] = true
			for _, k := range kinds {
				todo = append(todo, pair{p.a.on(k), p.b.on(k), append(slices.Clone(p.points), k)})
			}
		}
	}
	return nil, true
}

// wantSame fails the test, if two codes do not match just where the other one does.
func wantSame(t testing.TB, c, o api.Code) {
	t.Helper()
	if l, same := sameMatches(c, o); !same {
		t.Fatalf("%s: made less it is %s: of points %v the one says %v, the other one %v", words(c), words(o), l, matches(t, c, l), matches(t, o, l))
	}
}
