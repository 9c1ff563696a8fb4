package vm_test

import (
	"errors"
	"fmt"
	"slices"
	"strings"
	"testing"

	"caesura/api"
	"caesura/plain"
	"caesura/set"
	"caesura/vm"
)

// die: numbers that look drawn, the same each time.
type die uint64

func (d *die) n(most int) int {
	*d = *d*6364136223846793005 + 1442695040888963407
	return int(uint64(*d>>33) % uint64(most))
}

// coded is code in words: instructions with ; between; take tells its set.
func coded(t testing.TB, text string) api.Code {
	t.Helper()
	var c api.Code
	for _, line := range strings.Split(text, ";") {
		word, rest, _ := strings.Cut(strings.TrimSpace(line), " ")
		var in api.Inst
		switch word {
		case "take":
			s, err := set.Parse(rest)
			if err != nil {
				t.Fatalf("%q: %q is no set", text, rest)
			}
			in = api.Inst{Op: api.Take, A: len(c.Sets)}
			c.Sets = append(c.Sets, s)
		case "split":
			in.Op = api.Split
			fmt.Sscan(rest, &in.A, &in.B)
		case "jump":
			in.Op = api.Jump
			fmt.Sscan(rest, &in.A)
		case "end":
			in.Op = api.End
		case "yes":
			in.Op = api.Yes
		default:
			t.Fatalf("%q: %q is no instruction", text, word)
		}
		c.Ins = append(c.Ins, in)
	}
	return c
}

// pointsOf are the code points of a text.
func pointsOf(text string) []int {
	var l []int
	for _, r := range text {
		l = append(l, int(r))
	}
	return l
}

// always is code that matches everything, never such that matches nothing.
func always() api.Code { return api.Code{Ins: []api.Inst{{Op: api.Yes}}} }

func never() api.Code { return api.Code{Ins: []api.Inst{{Op: api.Jump}}} }

// isArg says whether an error is ErrArg, and has no place.
func isArg(err error) bool {
	var a *api.At
	e, place := plain.Place(err)
	return errors.Is(err, api.ErrArg) && !errors.As(err, &a) && e == api.ErrArg && place == -1
}

// sets are those of drawn code: one is empty, one has all.
func sets() []api.Set {
	return []api.Set{{{Lo: 'a', Hi: 'a'}}, {{Lo: 'b', Hi: 'c'}}, {{Lo: 0, Hi: api.MaxPoint}}, nil, {{Lo: 'a', Hi: 'a'}, {Lo: 'c', Hi: 'c'}}}
}

// drawCode is code that is Right, of at most so many instructions.
func drawCode(d *die, most int) api.Code {
	c := api.Code{Sets: sets()}
	n := 1 + d.n(most)
	for i := range n {
		last := []api.Inst{{Op: api.Yes}, {Op: api.Jump, A: d.n(n)}, {Op: api.Split, A: d.n(n), B: d.n(n)}}
		within := []api.Inst{{Op: api.Take, A: d.n(5)}, {Op: api.Take, A: d.n(5)}, {Op: api.Take, A: 2}, {Op: api.End}, {Op: api.Split, A: min(i+1, n-1), B: d.n(n)}}
		if i < n-1 {
			last = append(within, last[1:]...)
			if d.n(6) == 0 {
				last = []api.Inst{{Op: api.Yes}}
			}
		}
		c.Ins = append(c.Ins, last[d.n(len(last))])
	}
	return c
}

// drawPoints are at most so many code points, some of which there are none of.
func drawPoints(d *die, most int) []int {
	var l []int
	for range d.n(most + 1) {
		l = append(l, []int{'a', 'a', 'a', 'b', 'b', 'c', 'd', 0, api.MaxPoint, api.MaxPoint + 1, -1}[d.n(11)])
	}
	return l
}

// drawProgram is a program that is RightProgram.
func drawProgram(d *die) api.Program {
	p := api.Program{Else: d.n(2) == 0}
	for range d.n(5) {
		p.Rules = append(p.Rules, api.Pair{Break: d.n(2) == 0, Before: drawCode(d, 7), After: drawCode(d, 7)})
	}
	return p
}

// meantMatch is 6.2, word by word, of code that is Right, with a list of all that is met, at each point.
func meantMatch(c api.Code, points []int) (bool, int, [][]int) {
	var story [][]int
	looked, first := 0, []int{0}
	for place := 0; place <= len(points); place++ {
		var met, following []int
		once := func(l []int, i int) []int {
			if slices.Contains(l, i) {
				return l
			}
			return append(l, i)
		}
		for _, i := range first {
			met = once(met, i)
		}
		for k := 0; k < len(met); k++ {
			i := met[k]
			looked++
			switch in := c.Ins[i]; in.Op {
			case api.Split:
				met = once(once(met, in.A), in.B)
			case api.Jump:
				met = once(met, in.A)
			case api.End:
				if place == len(points) {
					met = once(met, i+1)
				}
			case api.Take:
				if place < len(points) && inRanges(c.Sets[in.A], points[place]) {
					following = append(following, i+1)
				}
			case api.Yes:
				return true, looked, append(story, met)
			}
		}
		story = append(story, met)
		if len(following) == 0 {
			break
		}
		first = following
	}
	return false, looked, story
}

// inRanges says whether a point lies in one of a set's ranges.
func inRanges(s api.Set, p int) bool {
	return slices.ContainsFunc(s, func(r api.Range) bool { return r.Lo <= p && p <= r.Hi })
}

// meantBreaks is 6.3, word by word, of a program that is RightProgram, by meantMatch.
func meantBreaks(p api.Program, points []int) []int {
	var out []int
	for place := range len(points) + 1 {
		said := p.Else
		for _, r := range p.Rules {
			var ahead []int
			for i := place - 1; i >= 0; i-- {
				ahead = append(ahead, points[i])
			}
			before, _, _ := meantMatch(r.Before, ahead)
			after, _, _ := meantMatch(r.After, points[place:])
			if before && after {
				said = r.Break
				break
			}
		}
		if len(points) > 0 && (said || place == 0 || place == len(points)) {
			out = append(out, place)
		}
	}
	return out
}

// numbers are numbers in words.
func numbers(l []int) string {
	return strings.Trim(fmt.Sprint(l), "[]")
}

// mustMatch is Match of what is Right.
func mustMatch(t testing.TB, c api.Code, points []int) (bool, int) {
	t.Helper()
	yes, n, err := vm.Match(c, points)
	if err != nil {
		t.Fatalf("Match(%v, %v): %v", c, points, err)
	}
	return yes, n
}
