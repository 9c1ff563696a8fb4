package vm_test

import (
	"slices"
	"strings"
	"testing"

	"caesura/api"
	"caesura/vm"
)

// programmed is a program in words: a rule a line (what it says, Before : After), then what is said else.
func programmed(t testing.TB, text string) api.Program {
	t.Helper()
	var p api.Program
	for _, line := range strings.Split(text, "\n") {
		word, rest, _ := strings.Cut(strings.TrimSpace(line), " ")
		before, after, rule := strings.Cut(rest, ":")
		if word == "else" && !rule {
			p.Else = rest == "break"
			continue
		}
		if !rule || word != "break" && word != "keep" {
			t.Fatalf("%q: %q is no rule", text, line)
		}
		p.Rules = append(p.Rules, api.Pair{Break: word == "break", Before: coded(t, before), After: coded(t, after)})
	}
	return p
}

// TestBreaks (6.3): programs and points, and the places at which there are breaks.
func TestBreaks(t *testing.T) {
	const upToEnd = "split 1 3; take [61]; jump 0; end; yes"
	for _, c := range []struct{ program, points, want string }{
		// no points: no places, whatever is said
		{"else break", "", ""},
		{"else keep", "", ""},
		{"break yes : yes\nelse break", "", ""},
		{"break end; yes : end; yes\nelse keep", "", ""},
		// no rule: Else; 0, and that behind all, are breaks
		{"else break", "a", "0 1"},
		{"else keep", "a", "0 1"},
		{"else break", "abc", "0 1 2 3"},
		{"else keep", "abc", "0 3"},
		{"keep yes : yes\nelse break", "a", "0 1"},
		{"keep yes : yes\nelse break", "abc", "0 3"},
		{"keep end; yes : yes\nkeep yes : end; yes\nelse break", "abc", "0 1 2 3"},
		{"break yes : yes\nelse keep", "abc", "0 1 2 3"},
		// both must match
		{"keep take [61]; yes : take [62]; yes\nelse break", "abab", "0 2 4"},
		{"keep take [62]; yes : take [61]; yes\nelse break", "abab", "0 1 3 4"},
		{"break take [61]; yes : take [62]; yes\nelse keep", "abab", "0 1 3 4"},
		{"break take [61]; yes : yes\nelse keep", "abba", "0 1 4"},
		{"break yes : take [61]; yes\nelse keep", "abba", "0 3 4"},
		{"break jump 0 : yes\nelse keep", "abba", "0 4"},
		{"break yes : jump 0\nelse keep", "abba", "0 4"},
		{"break take [61]; yes : take [63]; yes\nelse keep", "abac", "0 3 4"},
		// the points ahead of a place, the nearest one first; those behind it, too
		{"break take [62]; take [61]; yes : yes\nelse keep", "abcba", "0 2 5"},
		{"break take [61]; take [62]; yes : yes\nelse keep", "bacba", "0 2 5"},
		{"break yes : take [61]; take [62]; yes\nelse keep", "cabba", "0 1 5"},
		{"break yes : take [62]; take [61]; yes\nelse keep", "cabba", "0 3 5"},
		{"break take [62]; take [61]; yes : take [63]; take [64]; yes\nelse keep", "abcdabdc", "0 2 8"},
		// where no point is left: ahead of all, and behind all
		{"break take [61]; end; yes : yes\nelse keep", "aaa", "0 1 3"},
		{"break yes : take [61]; end; yes\nelse keep", "aaa", "0 2 3"},
		{"break take [61]; take [62]; end; yes : yes\nelse keep", "baba", "0 2 4"},
		{"break end; yes : yes\nbreak yes : end; yes\nelse keep", "aaa", "0 3"},
		{"break " + upToEnd + " : yes\nelse keep", "aabaa", "0 1 2 5"},
		{"break yes : " + upToEnd + "\nelse keep", "aabaa", "0 3 4 5"},
		{"break " + upToEnd + " : " + upToEnd + "\nelse keep", "aaa", "0 1 2 3"},
		{"break split 1 4; take [0-10ffff]; take [0-10ffff]; jump 0; end; yes : yes\nelse keep", "abcdefg", "0 2 4 6 7"},
		{"break yes : split 1 4; take [0-10ffff]; take [0-10ffff]; jump 0; end; yes\nelse keep", "abcdefg", "0 1 3 5 7"},
		// the first rule that matches says
		{"keep take [61]; yes : yes\nbreak take [61]; yes : yes\nelse break", "aab", "0 3"},
		{"break take [61]; yes : yes\nkeep take [61]; yes : yes\nelse keep", "aab", "0 1 2 3"},
		{"break take [61]; yes : take [62]; yes\nkeep take [61]; yes : yes\nelse break", "aabcc", "0 2 3 4 5"},
		{"keep take [61]; yes : yes\nbreak take [61]; yes : take [62]; yes\nelse break", "aabcc", "0 3 4 5"},
		{"keep jump 0 : yes\nbreak yes : jump 0\nbreak take [61]; yes : yes\nkeep yes : yes\nelse break", "abab", "0 1 3 4"},
		{"break take [63]; yes : take [63]; yes\nkeep take [61]; yes : take [61]; yes\nbreak yes : take [61]; yes\nelse keep", "aabaacca", "0 3 6 7 8"},
	} {
		p := programmed(t, c.program)
		l, err := vm.Breaks(p, pointsOf(c.points))
		if err != nil || numbers(l) != c.want {
			t.Errorf("Breaks(%q, %q) is %v, %v, not %s", c.program, c.points, l, err, c.want)
		}
		if want := meantBreaks(p, pointsOf(c.points)); numbers(want) != c.want {
			t.Errorf("%q, %q: by the document %v, not %s", c.program, c.points, want, c.want)
		}
	}
}

// TestBreaksMeant (6.3): drawn programs and points, held against the document word by word, and against Match.
func TestBreaksMeant(t *testing.T) {
	d := die(4)
	within, all := 0, 0
	for range 10_000 {
		p, l := drawProgram(&d), drawPoints(&d, 8)
		got, err := vm.Breaks(p, l)
		if want := meantBreaks(p, l); err != nil || !slices.Equal(got, want) {
			t.Fatalf("Breaks(%v, %v) is %v, %v, not %v", p, l, got, err, want)
		}
		if !slices.IsSorted(got) || len(slices.Compact(slices.Clone(got))) != len(got) {
			t.Fatalf("Breaks(%v, %v) is %v: places do not rise", p, l, got)
		}
		byMatch(t, p, l, got)
		if len(p.Rules) > 0 && len(l) > 1 {
			within, all = within+len(got)-2, all+len(l)-1
		}
	}
	if within < all/5 || within > all*4/5 {
		t.Errorf("what was drawn is one-sided: %d breaks of %d places", within, all)
	}
}

// byMatch holds Breaks against Match, place by place.
func byMatch(t *testing.T, p api.Program, points, got []int) {
	t.Helper()
	for place := 1; place < len(points); place++ {
		ahead := slices.Clone(points[:place])
		slices.Reverse(ahead)
		i := slices.IndexFunc(p.Rules, func(r api.Pair) bool {
			before, _ := mustMatch(t, r.Before, ahead)
			after, _ := mustMatch(t, r.After, points[place:])
			return before && after
		})
		said := p.Else
		if i >= 0 {
			said = p.Rules[i].Break
		}
		if slices.Contains(got, place) != said {
			t.Fatalf("Breaks(%v, %v) is %v: at %d rule %d says %v", p, points, got, place, i, said)
		}
	}
}

// TestBreaksMirror: with Before for After, the points turned break where they did, from the other end.
func TestBreaksMirror(t *testing.T) {
	d := die(5)
	for range 3000 {
		p, l := drawProgram(&d), drawPoints(&d, 10)
		other := api.Program{Else: p.Else}
		for _, r := range p.Rules {
			other.Rules = append(other.Rules, api.Pair{Break: r.Break, Before: r.After, After: r.Before})
		}
		turned := slices.Clone(l)
		slices.Reverse(turned)
		a, _ := vm.Breaks(p, l)
		b, _ := vm.Breaks(other, turned)
		slices.Reverse(b)
		for i := range b {
			b[i] = len(l) - b[i]
		}
		if !slices.Equal(a, b) {
			t.Fatalf("%v: Breaks of %v is %v, and in the mirror %v", p, l, a, b)
		}
	}
}

// TestBreaksTurned: with break for keep, and keep for break, all places within are turned.
func TestBreaksTurned(t *testing.T) {
	d := die(6)
	for range 3000 {
		p, l := drawProgram(&d), drawPoints(&d, 10)
		other := api.Program{Rules: slices.Clone(p.Rules), Else: !p.Else}
		for i := range other.Rules {
			other.Rules[i].Break = !p.Rules[i].Break
		}
		a, _ := vm.Breaks(p, l)
		b, _ := vm.Breaks(other, l)
		for place := 1; place < len(l); place++ {
			if slices.Contains(a, place) == slices.Contains(b, place) {
				t.Fatalf("%v: Breaks of %v is %v, and with break for keep %v", p, l, a, b)
			}
		}
	}
}

// TestBreaksRules (6.3): as many rules as there may be, each of which says at one place.
func TestBreaksRules(t *testing.T) {
	p := api.Program{Else: true}
	var points, want []int
	for i := range api.MaxRules {
		s := api.Set{{Lo: 2 * i, Hi: 2 * i}}
		p.Rules = append(p.Rules, api.Pair{Break: i%2 == 0, Before: api.Code{Sets: []api.Set{s}, Ins: insts(inst(api.Take, 0, 0), yes)}, After: always()})
		points = append(points, 2*i)
		if i%2 == 0 || i == api.MaxRules-1 {
			want = append(want, i+1)
		}
	}
	want = append([]int{0}, want...)
	if got, err := vm.Breaks(p, points); err != nil || !slices.Equal(got, want) {
		t.Errorf("Breaks of %d rules is %v, %v, not %v", len(p.Rules), got, err, want)
	}
}

// TestBreaksLong (6.3, P1): many points, of which each rule reads all, from each place; and much code.
func TestBreaksLong(t *testing.T) {
	points := pointsOf(strings.Repeat("a", api.MaxText))
	toEnd := coded(t, "split 1 3; take [61]; jump 0; end; yes")
	p := api.Program{}
	for range api.MaxRules {
		p.Rules = append(p.Rules, api.Pair{Break: true, Before: toEnd, After: coded(t, "split 1 3; take [61]; jump 0; end; take [62]; yes")})
	}
	if got, err := vm.Breaks(p, points); err != nil || numbers(got) != "0 20000" {
		t.Errorf("Breaks of %d points are %d, %v", len(points), len(got), err)
	}
	p.Rules[api.MaxRules-1].After = toEnd
	if got, err := vm.Breaks(p, points); err != nil || len(got) != len(points)+1 || got[77] != 77 {
		t.Errorf("Breaks of %d points are %d, %v", len(points), len(got), err)
	}
	// the point that is MaxCode - 1 away
	far := api.Code{Sets: []api.Set{{{Lo: 'a', Hi: 'b'}}, {{Lo: 'b', Hi: 'b'}}}}
	for range api.MaxCode - 2 {
		far.Ins = append(far.Ins, inst(api.Take, 0, 0))
	}
	far.Ins = append(far.Ins, inst(api.Take, 1, 0), yes)
	points[5000], points[9000] = 'b', 'b'
	for _, c := range []struct {
		p    api.Program
		want string
	}{
		{api.Program{Rules: []api.Pair{{Break: true, Before: far, After: always()}}}, "0 6999 10999 20000"},
		{api.Program{Rules: []api.Pair{{Break: true, Before: always(), After: far}}}, "0 3002 7002 20000"},
	} {
		if got, err := vm.Breaks(c.p, points); err != nil || numbers(got) != c.want {
			t.Errorf("Breaks of far points are %.100v, %v, not %s", got, err, c.want)
		}
	}
}
