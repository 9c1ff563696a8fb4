package vm_test

import (
	"slices"
	"strings"
	"testing"

	"caesura/api"
	"caesura/vm"
)

// TestMatch (6.2): code and points, whether it matches, and how many instructions were looked at.
func TestMatch(t *testing.T) {
	for _, c := range []struct {
		code, points string
		yes          bool
		looked       int
	}{
		// Yes, and no more is looked at
		{"yes", "", true, 1},
		{"yes", "abc", true, 1},
		{"yes; take [61]; yes", "a", true, 1},
		{"split 1 2; yes; jump 2", "a", true, 2},
		{"split 2 1; yes; jump 2", "a", true, 3},
		{"split 2 1; yes; yes", "a", true, 2},
		{"jump 2; jump 1; yes", "", true, 2},
		// Take: a point that is in the Set, one that is not, none
		{"take [61]; yes", "a", true, 2},
		{"take [61]; yes", "ab", true, 2},
		{"take [61]; yes", "ba", false, 1},
		{"take [61]; yes", "", false, 1},
		{"take []; yes", "a", false, 1},
		{"take [0-10ffff]; yes", "a", true, 2},
		{"take [0-10ffff]; yes", "", false, 1},
		{"take [61-63 65]; yes", "d", false, 1},
		{"take [61-63 65]; yes", "e", true, 2},
		{"take [61]; take [62]; yes", "ab", true, 3},
		{"take [61]; take [62]; yes", "ac", false, 2},
		{"take [61]; take [62]; yes", "a", false, 2},
		{"take [61]; take [62]; yes", "b", false, 1},
		// the last point may be taken: Yes is behind all
		{"take [61]; take [61]; take [61]; yes", "aaa", true, 4},
		{"take [61]; take [61]; take [61]; yes", "aa", false, 3},
		// End: with a point left, and without
		{"end; yes", "", true, 2},
		{"end; yes", "a", false, 1},
		{"take [61]; end; yes", "a", true, 3},
		{"take [61]; end; yes", "aa", false, 2},
		{"end; end; yes", "", true, 3},
		{"end; take [61]; yes", "", false, 2},
		{"end; take [61]; yes", "a", false, 1},
		{"end; jump 2; yes", "", true, 3},
		{"end; split 0 2; yes", "", true, 3},
		// Jump
		{"jump 1; yes", "", true, 2},
		{"jump 2; yes; jump 1", "", true, 3},
		{"jump 2; yes; take [61]; jump 1", "a", true, 4},
		// in a round
		{"jump 0", "", false, 1},
		{"jump 0", "abc", false, 1},
		{"jump 1; jump 0", "a", false, 2},
		{"split 0 0", "a", false, 1},
		{"split 1 0; jump 0", "a", false, 2},
		{"split 1 2; split 2 0; split 0 1", "aa", false, 3},
		{"split 0 1; yes", "", true, 2},
		{"end; jump 0", "", false, 2},
		{"take [61]; jump 0", "aaab", false, 7},
		{"take [61]; jump 0", "aaa", false, 7},
		// each is met once at each point, however many lead to it
		{"split 1 2; jump 3; jump 3; take [61]; yes", "a", true, 5},
		{"split 1 1; split 2 2; split 3 3; yes", "", true, 4},
		{"split 1 2; take [61]; take [61]; yes", "a", true, 5},
		{"split 1 3; take [61]; jump 5; take [61]; jump 5; take [62]; yes", "ab", true, 7},
		{"take [61]; split 0 2; take [62]; yes", "aab", true, 8},
		// in the order in which they are met, not deep first
		{"split 1 4; split 2 3; jump 2; jump 3; yes", "", true, 3},
		{"split 1 2; jump 3; yes; jump 3", "", true, 3},
		{"split 2 1; yes; jump 3; jump 3", "", true, 3},
		{"split 2 1; split 3 3; split 4 4; jump 3; yes", "", true, 4},
		{"split 1 2; split 4 3; split 3 4; yes; jump 4", "", true, 5},
		{"split 2 1; split 4 3; split 3 4; yes; jump 4", "", true, 4},
		// the order goes on at the next point
		{"split 1 3; take [61]; yes; take [61]; jump 4", "a", true, 4},
		{"split 3 1; take [61]; yes; take [61]; jump 4", "a", true, 5},
		// a road that ends, and one that goes on
		{"split 1 2; take [62]; take [61]; yes", "a", true, 4},
		{"split 1 3; take [61]; end; take [61]; take [61]; yes", "aa", true, 6},
		{"split 1 3; take [61]; end; take [61]; take [61]; yes", "ab", false, 5},
		// any times, then the end
		{"split 1 3; take [61]; jump 0; end; yes", "", true, 4},
		{"split 1 3; take [61]; jump 0; end; yes", "aa", true, 12},
		{"split 1 3; take [61]; jump 0; end; yes", "ab", false, 7},
		{"split 1 3; take [61]; jump 0; end; yes", "ba", false, 3},
	} {
		yes, n, err := vm.Match(coded(t, c.code), pointsOf(c.points))
		if err != nil || yes != c.yes || n != c.looked {
			t.Errorf("Match(%q, %q) is %v, %d, %v, not %v, %d", c.code, c.points, yes, n, err, c.yes, c.looked)
		}
	}
}

// TestMatchPoints (6.2): the points at a set's edges; what is no code point is in no set.
func TestMatchPoints(t *testing.T) {
	for _, c := range []struct {
		set   string
		point int
		yes   bool
	}{
		{"[61-63]", 0x60, false}, {"[61-63]", 0x61, true}, {"[61-63]", 0x63, true}, {"[61-63]", 0x64, false},
		{"[0]", 0, true}, {"[0]", -1, false}, {"[0]", 1, false},
		{"[10ffff]", api.MaxPoint, true}, {"[10ffff]", api.MaxPoint + 1, false},
		{"[0-10ffff]", 0, true}, {"[0-10ffff]", api.MaxPoint, true}, {"[0-10ffff]", 0xd800, true},
		{"[0-10ffff]", -1, false}, {"[0-10ffff]", api.MaxPoint + 1, false}, {"[0-10ffff]", 1 << 32, false}, {"[0-10ffff]", -1 << 63, false},
		{"[]", 0, false},
	} {
		yes, n := mustMatch(t, coded(t, "take "+c.set+"; yes"), []int{c.point})
		if want := map[bool]int{true: 2, false: 1}[c.yes]; yes != c.yes || n != want {
			t.Errorf("take %s of %x is %v, %d", c.set, c.point, yes, n)
		}
	}
}

// TestMatchMeant (6.2): drawn code and points, held against the document word by word.
func TestMatchMeant(t *testing.T) {
	d := die(1)
	seen := map[bool]int{}
	for range 30_000 {
		c, l := drawCode(&d, 10), drawPoints(&d, 8)
		wantYes, wantLooked, story := meantMatch(c, l)
		yes, n, err := vm.Match(c, l)
		if err != nil || yes != wantYes || n != wantLooked {
			t.Fatalf("Match(%v, %v) is %v, %d, %v, not %v, %d: met are %v", c.Ins, l, yes, n, err, wantYes, wantLooked, story)
		}
		seen[yes]++
		if n < 1 || n > len(c.Ins)*(len(l)+1) {
			t.Fatalf("Match(%v, %v) looked at %d", c.Ins, l, n)
		}
	}
	if seen[true] < 5000 || seen[false] < 5000 {
		t.Errorf("what was drawn is one-sided: %v", seen)
	}
}

// TestMatchAll (6.2): all code of up to three instructions, with one set, of all short points.
func TestMatchAll(t *testing.T) {
	var texts [][]int
	for _, s := range []string{"", "a", "b", "aa", "ab", "ba", "bb"} {
		texts = append(texts, pointsOf(s))
	}
	var fill func(c api.Code, n int)
	fill = func(c api.Code, n int) {
		if len(c.Ins) < n {
			l := []api.Inst{inst(api.Take, 0, 0), inst(api.End, 0, 0), yes}
			for a := range n {
				l = append(l, inst(api.Jump, a, 0))
				for b := range n {
					l = append(l, inst(api.Split, a, b))
				}
			}
			for _, in := range l {
				fill(api.Code{Sets: c.Sets, Ins: append(slices.Clone(c.Ins), in)}, n)
			}
			return
		}
		last := c.Ins[n-1].Op
		if right := last != api.Take && last != api.End; vm.Right(c) != right {
			t.Fatalf("Right(%v) is %v", c.Ins, !right)
		} else if !right {
			return
		}
		for _, l := range texts {
			wantYes, wantLooked, _ := meantMatch(c, l)
			if yes, n := mustMatch(t, c, l); yes != wantYes || n != wantLooked {
				t.Fatalf("Match(%v, %v) is %v, %d, not %v, %d", c.Ins, l, yes, n, wantYes, wantLooked)
			}
		}
	}
	for n := 1; n <= 3; n++ {
		fill(api.Code{Sets: []api.Set{{{Lo: 'a', Hi: 'a'}}}}, n)
	}
}

// TestMatchMore: code without End that matches points matches more of them, and looks at no more.
func TestMatchMore(t *testing.T) {
	d := die(2)
	matched := 0
	for range 10_000 {
		c, l := drawCode(&d, 8), drawPoints(&d, 6)
		if slices.ContainsFunc(c.Ins, func(in api.Inst) bool { return in.Op == api.End }) {
			continue
		}
		yes, n := mustMatch(t, c, l)
		if !yes {
			continue
		}
		matched++
		more := append(slices.Clone(l), drawPoints(&d, 6)...)
		if yesMore, m := mustMatch(t, c, more); !yesMore || m != n {
			t.Fatalf("Match(%v, %v) is true, %d, but of %v %v, %d", c.Ins, l, n, more, yesMore, m)
		}
	}
	if matched < 1000 {
		t.Errorf("only %d matched", matched)
	}
}

// TestMatchMoved: where code stands is nothing: other code ahead of it, jumped over, and behind it changes nothing but the one jump that is looked at.
func TestMatchMoved(t *testing.T) {
	d := die(3)
	for range 5000 {
		c, ahead, behind, l := drawCode(&d, 8), drawCode(&d, 4), drawCode(&d, 4), drawPoints(&d, 6)
		by := 1 + len(ahead.Ins)
		ins := insts(inst(api.Jump, by, 0))
		ins = append(ins, ahead.Ins...)
		for _, in := range c.Ins {
			switch in.Op {
			case api.Split:
				in.A, in.B = in.A+by, in.B+by
			case api.Jump:
				in.A += by
			case api.Take:
				in.A += 2
			}
			ins = append(ins, in)
		}
		moved := api.Code{Sets: append([]api.Set{nil, nil}, c.Sets...), Ins: append(ins, behind.Ins...)}
		yes, n := mustMatch(t, c, l)
		if yesMoved, m := mustMatch(t, moved, l); yesMoved != yes || m != n+1 {
			t.Fatalf("Match(%v, %v) is %v, %d, and moved by %d %v, %d", c.Ins, l, yes, n, by, yesMoved, m)
		}
	}
}

// TestMatchLong (6.2, P1): much code, and many points: all that is met, once at each point.
func TestMatchLong(t *testing.T) {
	points := pointsOf(strings.Repeat("a", api.MaxText))
	// any times, then the end: split, take, end a point, and jump ahead of all but the first
	yes, n := mustMatch(t, coded(t, "split 1 3; take [61]; jump 0; end; yes"), points)
	if !yes || n != 4*len(points)+4 {
		t.Errorf("any times: %v, %d", yes, n)
	}
	yes, n = mustMatch(t, coded(t, "split 1 3; take [61]; jump 0; end; yes"), append(points, 'b'))
	if yes || n != 4*len(points)+3 {
		t.Errorf("any times, and another one: %v, %d", yes, n)
	}
	// each instruction splits to the next one and back to the first
	round := api.Code{}
	for i := range api.MaxCode {
		round.Ins = append(round.Ins, inst(api.Split, (i+1)%api.MaxCode, 0))
	}
	if yes, n := mustMatch(t, round, points); yes || n != api.MaxCode {
		t.Errorf("splits in a round: %v, %d", yes, n)
	}
	// roads that double with each instruction, if they were not met once
	double := api.Code{Sets: letters(1)}
	for len(double.Ins) < api.MaxCode-3 {
		i := len(double.Ins)
		double.Ins = append(double.Ins, inst(api.Split, i+1, i+2), inst(api.Jump, i+2, 0))
	}
	double.Ins = append(double.Ins, inst(api.Take, 0, 0), inst(api.Jump, 0, 0))
	if yes, n := mustMatch(t, double, points[:100]); yes || n != 101*(len(double.Ins)-1)+100 {
		t.Errorf("roads that double: %v, %d of %d", yes, n, len(double.Ins))
	}
	// as many instructions in a row as there may be
	row := api.Code{Sets: letters(1)}
	for range api.MaxCode - 1 {
		row.Ins = append(row.Ins, inst(api.Take, 0, 0))
	}
	row.Ins = append(row.Ins, api.Inst{Op: api.Yes})
	if yes, n := mustMatch(t, row, points); !yes || n != api.MaxCode {
		t.Errorf("a row: %v, %d", yes, n)
	}
	if yes, n := mustMatch(t, row, points[:api.MaxCode-2]); yes || n != api.MaxCode-1 {
		t.Errorf("a row, and one point less: %v, %d", yes, n)
	}
}
