package opt_test

import (
	"fmt"
	"reflect"
	"slices"
	"strings"
	"testing"

	"caesura/api"
	"caesura/check"
	"caesura/code"
	"caesura/rule"
)

// TestCode (8.1): code, and what it is made.
func TestCode(t *testing.T) {
	for _, c := range []struct{ code, want string }{
		// Yes alone, and what always matches
		{"yes", "yes"},
		{"yes; yes", "yes"},
		{"yes; take [61]; end; jump 0", "yes"},
		{"jump 1; yes", "yes"},
		{"split 1 2; yes; take [61]; yes", "yes"},
		{"split 2 1; yes; take [61]; yes", "yes"},
		{"split 1 2; end; yes", "yes"},
		{"split 0 1; yes", "yes"},
		{"split 1 3; take [61]; jump 0; yes", "yes"},
		{"split 1 5; split 2 4; take [61]; jump 1; take [62]; yes; split 6 8; take [61]; jump 5; take [62]; yes", "yes"},
		// what never matches
		{"jump 0", "jump 0"},
		{"split 0 0", "jump 0"},
		{"take [61]; jump 0", "jump 0"},
		{"take [61]; split 0 2; jump 0", "jump 0"},
		{"split 1 3; end; jump 2; take [61]; jump 0", "jump 0"},
		// jumps to jumps, and in a round
		{"jump 2; yes; jump 1", "yes"},
		{"jump 3; take [61]; yes; jump 1", "take [61]; yes"},
		{"jump 5; take [61]; jump 4; yes; jump 3; jump 6; jump 1", "take [61]; yes"},
		{"take [61]; jump 3; yes; jump 2", "take [61]; yes"},
		{"end; jump 3; yes; jump 2", "end; yes"},
		{"jump 1; jump 0", "jump 0"},
		{"jump 1; jump 2; jump 0", "jump 0"},
		{"split 1 2; jump 0; jump 1", "jump 0"},
		{"split 1 3; jump 2; jump 1; take [61]; yes", "take [61]; yes"},
		{"take [61]; split 2 4; jump 3; jump 2; take [62]; yes", "take [61]; take [62]; yes"},
		// a Split whose two ways are one, one of which is its own, or none of which is there
		{"split 1 1; take [61]; yes", "take [61]; yes"},
		{"split 1 3; take [61]; yes; jump 1", "take [61]; yes"},
		{"split 1 0; take [61]; yes", "take [61]; yes"},
		{"split 0 1; take [61]; yes", "take [61]; yes"},
		{"split 1 2; split 0 2; take [61]; yes", "take [61]; yes"},
		{"split 1 1; jump 0", "jump 0"},
		// instructions that are never reached
		{"take [61]; yes; take [62]; jump 0; end; yes", "take [61]; yes"},
		{"jump 3; take [61]; split 0 1; take [62]; yes; jump 1", "take [62]; yes"},
		// sets of nothing
		{"take []; yes", "jump 0"},
		{"take []; take [61]; yes", "jump 0"},
		{"take [61]; take []; yes", "jump 0"},
		{"split 1 3; take []; yes; take [61]; yes", "take [61]; yes"},
		{"split 1 3; take [61]; yes; take []; yes", "take [61]; yes"},
		// End ahead of more
		{"end; yes", "end; yes"},
		{"end; end; yes", "end; yes"},
		{"end; take [61]; yes", "jump 0"},
		{"end; take [0-10ffff]; yes", "jump 0"},
		{"end; split 2 4; take [61]; yes; end; yes", "end; yes"},
		{"end; split 2 3; take [61]; yes", "end; yes"},
		{"end; split 0 2; end; yes", "end; yes"},
		{"take [61]; end; take [61]; yes", "jump 0"},
		{"split 1 4; end; take [61]; yes; take [62]; yes", "take [62]; yes"},
		{"split 1 3; end; yes; end; yes", "end; yes"},
		{"split 1 4; end; end; yes; end; yes", "end; yes"},
		{"split 1 3; end; yes; take [61]; yes", "split 1 3; end; yes; take [61]; yes"},
		// loops
		{"split 1 3; take [61]; jump 0; take [62]; yes", "split 1 3; take [61]; jump 0; take [62]; yes"},
		{"split 1 3; take [61]; jump 0; end; yes", "split 1 3; take [61]; jump 0; end; yes"},
		{"take [61]; split 0 2; yes", "take [61]; yes"},
		{"take [61]; split 0 2; take [62]; yes", "take [61]; split 0 2; take [62]; yes"},
		{"split 1 3; take [61]; jump 0; take [61]; yes", "take [61]; yes"},
		{"split 3 2; take [61]; split 1 3; take [61]; yes", "take [61]; yes"},
		{"take [61]; split 0 2; split 2 3; take [61]; end; yes", "take [61]; split 0 2; take [61]; end; yes"},
		{"take [0-10ffff]; jump 2; split 0 3; take [62]; yes", "take [0-10ffff]; split 0 2; take [62]; yes"},
		{"split 1 8; split 2 6; split 3 5; take [61]; jump 2; jump 7; take [62]; jump 0; end; yes", "split 1 3; take [61-62]; jump 0; end; yes"},
		{"split 1 6; split 2 3; take [61]; split 4 0; take [62]; jump 0; end; yes", "split 1 3; take [61-62]; jump 0; end; yes"},
		{"split 1 8; split 2 4; take [61]; jump 1; split 5 7; take [62]; jump 4; jump 0; take [78]; yes", "split 2 5; take [61]; split 1 4; take [62]; split 3 0; take [78]; yes"},
		// what is alike
		{"split 1 3; take [61]; yes; take [61]; yes", "take [61]; yes"},
		{"split 1 7; take [61]; split 3 5; take [63]; jump 2; take [64]; yes; take [62]; split 9 11; take [63]; jump 8; take [64]; yes", "take [61-62]; split 2 4; take [63]; jump 1; take [64]; yes"},
		{"split 1 6; split 2 4; take [61]; jump 1; take [62]; yes; take [62]; yes", "split 1 3; take [61]; jump 0; take [62]; yes"},
		// Takes that go on at one, and such as take the same
		{"split 1 3; take [61]; yes; take [62]; yes", "take [61-62]; yes"},
		{"split 1 3; take [61-63]; yes; take [62]; yes", "take [61-63]; yes"},
		{"split 1 4; take [61]; take [63]; yes; take [62]; take [63]; yes", "take [61-62]; take [63]; yes"},
		{"split 1 4; take [61]; take [62]; yes; take [61]; take [63]; yes", "take [61]; take [62-63]; yes"},
		{"split 1 4; take [61]; take [62]; yes; take [61]; take [62]; yes", "take [61]; take [62]; yes"},
		{"split 1 5; take [61]; take [62]; take [78]; yes; take [61]; take [63]; take [78]; yes", "take [61]; take [62-63]; take [78]; yes"},
		{"split 1 3; take [61]; yes; split 4 6; take [62]; jump 2; take [63]; yes", "take [61-63]; yes"},
		{"split 1 4; take [61]; take [63]; yes; take [62-63]; take [64]; yes", "split 1 4; take [61]; take [63]; yes; take [62-63]; take [64]; yes"},
		// nothing to be made less
		{"take [61]; yes", "take [61]; yes"},
		{"take [0-10ffff]; yes", "take [0-10ffff]; yes"},
		{"take [61]; take [61]; yes", "take [61]; take [61]; yes"},
		{"split 1 2; take [61]; take [61]; yes", "split 1 2; take [61]; take [61]; yes"},
		{"split 2 1; take [61]; take [62]; yes", "split 2 1; take [61]; take [62]; yes"},
		{"split 1 3; take [61]; take [62]; take [63]; end; yes", "split 1 3; take [61]; take [62]; take [63]; end; yes"},
	} {
		given := coded(t, c.code)
		got := made(t, given)
		if words(got) != c.want {
			t.Errorf("Code(%q) is %q, not %q", c.code, words(got), c.want)
		}
		wantSame(t, given, got)
		for _, l := range every(4, 'a', 'b', 'c', 'd', -1) {
			if matches(t, given, l) != matches(t, got, l) {
				t.Errorf("Code(%q) is %q: it matches %v otherwise", c.code, words(got), l)
			}
		}
	}
}

// TestCodeMeant (8.1): drawn code, held against what it is made by Match, at drawn points, and at none.
func TestCodeMeant(t *testing.T) {
	d := die(1)
	matched, all := 0, 0
	for range 12_000 {
		c := drawCode(&d, 14)
		o := made(t, c)
		l := drawPoints(&d, 9)
		for n := range len(l) + 1 {
			want := matches(t, c, l[:n])
			if matches(t, o, l[:n]) != want {
				t.Fatalf("%s: made less it is %s: it matches %v otherwise", words(c), words(o), l[:n])
			}
			if all++; want {
				matched++
			}
		}
	}
	if matched < all/10 || matched > all*9/10 {
		t.Errorf("what was drawn is one-sided: %d of %d match", matched, all)
	}
}

// TestCodeSame (8.1): drawn code, held against what it is made at all points that there are.
func TestCodeSame(t *testing.T) {
	d := die(2)
	before, after := 0, 0
	for i := range 15_000 {
		c := drawCode(&d, []int{5, 9, 14, 25, 60}[i%5])
		o := made(t, c)
		wantSame(t, c, o)
		before, after = before+len(c.Ins), after+len(o.Ins)
	}
	if after > before/2 {
		t.Errorf("%d instructions are %d, made less", before, after)
	}
}

// TestSameMatches: what holds two codes against each other finds what differs.
func TestSameMatches(t *testing.T) {
	for _, c := range []struct{ a, b string }{
		{"yes", "jump 0"},
		{"yes", "end; yes"},
		{"yes", "take [0-10ffff]; yes"},
		{"yes", "split 1 3; take [0-10ffff]; jump 0; end; yes"},
		{"yes", "split 1 3; end; yes; take [0-10ffff]; yes"},
		{"take [61]; yes", "take [61]; end; yes"},
		{"take [61]; yes", "take [61-62]; yes"},
		{"take [10ffff]; yes", "take [10fffe-10ffff]; yes"},
		{"end; yes", "jump 0"},
		{"split 1 3; take [61]; jump 0; end; yes", "split 1 5; take [61]; split 3 5; take [61]; jump 0; end; yes"},
		{"take [61]; take [61]; take [61]; end; yes", "take [61]; split 0 2; end; yes"},
	} {
		a, b := coded(t, c.a), coded(t, c.b)
		l, same := sameMatches(a, b)
		_, self := sameMatches(a, a)
		if got := matches(t, a, l) != matches(t, b, l); same == got || !self {
			t.Errorf("%q, %q: by %v the same: %v, and each with itself %v", c.a, c.b, l, same, self)
		}
	}
	d := die(3)
	for range 2000 {
		a, b := drawCode(&d, 4), drawCode(&d, 4)
		l, same := sameMatches(a, b)
		if !same && matches(t, a, l) == matches(t, b, l) {
			t.Fatalf("%s, %s: %v tells nothing", words(a), words(b), l)
		}
		for _, l := range every(3, 'a', 'b', 'c', -1) {
			if same && matches(t, a, l) != matches(t, b, l) {
				t.Fatalf("%s, %s: %v tells them apart", words(a), words(b), l)
			}
		}
	}
}

// TestSets (8.1): sets that no instruction names are left out, alike ones are one, and none is of nothing.
func TestSets(t *testing.T) {
	a, b := api.Set{{Lo: 'a', Hi: 'a'}}, api.Set{{Lo: 'b', Hi: 'b'}}
	c := api.Code{
		Sets: []api.Set{b, a, nil, a, b, {{Lo: 'c', Hi: 'c'}}},
		Ins:  []api.Inst{inst(api.Split, 1, 3), inst(api.Take, 3, 0), inst(api.Take, 1, 0), inst(api.Take, 4, 0), inst(api.Take, 1, 0), inst(api.Take, 0, 0), yes},
	}
	o := made(t, c)
	if want := []api.Set{a, b}; !reflect.DeepEqual(o.Sets, want) || words(o) != words(c) {
		t.Errorf("%v is made %v", c, o)
	}
	if o := made(t, api.Code{Sets: sets(), Ins: []api.Inst{yes}}); len(o.Sets) != 0 || !slices.Equal(o.Ins, []api.Inst{yes}) {
		t.Errorf("Yes alone, with sets, is made %v", o)
	}
	d := die(4)
	for range 5000 {
		c := drawCode(&d, 14)
		o := made(t, c)
		used := map[int]int{}
		for _, in := range o.Ins {
			if in.Op == api.Take {
				used[in.A]++
			}
		}
		texts := map[string]int{}
		for _, s := range o.Sets {
			texts[fmt.Sprint(s)]++
		}
		if len(used) != len(o.Sets) || len(texts) != len(o.Sets) || texts["[]"] > 0 {
			t.Fatalf("%s is made %s, of sets %v", words(c), words(o), o.Sets)
		}
	}
}

// TestAgain (8.1): less code made less again; there is hardly ever anything left to be made less.
func TestAgain(t *testing.T) {
	d := die(5)
	left := 0
	for range 5000 {
		c := drawCode(&d, 20)
		o := made(t, c)
		again := made(t, o)
		wantSame(t, c, again)
		if words(again) != words(o) {
			left++
		}
	}
	if left > 5 {
		t.Errorf("less code made less again is other code %d times", left)
	}
}

// TestOfPatterns (8.1): the code of patterns is made less, too, and some is such as is known.
func TestOfPatterns(t *testing.T) {
	for _, c := range []struct{ pattern, want string }{
		{"", "yes"},
		{"a*", "yes"},
		{"a?", "yes"},
		{"a{0,7} | b", "yes"},
		{"$ | a*", "yes"},
		{"a", "take [61]; yes"},
		{"a b*", "take [61]; yes"},
		{"a+", "take [61]; yes"},
		{"a{3,12}", "take [61]; take [61]; take [61]; yes"},
		{"a | b", "take [61-62]; yes"},
		{"(a | b | c)+ .*", "take [0-10ffff]; yes"},
		{"(a | b)* $", "split 1 3; take [61-62]; jump 0; end; yes"},
		{"(a* | b)* $", "split 1 3; take [61-62]; jump 0; end; yes"},
		{"a b | a c", "take [61]; take [0-60 62-10ffff]; yes"},
		{"a [] | b", "take [62]; yes"},
		{"a [] | []", "jump 0"},
		{"$ a", "jump 0"},
		{"a $ $", "take [61]; end; yes"},
		{"(a c* | b c*) a", "take [61-62]; split 2 4; take [0-60 63-10ffff]; jump 1; take [61]; yes"},
	} {
		f, err := rule.Parse("class a = [61]; class b = [62]; class c = ~(a | b); keep : " + c.pattern + ";")
		if err != nil {
			t.Fatalf("%q: %v", c.pattern, err)
		}
		names, _ := check.Names(f)
		given, err := code.Pattern(f.Rules[0].After, names, false)
		if err != nil {
			t.Fatalf("%q: %v", c.pattern, err)
		}
		got := made(t, given)
		wantSame(t, given, got)
		if words(got) != c.want {
			t.Errorf("%q is %s, and made less %s, not %s", c.pattern, words(given), words(got), c.want)
		}
	}
}

// TestNoMore (8.1): wherever instructions stand, they become no more: what goes on at one that is not behind it needs a jump, ahead of which it may not come.
func TestNoMore(t *testing.T) {
	d := die(6)
	for range 6000 {
		c := made(t, drawCode(&d, 25))
		o := made(t, shuffled(&d, c))
		wantSame(t, c, o)
		if len(o.Ins) != len(c.Ins) {
			t.Errorf("%s is %d instructions, and in another order it is made %d: %s", words(c), len(c.Ins), len(o.Ins), words(o))
		}
	}
}

// shuffled is code of which the instructions stand in any order, with jumps between them.
func shuffled(d *die, c api.Code) api.Code {
	order := make([]int, len(c.Ins))
	for i := range order {
		order[i] = i
	}
	for i := range order {
		k := i + d.n(len(order)-i)
		order[i], order[k] = order[k], order[i]
	}
	at, ins := make([]int, len(c.Ins)), []api.Inst{inst(api.Jump, 0, 0)}
	for _, i := range order {
		at[i] = len(ins)
		ins = append(ins, c.Ins[i])
		if c.Ins[i].Op == api.Take || c.Ins[i].Op == api.End {
			ins = append(ins, inst(api.Jump, i+1, 0))
		}
	}
	for i := range ins {
		switch ins[i].Op {
		case api.Jump:
			ins[i].A = at[ins[i].A]
		case api.Split:
			ins[i].A, ins[i].B = at[ins[i].A], at[ins[i].B]
		}
	}
	return api.Code{Sets: c.Sets, Ins: ins}
}

// TestMost (8.1): code of just MaxCode instructions, and of as many sets.
func TestMost(t *testing.T) {
	const most = api.MaxCode
	row := strings.Repeat("take [61]; ", most-1)
	for _, c := range []struct {
		code string
		want int
	}{
		{row + "yes", most},
		{strings.Repeat("take [61]; take [62]; ", most/2-1) + "end; yes", most},
		{"split 1 1999; " + strings.Repeat("take [61]; ", most-3) + "jump 0; yes", 1},
		{"split 1 1998; " + strings.Repeat("take [61]; ", most-4) + "jump 0; end; yes", most},
		{strings.Repeat("jump 1999; ", most-1) + "yes", 1},
		{strings.Repeat("yes; ", most-1) + "yes", 1},
		{strings.Repeat("end; ", most-1) + "yes", 2},
		{strings.Repeat("end; ", most-1) + "jump 0", 1},
		{strings.Repeat("take [61]; ", most-2) + "take []; yes", 1},
		{strings.Repeat("split 0 0; ", most-1) + "yes", 1},
		{"take [61]; jump 3; yes; " + strings.Repeat("jump 2; ", most-4) + "jump 2", 2},
	} {
		given := coded(t, c.code)
		got := made(t, given)
		if len(got.Ins) != c.want {
			t.Errorf("%.60s ..: %d instructions are %d, not %d", c.code, len(given.Ins), len(got.Ins), c.want)
		}
		for _, n := range []int{0, 1, 2, most - 4, most - 3, most - 2, most - 1, most, 2 * most} {
			l := pointsOf(strings.Repeat("a", n))
			if m := pointsOf(strings.Repeat("ab", n)); matches(t, given, l) != matches(t, got, l) || matches(t, given, m) != matches(t, got, m) {
				t.Errorf("%.60s ..: %d points match otherwise", c.code, n)
			}
		}
	}
	var c api.Code
	for i := range most - 1 {
		c.Sets = append(c.Sets, api.Set{{Lo: 2 * i, Hi: 2 * i}})
		c.Ins = append(c.Ins, inst(api.Take, i, 0))
	}
	c.Sets, c.Ins = append(c.Sets, c.Sets[0]), append(c.Ins, yes)
	if o := made(t, c); words(o) != words(c) || len(o.Sets) != most-1 {
		t.Errorf("code of %d sets is made such of %d", len(c.Sets), len(o.Sets))
	}
}
