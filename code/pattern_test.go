package code_test

import (
	"fmt"
	"slices"
	"strings"
	"testing"

	"caesura/api"
	"caesura/code"
	"caesura/mean"
	"caesura/rule"
	"caesura/set"
	"caesura/utf"
)

// TestPattern (7.1): patterns of each code, alone and within one another: the places at which their code matches what is ahead, and those at which it matches what is behind.
func TestPattern(t *testing.T) {
	names := namesOf(t)
	said := map[bool]int{}
	for _, c := range []struct{ pattern, text, back, on string }{
		// One: a set, a name
		{"[61]", "aba", "1 3", "0 2"},
		{"a", "aba", "1 3", "0 2"},
		{"b", "aba", "2", "1"},
		{"c", "a\u00e4\xff", "2 3", "1 2"},
		{"[fffd]", "a\u00e4\xff\ufffd", "3 4", "2 3"},
		{"[]", "ab", "", ""},
		{"[0-10ffff]", "ab", "1 2", "0 1"},
		{"[0-60 62-10ffff]", "aba", "2", "1"},
		{"[10ffff]", "a\U0010ffff\x00", "2", "1"},
		{"[0]", "a\U0010ffff\x00", "3", "2"},
		{"a", "", "", ""},
		// Any
		{".", "", "", ""},
		{".", "a\xff\u00e4", "1 2 3", "0 1 2"},
		{".", "\U0010ffff\x00", "1 2", "0 1"},
		{". .", "abc", "2 3", "0 1"},
		{". . . .", "abc", "", ""},
		// Cat: in order
		{"", "", "0", "0"},
		{"", "ab", "0 1 2", "0 1 2"},
		{"a b", "abab", "2 4", "0 2"},
		{"b a", "abab", "3", "1"},
		{"a b c", "abcab", "3", "0"},
		{"c b a", "abcab", "", ""},
		{"a . a", "abaca", "3 5", "0 2"},
		{"(a b) (a b)", "ababab", "4 6", "0 2"},
		{"a (b c)", "abc", "3", "0"},
		{"(a b) c", "abc", "3", "0"},
		{"() a ()", "ba", "2", "1"},
		// Alt: one of them
		{"a | b", "abc", "1 2", "0 1"},
		{"b | a", "abc", "1 2", "0 1"},
		{"a b | c", "abc", "2 3", "0 2"},
		{"a | a b | a b c", "abc", "1 2 3", "0"},
		{"(a | a b) c", "abcac", "3 5", "0 3"},
		{"a (b | b b)", "abb", "2 3", "0"},
		{"(a | ) b", "bab", "1 3", "0 1 2"},
		{"( | a) b", "bab", "1 3", "0 1 2"},
		{"| a", "ba", "0 1 2", "0 1 2"},
		{"[] | b | []", "ba", "1", "0"},
		{"(a | b | c) c", "acbccc", "2 4 5 6", "0 2 3 4"},
		// Many
		{"a* b", "aabb", "3 4", "0 1 2 3"},
		{"b a*", "baab", "1 2 3 4", "0 3"},
		{"a+", "baab", "2 3", "1 2"},
		{"b a+ b", "baabbb", "4", "0"},
		{"b a? b", "babbaab", "3 4", "0 2"},
		{"b a{2} b", "babaabaaab", "6", "2"},
		{"b a{2,} b", "babaabaaab", "6 10", "2 5"},
		{"b a{1,2} b", "babaabaaab", "3 6", "0 2"},
		{"b a{0} b", "bb", "2", "0"},
		{"b a{0,0} b", "bab", "", ""},
		{"c (a b)* c", "cabcababcac", "4 9", "0 3"},
		{"c (a | b b){2} c", "cabbcbbacaac", "5 9 12", "0 4 8"},
		{"c (a{2}){2} c", "caaaacaaac", "6", "0"},
		{"c (a{1,2} b)+ c", "cabaabcaaabc", "7", "0"},
		{"c (a* b*)* c", "cababbac", "8", "0"},
		{".{2}", "abc", "2 3", "0 1"},
		{".{3,}", "abcabc", "3 4 5 6", "0 1 2 3"},
	} {
		x, l := patternOf(t, c.pattern), utf.Decode(c.text)
		if got := where(t, x, names, l, true); got != c.back {
			t.Errorf("code of %q matches in %q ahead of %q, not %q", c.pattern, c.text, got, c.back)
		}
		if got := where(t, x, names, l, false); got != c.on {
			t.Errorf("code of %q matches in %q behind %q, not %q", c.pattern, c.text, got, c.on)
		}
		holds(t, x, names, said, c.text)
	}
}

// TestEdge (7.1): it stands where no unit is ahead of it (back), or behind it, wherever in the pattern it is; on the other side it never can, but at the text's other end.
func TestEdge(t *testing.T) {
	names := namesOf(t)
	said := map[bool]int{}
	for _, c := range []struct{ pattern, text, back, on string }{
		{"$", "", "0", "0"},
		{"$", "a", "0", "1"},
		{"$", "ab", "0", "2"},
		{"$ $", "ab", "0", "2"},
		{"$*", "ab", "0 1 2", "0 1 2"},
		{"$+", "ab", "0", "2"},
		{"$?", "ab", "0 1 2", "0 1 2"},
		{"${0}", "ab", "0 1 2", "0 1 2"},
		{"${12}", "ab", "0", "2"},
		{"${3,}", "ab", "0", "2"},
		{"$ a", "aa", "1", ""},
		{"a $", "aa", "", "1"},
		{"$ . .", "abc", "2", ""},
		{". . $", "abc", "", "1"},
		{"$ .* $", "abc", "0", "3"},
		{"$ .* $", "", "0", "0"},
		{"$ . $", "a", "", ""},
		{". $ .", "ab", "", ""},
		{"$ | a", "ba", "0 2", "1 2"},
		{"($ | b) a", "aba", "1 3", "1"},
		{"a ($ | b)", "aba", "2", "0 2"},
		{"($ | .)*", "ab", "0 1 2", "0 1 2"},
		{"($ a*)*", "aab", "0 1 2 3", "0 1 2 3"},
		{"($ a*)+", "aab", "0 1 2", "3"},
		{"(a* $)+", "baa", "0", "1 2 3"},
		{"($ | $ $) a", "aa", "1", ""},
		{"($ | ()) a", "aa", "1 2", "0 1"},
		{"a ($ | ())", "aa", "1 2", "0 1"},
		{"$ (. .)*", "abcde", "0 2 4", "5"},
		{"(. .)* $", "abcde", "0", "1 3 5"},
	} {
		x, l := patternOf(t, c.pattern), utf.Decode(c.text)
		if got := where(t, x, names, l, true); got != c.back {
			t.Errorf("code of %q matches in %q ahead of %q, not %q", c.pattern, c.text, got, c.back)
		}
		if got := where(t, x, names, l, false); got != c.on {
			t.Errorf("code of %q matches in %q behind %q, not %q", c.pattern, c.text, got, c.on)
		}
		holds(t, x, names, said, c.text, "", "a", "ba", "aaa")
	}
}

// TestNoParts (7.1): a Cat of no Parts stands anywhere, an Alt of none nowhere.
func TestNoParts(t *testing.T) {
	l := utf.Decode("ab")
	for _, c := range []struct {
		x        *api.Pattern
		back, on string
	}{
		{cat(), "0 1 2", "0 1 2"},
		{&api.Pattern{Code: api.Cat, Parts: []*api.Pattern{}}, "0 1 2", "0 1 2"},
		{cat(cat(), cat()), "0 1 2", "0 1 2"},
		{cat(cat(), dot(), cat()), "1 2", "0 1"},
		{cat(dot()), "1 2", "0 1"},
		{alt(), "", ""},
		{&api.Pattern{Code: api.Alt, Parts: []*api.Pattern{}}, "", ""},
		{alt(alt()), "", ""},
		{alt(alt(), alt()), "", ""},
		{alt(dot()), "1 2", "0 1"},
		{alt(alt(), cat()), "0 1 2", "0 1 2"},
		{alt(cat(), alt()), "0 1 2", "0 1 2"},
		{alt(alt(), one(lit('b'))), "2", "1"},
		{alt(one(lit('b')), alt()), "2", "1"},
		{cat(alt()), "", ""},
		{cat(dot(), alt()), "", ""},
		{cat(alt(), dot()), "", ""},
		{many(alt(), 0, -1), "0 1 2", "0 1 2"},
		{many(alt(), 0, 0), "0 1 2", "0 1 2"},
		{many(alt(), 0, 3), "0 1 2", "0 1 2"},
		{many(alt(), 1, -1), "", ""},
		{many(alt(), 1, 1), "", ""},
		{many(alt(), 12, 12), "", ""},
		{many(alt(alt(), dot()), 2, 2), "2", "0"},
		{many(cat(), 12, 12), "0 1 2", "0 1 2"},
	} {
		if got := where(t, c.x, nil, l, true); got != c.back {
			t.Errorf("code of %q matches ahead of %q, not %q", rule.Text(c.x), got, c.back)
		}
		if got := where(t, c.x, nil, l, false); got != c.on {
			t.Errorf("code of %q matches behind %q, not %q", rule.Text(c.x), got, c.on)
		}
		holds(t, c.x, nil, map[bool]int{}, "ab", "", "\x00\t \U0010ffff")
	}
}

// TestTimes (7.1): a unit so often, between two others, for all Lo and Hi that there are.
func TestTimes(t *testing.T) {
	a, b := one(lit('a')), one(lit('b'))
	for lo := range api.MaxTimes + 1 {
		for hi := -1; hi <= api.MaxTimes; hi++ {
			if 0 <= hi && hi < lo {
				continue
			}
			x := cat(b, many(a, lo, hi), b)
			back, on := coded(t, x, nil, true), coded(t, x, nil, false)
			for n := range 2*api.MaxTimes + 3 {
				points := pointsOf(utf.Decode("b" + strings.Repeat("a", n) + "b"))
				want := lo <= n && (hi < 0 || n <= hi)
				if matches(t, back, points, len(points), true) != want || matches(t, on, points, 0, false) != want {
					t.Errorf("a from %d to %d times: of %d: %v", lo, hi, n, !want)
				}
			}
		}
	}
}

// counted says of how many in a row, from 0 to below a bound, a part so often so often may be.
func counted(bounds [][2]int, below int) []bool {
	may := make([]bool, below)
	may[1] = true
	for _, b := range bounds {
		so := make([]bool, below)
		so[0] = true
		next := make([]bool, below)
		hi := b[1]
		if hi < 0 {
			hi = max(below, b[0]) // more often leads nowhere else: what is of nothing may be left away
		}
		for n := range hi + 1 {
			if n >= b[0] {
				for i := range so {
					next[i] = next[i] || so[i]
				}
			}
			so = sums(so, may)
		}
		may = next
	}
	return may
}

// sums are the sums of one number of each of two.
func sums(a, b []bool) []bool {
	out := make([]bool, len(a))
	for i := range a {
		for j := range b {
			if a[i] && b[j] && i+j < len(out) {
				out[i+j] = true
			}
		}
	}
	return out
}

// timesOf are all Lo and Hi up to a bound.
func timesOf(most int) [][2]int {
	var out [][2]int
	for lo := range most + 1 {
		out = append(out, [2]int{lo, -1})
		for hi := lo; hi <= most; hi++ {
			out = append(out, [2]int{lo, hi})
		}
	}
	return out
}

// TestTimesInTimes (7.1): so often so often, and so often again, for all small Lo and Hi: as many as the numbers tell.
func TestTimesInTimes(t *testing.T) {
	const most = 16
	d := die(1)
	a, b := one(lit('a')), one(lit('b'))
	try := func(bounds ...[2]int) {
		x := a
		for _, n := range bounds {
			x = many(x, n[0], n[1])
		}
		x = cat(b, x, b)
		may := counted(bounds, most)
		back, on := coded(t, x, nil, true), coded(t, x, nil, false)
		for n, want := range may {
			points := pointsOf(utf.Decode("b" + strings.Repeat("a", n) + "b"))
			if matches(t, back, points, len(points), true) != want || matches(t, on, points, 0, false) != want {
				t.Fatalf("%q of %d: %v", rule.Text(x), n, !want)
			}
		}
	}
	for _, inner := range timesOf(4) {
		for _, outer := range timesOf(4) {
			try(inner, outer)
			if d.n(2) == 0 {
				l := timesOf(3)
				try(inner, outer, l[d.n(len(l))])
			}
		}
	}
}

// TestTimesOfEach (7.1): patterns of each kind, so often so often, held against where they Stand.
func TestTimesOfEach(t *testing.T) {
	names := namesOf(t)
	said := map[bool]int{}
	for _, s := range []string{"a", "a b", "a | b b", "a | ", " | a", "a?", "a* b*", "$", "$ | a", "$ a", "a $", "()", "[]", "$ | ()", "a (b | $)", "a{2} | b"} {
		x := patternOf(t, s)
		for _, inner := range timesOf(3) {
			for _, outer := range [][2]int{{0, -1}, {0, 1}, {0, 0}, {1, -1}, {1, 1}, {2, 2}, {2, -1}, {1, 3}, {3, 4}, {0, 12}} {
				y := many(many(x, inner[0], inner[1]), outer[0], outer[1])
				for _, z := range []*api.Pattern{y, cat(one(lit('c')), y, one(lit('c'))), cat(y, one(lit('c'))), cat(one(lit('c')), y)} {
					holds(t, z, names, said, "caabbac", "cabbbbaacabc", "aaaac", "ccb")
				}
			}
		}
	}
	if said[true] < 10_000 || said[false] < 10_000 {
		t.Errorf("what was held is one-sided: %v", said)
	}
}

// TestSamePlace (7.1): parts of nothing, any times: what must stand so often stands on nothing, and all else may be less.
func TestSamePlace(t *testing.T) {
	names := namesOf(t)
	for _, c := range []struct{ pattern, text, back, on string }{
		{"()*", "ab", "0 1 2", "0 1 2"},
		{"()+", "ab", "0 1 2", "0 1 2"},
		{"(){12}", "ab", "0 1 2", "0 1 2"},
		{"(){12,}", "ab", "0 1 2", "0 1 2"},
		{"(( | )* | ())+", "ab", "0 1 2", "0 1 2"},
		{"b a?{12} b", "bbbab", "2 3 5", "0 1 2"},
		{"b a*{12} b", "bbbaab", "2 3 6", "0 1 2"},
		{"b (a | ){3} b", "bbabaabaaabaaaab", "2 4 7 11", "0 1 3 6"},
		{"b ( | a){3} b", "bbabaabaaabaaaab", "2 4 7 11", "0 1 3 6"},
		{"b (a?){3,} b", "bbabaabaaabaaaab", "2 4 7 11 16", "0 1 3 6 10"},
		{"b (a | $)* b", "baab", "4", "0"},
		{"($ | a){3} b", "aaaab", "5", "1"},
		{"($ | a){4} b", "aab", "3", ""},
		{"b ($ | a){4}", "baa", "", "0"},
		{"b ($ | a){2}", "baaa", "3", "0"},
		{"($ a?)*", "aa", "0 1 2", "0 1 2"},
		{"($ a?){3} .", "aab", "1 2", ""},
		{"(a* | b*)* c", "abbac", "5", "0 1 2 3 4"},
		{"((a*)*)* c", "aac", "3", "0 1 2"},
		{"((a?){2}){2} c", "aaaaac", "6", "1 2 3 4 5"},
		{"b ((a?){2}){2} c", "baaaacbaaaaac", "6", "0"},
	} {
		x, l := patternOf(t, c.pattern), utf.Decode(c.text)
		if got := where(t, x, names, l, true); got != c.back {
			t.Errorf("code of %q matches in %q ahead of %q, not %q", c.pattern, c.text, got, c.back)
		}
		if got := where(t, x, names, l, false); got != c.on {
			t.Errorf("code of %q matches in %q behind %q, not %q", c.pattern, c.text, got, c.on)
		}
	}
}

// TestPatternDrawn (7.1): code of many patterns, as Parse told them, at all places of many texts.
func TestPatternDrawn(t *testing.T) {
	names := namesOf(t)
	d := die(2)
	said := map[bool]int{}
	for range 3000 {
		x := patternOf(t, drawPattern(&d, 3))
		holds(t, x, names, said, "", drawText(&d, 3), drawText(&d, 8), drawText(&d, 8))
	}
	if said[true] < 10_000 || said[false] < 10_000 {
		t.Errorf("what was drawn is one-sided: %v", said)
	}
}

// TestTreesDrawn (7.1, P1): code of many patterns that are put together by hand.
func TestTreesDrawn(t *testing.T) {
	names := namesOf(t)
	d := die(3)
	said := map[bool]int{}
	for range 6000 {
		x := drawTree(&d, 1+d.n(4))
		holds(t, x, names, said, "", drawText(&d, 3), drawText(&d, 8))
	}
	if said[true] < 10_000 || said[false] < 10_000 {
		t.Errorf("what was drawn is one-sided: %v", said)
	}
}

// TestMirror (7.1): code that is read backwards is that of the pattern in the mirror, read forwards.
func TestMirror(t *testing.T) {
	names := namesOf(t)
	d := die(4)
	for range 2000 {
		x, points := drawTree(&d, 3), pointsOf(utf.Decode(drawText(&d, 8)))
		a, b := coded(t, x, names, true), coded(t, mirrored(x), names, false)
		for place := range len(points) + 1 {
			if matches(t, a, points, place, true) != matches(t, b, turned(points), len(points)-place, false) {
				t.Fatalf("%q at %d of %v: not so in the mirror", textOf(x), place, points)
			}
		}
	}
}

// mirrored is a pattern as it is read from the other side.
func mirrored(x *api.Pattern) *api.Pattern {
	c := *x
	c.Parts = nil
	for _, part := range x.Parts {
		c.Parts = append(c.Parts, mirrored(part))
	}
	if x.Code == api.Cat {
		slices.Reverse(c.Parts)
	}
	return &c
}

// TestKinds (7.1): a One takes what its kind tells: of names what they are handed in to stand for.
func TestKinds(t *testing.T) {
	names := map[string]api.Set{"a": {{Lo: 'a', Hi: 'c'}}, "b": {{Lo: 'c', Hi: 'd'}}, "none": nil, "all": {{Lo: 0, Hi: api.MaxPoint}}, "": {{Lo: 'e', Hi: 'e'}}}
	for _, c := range []struct {
		k  *api.Kind
		on string
	}{
		{ref(1, "a"), "0 1 2"},
		{ref(1, "b"), "2 3"},
		{ref(1, ""), "4"},
		{ref(1, "none"), ""},
		{ref(1, "all"), "0 1 2 3 4"},
		{not(ref(1, "none")), "0 1 2 3 4"},
		{not(ref(1, "a")), "3 4"},
		{two(api.Or, ref(1, "a"), ref(2, "b")), "0 1 2 3"},
		{two(api.And, ref(1, "a"), ref(2, "b")), "2"},
		{two(api.Less, ref(1, "a"), ref(2, "b")), "0 1"},
		{two(api.Less, ref(1, "b"), ref(2, "a")), "3"},
		{not(two(api.Or, ref(1, "a"), lit('e'))), "3"},
		{lit('a', 'e'), "0 4"},
	} {
		l := utf.Decode("abcde")
		if got := where(t, one(c.k), names, l, false); got != c.on {
			t.Errorf("%v: its code matches behind %q, not %q", c.k, got, c.on)
		}
		holds(t, one(c.k), names, map[bool]int{}, "abcde", "\x00z\U0010ffff")
	}
}

// TestSets (7.1): those that are alike are one, so that they are never too many; there is none that nothing takes.
func TestSets(t *testing.T) {
	names := namesOf(t)
	for _, c := range []struct{ pattern, back, on string }{
		{"", "", ""},
		{"$", "", ""},
		{"a", "[61]", "[61]"},
		{"a b a [61] [62] (b | a)*", "[62] [61]", "[61] [62]"},
		{"a{12} a{0} b{0} c{0,0} [63]", "[63] [61]", "[61] [63]"},
		{". [0-10ffff]", "[0-10ffff]", "[0-10ffff]"},
		{"c [0-60 63-10ffff]", "[0-60 63-10ffff]", "[0-60 63-10ffff]"},
		{"[61 63] [61-63] [61]", "[61] [61-63] [61 63]", "[61 63] [61-63] [61]"},
		{"[61 63] [61 65] [60 63] [61 63-64]", "[61 63-64] [60 63] [61 65] [61 63]", "[61 63] [61 65] [60 63] [61 63-64]"},
		{"[] a [] []", "[] [61]", "[] [61]"},
	} {
		for _, back := range []bool{true, false} {
			want := c.on
			if back {
				want = c.back
			}
			var got []string
			for _, s := range coded(t, patternOf(t, c.pattern), names, back).Sets {
				got = append(got, set.Print(s))
			}
			if strings.Join(got, " ") != want {
				t.Errorf("%q, back %v: sets %q, not %q", c.pattern, back, got, want)
			}
		}
	}
	// as many sets as there may be instructions that take them, and one more
	x := cat()
	for i := range api.MaxCode - 1 {
		x.Parts = append(x.Parts, one(lit(2*i)))
	}
	if c := coded(t, x, nil, false); len(c.Sets) != api.MaxCode-1 || len(c.Ins) != api.MaxCode {
		t.Errorf("%d sets, %d instructions", len(c.Sets), len(c.Ins))
	}
	x.Parts = append(x.Parts, many(one(lit(7)), 0, 0))
	coded(t, x, nil, true)
}

// TestMissing (7.1, P2, P3): a name that is not there, wherever it is, and whatever else there is: ErrMissing, which has no place, and no code.
func TestMissing(t *testing.T) {
	names := namesOf(t)
	x, a := one(ref(3, "x")), one(ref(4, "a"))
	tooMuch := many(many(many(many(a, 12, 12), 12, 12), 12, 12), 12, 12)
	for i, p := range []*api.Pattern{
		x, one(not(ref(3, "x"))), one(two(api.Or, lit('a'), ref(3, "x"))), one(two(api.Or, ref(3, "x"), lit('a'))),
		one(two(api.And, lit(), ref(3, "x"))), one(two(api.Less, ref(3, "a"), ref(3, "x"))), one(ref(3, "")), one(ref(3, "aa")), one(ref(3, "A")),
		cat(a, x), cat(x, a), cat(a, a, x, a), alt(a, x), alt(x, a), cat(alt(), x), alt(cat(), x), cat(edge(), dot(), x),
		many(x, 0, -1), many(x, 0, 1), many(x, 0, 0), many(x, 1, -1), many(x, 12, 12), many(many(x, 0, 0), 0, 0),
		cat(tooMuch, x), cat(x, tooMuch), alt(tooMuch, x), alt(x, tooMuch), many(cat(tooMuch, x), 0, 0), many(cat(tooMuch, many(x, 0, 0)), 12, 12),
		cat(tooMuch, tooMuch, one(two(api.Or, lit(1), not(ref(1, "b0"))))),
	} {
		for _, back := range []bool{true, false} {
			c, err := code.Pattern(p, names, back)
			if !isError(err, api.ErrMissing, -1) || !isNone(c) {
				t.Errorf("%d, back %v: Pattern is %v, %v", i, back, c, err)
			}
		}
	}
	for _, none := range []map[string]api.Set{nil, {}, {"x": nil}} {
		c, err := code.Pattern(a, none, false)
		if !isError(err, api.ErrMissing, -1) || !isNone(c) {
			t.Errorf("of %v: Pattern is %v, %v", none, c, err)
		}
	}
	// a name that stands for no point at all is there
	if got := where(t, x, map[string]api.Set{"x": nil}, utf.Decode("ab"), false); got != "" {
		t.Errorf("x, which is empty, matches behind %q", got)
	}
}

// TestLikeStands (7.1): what has no name is not missing: without names all is as it is with them.
func TestLikeStands(t *testing.T) {
	l := utf.Decode("a\xffb")
	for _, names := range []map[string]api.Set{nil, {}, {"a": nil}} {
		x := cat(many(alt(one(lit('a')), dot()), 1, 2), edge())
		for place := range len(l) + 1 {
			if matches(t, coded(t, x, names, false), pointsOf(l), place, false) != mean.Stands(x, names, l, place, false) {
				t.Errorf("of %s at %d", fmt.Sprint(names), place)
			}
		}
	}
}
