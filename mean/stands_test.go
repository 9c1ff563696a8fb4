package mean_test

import (
	"math"
	"regexp"
	"slices"
	"strconv"
	"strings"
	"testing"

	"caesura/api"
	"caesura/mean"
	"caesura/rule"
	"caesura/set"
	"caesura/utf"
)

// TestStands: patterns of each code: the places ahead of which they stand, and those behind which they do.
func TestStands(t *testing.T) {
	names := namesOf(t)
	for _, c := range []struct{ pattern, text, back, on string }{
		// One: a set, a name
		{"[61]", "aba", "1 3", "0 2"},
		{"a", "aba", "1 3", "0 2"},
		{"b", "aba", "2", "1"},
		{"c", "aba", "", ""},
		{"c", "a\u00e4\xff", "2 3", "1 2"},
		{"[fffd]", "a\u00e4\xff\ufffd", "3 4", "2 3"},
		{"[e4]", "a\u00e4\xff", "2", "1"},
		{"[]", "ab", "", ""},
		{"[0-10ffff]", "ab", "1 2", "0 1"},
		{"[0-60 62-10ffff]", "aba", "2", "1"},
		{"a", "", "", ""},
		// Any
		{".", "", "", ""},
		{".", "a", "1", "0"},
		{".", "a\xff\u00e4", "1 2 3", "0 1 2"},
		{". .", "abc", "2 3", "0 1"},
		{". . . .", "abc", "", ""},
		// Cat: in order
		{"a b", "abab", "2 4", "0 2"},
		{"b a", "abab", "3", "1"},
		{"a b c", "abcab", "3", "0"},
		{"c b a", "abcab", "", ""},
		{"a . a", "abaca", "3 5", "0 2"},
		{"(a b) (a b)", "ababab", "4 6", "0 2"},
		{"a (b c)", "abc", "3", "0"},
		{"(a b) c", "abc", "3", "0"},
		{"a x", "ab", "", ""},
		{"() a ()", "ba", "2", "1"},
		{"", "", "0", "0"},
		{"", "ab", "0 1 2", "0 1 2"},
		// Alt: one of them
		{"a | b", "abc", "1 2", "0 1"},
		{"b | a", "abc", "1 2", "0 1"},
		{"a b | c", "abc", "2 3", "0 2"},
		{"a | a b | a b c", "abc", "1 2 3", "0"},
		{"(a | a b) c", "abcac", "3 5", "0 3"},
		{"a (b | b b)", "abb", "2 3", "0"},
		{"(a | ) b", "bab", "1 3", "0 1 2"},
		{"| a", "ba", "0 1 2", "0 1 2"},
		{"[] | []", "ba", "", ""},
		{"[] | b | []", "ba", "1", "0"},
		// Many
		{"a*", "ba", "0 1 2", "0 1 2"},
		{"a* b", "aabb", "3 4", "0 1 2 3"},
		{"b a*", "baab", "1 2 3 4", "0 3"},
		{"a+", "baab", "2 3", "1 2"},
		{"b a+ b", "baabbb", "4", "0"},
		{"b a? b", "babbaab", "3 4", "0 2"},
		{"b a{2} b", "babaabaaab", "6", "2"},
		{"b a{2,} b", "babaabaaab", "6 10", "2 5"},
		{"b a{1,2} b", "babaabaaab", "3 6", "0 2"},
		{"b a{0} b", "bb", "2", "0"},
		{"b a{0,0} b", "bab", "", ""},
		{"(a b)*", "ab", "0 1 2", "0 1 2"},
		{"c (a b)* c", "cabcababcac", "4 9", "0 3"},
		{"c (a | b b){2} c", "cabbcbbacaac", "5 9 12", "0 4 8"},
		{"c (a{2}){2} c", "caaaacaaac", "6", "0"},
		{"c (a{1,2} b)+ c", "cabaabcaaabc", "7", "0"},
		{"c (a* b*)* c", "cababbac", "8", "0"},
		{".{2}", "abc", "2 3", "0 1"},
		{".{3,}", "abcabc", "3 4 5 6", "0 1 2 3"},
	} {
		x, l := patternOf(t, c.pattern), utf.Decode(c.text)
		if got := where(x, names, l, true); got != c.back {
			t.Errorf("%q stands in %q ahead of %q, not %q", c.pattern, c.text, got, c.back)
		}
		if got := where(x, names, l, false); got != c.on {
			t.Errorf("%q stands in %q behind %q, not %q", c.pattern, c.text, got, c.on)
		}
	}
}

// TestEdge: it stands where no unit is ahead of it (back), or behind it, wherever in the pattern it is.
func TestEdge(t *testing.T) {
	names := namesOf(t)
	for _, c := range []struct{ pattern, text, back, on string }{
		{"$", "", "0", "0"},
		{"$", "a", "0", "1"},
		{"$", "ab", "0", "2"},
		{"$ $", "ab", "0", "2"},
		{"$*", "ab", "0 1 2", "0 1 2"},
		{"$+", "ab", "0", "2"},
		{"$?", "ab", "0 1 2", "0 1 2"},
		{"${0}", "ab", "0 1 2", "0 1 2"},
		{"${12}", "ab", "0", "2"},
		{"${3,}", "ab", "0", "2"},
		{"$ a", "aa", "1", ""},
		{"a $", "aa", "", "1"},
		{"$ . .", "abc", "2", ""},
		{". . $", "abc", "", "1"},
		{"$ .* $", "abc", "0", "3"},
		{"$ .* $", "", "0", "0"},
		{"$ . $", "a", "", ""},
		{". $ .", "ab", "", ""},
		{"$ | a", "ba", "0 2", "1 2"},
		{"($ | b) a", "aba", "1 3", "1"},
		{"a ($ | b)", "aba", "2", "0 2"},
		{"($ | .)*", "ab", "0 1 2", "0 1 2"},
		{"($ a*)*", "aab", "0 1 2 3", "0 1 2 3"},
		{"($ a*)+", "aab", "0 1 2", "3"},
		{"(a* $)+", "baa", "0", "1 2 3"},
		{"$ (. .)*", "abcde", "0 2 4", "5"},
		{"(. .)* $", "abcde", "0", "1 3 5"},
	} {
		x, l := patternOf(t, c.pattern), utf.Decode(c.text)
		if got := where(x, names, l, true); got != c.back {
			t.Errorf("%q stands in %q ahead of %q, not %q", c.pattern, c.text, got, c.back)
		}
		if got := where(x, names, l, false); got != c.on {
			t.Errorf("%q stands in %q behind %q, not %q", c.pattern, c.text, got, c.on)
		}
	}
}

// TestKindWithError: it never stands, and what is about it may stand without it.
func TestKindWithError(t *testing.T) {
	names := namesOf(t)
	l := utf.Decode("ab")
	x, a := one(ref(3, "x")), one(ref(4, "a"))
	for _, c := range []struct {
		x        *api.Pattern
		back, on string
	}{
		{x, "", ""},
		{one(not(ref(3, "x"))), "", ""},
		{one(two(api.Or, lit('a'), ref(3, "x"))), "", ""},
		{one(two(api.Or, ref(3, "x"), lit('a'))), "", ""},
		{one(two(api.And, lit(), ref(3, "x"))), "", ""},
		{one(two(api.Less, ref(3, "a"), ref(3, "x"))), "", ""},
		{cat(a, x), "", ""},
		{cat(x, a), "", ""},
		{alt(a, x), "1", "0"},
		{alt(x, a), "1", "0"},
		{many(x, 0, -1), "0 1 2", "0 1 2"},
		{many(x, 0, 1), "0 1 2", "0 1 2"},
		{many(x, 0, 0), "0 1 2", "0 1 2"},
		{many(x, 1, -1), "", ""},
		{many(x, 12, 12), "", ""},
		{cat(a, many(x, 0, 3)), "1", "0"},
		{many(alt(x, a), 1, -1), "1", "0"},
	} {
		if got := where(c.x, names, l, true); got != c.back {
			t.Errorf("%s stands ahead of %q, not %q", rule.Text(c.x), got, c.back)
		}
		if got := where(c.x, names, l, false); got != c.on {
			t.Errorf("%s stands behind %q, not %q", rule.Text(c.x), got, c.on)
		}
	}
	for _, none := range []map[string]api.Set{nil, {}} {
		if where(a, none, l, true)+where(a, none, l, false) != "" {
			t.Errorf("a name stands for something in %v", none)
		}
	}
	// an empty set is a kind without an error
	if got := where(one(not(ref(3, "x"))), map[string]api.Set{"x": nil}, l, false); got != "0 1" {
		t.Errorf("~x of an empty x stands behind %q", got)
	}
	// what names stand for is what is handed in, not what some file says
	if got := where(a, map[string]api.Set{"a": {{Lo: 'b', Hi: 'b'}}}, l, false); got != "1" {
		t.Errorf("a, being b, stands behind %q", got)
	}
	// kinds of several
	for _, c := range []struct {
		k  *api.Kind
		on string
	}{
		{two(api.Or, ref(1, "a"), ref(2, "b")), "0 1"},
		{two(api.And, ref(1, "a"), ref(2, "b")), ""},
		{two(api.Less, not(lit()), ref(2, "b")), "0 2"},
		{not(two(api.Or, ref(1, "a"), ref(2, "b"))), "2"},
	} {
		if got := where(one(c.k), names, utf.Decode("abc"), false); got != c.on {
			t.Errorf("%s stands behind %q, not %q", set.Print(c.k.Set), got, c.on)
		}
	}
}

// TestNoParts: a Cat of no Parts stands anywhere, an Alt of none nowhere.
func TestNoParts(t *testing.T) {
	l := utf.Decode("ab")
	for _, c := range []struct {
		x        *api.Pattern
		back, on string
	}{
		{cat(), "0 1 2", "0 1 2"},
		{&api.Pattern{Code: api.Cat, Parts: []*api.Pattern{}}, "0 1 2", "0 1 2"},
		{cat(cat(), cat()), "0 1 2", "0 1 2"},
		{cat(cat(), dot(), cat()), "1 2", "0 1"},
		{cat(dot()), "1 2", "0 1"},
		{alt(), "", ""},
		{alt(alt(), alt()), "", ""},
		{alt(dot()), "1 2", "0 1"},
		{alt(alt(), cat()), "0 1 2", "0 1 2"},
		{cat(alt()), "", ""},
		{cat(dot(), alt()), "", ""},
		{cat(alt(), dot()), "", ""},
		{many(alt(), 0, -1), "0 1 2", "0 1 2"},
		{many(alt(), 1, -1), "", ""},
		{many(cat(), 12, 12), "0 1 2", "0 1 2"},
	} {
		if got := where(c.x, nil, l, true); got != c.back {
			t.Errorf("%q stands ahead of %q, not %q", rule.Text(c.x), got, c.back)
		}
		if got := where(c.x, nil, l, false); got != c.on {
			t.Errorf("%q stands behind %q, not %q", rule.Text(c.x), got, c.on)
		}
	}
}

// TestTimes: a unit so often, between two others, for all Lo and Hi that there are.
func TestTimes(t *testing.T) {
	a, b := one(lit('a')), one(lit('b'))
	for lo := range api.MaxTimes + 1 {
		for hi := -1; hi <= api.MaxTimes; hi++ {
			if 0 <= hi && hi < lo {
				continue
			}
			x := cat(b, many(a, lo, hi), b)
			for n := range api.MaxTimes + 3 {
				l := utf.Decode("b" + strings.Repeat("a", n) + "b")
				want := lo <= n && (hi < 0 || n <= hi)
				if mean.Stands(x, nil, l, len(l), true) != want || mean.Stands(x, nil, l, 0, false) != want {
					t.Errorf("a from %d to %d times: of %d: %v", lo, hi, n, !want)
				}
			}
		}
	}
	// Hi below 0 is any times, whatever it is
	l := utf.Decode("baaaab")
	for _, hi := range []int{-1, -2, -99, math.MinInt} {
		if !mean.Stands(cat(b, many(a, 2, hi), b), nil, l, 0, false) || mean.Stands(cat(b, many(a, 5, hi), b), nil, l, 0, false) {
			t.Errorf("Hi %d is not any times", hi)
		}
	}
}

// TestSamePlace: a Part that stands from a place to the same place does so any times: what it must do so often is done there, and all else may be less.
func TestSamePlace(t *testing.T) {
	names := namesOf(t)
	for _, c := range []struct{ pattern, text, back, on string }{
		{"()*", "ab", "0 1 2", "0 1 2"},
		{"()+", "ab", "0 1 2", "0 1 2"},
		{"(){12}", "ab", "0 1 2", "0 1 2"},
		{"(){12,}", "ab", "0 1 2", "0 1 2"},
		{"b a?{12} b", "bbbab", "2 3 5", "0 1 2"},
		{"b a*{12} b", "bbbaab", "2 3 6", "0 1 2"},
		{"b (a | ){3} b", "bbabaabaaabaaaab", "2 4 7 11", "0 1 3 6"},
		{"b ( | a){3} b", "bbabaabaaabaaaab", "2 4 7 11", "0 1 3 6"},
		{"b (a?){3,} b", "bbabaabaaabaaaab", "2 4 7 11 16", "0 1 3 6 10"},
		{"b (a | $)* b", "baab", "4", "0"},
		{"($ | a){3} b", "aaaab", "5", "1"},
		{"($ | a){4} b", "aab", "3", ""},
		{"b ($ | a){4}", "baa", "", "0"},
		{"b ($ | a){2}", "baaa", "3", "0"},
		{"($ a?)*", "aa", "0 1 2", "0 1 2"},
		{"($ a?){3} .", "aab", "1 2", ""},
		{"(a* | b*)* c", "abbac", "5", "0 1 2 3 4"},
		{"((a*)*)* c", "aac", "3", "0 1 2"},
		{"((a?){2}){2} c", "aaaaac", "6", "1 2 3 4 5"},
		{"b ((a?){2}){2} c", "baaaacbaaaaac", "6", "0"},
	} {
		x, l := patternOf(t, c.pattern), utf.Decode(c.text)
		if got := where(x, names, l, true); got != c.back {
			t.Errorf("%q stands in %q ahead of %q, not %q", c.pattern, c.text, got, c.back)
		}
		if got := where(x, names, l, false); got != c.on {
			t.Errorf("%q stands in %q behind %q, not %q", c.pattern, c.text, got, c.on)
		}
	}
}

// TestBeyond: nothing stands at a place that there is none of.
func TestBeyond(t *testing.T) {
	for _, text := range []string{"", "a", "ab", strings.Repeat("a", 63), strings.Repeat("a", 64), strings.Repeat("a", 65)} {
		l := utf.Decode(text)
		l = append(l, api.Unit{Point: 'a'})[:len(l)] // what stands behind the list is no unit of it
		for _, x := range []*api.Pattern{cat(), many(dot(), 0, -1), edge(), dot(), alt(cat(), dot()), one(lit('a'))} {
			for _, back := range []bool{true, false} {
				for _, place := range []int{-1, -2, -64, math.MinInt, len(l) + 1, len(l) + 2, len(l) + 64, math.MaxInt} {
					if mean.Stands(x, nil, l, place, back) {
						t.Errorf("%q stands at %d of %q", rule.Text(x), place, text)
					}
				}
			}
		}
		if !mean.Stands(cat(), nil, l, 0, true) || !mean.Stands(cat(), nil, l, len(l), false) || mean.Stands(dot(), nil, l, len(l), false) || mean.Stands(dot(), nil, l, 0, true) {
			t.Errorf("the ends of %q", text)
		}
	}
}

// TestUnits: a unit is its Point, whatever else it tells, and Any is also one that is no code point.
func TestUnits(t *testing.T) {
	l := []api.Unit{{Point: 'a', At: 99, Len: -1}, {Point: -1}, {Point: api.MaxPoint + 1}, {Point: math.MinInt}, {Point: math.MaxInt}, {Point: 'a'}, {Point: 0}, {Point: api.MaxPoint}}
	if got := where(one(lit('a')), nil, l, false); got != "0 5" {
		t.Errorf("a stands behind %q", got)
	}
	if got := where(one(not(lit())), nil, l, false); got != "0 5 6 7" {
		t.Errorf("~[] stands behind %q", got)
	}
	if got := where(dot(), nil, l, true); got != "1 2 3 4 5 6 7 8" {
		t.Errorf("Any stands ahead of %q", got)
	}
}

// TestLong: places of long texts, on either side of where something may be cut.
func TestLong(t *testing.T) {
	for _, n := range []int{62, 63, 64, 65, 126, 127, 128, 129, 200} {
		l := utf.Decode(strings.Repeat("a", n-1) + "b")
		var all []string
		for place := range n + 1 {
			all = append(all, strconv.Itoa(place))
		}
		for _, c := range []struct {
			pattern  string
			back, on []string
		}{
			{".", all[1:], all[:n]},
			{"[61]", all[1:n], all[:n-1]},
			{"[62]", all[n:], all[n-1 : n]},
			{"[61]* [62]", all[n:], all[:n]},
			{"$ [61]*", all[:n], all[n:]},
			{". [62] $", nil, all[n-2 : n-1]},
			{"$ .{12}", all[12:13], nil},
			{".{12} $", nil, all[n-12 : n-11]},
			{".{12}", all[12:], all[:n-11]},
			{"($ .*)+", all, all[n:]},
		} {
			x := patternOf(t, c.pattern)
			if got := where(x, nil, l, true); got != strings.Join(c.back, " ") {
				t.Errorf("%d units: %q stands ahead of %q", n, c.pattern, got)
			}
			if got := where(x, nil, l, false); got != strings.Join(c.on, " ") {
				t.Errorf("%d units: %q stands behind %q", n, c.pattern, got)
			}
		}
	}
}

// TestMeant: many patterns at all places of many texts, held against 5.1, word by word.
func TestMeant(t *testing.T) {
	names := namesOf(t)
	d := die(5)
	said := map[bool]int{}
	for range 4000 {
		s, text := drawPattern(&d, 3), drawText(&d, 8)
		x, l := patternOf(t, s), utf.Decode(text)
		for _, back := range []bool{true, false} {
			for place := -1; place <= len(l)+1; place++ {
				got, want := mean.Stands(x, names, l, place, back), meantAt(x, names, l, place, back)
				said[want]++
				if got != want {
					t.Fatalf("Stands(%q, %q, %d, %v) is %v", s, text, place, back, got)
				}
			}
		}
	}
	if said[true] < 1000 || said[false] < 1000 {
		t.Errorf("what was drawn is one-sided: %v", said)
	}
}

// expression is a pattern as package regexp reads it, Edge being another one on either side.
func expression(x *api.Pattern, names map[string]api.Set, edge string) string {
	var parts []string
	for _, part := range x.Parts {
		parts = append(parts, expression(part, names, edge))
	}
	switch x.Code {
	case api.One:
		s := x.Kind.Set
		if x.Kind.Code == api.Ref {
			s = names[x.Kind.Name]
		}
		e := ""
		for _, r := range s {
			e += `\x{` + strconv.FormatInt(int64(r.Lo), 16) + `}-\x{` + strconv.FormatInt(int64(r.Hi), 16) + `}`
		}
		if e == "" {
			return `[^\x{0}-\x{10ffff}]`
		}
		return "[" + e + "]"
	case api.Any:
		return "(?s:.)"
	case api.Edge:
		return edge
	case api.Cat:
		return "(?:" + strings.Join(parts, "") + ")"
	case api.Alt:
		return "(?:" + strings.Join(parts, "|") + ")"
	}
	hi := ""
	if x.Hi >= 0 {
		hi = strconv.Itoa(x.Hi)
	}
	return "(?:" + parts[0] + "){" + strconv.Itoa(x.Lo) + "," + hi + "}"
}

// TestLikeExpressions: many patterns, held against package regexp, on what is ahead of a place, and on what is behind it.
func TestLikeExpressions(t *testing.T) {
	names := namesOf(t)
	d := die(6)
	for range 4000 {
		s := drawPattern(&d, 2)
		x := patternOf(t, s)
		text := strings.ReplaceAll(drawText(&d, 7), "\xff", "\ufffd")
		l := utf.Decode(text)
		ahead := regexp.MustCompile(expression(x, names, `\A`) + `\z`)
		behind := regexp.MustCompile(`\A` + expression(x, names, `\z`))
		for place := range len(l) + 1 {
			at := len(text)
			if place < len(l) {
				at = l[place].At
			}
			if got := mean.Stands(x, names, l, place, true); got != ahead.MatchString(text[:at]) {
				t.Fatalf("%q ahead of %d of %q: %v", s, place, text, got)
			}
			if got := mean.Stands(x, names, l, place, false); got != behind.MatchString(text[at:]) {
				t.Fatalf("%q behind %d of %q: %v", s, place, text, got)
			}
		}
	}
}

// mirrored is a pattern as it is read from the other side.
func mirrored(x *api.Pattern) *api.Pattern {
	c := *x
	c.Parts = nil
	for _, part := range x.Parts {
		c.Parts = append(c.Parts, mirrored(part))
	}
	if x.Code == api.Cat {
		slices.Reverse(c.Parts)
	}
	return &c
}

// TestMirror: what stands ahead of a place stands, in the mirror, behind it.
func TestMirror(t *testing.T) {
	names := namesOf(t)
	d := die(7)
	for range 3000 {
		s, text := drawPattern(&d, 3), drawText(&d, 9)
		x, l := patternOf(t, s), utf.Decode(text)
		m, r := mirrored(x), slices.Clone(l)
		slices.Reverse(r)
		for place := range len(l) + 1 {
			for _, back := range []bool{true, false} {
				if mean.Stands(x, names, l, place, back) != mean.Stands(m, names, r, len(l)-place, !back) {
					t.Fatalf("%q at %d of %q, back %v: not so in the mirror", s, place, text, back)
				}
			}
		}
	}
}

// unrolled is a Many of a bounded number of times, without Many.
func unrolled(x *api.Pattern) *api.Pattern {
	rows := alt()
	for n := x.Lo; n <= x.Hi; n++ {
		rows.Parts = append(rows.Parts, cat(slices.Repeat(x.Parts, n)...))
	}
	return rows
}

// TestSoOften: so often is so often: a Many is its Part, written so often; and any times is none, or once and any times more.
func TestSoOften(t *testing.T) {
	names := namesOf(t)
	d := die(8)
	for range 1500 {
		s, text := drawPattern(&d, 2), drawText(&d, 9)
		x, l := patternOf(t, s), utf.Decode(text)
		lo := d.n(4)
		for _, c := range [][2]*api.Pattern{
			{many(x, lo, lo+d.n(4)), nil},
			{many(x, 0, -1), alt(cat(), cat(x, many(x, 0, -1)))},
			{many(x, 0, -1), alt(cat(), cat(many(x, 0, -1), x))},
			{many(x, lo, -1), cat(many(x, 0, -1), many(x, lo, lo))},
		} {
			if c[1] == nil {
				c[1] = unrolled(c[0])
			}
			for _, back := range []bool{true, false} {
				for _, about := range []func(x *api.Pattern) *api.Pattern{
					func(x *api.Pattern) *api.Pattern { return x },
					func(x *api.Pattern) *api.Pattern { return cat(one(lit('a')), x, one(lit('b'))) },
				} {
					a, b := where(about(c[0]), names, l, back), where(about(c[1]), names, l, back)
					if a != b {
						t.Fatalf("%q in %q: %q, but %q: %q", rule.Text(c[0]), text, a, rule.Text(c[1]), b)
					}
				}
			}
		}
	}
}
