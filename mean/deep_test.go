package mean_test

import (
	"slices"
	"strings"
	"testing"

	"caesura/api"
	"caesura/mean"
	"caesura/utf"
)

// nest puts a pattern into others, so deep.
func nest(x *api.Pattern, deep int, about func(x *api.Pattern) *api.Pattern) *api.Pattern {
	for range deep {
		x = about(x)
	}
	return x
}

// TestManyInMany (P1): every call ends, however often each Many may ask the one in it.
func TestManyInMany(t *testing.T) {
	b := one(lit('b'))
	l := utf.Decode("b" + strings.Repeat("a", 60))
	perhaps := many(dot(), 0, 1)
	for i, c := range []struct {
		x     *api.Pattern
		deep  int
		about func(x *api.Pattern) *api.Pattern
	}{
		{cat(b, dot()), 40, func(x *api.Pattern) *api.Pattern { return many(x, 0, -1) }},
		{dot(), 40, func(x *api.Pattern) *api.Pattern { return many(x, 12, 12) }},
		{cat(), 40, func(x *api.Pattern) *api.Pattern { return many(x, 12, 12) }},
		{alt(b, cat()), 40, func(x *api.Pattern) *api.Pattern { return many(x, 12, -1) }},
		{edge(), 40, func(x *api.Pattern) *api.Pattern { return many(x, 0, 12) }},
		{dot(), 40, func(x *api.Pattern) *api.Pattern { return many(alt(cat(x, edge()), dot()), 0, -1) }},
		{dot(), 40, func(x *api.Pattern) *api.Pattern { return many(alt(cat(edge(), x), dot()), 0, -1) }},
		{dot(), 40, func(x *api.Pattern) *api.Pattern { return many(alt(cat(x, edge()), perhaps), 12, 12) }},
		{dot(), 40, func(x *api.Pattern) *api.Pattern { return many(alt(cat(edge(), x), perhaps), 11, 12) }},
		{dot(), 8, func(x *api.Pattern) *api.Pattern { return cat(many(x, 0, -1), many(alt(x, b), 2, 3)) }},
	} {
		x := nest(c.x, c.deep, c.about)
		for _, y := range []*api.Pattern{x, cat(b, x, edge()), cat(edge(), x, b), cat(b, x, b), cat(edge(), b, x), many(cat(b, x), 3, 4)} {
			for _, place := range []int{0, 30, len(l)} {
				mean.Stands(y, nil, l, place, true)
				mean.Stands(y, nil, l, place, false)
			}
			rules := []api.Rule{{Before: y, After: y}, {Break: true, Before: y, After: dot()}}
			if got, err := mean.Breaks(api.File{Rules: rules}, l); err != nil || len(got) < 2 {
				t.Errorf("%d: Breaks is %v, %v", i, got, err)
			}
		}
	}
}

// TestDeepMeant: Many within Many, held against 5.1, word by word: with one ahead, from which the ones within are asked place by place.
func TestDeepMeant(t *testing.T) {
	names := namesOf(t)
	d := die(12)
	for range 60 {
		text := "b" + drawText(&d, 6) + strings.Repeat("a", d.n(6))
		l := utf.Decode(text)
		x := patternOf(t, drawPattern(&d, 1))
		for range 1 + d.n(5) {
			y := patternOf(t, drawPattern(&d, 0))
			lo := d.n(3)
			x = many(alt(cat(x, edge()), cat(edge(), x), y, cat(y, x)), lo, []int{-1, lo, lo + 4, api.MaxTimes}[d.n(4)])
		}
		for _, y := range []*api.Pattern{x, cat(one(lit('b')), x, one(lit('a'))), cat(one(lit('a')), x, one(lit('b')))} {
			back, on := meant(y, names, l, 0), meant(y, names, l, len(l))
			for place := range len(l) + 1 {
				ends := slices.ContainsFunc(back, func(row []bool) bool { return row[place] })
				if mean.Stands(y, names, l, place, true) != ends || mean.Stands(y, names, l, place, false) != slices.Contains(on[place], true) {
					t.Fatalf("Stands at %d of %q is wrong", place, text)
				}
			}
		}
	}
}

// TestAsDeepAsTheLimits (P1): as many parts in one another as the limits name.
func TestAsDeepAsTheLimits(t *testing.T) {
	const deep = 1<<16 - 8
	l := utf.Decode("ab")
	for i, c := range []struct {
		about    func(x *api.Pattern) *api.Pattern
		x        *api.Pattern
		back, on string
	}{
		{func(x *api.Pattern) *api.Pattern { return many(x, 0, -1) }, dot(), "0 1 2", "0 1 2"},
		{func(x *api.Pattern) *api.Pattern { return many(x, 1, -1) }, one(lit('b')), "2", "1"},
		{func(x *api.Pattern) *api.Pattern { return many(x, 2, 12) }, dot(), "", ""},
		{func(x *api.Pattern) *api.Pattern { return many(x, 12, 12) }, cat(), "0 1 2", "0 1 2"},
		{func(x *api.Pattern) *api.Pattern { return many(x, 12, 12) }, edge(), "0", "2"},
		{func(x *api.Pattern) *api.Pattern { return cat(x) }, one(lit('b')), "2", "1"},
		{func(x *api.Pattern) *api.Pattern { return alt(x, alt()) }, one(lit('b')), "2", "1"},
		{func(x *api.Pattern) *api.Pattern { return cat(cat(), x, cat()) }, one(lit('a')), "1", "0"},
		{func(x *api.Pattern) *api.Pattern { return many(alt(cat(x, edge()), dot()), 1, 1) }, dot(), "1 2", "0 1"},
		{func(x *api.Pattern) *api.Pattern { return cat(dot(), x) }, dot(), "", ""},
	} {
		x := nest(c.x, deep, c.about)
		if got := where(x, nil, l, true); got != c.back {
			t.Errorf("%d: stands ahead of %q, not %q", i, got, c.back)
		}
		if got := where(x, nil, l, false); got != c.on {
			t.Errorf("%d: stands behind %q, not %q", i, got, c.on)
		}
	}
}

// TestWide: many Parts, many rules.
func TestWide(t *testing.T) {
	const wide = 20_000
	l := utf.Decode(strings.Repeat("a", wide) + "b")
	x := cat(slices.Repeat([]*api.Pattern{dot()}, wide)...)
	if !mean.Stands(x, nil, l, wide, true) || !mean.Stands(x, nil, l, 1, false) || mean.Stands(x, nil, l, wide-1, true) || mean.Stands(x, nil, l, 2, false) {
		t.Errorf("a Cat of %d Parts", wide)
	}
	y := alt(append(slices.Repeat([]*api.Pattern{one(lit('c'))}, 1000), one(lit('b')))...)
	if !mean.Stands(y, nil, l, wide+1, true) || mean.Stands(y, nil, l, wide, true) {
		t.Errorf("an Alt of many Parts")
	}
	rules := slices.Repeat([]api.Rule{{Before: one(lit('c')), After: cat()}}, 5000)
	rules = append(rules, api.Rule{Break: true, Before: one(lit('b')), After: cat()})
	if got, err := mean.Breaks(api.File{Rules: rules}, utf.Decode("abc")); err != nil || numbers(got) != "0 2 3" {
		t.Errorf("Breaks by many rules is %v, %v", got, err)
	}
}

// TestNothingThere (P1): what is not there is no reason to panic.
func TestNothingThere(t *testing.T) {
	for _, l := range [][]api.Unit{nil, {}, utf.Decode("ab")} {
		for _, x := range []*api.Pattern{
			nil, {}, {Code: -1}, {Code: 99}, {Code: api.One}, {Code: api.One, Kind: &api.Kind{}}, {Code: api.One, Kind: not(nil)},
			{Code: api.Many}, {Code: api.Many, Lo: 3, Hi: -1}, cat(nil), alt(nil, nil), many(nil, 0, -1), many(nil, 2, 3),
			many(dot(), -3, -1), many(dot(), -3, 2), many(dot(), 3, 2), many(dot(), 1<<40, -1), many(cat(), 1<<40, 1<<41), many(dot(), 0, 1<<40),
			{Code: api.Many, Parts: []*api.Pattern{dot(), edge()}, Hi: -1},
			one(&api.Kind{Code: api.Lit, Set: api.Set{{Lo: 9, Hi: 3}, {Lo: -5, Hi: 1 << 40}, {Lo: 0, Hi: 0}}}),
		} {
			for place := -1; place <= len(l)+1; place++ {
				mean.Stands(x, nil, l, place, true)
				mean.Stands(x, nil, l, place, false)
			}
			mean.Breaks(api.File{Rules: []api.Rule{{}, {Before: x, After: x}, {Before: x}, {After: x}}}, l)
		}
	}
	if l, err := mean.Breaks(api.File{}, nil); err != nil || len(l) != 0 {
		t.Errorf("Breaks of nothing is %v, %v", l, err)
	}
}
