package code_test

import (
	"slices"
	"testing"

	"caesura/api"
	"caesura/code"
	"caesura/utf"
	"caesura/vm"
)

// nest puts a pattern into others, so deep.
func nest(x *api.Pattern, deep int, about func(x *api.Pattern) *api.Pattern) *api.Pattern {
	for range deep {
		x = about(x)
	}
	return x
}

// ends asks for a pattern's code, both ways: it is Right, or too much.
func ends(t *testing.T, x *api.Pattern) {
	t.Helper()
	for _, back := range []bool{true, false} {
		c, err := code.Pattern(x, nil, back)
		if err == nil != vm.Right(c) || err != nil && (!isNone(c) || !isError(err, api.ErrLimit, -1)) {
			t.Errorf("Pattern, back %v, is %v, %v", back, c, err)
		}
	}
}

// TestAsDeepAsTheLimits (P1): as many parts in one another as the limits name.
func TestAsDeepAsTheLimits(t *testing.T) {
	const deep = 1<<16 - 8
	l := utf.Decode("ab")
	for i, c := range []struct {
		about    func(x *api.Pattern) *api.Pattern
		x        *api.Pattern
		back, on string
	}{
		{func(x *api.Pattern) *api.Pattern { return many(x, 0, -1) }, dot(), "0 1 2", "0 1 2"},
		{func(x *api.Pattern) *api.Pattern { return many(x, 0, 1) }, dot(), "0 1 2", "0 1 2"},
		{func(x *api.Pattern) *api.Pattern { return many(x, 1, 1) }, dot(), "1 2", "0 1"},
		{func(x *api.Pattern) *api.Pattern { return many(x, 0, 0) }, dot(), "0 1 2", "0 1 2"},
		{func(x *api.Pattern) *api.Pattern { return many(x, 1, -1) }, one(lit('b')), "2", "1"},
		{func(x *api.Pattern) *api.Pattern { return many(many(x, 12, 12), 0, 0) }, dot(), "0 1 2", "0 1 2"},
		{func(x *api.Pattern) *api.Pattern { return many(x, 12, 12) }, many(one(lit('b')), 0, -1), "0 1 2", "0 1 2"},
		{func(x *api.Pattern) *api.Pattern { return many(x, 12, 12) }, cat(), "0 1 2", "0 1 2"},
		{func(x *api.Pattern) *api.Pattern { return many(x, 12, 12) }, edge(), "0", "2"},
		{func(x *api.Pattern) *api.Pattern { return many(x, 12, 12) }, alt(), "", ""},
		{func(x *api.Pattern) *api.Pattern { return many(x, 12, 12) }, alt(cat(), edge()), "0 1 2", "0 1 2"},
		{func(x *api.Pattern) *api.Pattern { return cat(x) }, one(lit('b')), "2", "1"},
		{func(x *api.Pattern) *api.Pattern { return alt(x) }, one(lit('b')), "2", "1"},
		{func(x *api.Pattern) *api.Pattern { return many(alt(x), 12, 12) }, many(one(lit('b')), 0, -1), "0 1 2", "0 1 2"},
		{func(x *api.Pattern) *api.Pattern { return many(cat(x, cat()), 0, 12) }, many(one(lit('b')), 0, -1), "0 1 2", "0 1 2"},
		{func(x *api.Pattern) *api.Pattern { return cat(cat(), x, cat()) }, one(lit('a')), "1", "0"},
		{func(x *api.Pattern) *api.Pattern { return cat(many(dot(), 0, 0), x) }, edge(), "0", "2"},
	} {
		x := nest(c.x, deep, c.about)
		if got := where(t, x, nil, l, true); got != c.back {
			t.Errorf("%d: code matches ahead of %q, not %q", i, got, c.back)
		}
		if got := where(t, x, nil, l, false); got != c.on {
			t.Errorf("%d: code matches behind %q, not %q", i, got, c.on)
		}
	}
	for i, about := range []func(x *api.Pattern) *api.Pattern{
		func(x *api.Pattern) *api.Pattern { return many(x, 12, 12) },
		func(x *api.Pattern) *api.Pattern { return many(x, 2, 12) },
		func(x *api.Pattern) *api.Pattern { return many(x, 2, -1) },
		func(x *api.Pattern) *api.Pattern { return many(cat(x), 2, 2) },
		func(x *api.Pattern) *api.Pattern { return cat(dot(), x) },
		func(x *api.Pattern) *api.Pattern { return cat(x, dot()) },
		func(x *api.Pattern) *api.Pattern { return cat(x, many(x, 0, 0), dot()) },
	} {
		if i < 6 && !isLimit(nest(dot(), deep, about), nil) {
			t.Errorf("%d: it is not ErrLimit", i)
		}
		ends(t, nest(dot(), 12, about))
	}
	for _, about := range []func(x *api.Pattern) *api.Pattern{
		func(x *api.Pattern) *api.Pattern { return alt(x, alt()) },
		func(x *api.Pattern) *api.Pattern { return alt(cat(), x) },
		func(x *api.Pattern) *api.Pattern { return many(alt(cat(x, edge()), dot()), 1, 1) },
		func(x *api.Pattern) *api.Pattern { return many(alt(cat(x, edge()), dot()), 0, -1) },
		func(x *api.Pattern) *api.Pattern { return many(alt(x, edge()), 2, 3) },
		func(x *api.Pattern) *api.Pattern { return cat(edge(), x) },
		func(x *api.Pattern) *api.Pattern { return many(x, 0, 12) },
	} {
		ends(t, nest(dot(), deep, about))
		ends(t, nest(edge(), deep, about))
		ends(t, nest(one(lit()), 300, about))
	}
}

// TestManyInMany (P1): every call soon ends, however often what is written with nothing stands in others, so often.
func TestManyInMany(t *testing.T) {
	nothings := slices.Repeat([]*api.Pattern{cat(), many(dot(), 0, 0), cat(cat(), cat())}, 3_000)
	for _, about := range []func(x *api.Pattern) *api.Pattern{
		func(x *api.Pattern) *api.Pattern { return many(x, 11, 11) },
		func(x *api.Pattern) *api.Pattern { return many(x, 12, -1) },
		func(x *api.Pattern) *api.Pattern { return many(cat(x, cat()), 12, 12) },
		func(x *api.Pattern) *api.Pattern { return many(x, 2, 12) },
		func(x *api.Pattern) *api.Pattern { return many(alt(x, cat()), 3, 4) },
	} {
		for deep := range 6 {
			x := nest(cat(append(nothings, dot())...), deep, about)
			ends(t, x)
			ends(t, cat(x, x))
		}
	}
	for deep := range 20 {
		x := nest(cat(nothings...), deep, func(x *api.Pattern) *api.Pattern { return many(x, 12, 12) })
		if c := coded(t, x, nil, true); len(c.Ins) != 1 {
			t.Errorf("%d deep: %d instructions of nothing", deep, len(c.Ins))
		}
	}
	x := nest(cat(append(nothings, dot())...), 3, func(x *api.Pattern) *api.Pattern { return many(x, 11, 11) })
	if c := coded(t, x, nil, false); len(c.Ins) != 11*11*11+1 {
		t.Errorf("%d instructions", len(c.Ins))
	}
}

// TestWide (P1): many Parts, as many as fit, and many more.
func TestWide(t *testing.T) {
	ones := cat()
	for i := range 300_000 {
		ones.Parts = append(ones.Parts, one(lit(i)))
	}
	if !isLimit(ones, nil) {
		t.Error("a long Cat is not ErrLimit")
	}
	ends(t, alt(ones.Parts...))
	l := utf.Decode("ab\u0100\u0200")
	if got := where(t, alt(ones.Parts[:600]...), nil, l, false); got != "0 1 2 3" {
		t.Errorf("an Alt of 600 matches behind %q", got)
	}
	if got := where(t, alt(ones.Parts['b':0x200]...), nil, l, true); got != "2 3" {
		t.Errorf("an Alt of less matches ahead of %q", got)
	}
}

// TestNothingThere (P1): what is not there is no reason to panic.
func TestNothingThere(t *testing.T) {
	for _, x := range []*api.Pattern{
		nil, {}, {Code: -1}, {Code: 99}, {Code: api.One}, {Code: api.One, Kind: &api.Kind{}}, {Code: api.One, Kind: not(nil)},
		{Code: api.Many}, {Code: api.Many, Lo: 3, Hi: -1}, cat(nil), alt(nil, nil), many(nil, 0, -1), many(nil, 2, 3),
		many(dot(), -3, -1), many(dot(), -3, 2), many(dot(), 3, 2), many(dot(), 1<<40, -1), many(cat(), 1<<40, 1<<41), many(dot(), 0, 1<<40),
		many(many(dot(), 1<<40, -1), 1<<40, -1), many(many(dot(), 0, 1<<40), -1, 1<<40), many(many(dot(), -5, -5), -5, -5),
		{Code: api.Many, Parts: []*api.Pattern{dot(), edge()}, Hi: -1},
	} {
		ends(t, x)
		for _, f := range []api.File{{}, {Rules: []api.Rule{{}, {Before: x, After: x}, {Before: x}, {After: x}}}} {
			if p, err := code.Compile(f); err == nil && !vm.RightProgram(p) {
				t.Errorf("Compile is %v", p)
			}
		}
	}
}
