package code_test

import (
	"errors"
	"fmt"
	"slices"
	"strings"
	"testing"

	"caesura/api"
	"caesura/check"
	"caesura/code"
	"caesura/mean"
	"caesura/plain"
	"caesura/rule"
	"caesura/utf"
	"caesura/vm"
)

// die: numbers that look drawn, the same each time.
type die uint64

func (d *die) n(most int) int {
	*d = *d*6364136223846793005 + 1442695040888963407
	return int(uint64(*d>>33) % uint64(most))
}

func lit(l ...int) *api.Kind {
	k := &api.Kind{Code: api.Lit}
	for _, p := range l {
		k.Set = append(k.Set, api.Range{Lo: p, Hi: p})
	}
	return k
}

func ref(at int, name string) *api.Kind {
	return &api.Kind{Code: api.Ref, At: at, Name: name}
}

func not(k *api.Kind) *api.Kind { return &api.Kind{Code: api.Not, Left: k} }

func two(code int, left, right *api.Kind) *api.Kind {
	return &api.Kind{Code: code, Left: left, Right: right}
}

func one(k *api.Kind) *api.Pattern { return &api.Pattern{Code: api.One, Kind: k} }

func dot() *api.Pattern { return &api.Pattern{Code: api.Any} }

func edge() *api.Pattern { return &api.Pattern{Code: api.Edge} }

func cat(l ...*api.Pattern) *api.Pattern { return &api.Pattern{Code: api.Cat, Parts: l} }

func alt(l ...*api.Pattern) *api.Pattern { return &api.Pattern{Code: api.Alt, Parts: l} }

func many(x *api.Pattern, lo, hi int) *api.Pattern {
	return &api.Pattern{Code: api.Many, Parts: []*api.Pattern{x}, Lo: lo, Hi: hi}
}

// classes are the names of the tests' patterns.
const classes = "class a = [61]; class b = [62]; class c = ~(a | b); "

// parsed is a file that must be read.
func parsed(t testing.TB, s string) api.File {
	t.Helper()
	f, err := rule.Parse(s)
	if err != nil {
		t.Fatalf("rule.Parse(%q): %v", s, err)
	}
	return f
}

// patternOf is the pattern of a text.
func patternOf(t testing.TB, s string) *api.Pattern {
	t.Helper()
	return parsed(t, "keep "+s+" : ;").Rules[0].Before
}

// namesOf are what the names of classes stand for.
func namesOf(t testing.TB) map[string]api.Set {
	t.Helper()
	m, err := check.Names(parsed(t, classes))
	if err != nil {
		t.Fatalf("check.Names: %v", err)
	}
	return m
}

// pointsOf are the Points of units.
func pointsOf(l []api.Unit) []int {
	var points []int
	for _, u := range l {
		points = append(points, u.Point)
	}
	return points
}

// turned is a list, the last one first.
func turned(l []int) []int {
	l = slices.Clone(l)
	slices.Reverse(l)
	return l
}

// coded is code that there must be.
func coded(t testing.TB, x *api.Pattern, names map[string]api.Set, back bool) api.Code {
	t.Helper()
	c, err := code.Pattern(x, names, back)
	if err != nil {
		t.Fatalf("Pattern(%q, back %v): %v", textOf(x), back, err)
	}
	if !vm.Right(c) {
		t.Fatalf("Pattern(%q, back %v) is not Right: %v", textOf(x), back, c)
	}
	return c
}

// textOf is a pattern's text, as far as it is short.
func textOf(x *api.Pattern) string {
	return fmt.Sprintf("%.300s", rule.Text(x))
}

// matches says whether code matches what is ahead of a place, the nearest point first (back), or what is behind it.
func matches(t testing.TB, c api.Code, points []int, place int, back bool) bool {
	t.Helper()
	read := points[place:]
	if back {
		read = turned(points[:place])
	}
	yes, _, err := vm.Match(c, read)
	if err != nil {
		t.Fatalf("Match(%v, %v): %v", c, read, err)
	}
	return yes
}

// where are all places at which a pattern's code matches, in words.
func where(t testing.TB, x *api.Pattern, names map[string]api.Set, l []api.Unit, back bool) string {
	t.Helper()
	c := coded(t, x, names, back)
	var out []string
	for place := range len(l) + 1 {
		if matches(t, c, pointsOf(l), place, back) {
			out = append(out, fmt.Sprint(place))
		}
	}
	return strings.Join(out, " ")
}

// holds holds a pattern's code, of both ways, against where it Stands, at each place of texts; it counts what was said.
func holds(t testing.TB, x *api.Pattern, names map[string]api.Set, said map[bool]int, texts ...string) {
	t.Helper()
	for _, back := range []bool{true, false} {
		c := coded(t, x, names, back)
		for _, text := range texts {
			l := utf.Decode(text)
			for place := range len(l) + 1 {
				got, want := matches(t, c, pointsOf(l), place, back), mean.Stands(x, names, l, place, back)
				said[want]++
				if got != want {
					t.Fatalf("code of %q, back %v, at %d of %q: %v; %v", textOf(x), back, place, text, got, c)
				}
			}
		}
	}
}

// numbers are numbers in words.
func numbers(l []int) string {
	return strings.Trim(fmt.Sprint(l), "[]")
}

// marked is a text in which @ tells a place, without it, and the place (-1: there is none).
func marked(s string) (string, int) {
	ahead, behind, ok := strings.Cut(s, "@")
	if !ok {
		return s, -1
	}
	return ahead + behind, len(ahead)
}

// isError says whether an error is that one at that place (-1: it has none), as errors.As, and package plain, find it.
func isError(err error, e api.Errno, place int) bool {
	var a *api.At
	if errors.As(err, &a) != (place >= 0) || a != nil && (a.Err != e || a.Place != place) || !errors.Is(err, e) {
		return false
	}
	pe, pp := plain.Place(err)
	return pe == e && pp == place
}

// isNone says whether code is the zero value.
func isNone(c api.Code) bool {
	return c.Sets == nil && c.Ins == nil
}

// drawPattern is a pattern's text, so deep.
func drawPattern(d *die, deep int) string {
	s := ""
	for range d.n(4) {
		unit := []string{"a", "b", "c", ".", "[61]", "[62-63]", "$", "()", "[]", "a"}[d.n(10)]
		if deep > 0 && d.n(5) < 2 {
			unit = "(" + drawPattern(d, deep-1)
			for range d.n(2) {
				unit += "| " + drawPattern(d, deep-1)
			}
			unit += ")"
		}
		times := []string{"", "", "", "*", "+", "?", "{0}", "{1}", "{2}", "{2,}", "{0,2}", "{1,3}", "{3,3}", "*{2}", "{2}?", "+*", "?{2,}"}
		s += unit + times[d.n(len(times))] + " "
	}
	return s
}

// drawTree is a pattern that is put together by hand, so deep: also such as Parse does not tell.
func drawTree(d *die, deep int) *api.Pattern {
	if deep == 0 || d.n(6) == 0 {
		return []func() *api.Pattern{
			dot, edge, func() *api.Pattern { return one(lit('a')) }, func() *api.Pattern { return one(lit('a')) },
			func() *api.Pattern { return one(lit('b')) }, func() *api.Pattern { return one(ref(d.n(9), "c")) },
			func() *api.Pattern { return one(not(two(api.Or, ref(1, "a"), lit('b')))) },
			func() *api.Pattern { return one(lit()) }, func() *api.Pattern { return cat() }, func() *api.Pattern { return alt() },
		}[d.n(10)]()
	}
	var parts []*api.Pattern
	for range d.n(4) {
		parts = append(parts, drawTree(d, deep-1))
	}
	switch d.n(5) {
	case 0:
		return alt(parts...)
	case 1, 2:
		return cat(parts...)
	}
	lo := d.n(4)
	return many(drawTree(d, deep-1), lo, []int{-1, -1, lo, lo + 1, lo + 3}[d.n(5)])
}

// drawText is a text of few letters.
func drawText(d *die, most int) string {
	s := ""
	for range d.n(most + 1) {
		s += []string{"a", "a", "b", "b", "c", "\u00e4", "\xff"}[d.n(7)]
	}
	return s
}

// drawFile is a file's text.
func drawFile(d *die) string {
	s := classes
	for range d.n(5) {
		s += []string{"break ", "keep "}[d.n(2)] + drawPattern(d, 2) + ": " + drawPattern(d, 2) + "; "
	}
	return s + []string{"", "else keep;", "else break;"}[d.n(3)]
}
