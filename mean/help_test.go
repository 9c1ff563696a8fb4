package mean_test

import (
	"errors"
	"fmt"
	"slices"
	"strings"
	"testing"

	"caesura/api"
	"caesura/check"
	"caesura/mean"
	"caesura/plain"
	"caesura/rule"
	"caesura/set"
	"caesura/utf"
)

// die: numbers that look drawn, the same each time.
type die uint64

func (d *die) n(most int) int {
	*d = *d*6364136223846793005 + 1442695040888963407
	return int(uint64(*d>>33) % uint64(most))
}

func lit(l ...int) *api.Kind {
	k := &api.Kind{Code: api.Lit}
	for _, p := range l {
		k.Set = append(k.Set, api.Range{Lo: p, Hi: p})
	}
	return k
}

func ref(at int, name string) *api.Kind {
	return &api.Kind{Code: api.Ref, At: at, Name: name}
}

func not(k *api.Kind) *api.Kind { return &api.Kind{Code: api.Not, Left: k} }

func two(code int, left, right *api.Kind) *api.Kind {
	return &api.Kind{Code: code, Left: left, Right: right}
}

func one(k *api.Kind) *api.Pattern { return &api.Pattern{Code: api.One, Kind: k} }

func dot() *api.Pattern { return &api.Pattern{Code: api.Any} }

func edge() *api.Pattern { return &api.Pattern{Code: api.Edge} }

func cat(l ...*api.Pattern) *api.Pattern { return &api.Pattern{Code: api.Cat, Parts: l} }

func alt(l ...*api.Pattern) *api.Pattern { return &api.Pattern{Code: api.Alt, Parts: l} }

func many(x *api.Pattern, lo, hi int) *api.Pattern {
	return &api.Pattern{Code: api.Many, Parts: []*api.Pattern{x}, Lo: lo, Hi: hi}
}

// classes are the names of the tests' patterns.
const classes = "class a = [61]; class b = [62]; class c = ~(a | b); "

// parsed is a file that must be read.
func parsed(t testing.TB, s string) api.File {
	t.Helper()
	f, err := rule.Parse(s)
	if err != nil {
		t.Fatalf("rule.Parse(%q): %v", s, err)
	}
	return f
}

// patternOf is the pattern of a text.
func patternOf(t testing.TB, s string) *api.Pattern {
	t.Helper()
	return parsed(t, "keep "+s+" : ;").Rules[0].Before
}

// namesOf are what the names of classes stand for.
func namesOf(t testing.TB) map[string]api.Set {
	t.Helper()
	m, err := check.Names(parsed(t, classes))
	if err != nil {
		t.Fatalf("check.Names: %v", err)
	}
	return m
}

// where are all places at which a pattern Stands, in words.
func where(x *api.Pattern, names map[string]api.Set, l []api.Unit, back bool) string {
	var out []string
	for place := range len(l) + 1 {
		if mean.Stands(x, names, l, place, back) {
			out = append(out, fmt.Sprint(place))
		}
	}
	return strings.Join(out, " ")
}

// breaksOf are the Breaks of a text by a file's text, in words, and the error.
func breaksOf(t testing.TB, file, text string) (string, error) {
	t.Helper()
	l, err := mean.Breaks(parsed(t, file), utf.Decode(text))
	return numbers(l), err
}

// numbers are numbers in words.
func numbers(l []int) string {
	return strings.Trim(fmt.Sprint(l), "[]")
}

// marked is a text in which @ tells a place, without it, and the place (-1: there is none).
func marked(s string) (string, int) {
	ahead, behind, ok := strings.Cut(s, "@")
	if !ok {
		return s, -1
	}
	return ahead + behind, len(ahead)
}

// isError says whether an error is that one at that place, as errors.As, and package plain, find it.
func isError(err error, e api.Errno, place int) bool {
	var a *api.At
	if !errors.As(err, &a) || a.Err != e || a.Place != place || !errors.Is(err, e) {
		return false
	}
	pe, pp := plain.Place(err)
	return pe == e && pp == place
}

// square tells of each two places whether something stands from the first one to the second one.
type square [][]bool

func newSquare(n int, ask func(s, t int) bool) square {
	q := make(square, n)
	for s := range q {
		q[s] = make([]bool, n)
		for t := range q[s] {
			q[s][t] = ask(s, t)
		}
	}
	return q
}

// then is one square behind another one.
func (q square) then(r square) square {
	return newSquare(len(q), func(s, t int) bool {
		for m := range q {
			if q[s][m] && r[m][t] {
				return true
			}
		}
		return false
	})
}

// or is one square, or another one.
func (q square) or(r square) square {
	return newSquare(len(q), func(s, t int) bool { return q[s][t] || r[s][t] })
}

// meant is 5.1, word by word: from where to where a pattern stands, with Edge at one place.
func meant(x *api.Pattern, names map[string]api.Set, l []api.Unit, edge int) square {
	n := len(l) + 1
	same := newSquare(n, func(s, t int) bool { return s == t })
	switch x.Code {
	case api.One:
		k, err := check.Kind(x.Kind, names)
		return newSquare(n, func(s, t int) bool { return t == s+1 && err == nil && set.Has(k, l[s].Point) })
	case api.Any:
		return newSquare(n, func(s, t int) bool { return t == s+1 })
	case api.Edge:
		return newSquare(n, func(s, t int) bool { return s == t && s == edge })
	case api.Cat:
		q := same
		for _, part := range x.Parts {
			q = q.then(meant(part, names, l, edge))
		}
		return q
	case api.Alt:
		q := newSquare(n, func(s, t int) bool { return false })
		for _, part := range x.Parts {
			q = q.or(meant(part, names, l, edge))
		}
		return q
	}
	part, q := meant(x.Parts[0], names, l, edge), same
	for range x.Lo {
		q = q.then(part)
	}
	more := x.Hi - x.Lo
	if x.Hi < 0 {
		more = n // more often than that leads nowhere else: one goes on at most n-1 times
	}
	all := q
	for range more {
		q = q.then(part)
		all = all.or(q)
	}
	return all
}

// meantAt says by 5.1, word by word, whether a pattern Stands at a place.
func meantAt(x *api.Pattern, names map[string]api.Set, l []api.Unit, place int, back bool) bool {
	if place < 0 || place > len(l) {
		return false
	}
	if !back {
		return slices.Contains(meant(x, names, l, len(l))[place], true)
	}
	for _, row := range meant(x, names, l, 0) {
		if row[place] {
			return true
		}
	}
	return false
}

// meantBreaks is 5.2, word by word, of a file in which nothing is wrong.
func meantBreaks(t testing.TB, f api.File, l []api.Unit) []int {
	t.Helper()
	names, err := check.Names(f)
	if err != nil {
		t.Fatalf("check.Names: %v", err)
	}
	var out []int
	for place := range len(l) + 1 {
		said := f.Else
		for _, r := range f.Rules {
			if meantAt(r.Before, names, l, place, true) && meantAt(r.After, names, l, place, false) {
				said = r.Break
				break
			}
		}
		if len(l) > 0 && (said || place == 0 || place == len(l)) {
			out = append(out, place)
		}
	}
	return out
}

// drawPattern is a pattern's text, so deep; names may be missing.
func drawPattern(d *die, deep int) string {
	s := ""
	for range d.n(4) {
		unit := []string{"a", "b", "c", ".", "[61]", "[62-63]", "$", "()", "[]", "x"}[d.n(10)]
		if deep > 0 && d.n(5) < 2 {
			unit = "(" + drawPattern(d, deep-1)
			for range d.n(2) {
				unit += "| " + drawPattern(d, deep-1)
			}
			unit += ")"
		}
		times := []string{"", "", "", "*", "+", "?", "{0}", "{1}", "{2}", "{2,}", "{0,2}", "{1,3}", "{3,3}", "*{2}", "{2}?", "+*", "?{2,}"}
		s += unit + times[d.n(len(times))] + " "
	}
	return s
}

// drawText is a text of few letters.
func drawText(d *die, most int) string {
	s := ""
	for range d.n(most + 1) {
		s += []string{"a", "a", "b", "b", "c", "\u00e4", "\xff"}[d.n(7)]
	}
	return s
}

// drawFile is a file's text; without what is missing, unless it is asked for.
func drawFile(d *die, missing bool) string {
	s := classes
	for range d.n(5) {
		s += []string{"break ", "keep "}[d.n(2)] + drawPattern(d, 2) + ": " + drawPattern(d, 2) + "; "
	}
	if !missing {
		s = strings.ReplaceAll(s, "x", "[61 63]")
	}
	return s + []string{"", "else keep;", "else break;"}[d.n(3)]
}
