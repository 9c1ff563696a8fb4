package check_test

import (
	"errors"
	"slices"
	"strings"
	"testing"

	"caesura/api"
	"caesura/plain"
	"caesura/rule"
	"caesura/set"
)

// die: numbers that look drawn, the same each time.
type die uint64

func (d *die) n(most int) int {
	*d = *d*6364136223846793005 + 1442695040888963407
	return int(uint64(*d>>33) % uint64(most))
}

func lit(s api.Set) *api.Kind { return &api.Kind{Code: api.Lit, Set: s} }

func ref(at int, name string) *api.Kind {
	return &api.Kind{Code: api.Ref, At: at, Name: name}
}

func not(k *api.Kind) *api.Kind { return &api.Kind{Code: api.Not, Left: k} }

func two(code int, left, right *api.Kind) *api.Kind {
	return &api.Kind{Code: code, Left: left, Right: right}
}

func one(k *api.Kind) *api.Pattern { return &api.Pattern{Code: api.One, Kind: k} }

func dot() *api.Pattern { return &api.Pattern{Code: api.Any} }

func edge() *api.Pattern { return &api.Pattern{Code: api.Edge} }

func cat(l ...*api.Pattern) *api.Pattern { return &api.Pattern{Code: api.Cat, Parts: l} }

func alt(l ...*api.Pattern) *api.Pattern { return &api.Pattern{Code: api.Alt, Parts: l} }

func many(x *api.Pattern, lo, hi int) *api.Pattern {
	return &api.Pattern{Code: api.Many, Parts: []*api.Pattern{x}, Lo: lo, Hi: hi}
}

// setOf is the set of a text.
func setOf(t *testing.T, s string) api.Set {
	t.Helper()
	v, err := set.Parse(s)
	if err != nil {
		t.Fatalf("set.Parse(%q): %v", s, err)
	}
	return v
}

// parsed is a file that must be read.
func parsed(t *testing.T, s string) api.File {
	t.Helper()
	f, err := rule.Parse(s)
	if err != nil {
		t.Fatalf("rule.Parse(%q): %v", s, err)
	}
	return f
}

// kindOf is the kind of a text.
func kindOf(t *testing.T, s string) *api.Kind {
	t.Helper()
	return parsed(t, "class n = "+s+";").Classes[0].Kind
}

// marked is a text in which @ tells a place, without it, and the place (-1: there is none).
func marked(s string) (string, int) {
	ahead, behind, ok := strings.Cut(s, "@")
	if !ok {
		return s, -1
	}
	return ahead + behind, len(ahead)
}

// isError says whether an error is that one at that place (OK: there is none), as errors.As, and package plain, find it.
func isError(err error, e api.Errno, place int) bool {
	if e == api.OK {
		return err == nil
	}
	var a *api.At
	if !errors.As(err, &a) || a.Err != e || a.Place != place || !errors.Is(err, e) {
		return false
	}
	pe, pp := plain.Place(err)
	return pe == e && pp == place
}

// words is a map of sets in words, by rising names.
func words(m map[string]api.Set) string {
	var l []string
	for name, s := range m {
		l = append(l, name+" "+set.Print(s))
	}
	slices.Sort(l)
	return strings.Join(l, ", ")
}

// copyKind is a kind of its own memory. What stands behind a list's length is copied, too.
func copyKind(k *api.Kind) *api.Kind {
	if k == nil {
		return nil
	}
	c := *k
	c.Set = copyList(k.Set)
	c.Left, c.Right = copyKind(k.Left), copyKind(k.Right)
	return &c
}

// copyList is a list of its own memory, with all that stands behind its length.
func copyList[S ~[]E, E any](l S) S {
	return slices.Clone(l[:cap(l)])[:len(l):cap(l)]
}

func copyPattern(x *api.Pattern) *api.Pattern {
	if x == nil {
		return nil
	}
	c := *x
	c.Kind = copyKind(x.Kind)
	c.Parts = copyList(x.Parts)
	for i, p := range c.Parts[:cap(c.Parts)] {
		c.Parts[:cap(c.Parts)][i] = copyPattern(p)
	}
	return &c
}

func copyFile(f api.File) api.File {
	f.Classes, f.Rules = copyList(f.Classes), copyList(f.Rules)
	for i, c := range f.Classes[:cap(f.Classes)] {
		f.Classes[:cap(f.Classes)][i].Kind = copyKind(c.Kind)
	}
	for i, r := range f.Rules[:cap(f.Rules)] {
		f.Rules[:cap(f.Rules)][i].Before = copyPattern(r.Before)
		f.Rules[:cap(f.Rules)][i].After = copyPattern(r.After)
	}
	return f
}

func copyMap(m map[string]api.Set) map[string]api.Set {
	if m == nil {
		return nil
	}
	c := map[string]api.Set{}
	for name, s := range m {
		c[name] = copyList(s)
	}
	return c
}

// roomy is a set with ranges behind its length, in which a wrong append would be seen.
func roomy(s api.Set) api.Set {
	l := append(slices.Clone(s), api.Range{Lo: 7, Hi: 7}, api.Range{Lo: -7, Hi: -7})
	return l[: len(s) : len(s)+2]
}

// roomyKind gives the sets of a kind something behind their length.
func roomyKind(k *api.Kind) {
	if k == nil {
		return
	}
	if k.Code == api.Lit {
		k.Set = roomy(k.Set)
	}
	roomyKind(k.Left)
	roomyKind(k.Right)
}

// spoil writes into a set, and behind its length.
func spoil(s api.Set) {
	for i := range s[:cap(s)] {
		s[:cap(s)][i] = api.Range{Lo: 99, Hi: 98}
	}
}

// spoilKind writes into the sets of a kind, its names and its code.
func spoilKind(k *api.Kind) {
	if k == nil {
		return
	}
	spoil(k.Set)
	spoilKind(k.Left)
	spoilKind(k.Right)
	*k = api.Kind{Code: api.Ref, Name: "spoilt", At: -1}
}
