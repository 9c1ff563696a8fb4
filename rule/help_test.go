package rule_test

import (
	"errors"
	"slices"
	"strings"
	"testing"

	"caesura/api"
	"caesura/rule"
)

// die: numbers that look drawn, the same each time.
type die uint64

func (d *die) n(most int) int {
	*d = *d*6364136223846793005 + 1442695040888963407
	return int(uint64(*d>>33) % uint64(most))
}

func lit(at int, l ...int) *api.Kind {
	k := &api.Kind{Code: api.Lit, At: at}
	for i := 0; i < len(l); i += 2 {
		k.Set = append(k.Set, api.Range{Lo: l[i], Hi: l[i+1]})
	}
	return k
}

func ref(at int, name string) *api.Kind {
	return &api.Kind{Code: api.Ref, At: at, Name: name}
}

func not(at int, k *api.Kind) *api.Kind {
	return &api.Kind{Code: api.Not, At: at, Left: k}
}

func two(code, at int, left, right *api.Kind) *api.Kind {
	return &api.Kind{Code: code, At: at, Left: left, Right: right}
}

func one(k *api.Kind) *api.Pattern { return &api.Pattern{Code: api.One, Kind: k} }

func dot() *api.Pattern { return &api.Pattern{Code: api.Any} }

func edge() *api.Pattern { return &api.Pattern{Code: api.Edge} }

func cat(l ...*api.Pattern) *api.Pattern { return &api.Pattern{Code: api.Cat, Parts: l} }

func alt(l ...*api.Pattern) *api.Pattern { return &api.Pattern{Code: api.Alt, Parts: l} }

func many(x *api.Pattern, lo, hi int) *api.Pattern {
	return &api.Pattern{Code: api.Many, Parts: []*api.Pattern{x}, Lo: lo, Hi: hi}
}

// sameKind says whether two kinds are alike, in all fields; their places count if they are asked for.
func sameKind(a, b *api.Kind, places bool) bool {
	if a == nil || b == nil {
		return a == b
	}
	return a.Code == b.Code && (!places || a.At == b.At) && a.Name == b.Name && slices.Equal(a.Set, b.Set) &&
		sameKind(a.Left, b.Left, places) && sameKind(a.Right, b.Right, places)
}

// samePattern says whether two patterns are alike, in all fields.
func samePattern(a, b *api.Pattern, places bool) bool {
	if a == nil || b == nil {
		return a == b
	}
	return a.Code == b.Code && a.Lo == b.Lo && a.Hi == b.Hi && sameKind(a.Kind, b.Kind, places) &&
		slices.EqualFunc(a.Parts, b.Parts, func(x, y *api.Pattern) bool { return samePattern(x, y, places) })
}

// sameFile says whether two files are alike.
func sameFile(a, b api.File, places bool) bool {
	return a.Else == b.Else &&
		slices.EqualFunc(a.Classes, b.Classes, func(x, y api.Class) bool {
			return x.Name == y.Name && (!places || x.At == y.At) && sameKind(x.Kind, y.Kind, places)
		}) &&
		slices.EqualFunc(a.Rules, b.Rules, func(x, y api.Rule) bool {
			return x.Break == y.Break && (!places || x.At == y.At) && samePattern(x.Before, y.Before, places) && samePattern(x.After, y.After, places)
		})
}

// isZero says whether a file is its zero value.
func isZero(f api.File) bool {
	return len(f.Classes) == 0 && len(f.Rules) == 0 && !f.Else
}

// parsed is a file that must be read.
func parsed(t *testing.T, s string) api.File {
	t.Helper()
	f, err := rule.Parse(s)
	if err != nil {
		t.Fatalf("Parse(%q): %s", s, told(err))
	}
	return f
}

// told is an error in words.
func told(err error) string {
	var a *api.At
	if errors.As(err, &a) {
		return text(a.Err, a.Place)
	}
	if err != nil {
		return "an error without a place: " + err.Error()
	}
	return "no error"
}

// text is an error at a place in words.
func text(e api.Errno, place int) string {
	digits := ""
	for n := place; n > 0 || digits == ""; n /= 10 {
		digits = string(rune('0'+n%10)) + digits
	}
	return e.Error() + " at " + digits
}

// refused fails the test unless Parse tells that error there, and nothing beside it (P2, P3).
func refused(t *testing.T, s string, e api.Errno, place int) {
	t.Helper()
	f, err := rule.Parse(s)
	if told(err) != text(e, place) || !errors.Is(err, e) {
		t.Errorf("Parse(%.200q): %s; want %s", s, told(err), text(e, place))
	}
	if !isZero(f) {
		t.Errorf("Parse(%.200q): beside an error %v", s, f)
	}
}

// refusedAt is refused of a text in which @ tells the place (it is taken out).
func refusedAt(t *testing.T, marked string, e api.Errno) {
	t.Helper()
	ahead, behind, ok := strings.Cut(marked, "@")
	if !ok {
		t.Fatalf("no place in %q", marked)
	}
	refused(t, ahead+behind, e, len(ahead))
}
