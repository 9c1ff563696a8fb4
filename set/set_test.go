package set_test

import (
	"math"
	"slices"
	"strings"
	"testing"

	"caesura/api"
	"caesura/plain"
	"caesura/set"
)

const top = api.MaxPoint

// pairs are ranges: Lo and Hi of each, one behind the other.
func pairs(l ...int) []api.Range {
	var out []api.Range
	for i := 0; i < len(l); i += 2 {
		out = append(out, api.Range{Lo: l[i], Hi: l[i+1]})
	}
	return out
}

// named is ranges, and a set's text.
type named struct {
	list []api.Range
	text string
}

// rights are sets that are Right, each with the one text that tells it; new ones each time, lest one test spoil them for another one.
func rights() []named {
	return []named{
		{nil, "[]"},
		{api.Set{}, "[]"},
		{pairs(0, 0), "[0]"},
		{pairs(0, 1), "[0-1]"},
		{pairs(1, 1), "[1]"},
		{pairs('a', 'a'), "[61]"},
		{pairs('a', 'z'), "[61-7a]"},
		{pairs(0xabc, 0xdef), "[abc-def]"},
		{pairs(0, 0, 2, 2), "[0 2]"},
		{pairs(0, 0, 2, 3, 5, 5), "[0 2-3 5]"},
		{pairs('0', '9', 'A', 'Z', '_', '_', 'a', 'z'), "[30-39 41-5a 5f 61-7a]"},
		{pairs(0xd800, 0xdfff), "[d800-dfff]"},
		{pairs(top, top), "[10ffff]"},
		{pairs(0, top-2, top, top), "[0-10fffd 10ffff]"},
		{pairs(0, 0, top, top), "[0 10ffff]"},
		{pairs(0, top), "[0-10ffff]"},
	}
}

// wrongSets are ranges that are not Right.
var wrongSets = []api.Set{
	pairs(-1, -1),
	pairs(-1, 0),
	pairs(-1, top),
	pairs(math.MinInt, 5),
	pairs(math.MinInt, math.MaxInt),
	pairs(math.MinInt, math.MinInt),
	pairs(0, top+1),
	pairs(top, top+1),
	pairs(top+1, top+1),
	pairs(5, math.MaxInt),
	pairs(math.MaxInt, math.MaxInt),
	pairs(5, 4),
	pairs(5, 0),
	pairs(math.MaxInt, math.MinInt),
	pairs(0, 0, 1, 1),
	pairs(0, 1, 1, 2),
	pairs(0, 4, 2, 3),
	pairs(0, 0, 0, 0),
	pairs(7, 7, 5, 5),
	pairs(7, 7, 0, 0),
	pairs(5, 5, -1, -1),
	pairs(0, 4, 6, 5, 8, 9),
	pairs(0, 0, 2, 2, 3, 3),
	pairs(0, 0, top, top, top+2, top+2),
	pairs(0, 0, math.MaxInt, math.MaxInt, math.MinInt, math.MinInt),
}

// lists are ranges of every kind, and the text of the set that they make; new ones each time.
func lists() []named {
	return []named{
		{nil, "[]"},
		{pairs('a', 'z'), "[61-7a]"},
		{pairs(5, 5, 5, 5), "[5]"},
		{pairs(1, 2, 3, 4), "[1-4]"},
		{pairs(3, 4, 1, 2), "[1-4]"},
		{pairs(1, 2, 4, 5), "[1-2 4-5]"},
		{pairs(4, 5, 1, 2), "[1-2 4-5]"},
		{pairs(1, 2, 4, 5, 3, 3), "[1-5]"},
		{pairs(1, 9, 3, 4), "[1-9]"},
		{pairs(1, 9, 3, 4, 5, 6, 11, 12), "[1-9 b-c]"},
		{pairs(1, 9, 1, 4, 1, 12), "[1-c]"},
		{pairs(5, 4), "[]"},
		{pairs(5, 3, 4, 4), "[4]"},
		{pairs(1, 1, 9, 2, 3, 3), "[1 3]"},
		{pairs(-1, -1), "[]"},
		{pairs(-5, -2), "[]"},
		{pairs(-2, -5), "[]"},
		{pairs(-5, 0), "[0]"},
		{pairs(-5, 5, -9, 3), "[0-5]"},
		{pairs(-1, 1, 3, 3), "[0-1 3]"},
		{pairs(top+1, top+1), "[]"},
		{pairs(top+9, top+1), "[]"},
		{pairs(top+9, -9), "[]"},
		{pairs(top, top+1), "[10ffff]"},
		{pairs(top-1, math.MaxInt, top-3, top-3), "[10fffc 10fffe-10ffff]"},
		{pairs(math.MinInt, math.MaxInt), "[0-10ffff]"},
		{pairs(math.MaxInt, math.MinInt), "[]"},
		{pairs(math.MinInt, math.MinInt, math.MaxInt, math.MaxInt), "[]"},
		{pairs(math.MinInt, 0, top, math.MaxInt), "[0 10ffff]"},
		{pairs(math.MinInt, -1, top+1, math.MaxInt), "[]"},
		{pairs(0, top, 5, 5), "[0-10ffff]"},
		{pairs(0, 'm', 'n', top), "[0-10ffff]"},
	}
}

func TestRight(t *testing.T) {
	for _, c := range rights() {
		if !set.Right(c.list) {
			t.Errorf("Right(%v) is false", c.list)
		}
	}
	for _, s := range wrongSets {
		if set.Right(s) {
			t.Errorf("Right(%v) is true", s)
		}
	}
}

func TestOf(t *testing.T) {
	for _, c := range lists() {
		s := set.Of(c.list)
		if !set.Right(s) || set.Print(s) != c.text {
			t.Errorf("Of(%v) is %v, not %s", c.list, s, c.text)
		}
	}
	for _, c := range rights() {
		if s := set.Of(c.list); !slices.Equal(s, c.list) {
			t.Errorf("Of(%v), which is Right, is %v", c.list, s)
		}
	}
}

// edges are the points at which something may change in a set of the tables, and those beside them.
func edges(sets ...api.Set) []int {
	l := []int{math.MinInt, -1, 0, 1, 'c', top - 1, top, top + 1, math.MaxInt}
	for _, s := range sets {
		for _, r := range s {
			l = append(l, r.Lo-1, r.Lo, r.Lo+1, r.Hi-1, r.Hi, r.Hi+1)
		}
	}
	return l
}

// lies says whether a point lies in one of the ranges, as 2.1 says it.
func lies(l []api.Range, p int) bool {
	for _, r := range l {
		if r.Lo <= p && p <= r.Hi {
			return true
		}
	}
	return false
}

func isPoint(p int) bool { return 0 <= p && p <= top }

func TestHas(t *testing.T) {
	for _, c := range rights() {
		for _, p := range edges(c.list) {
			if set.Has(c.list, p) != lies(c.list, p) {
				t.Errorf("Has(%s, %x) is %v", c.text, p, !lies(c.list, p))
			}
		}
	}
	for _, c := range lists() {
		s := set.Of(c.list)
		for _, p := range edges(c.list) {
			if w := isPoint(p) && lies(c.list, p); set.Has(s, p) != w {
				t.Errorf("Has(Of(%v), %x) is %v", c.list, p, !w)
			}
		}
	}
}

// holds says that a set is Right, and that it has just those of some points that it should have.
func holds(t *testing.T, what string, got api.Set, points []int, want func(p int) bool) {
	t.Helper()
	if !set.Right(got) {
		t.Errorf("%s is %v: not Right", what, got)
	}
	for _, p := range points {
		if w := isPoint(p) && want(p); lies(got, p) != w {
			t.Errorf("%s is %v: %x is in it: %v", what, got, p, !w)
		}
	}
}

func algebra(t *testing.T, a, b api.Set) {
	t.Helper()
	points := edges(a, b)
	both := set.Print(a) + ", " + set.Print(b)
	holds(t, "Or of "+both, set.Or(a, b), points, func(p int) bool { return lies(a, p) || lies(b, p) })
	holds(t, "And of "+both, set.And(a, b), points, func(p int) bool { return lies(a, p) && lies(b, p) })
	holds(t, "Less of "+both, set.Less(a, b), points, func(p int) bool { return lies(a, p) && !lies(b, p) })
	holds(t, "Not of "+set.Print(a), set.Not(a), points, func(p int) bool { return !lies(a, p) })
}

func TestAlgebra(t *testing.T) {
	for _, a := range rights() {
		for _, b := range rights() {
			algebra(t, a.list, b.list)
		}
	}
	// all sets of the points at either end of what there is
	var small []api.Set
	for bits := range 1 << 6 {
		var l []api.Range
		for i, p := range []int{0, 1, 2, top - 2, top - 1, top} {
			if bits>>i&1 == 1 {
				l = append(l, api.Range{Lo: p, Hi: p})
			}
		}
		small = append(small, set.Of(l))
	}
	for _, a := range small {
		for _, b := range small {
			algebra(t, a, b)
		}
	}
}

func TestAlgebraByText(t *testing.T) {
	read := func(s string) api.Set {
		v, err := set.Parse(s)
		if err != nil {
			t.Fatalf("Parse(%q): %v", s, err)
		}
		return v
	}
	for _, c := range []struct{ a, b, or, and, less, not string }{
		{"[]", "[]", "[]", "[]", "[]", "[0-10ffff]"},
		{"[0-10ffff]", "[]", "[0-10ffff]", "[]", "[0-10ffff]", "[]"},
		{"[]", "[0-10ffff]", "[0-10ffff]", "[]", "[]", "[0-10ffff]"},
		{"[0-10ffff]", "[0-10ffff]", "[0-10ffff]", "[0-10ffff]", "[]", "[]"},
		{"[61-7a]", "[65]", "[61-7a]", "[65]", "[61-64 66-7a]", "[0-60 7b-10ffff]"},
		{"[65]", "[61-7a]", "[61-7a]", "[65]", "[]", "[0-64 66-10ffff]"},
		{"[1-2]", "[3-4]", "[1-4]", "[]", "[1-2]", "[0 3-10ffff]"},
		{"[1-2]", "[4-5]", "[1-2 4-5]", "[]", "[1-2]", "[0 3-10ffff]"},
		{"[1-5 9]", "[3-9]", "[1-9]", "[3-5 9]", "[1-2]", "[0 6-8 a-10ffff]"},
		{"[0]", "[10ffff]", "[0 10ffff]", "[]", "[0]", "[1-10ffff]"},
		{"[10ffff]", "[0-10fffe]", "[0-10ffff]", "[]", "[10ffff]", "[0-10fffe]"},
	} {
		a, b := read(c.a), read(c.b)
		for _, got := range [][3]string{
			{"Or", set.Print(set.Or(a, b)), c.or},
			{"And", set.Print(set.And(a, b)), c.and},
			{"Less", set.Print(set.Less(a, b)), c.less},
			{"Not", set.Print(set.Not(a)), c.not},
		} {
			if got[1] != got[2] {
				t.Errorf("%s of %s, %s is %s, not %s", got[0], c.a, c.b, got[1], got[2])
			}
		}
	}
}

func TestPrintAndParse(t *testing.T) {
	for _, c := range rights() {
		if s := set.Print(c.list); s != c.text {
			t.Errorf("Print(%v) is %q, not %q", c.list, s, c.text)
		}
		if s, err := set.Parse(c.text); err != nil || !slices.Equal(s, c.list) {
			t.Errorf("Parse(%q) is %v, %v", c.text, s, err)
		}
	}
}

// wrongTexts are no sets, or not as Print writes them.
var wrongTexts = []string{
	"", " ", "[", "]", "][", "61", "61-7a", "[61", "61]", "[61-7a", "61-7a]", "[[61]", "[61]]", "[[]]", "[][]",
	"[]\n", "[61]\n", "[61] ", " [61]", "[61]x", "[] []", "[61]\x00", "x[61]", "(61)", "{61}",
	"[ ]", "[ 61]", "[61 ]", "[61  63]", "[6163 ]", "[61\t63]", "[61\n63]", "[61,63]", "[61-63 65-]",
	"[61 -63]", "[61- 63]", "[61 - 63]", "[-]", "[61-]", "[-61]", "[--61]", "[61--63]", "[61-63-65]", "[61-63-]",
	"[63 61]", "[65-67 61-63]", "[61 61]", "[61-63 62]", "[61-65 63-67]", "[61-63 63]",
	"[61 62]", "[61-62 63-64]", "[0 1]", "[0-10fffe 10ffff]",
	"[63-61]", "[61-61]", "[0-0]", "[10ffff-10ffff]", "[61-60]",
	"[061]", "[00]", "[061-7a]", "[61-07a]", "[0061]", "[-0]", "[0--0]", "[000000000000000000000061]",
	"[6A]", "[A]", "[aB]", "[61-7A]", "[10FFFF]", "[D800]", "[g]", "[61-7g]", "[0x61]", "[x61]", "[6_1]", "[+61]", "[61-+63]", "[u+61]", "[6.1]",
	"[110000]", "[10ffff-110000]", "[0-110000]", "[0-10fffff]", "[ffffffff]", "[0-ffffffff]", "[7fffffff]", "[80000000]", "[100000061]",
	"[7fffffffffffffff]", "[ffffffffffffffff]", "[8000000000000000]", "[10000000000000061]", "[61-10000000000000063]", "[100000000000000000000000000000061]",
	"[\xff]", "[\u0661]", "[61\u00a063]", "[61–63]",
}

func wrong(t *testing.T, text string) {
	t.Helper()
	s, err := set.Parse(text)
	if e, place := plain.Place(err); e != api.ErrForm || place != -1 || len(s) != 0 {
		t.Errorf("Parse(%q) is %v, %v", text, s, err)
	}
}

func TestParseWrong(t *testing.T) {
	for _, text := range wrongTexts {
		wrong(t, text)
	}
	wrong(t, "["+strings.Repeat("f", 100_000)+"]")
	wrong(t, "["+strings.Repeat("0", 100_000)+"]")
	wrong(t, strings.Repeat("[", 100_000))
	wrong(t, "["+strings.Repeat(" ", 100_000)+"]")
}

// TestParseAll: of all short texts of the letters that may stand in one, just those are read that Print tells.
func TestParseAll(t *testing.T) {
	told := map[string]api.Set{}
	for _, c := range rights() {
		told[c.text] = c.list
	}
	var all func(text string, more int)
	all = func(text string, more int) {
		s, err := set.Parse("[" + text + "]")
		if err == nil && (!set.Right(s) || set.Print(s) != "["+text+"]") {
			t.Errorf("Parse(%q) is %v", "["+text+"]", s)
		}
		if want, ok := told["["+text+"]"]; ok && (err != nil || !slices.Equal(s, want)) {
			t.Errorf("Parse(%q) is %v, %v", "["+text+"]", s, err)
		}
		for _, c := range "023a- ]" {
			if more > 0 {
				all(text+string(c), more-1)
			}
		}
	}
	all("", 6)
}

// behind is a list of the same ranges with something behind its length.
func behind(l []api.Range) []api.Range {
	m := append(slices.Clone(l), api.Range{Lo: 7, Hi: 7}, api.Range{Lo: -7, Hi: -7})
	return m[:len(l)]
}

// TestHandedIn (P4): nothing is written into what is handed in, nor behind it, and nothing of it is kept.
func TestHandedIn(t *testing.T) {
	for _, x := range lists() {
		for _, y := range rights() {
			a, b := behind(x.list), behind(y.list)
			right := set.Of(a)
			s := behind(right)
			outs := []api.Set{set.Of(a), set.Of(b), set.Or(s, b), set.Or(b, s), set.And(s, b), set.And(b, s), set.Less(s, b), set.Less(b, s), set.Not(s), set.Not(b)}
			set.Right(a)
			set.Has(s, 5)
			set.Print(s)
			if !slices.Equal(a[:len(a)+2], behind(x.list)[:len(a)+2]) || !slices.Equal(b[:len(b)+2], behind(y.list)[:len(b)+2]) || !slices.Equal(s[:len(s)+2], behind(right)[:len(s)+2]) {
				t.Fatalf("what is handed in is written into: %v, %v, %v", a, b, s)
			}
			var texts []string
			for _, o := range outs {
				texts = append(texts, set.Print(o))
			}
			for _, l := range [][]api.Range{a, b, s} {
				for i := range l[:len(l)+2] {
					l[:len(l)+2][i] = api.Range{Lo: 99, Hi: 98}
				}
			}
			for i, o := range outs {
				if set.Print(o) != texts[i] {
					t.Fatalf("what is handed in is kept: %s is now %s", texts[i], set.Print(o))
				}
			}
		}
	}
}

// TestFresh (P4): what comes out is the caller's: writing into it changes no later answer.
func TestFresh(t *testing.T) {
	for range 2 {
		for _, c := range rights() {
			s, err := set.Parse(c.text)
			if err != nil || !slices.Equal(s, c.list) {
				t.Fatalf("Parse(%q) is %v, %v", c.text, s, err)
			}
			n := set.Not(c.list)
			if !slices.Equal(set.Not(n), c.list) {
				t.Fatalf("Not of Not of %s is %v", c.text, set.Not(n))
			}
			for _, l := range []api.Set{s, n} {
				for i := range l {
					l[i] = api.Range{Lo: 5, Hi: 4}
				}
			}
		}
	}
}

// TestEnds (P1): a set that is not Right is asked in vain, but every call ends.
func TestEnds(t *testing.T) {
	for _, a := range wrongSets {
		for _, b := range wrongSets {
			set.Or(a, b)
			set.And(a, b)
			set.Less(a, b)
		}
		set.Not(a)
		set.Print(a)
		for _, p := range edges(a) {
			set.Has(a, p)
		}
	}
}

func FuzzParse(f *testing.F) {
	for _, c := range rights() {
		f.Add(c.text)
	}
	for _, s := range wrongTexts {
		f.Add(s)
	}
	f.Fuzz(func(t *testing.T, text string) {
		s, err := set.Parse(text)
		if err != nil {
			wrong(t, text)
		} else if !set.Right(s) || set.Print(s) != text {
			t.Errorf("Parse(%q) is %v", text, s)
		}
	})
}
