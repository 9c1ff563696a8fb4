package mean_test

import (
	"slices"
	"strings"
	"testing"

	"caesura/api"
	"caesura/check"
	"caesura/mean"
	"caesura/rule"
	"caesura/utf"
)

// TestBreaks: files and texts, and the places at which these break.
func TestBreaks(t *testing.T) {
	for _, c := range []struct{ file, text, want string }{
		// the document's own
		{"class a = [61-7a]; keep a: a;", "ab cd", "0 2 3 5"},
		// no rule: Else
		{"", "", ""},
		{"", "a", "0 1"},
		{"", "abc", "0 1 2 3"},
		{"else break;", "abc", "0 1 2 3"},
		{"else keep;", "", ""},
		{"else keep;", "a", "0 1"},
		{"else keep;", "abc", "0 3"},
		// the text's ends are breaks, whatever is said
		{"keep : ;", "", ""},
		{"keep : ;", "a", "0 1"},
		{"keep : ;", "abc", "0 3"},
		{"keep $ : ; keep : $;", "ab", "0 1 2"},
		{"break : ; else keep;", "", ""},
		{"break : ; else keep;", "abc", "0 1 2 3"},
		// a unit is one place on, however many bytes it has
		{"", "\u00e4\xff\U0001f600", "0 1 2 3"},
		{"keep [e4] : [fffd];", "\u00e4\xff\U0001f600", "0 2 3"},
		// Before is ahead of the place, After behind it
		{"keep [61] : [62];", "abab", "0 2 4"},
		{"keep [62] : [61];", "abab", "0 1 3 4"},
		{"break [61] : [62]; else keep;", "abab", "0 1 3 4"},
		{"keep [61] [62] : [63] [64];", "abcdab", "0 1 3 4 5 6"},
		{"keep [62] [61] : [64] [63];", "abcdab", "0 1 2 3 4 5 6"},
		{"break : [62]; else keep;", "abab", "0 1 3 4"},
		{"break [62] : ; else keep;", "abab", "0 2 4"},
		// both must stand
		{"keep [61] : [63];", "abac", "0 1 2 4"},
		{"keep [63] : [61]; break [61] : [63]; else keep;", "acac", "0 1 3 4"},
		// the first one that stands says
		{"keep [61] : ; break [61] : ; else break;", "aab", "0 3"},
		{"break [61] : ; keep [61] : ; else keep;", "aab", "0 1 2 3"},
		{"break [61] : [62]; keep [61] : ; else keep;", "aabcc", "0 2 5"},
		{"keep [61] : ; break [61] : [62]; else break;", "aabcc", "0 3 4 5"},
		{"keep [61] : [62]; break . : .; else keep;", "abab", "0 2 4"},
		{"break [63] : [63]; keep [61] : [61]; break . : [61]; else keep;", "aabaacca", "0 3 6 7 8"},
		// Edge, on the side on which it is
		{"break $ . : ; else keep;", "abc", "0 1 3"},
		{"break : . $; else keep;", "abc", "0 2 3"},
		{"break . $ : ; else keep;", "abc", "0 3"},
		{"break : $ .; else keep;", "abc", "0 3"},
		{"break $ [61]* : [62]* $; else keep;", "aabb", "0 2 4"},
		{"break $ (. .)* : ; else keep;", "abcdefg", "0 2 4 6 7"},
		// names, of all classes
		{"class a = [61]; class b = a | [62]; class c = ~b; keep a : b; keep c : a; else break;", "abca", "0 2 4"},
		// flags in pairs, words with marks in them
		{"class r = [1f1e6-1f1ff]; class o = ~r; keep ($ | o) (r r)* r : r;", "\U0001f1e6\U0001f1e8\U0001f1e9\U0001f1ea\U0001f1ebx\U0001f1e6\U0001f1e8\U0001f1e9", "0 2 4 5 6 8 9"},
		{"class l = [61-7a]; class m = [27 2d]; keep l : l; keep l : m l; keep l m : l;", "don't stop-", "0 5 6 10 11"},
		{"keep [d] : [a]; break [a d] : ; break : [a d]; else keep;", "ab\r\ncd\n\r", "0 2 4 6 7 8"},
	} {
		if got, err := breaksOf(t, c.file, c.text); err != nil || got != c.want {
			t.Errorf("Breaks(%q, %q) is %q, %v, not %q", c.file, c.text, got, err, c.want)
		}
	}
}

// TestBreaksWrong: Check's errors, with their places (@), whatever the text is.
func TestBreaksWrong(t *testing.T) {
	for _, c := range []struct {
		file string
		e    api.Errno
	}{
		{"class a = @x;", api.ErrMissing},
		{"class a = ~@a; keep a : a;", api.ErrMissing},
		{"class a = @b; class b = [61];", api.ErrMissing},
		{"class a = [61]; @class a = [62];", api.ErrTwice},
		{"class a = [61]; @class a = x; keep y : z;", api.ErrTwice},
		{"class a = [61] | @x; class a = [62];", api.ErrMissing},
		{"keep @x : ;", api.ErrMissing},
		{"keep : @x;", api.ErrMissing},
		{"keep @x : y;", api.ErrMissing},
		{"class a = [61]; keep a : a; break a : a | @x; keep y : z;", api.ErrMissing},
		{"keep : ; keep @x : ;", api.ErrMissing},
		{"keep @x{0} : ; else keep;", api.ErrMissing},
		{"keep [] @x : ;", api.ErrMissing},
		{"class a = [61]; keep a (. | a @aa)* : $;", api.ErrMissing},
	} {
		s, place := marked(c.file)
		f := parsed(t, s)
		for _, text := range []string{"", "a", "ab", "aaaa"} {
			l, err := mean.Breaks(f, utf.Decode(text))
			if !isError(err, c.e, place) || len(l) != 0 {
				t.Errorf("Breaks(%q, %q) is %v, %v, want %v at %d", s, text, l, err, c.e, place)
			}
		}
	}
	if l, err := mean.Breaks(api.File{Rules: []api.Rule{{Before: one(not(ref(77, "x"))), After: cat()}}}, nil); !isError(err, api.ErrMissing, 77) || len(l) != 0 {
		t.Errorf("Breaks of a kind of several: %v, %v", l, err)
	}
}

// TestBreaksMeant: many files and texts, held against 5.2, word by word, and against Stands.
func TestBreaksMeant(t *testing.T) {
	d := die(9)
	told := map[bool]int{}
	for i := range 1500 {
		s, text := drawFile(&d, i%5 == 0), drawText(&d, 8)
		f, l := parsed(t, s), utf.Decode(text)
		got, err := mean.Breaks(f, l)
		wrong := check.Check(f)
		told[wrong == nil]++
		if wrong != nil {
			at := wrong.(*api.At)
			if !isError(err, at.Err, at.Place) || len(got) != 0 {
				t.Fatalf("Breaks(%q, %q) is %v, %v, want %v", s, text, got, err, wrong)
			}
			continue
		}
		if want := meantBreaks(t, f, l); err != nil || !slices.Equal(got, want) {
			t.Fatalf("Breaks(%q, %q) is %v, %v, want %v", s, text, got, err, want)
		}
		asWhole(t, f, l, got)
	}
	if told[true] < 1000 || told[false] < 100 {
		t.Errorf("what was drawn is one-sided: %v", told)
	}
}

// asWhole holds Breaks against Stands, place by place.
func asWhole(t *testing.T, f api.File, l []api.Unit, got []int) {
	t.Helper()
	names, _ := check.Names(f)
	if len(l) == 0 {
		if len(got) != 0 {
			t.Fatalf("Breaks of no units is %v", got)
		}
		return
	}
	if !slices.IsSorted(got) || len(slices.Compact(slices.Clone(got))) != len(got) || got[0] != 0 || got[len(got)-1] != len(l) {
		t.Fatalf("Breaks of %d units is %v", len(l), got)
	}
	for place := 1; place < len(l); place++ {
		said := f.Else
		i := slices.IndexFunc(f.Rules, func(r api.Rule) bool {
			return mean.Stands(r.Before, names, l, place, true) && mean.Stands(r.After, names, l, place, false)
		})
		if i >= 0 {
			said = f.Rules[i].Break
		}
		if slices.Contains(got, place) != said {
			t.Fatalf("%s: Breaks is %v: at %d rule %d says %v", rule.Print(f), got, place, i, said)
		}
	}
}

// TestBreakForKeep: with break for keep, and keep for break, all places within are turned.
func TestBreakForKeep(t *testing.T) {
	d := die(10)
	for range 1000 {
		f, l := parsed(t, drawFile(&d, false)), utf.Decode(drawText(&d, 12))
		other := f
		other.Else = !f.Else
		other.Rules = slices.Clone(f.Rules)
		for i := range other.Rules {
			other.Rules[i].Break = !f.Rules[i].Break
		}
		a, _ := mean.Breaks(f, l)
		b, _ := mean.Breaks(other, l)
		for place := 1; place < len(l); place++ {
			if slices.Contains(a, place) == slices.Contains(b, place) {
				t.Fatalf("%s: Breaks is %v, and with break for keep %v", rule.Print(f), a, b)
			}
		}
	}
}

// TestFirstSays: what stands behind a rule that stands everywhere says nothing, and one that stands nowhere changes nothing.
func TestFirstSays(t *testing.T) {
	d := die(11)
	for range 500 {
		f, l := parsed(t, drawFile(&d, false)), utf.Decode(drawText(&d, 12))
		want, _ := mean.Breaks(f, l)
		for at := range len(f.Rules) + 1 {
			never := api.Rule{Break: d.n(2) == 0, Before: one(lit()), After: cat()}
			if d.n(2) == 0 {
				never.Before, never.After = never.After, never.Before
			}
			g := f
			g.Rules = slices.Insert(slices.Clone(f.Rules), at, never)
			if got, err := mean.Breaks(g, l); err != nil || !slices.Equal(got, want) {
				t.Fatalf("%s: a rule that stands nowhere: %v, not %v", rule.Print(g), got, want)
			}
			always := api.Rule{Break: d.n(2) == 0, Before: cat(), After: cat()}
			g.Rules = slices.Insert(slices.Clone(f.Rules), at, always)
			h := api.File{Classes: f.Classes, Rules: f.Rules[:at], Else: always.Break}
			a, _ := mean.Breaks(g, l)
			b, _ := mean.Breaks(h, l)
			if !slices.Equal(a, b) {
				t.Fatalf("%s: a rule that stands everywhere: %v, not %v", rule.Print(g), a, b)
			}
		}
	}
}

// TestBreaksLong: a text as long as one may be told at a desk.
func TestBreaksLong(t *testing.T) {
	text := strings.Repeat("aab ", api.MaxText/4)
	var want []int
	for i := range api.MaxText/4 + 1 {
		want = append(want, 4*i-1, 4*i)
	}
	want = want[1:]
	f := parsed(t, "class l = [61-7a]; keep l+ ([2d] l+)* : (l+ [2d]?)+; keep (l+ [20])* $ : ;")
	if got, err := mean.Breaks(f, utf.Decode(text)); err != nil || !slices.Equal(got, want) {
		t.Errorf("Breaks of %d units are %d, %v", len(text), len(got), err)
	}
	f = parsed(t, "keep $ ([61]+)+ : ([61]*)* $; break : ;")
	if got, err := mean.Breaks(f, utf.Decode(strings.Repeat("a", api.MaxText))); err != nil || numbers(got) != "0 20000" {
		t.Errorf("Breaks of one letter are %d, %v", len(got), err)
	}
}
