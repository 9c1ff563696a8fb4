package rule_test

import (
	"strings"
	"testing"

	"caesura/api"
	"caesura/rule"
)

func TestOrdinaryFile(t *testing.T) {
	s := "# letters\nclass a = [61-7a] - [65];\nclass b1=~a;\nkeep a (a|.)* : b1{2,};\nbreak $:[20];\nelse keep;\n"
	at := func(piece string) int { return strings.Index(s, piece) }
	want := api.File{
		Classes: []api.Class{
			{Name: "a", At: at("class a"), Kind: two(api.Less, at("[61"), lit(at("[61"), 'a', 'z'), lit(at("[65]"), 'e', 'e'))},
			{Name: "b1", At: at("class b1"), Kind: not(at("~"), ref(at("~")+1, "a"))},
		},
		Rules: []api.Rule{
			{
				At:     at("keep a"),
				Before: cat(one(ref(at("a (a|"), "a")), many(alt(one(ref(at("a|."), "a")), dot()), 0, -1)),
				After:  many(one(ref(at("b1{"), "b1")), 2, -1),
			},
			{At: at("break"), Break: true, Before: edge(), After: one(lit(at("[20]"), ' ', ' '))},
		},
	}
	if f := parsed(t, s); !sameFile(f, want, true) {
		t.Errorf("Parse(%q) is %v, in its own words\n%s", s, f, rule.Print(f))
	}
}

func TestNothing(t *testing.T) {
	for _, s := range []string{"", " ", "\n", " \n \n\n  ", "#", "#\n", "# no line's end", "  # [ \x00\xff\t\r @ A ' { class", "#a\n#b\n\n #c\n", "##", "\n#"} {
		if f := parsed(t, s); !sameFile(f, api.File{Else: true}, true) {
			t.Errorf("Parse(%q) is %v", s, f)
		}
	}
}

func TestElse(t *testing.T) {
	for _, c := range []struct {
		text string
		want bool
	}{
		{"", true}, {"else break;", true}, {"else keep;", false}, {"else#\n keep #\n ; # done", false},
		{"class a = [];", true}, {"class a = []; else keep;", false}, {"keep:;", true}, {"keep:; else break;", true},
		{"break:;else keep;", false}, {"class a = []; break:; keep:; else keep;", false},
	} {
		if f := parsed(t, c.text); f.Else != c.want {
			t.Errorf("Parse(%q).Else is %v", c.text, f.Else)
		}
	}
}

// TestGaps: what stands between tokens says nothing; places are those of the tokens.
func TestGaps(t *testing.T) {
	tight := "class a=[61 63]|~(b&c);keep a{2,3}[]|$.:(.)+;break:;else break;"
	want := parsed(t, tight)
	tokens := []string{"class", "a", "=", "[61 63]", "|", "~", "(", "b", "&", "c", ")", ";", "keep", "a", "{", "2", ",", "3", "}", "[]", "|", "$", ".", ":", "(", ".", ")", "+", ";", "break", ":", ";", "else", "break", ";"}
	for _, gap := range []string{" ", "\n", "   ", "\n\n ", "#\n", " # class ; [ \xff\n ", "#a\n#b\n"} {
		s := gap + strings.Join(tokens, gap)
		for _, end := range []string{"", gap, "#", " # at the end"} {
			f := parsed(t, s+end)
			if !sameFile(f, want, false) {
				t.Errorf("Parse(%q) is\n%snot\n%s", s, rule.Print(f), rule.Print(want))
			}
			if f.Classes[0].At != len(gap) || f.Rules[0].At != strings.Index(s, "keep") || f.Rules[1].At != strings.Index(s, "break") {
				t.Errorf("Parse(%q): places %v, %v", s, f.Classes, f.Rules)
			}
		}
	}
}

// TestWords: a word goes as far as its letters and digits, a number as far as its digits, whether or not a blank is behind.
func TestWords(t *testing.T) {
	for _, c := range []struct{ text, want string }{
		{"class a1b2=[];", "class a1b2 = [];\n"},
		{"class class1=else0|breaks-keeper;", "class class1 = else0 | breaks - keeper;\n"},
		{"keep.{2}a z9:a b;", "keep .{2} a z9 : a b;\n"},
		{"keep[61][62]a[63]$:;", "keep [61] [62] a [63] $ :;\n"},
		{"break:a{2}b{3,4}{5,};else keep;", "break : a{2} b{3,4}{5,};\nelse keep;\n"},
	} {
		if got := rule.Print(parsed(t, c.text)); got != c.want {
			t.Errorf("%q is read as %q", c.text, got)
		}
	}
}

func TestKinds(t *testing.T) {
	const ahead = "class n = "
	n := len(ahead)
	for _, c := range []struct {
		text string
		want *api.Kind
	}{
		{"a", ref(n, "a")},
		{"n", ref(n, "n")},
		{"classes", ref(n, "classes")},
		{"else1", ref(n, "else1")},
		{"[]", lit(n)},
		{"[0-10ffff]", lit(n, 0, api.MaxPoint)},
		{"[61 63-65]", lit(n, 'a', 'a', 'c', 'e')},
		{"~a", not(n, ref(n+1, "a"))},
		{"~ ~[61]", not(n, not(n+2, lit(n+3, 'a', 'a')))},
		{"(a)", ref(n+1, "a")},
		{"((a))", ref(n+2, "a")},
		{"(~a)", not(n+1, ref(n+2, "a"))},
		{"~(a)", not(n, ref(n+2, "a"))},
		{"a|b", two(api.Or, n, ref(n, "a"), ref(n+2, "b"))},
		{"a&b", two(api.And, n, ref(n, "a"), ref(n+2, "b"))},
		{"a-b", two(api.Less, n, ref(n, "a"), ref(n+2, "b"))},
		{"a|b&c-d|e", two(api.Or, n, two(api.Less, n, two(api.And, n, two(api.Or, n, ref(n, "a"), ref(n+2, "b")), ref(n+4, "c")), ref(n+6, "d")), ref(n+8, "e"))},
		{"a-b-c", two(api.Less, n, two(api.Less, n, ref(n, "a"), ref(n+2, "b")), ref(n+4, "c"))},
		{"a-(b-c)", two(api.Less, n, ref(n, "a"), two(api.Less, n+3, ref(n+3, "b"), ref(n+5, "c")))},
		{"(a-b)-c", two(api.Less, n, two(api.Less, n+1, ref(n+1, "a"), ref(n+3, "b")), ref(n+6, "c"))},
		{"((a|b))", two(api.Or, n+2, ref(n+2, "a"), ref(n+4, "b"))},
		{"((a)|b)", two(api.Or, n+1, ref(n+2, "a"), ref(n+5, "b"))},
		{"(a)|b", two(api.Or, n, ref(n+1, "a"), ref(n+4, "b"))},
		{"~a|b", two(api.Or, n, not(n, ref(n+1, "a")), ref(n+3, "b"))},
		{"a&~b", two(api.And, n, ref(n, "a"), not(n+2, ref(n+3, "b")))},
		{"~(a|b)", not(n, two(api.Or, n+2, ref(n+2, "a"), ref(n+4, "b")))},
		{"~(a|b)&c", two(api.And, n, not(n, two(api.Or, n+2, ref(n+2, "a"), ref(n+4, "b"))), ref(n+7, "c"))},
		{"~((a)|b)", not(n, two(api.Or, n+2, ref(n+3, "a"), ref(n+6, "b")))},
	} {
		f := parsed(t, ahead+c.text+";")
		want := api.File{Else: true, Classes: []api.Class{{Name: "n", Kind: c.want}}}
		if !sameFile(f, want, true) {
			t.Errorf("the kind of %q is %v, or its places are others: %s", c.text, f.Classes[0].Kind, rule.Print(f))
		}
	}
}

func TestPatterns(t *testing.T) {
	const ahead = "keep "
	n := len(ahead)
	a := func(at int) *api.Pattern { return one(ref(n+at, "a")) }
	b := func(at int) *api.Pattern { return one(ref(n+at, "b")) }
	for _, c := range []struct {
		text string
		want *api.Pattern
	}{
		{"", cat()},
		{".", dot()},
		{"$", edge()},
		{"a", a(0)},
		{"[61]", one(lit(n, 'a', 'a'))},
		{"[]", one(lit(n))},
		{"()", cat()},
		{"(a)", a(1)},
		{"((a))", a(2)},
		{"a b", cat(a(0), b(2))},
		{"a.$[]", cat(a(0), dot(), edge(), one(lit(n+3)))},
		{"$$", cat(edge(), edge())},
		{"(a b)", cat(a(1), b(3))},
		{"(a b).", cat(cat(a(1), b(3)), dot())},
		{"()()", cat(cat(), cat())},
		{"a|b", alt(a(0), b(2))},
		{"|", alt(cat(), cat())},
		{"||", alt(cat(), cat(), cat())},
		{"a|", alt(a(0), cat())},
		{"|a", alt(cat(), a(1))},
		{"(|)", alt(cat(), cat())},
		{"a|b|.", alt(a(0), b(2), dot())},
		{"(a|b)|.", alt(alt(a(1), b(3)), dot())},
		{"a|(b|.)", alt(a(0), alt(b(3), dot()))},
		{"a|b .|$", alt(a(0), cat(b(2), dot()), edge())},
		{"(a|b).", cat(alt(a(1), b(3)), dot())},
		{"a*", many(a(0), 0, -1)},
		{"a b*", cat(a(0), many(b(2), 0, -1))},
		{"(a b)*", many(cat(a(1), b(3)), 0, -1)},
		{"(a|b)?", many(alt(a(1), b(3)), 0, 1)},
		{"()+", many(cat(), 1, -1)},
		{"$*", many(edge(), 0, -1)},
		{"a*|b+", alt(many(a(0), 0, -1), many(b(3), 1, -1))},
		{"a*+?{2}", many(many(many(many(a(0), 0, -1), 1, -1), 0, 1), 2, 2)},
		{"(a*)+", many(many(a(1), 0, -1), 1, -1)},
	} {
		want := api.File{Else: true, Rules: []api.Rule{{Before: c.want, After: cat()}}}
		if f := parsed(t, ahead+c.text+":;"); !sameFile(f, want, true) {
			t.Errorf("ahead: %q is %v, or its places are others: %s", c.text, f.Rules[0].Before, rule.Print(f))
		}
		// what stands behind is read in the same way, and so far behind
		s := "keep:" + strings.Repeat(" ", n) + c.text + ";"
		f := parsed(t, s)
		if !samePattern(f.Rules[0].After, c.want, false) || !samePattern(f.Rules[0].Before, cat(), true) {
			t.Errorf("behind: %q is %v", c.text, f.Rules[0].After)
		}
	}
}

func TestTimes(t *testing.T) {
	for _, c := range []struct {
		text   string
		lo, hi int
	}{
		{"*", 0, -1}, {"+", 1, -1}, {"?", 0, 1},
		{"{0}", 0, 0}, {"{1}", 1, 1}, {"{2}", 2, 2}, {"{12}", 12, 12},
		{"{0,}", 0, -1}, {"{1,}", 1, -1}, {"{2,}", 2, -1}, {"{12,}", 12, -1},
		{"{0,0}", 0, 0}, {"{0,1}", 0, 1}, {"{0,12}", 0, 12}, {"{3,4}", 3, 4}, {"{3,3}", 3, 3}, {"{12,12}", 12, 12},
		{"{00}", 0, 0}, {"{007}", 7, 7}, {"{010,0012}", 10, 12}, {"{" + strings.Repeat("0", 5000) + "12}", 12, 12},
		{" { 2 , # so often\n 3 } ", 2, 3},
	} {
		f := parsed(t, "keep ."+c.text+":;")
		if !samePattern(f.Rules[0].Before, many(dot(), c.lo, c.hi), true) {
			t.Errorf("%.50q is %v", c.text, f.Rules[0].Before)
		}
	}
}

// TestRules: each rule's place, what it says, and its two sides.
func TestRules(t *testing.T) {
	f := parsed(t, " break . : $;keep $ : .;\n  break:.; keep.:;")
	want := api.File{Else: true, Rules: []api.Rule{
		{At: 1, Break: true, Before: dot(), After: edge()},
		{At: 13, Before: edge(), After: dot()},
		{At: 27, Break: true, Before: cat(), After: dot()},
		{At: 36, Before: dot(), After: cat()},
	}}
	if !sameFile(f, want, true) {
		t.Errorf("the rules are %v", f.Rules)
	}
}

// TestClassesByTheirOrder: names are not looked at as yet: one may be there twice, or not at all.
func TestClassesByTheirOrder(t *testing.T) {
	f := parsed(t, "class b = a; class a = b;class a = a; keep zz : a;")
	want := api.File{Else: true,
		Classes: []api.Class{{Name: "b", At: 0, Kind: ref(10, "a")}, {Name: "a", At: 13, Kind: ref(23, "b")}, {Name: "a", At: 25, Kind: ref(35, "a")}},
		Rules:   []api.Rule{{At: 38, Before: one(ref(43, "zz")), After: one(ref(48, "a"))}}}
	if !sameFile(f, want, true) {
		t.Errorf("the file is %v", f)
	}
}

// TestFresh (P4): what comes out is the caller's: writing into it changes no later answer.
func TestFresh(t *testing.T) {
	const s = "class a = [61-7a] | b; keep a (a | .)* : [61]{2,}; else keep;"
	first, want := parsed(t, s), parsed(t, s)
	first.Classes[0].Kind.Left.Set[0].Lo = 5
	first.Classes[0] = api.Class{}
	first.Rules[0].Before.Parts[1].Parts[0].Parts[0].Code = api.Edge
	first.Rules[0].Before.Parts[0] = nil
	first.Rules[0].After.Parts[0].Kind.Set[0].Hi = 7
	if !sameFile(parsed(t, s), want, true) || sameFile(first, want, true) {
		t.Errorf("%q is now %v", s, parsed(t, s))
	}
}

// TestApart (P4): no part of an answer lies in another one.
func TestApart(t *testing.T) {
	f := parsed(t, "class a = [61]; class b = [61]; keep [61] .. : [61] ..;")
	f.Classes[0].Kind.Set[0].Lo = 0
	f.Rules[0].Before.Parts[0].Kind.Set[0].Hi = 99
	f.Rules[0].Before.Parts[1].Code = api.Edge
	_ = append(f.Rules[0].Before.Parts[:2], edge())
	_ = append(f.Classes[0].Kind.Set, api.Range{Lo: 7, Hi: 7})
	if got, want := rule.Print(f), "class a = [0-61];\nclass b = [61];\nkeep [61-63] $ $ : [61] . .;\n"; got != want {
		t.Errorf("written into, it is\n%snot\n%s", got, want)
	}
}
