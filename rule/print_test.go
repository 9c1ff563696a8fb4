package rule_test

import (
	"strings"
	"testing"

	"caesura/api"
	"caesura/rule"
)

// TestExample is the document's.
func TestExample(t *testing.T) {
	f := parsed(t, "class a=[61-7a]-[65];keep a(a|.)* : ( a ){2,} ;")
	if got, want := rule.Print(f), "class a = [61-7a] - [65];\nkeep a (a | .)* : a{2,};\n"; got != want {
		t.Errorf("it is written\n%s", got)
	}
}

// TestText: each pattern is written in one way, from however it was told.
func TestText(t *testing.T) {
	for _, c := range []struct{ told, want string }{
		{"", ""}, {"()", ""}, {"((()))", ""}, {"a", "a"}, {"(a)", "a"}, {"((.))", "."}, {"$", "$"}, {"[]", "[]"}, {"[61 63-65]", "[61 63-65]"},
		{"a.$[61]", "a . $ [61]"}, {"a b", "a b"}, {"(a b)", "a b"}, {"(a)(b)", "a b"},
		{"(a b)c", "(a b) c"}, {"a(b c)", "a (b c)"}, {"()a", "() a"}, {"a()", "a ()"}, {"()()", "() ()"}, {"(())", ""},
		{"a|b", "a | b"}, {"(a|b)", "a | b"}, {"a|b|c", "a | b | c"}, {"(a|b)|c", "(a | b) | c"}, {"a|(b|c)", "a | (b | c)"}, {"(a)|(b)", "a | b"},
		{"a b|c", "a b | c"}, {"(a b)|(c .)", "a b | c ."}, {"a(b|c)", "a (b | c)"}, {"(a|b)(c|.)", "(a | b) (c | .)"},
		{"|", " | "}, {"a|", "a | "}, {"|a", " | a"}, {"||", " |  | "}, {"()|()", " | "}, {"(|)a", "( | ) a"}, {"(a|)*", "(a | )*"}, {"(|)|", "( | ) | "},
		{"(a b)*", "(a b)*"}, {"(a|b)+", "(a | b)+"}, {"()?", "()?"}, {"(a)*", "a*"}, {"(a*)+", "a*+"}, {"((a*)+)?", "a*+?"}, {"(a* b)+", "(a* b)+"}, {"(a*|b)+", "(a* | b)+"}, {"((a b)*)+", "(a b)*+"},
		{"a * b + c ?", "a* b+ c?"}, {"[61] {2} | . {3,}", "[61]{2} | .{3,}"}, {"$ *", "$*"},
		{"((a|b)c|.)*|(($))", "((a | b) c | .)* | $"},
		{"(((a|b)|c)|.)", "((a | b) | c) | ."}, {"((a b)c).", "((a b) c) ."},
	} {
		for _, s := range []string{"keep " + c.told + " : $;", "break $ : " + c.told + ";"} {
			r := parsed(t, s).Rules[0]
			x := r.Before
			if r.Break {
				x = r.After
			}
			if got := rule.Text(x); got != c.want {
				t.Errorf("%q is written %q, not %q", c.told, got, c.want)
			}
		}
	}
}

// TestTimesText: the first of `*`, `+`, `?`, `{a,}`, `{a}`, `{a,b}` that says the same.
func TestTimesText(t *testing.T) {
	for _, c := range []struct{ told, want string }{
		{"*", "*"}, {"{0,}", "*"}, {"{00,}", "*"}, {"+", "+"}, {"{1,}", "+"}, {"{01,}", "+"}, {"?", "?"}, {"{0,1}", "?"}, {"{000,01}", "?"},
		{"{2,}", "{2,}"}, {"{12,}", "{12,}"}, {"{010,}", "{10,}"},
		{"{0}", "{0}"}, {"{0,0}", "{0}"}, {"{1}", "{1}"}, {"{1,1}", "{1}"}, {"{12}", "{12}"}, {"{12,12}", "{12}"}, {"{007}", "{7}"},
		{"{0,2}", "{0,2}"}, {"{1,2}", "{1,2}"}, {"{11,12}", "{11,12}"}, {"{0,12}", "{0,12}"}, {"{02,010}", "{2,10}"},
		{"**", "**"}, {"?{0,1}{1,}{0,}{2}", "??+*{2}"}, {"{1}{1,1}", "{1}{1}"},
	} {
		if got := rule.Text(parsed(t, "keep ."+c.told+":;").Rules[0].Before); got != "."+c.want {
			t.Errorf(".%s is written %s", c.told, got)
		}
	}
}

func TestPrintKinds(t *testing.T) {
	for _, c := range []struct{ told, want string }{
		{"a", "a"}, {"(a)", "a"}, {"((([])))", "[]"}, {"[0-10ffff]", "[0-10ffff]"}, {"~a", "~a"}, {"~ ~ a", "~~a"}, {"~(a)", "~a"}, {"~(~a)", "~~a"}, {"(~a)", "~a"},
		{"a|b", "a | b"}, {"a&b", "a & b"}, {"a-b", "a - b"}, {"a|b&c-d", "a | b & c - d"}, {"((a|b)&c)-d", "a | b & c - d"},
		{"a|(b&c)", "a | (b & c)"}, {"a-(b-c)", "a - (b - c)"}, {"a|(b|c)", "a | (b | c)"}, {"a&(b)", "a & b"}, {"a&(~b)", "a & ~b"}, {"(a-b)-(c-d)", "a - b - (c - d)"},
		{"~(a|b)", "~(a | b)"}, {"~(a&b)|c", "~(a & b) | c"}, {"(~a)|b", "~a | b"}, {"~a|b", "~a | b"}, {"~((a-b))", "~(a - b)"}, {"a-~(b|c)", "a - ~(b | c)"}, {"~(a|(b|c))", "~(a | (b | c))"}, {"~((a|b)|c)", "~(a | b | c)"},
	} {
		if got := rule.Print(parsed(t, "class n = "+c.told+";")); got != "class n = "+c.want+";\n" {
			t.Errorf("%q is written %q", c.told, got)
		}
	}
}

func TestPrintFiles(t *testing.T) {
	for _, c := range []struct{ told, want string }{
		{"", ""}, {"# remarks are lost", ""}, {"else break;", ""}, {"else keep;", "else keep;\n"},
		{"keep:;", "keep :;\n"}, {"break:;", "break :;\n"}, {"keep.:;", "keep . :;\n"}, {"break:.;", "break : .;\n"}, {"break . : $;", "break . : $;\n"},
		{"keep () : (());", "keep :;\n"}, {"keep|:|;", "keep  |  :  | ;\n"}, {"keep a|:|a;", "keep a |  :  | a;\n"},
		{"class a=[];class b=a;keep a:b;break b|.:$ $;else keep;", "class a = [];\nclass b = a;\nkeep a : b;\nbreak b | . : $ $;\nelse keep;\n"},
		{"break:;keep:;break:;else break;", "break :;\nkeep :;\nbreak :;\n"},
	} {
		f := parsed(t, c.told)
		if got := rule.Print(f); got != c.want {
			t.Errorf("%q is written %q", c.told, got)
		}
		readAgain(t, f)
	}
	if got := rule.Print(api.File{}); got != "else keep;\n" {
		t.Errorf("the zero file is written %q", got)
	}
}

// readAgain fails the test unless a file is written so that it is read as it was, and written so again.
func readAgain(t *testing.T, f api.File) {
	t.Helper()
	s := rule.Print(f)
	again, err := rule.Parse(s)
	if err != nil || !sameFile(again, f, false) {
		t.Fatalf("what is written is not read as it was: %s: %s", s, told(err))
	}
	if rule.Print(again) != s {
		t.Fatalf("%s is written %s", s, rule.Print(again))
	}
	for _, r := range f.Rules {
		for _, side := range []*api.Pattern{r.Before, r.After} {
			if text := rule.Text(side); !strings.Contains(s, text) {
				t.Fatalf("%q is not in %q", text, s)
			}
		}
	}
}

// grown are patterns that are put together of those of a list, once.
func grown(l []*api.Pattern) []*api.Pattern {
	out := append([]*api.Pattern(nil), l...)
	for i, x := range l {
		bounds := [][2]int{{0, -1}, {1, -1}, {0, 1}, {2, -1}, {3, 3}, {0, 0}, {1, 1}, {0, 2}, {2, 12}}
		b := bounds[i%len(bounds)]
		out = append(out, many(x, b[0], b[1]))
		for _, y := range l {
			out = append(out, cat(x, y), alt(x, y))
		}
	}
	return out
}

// TestEachPattern: of all patterns of few parts, what is written is read as it was, with no ( ) too many.
func TestEachPattern(t *testing.T) {
	first := []*api.Pattern{one(ref(0, "a")), one(lit(0, 'a', 'b')), dot(), edge(), cat()}
	second := grown(first)
	third := grown(second)
	few := grown(grown([]*api.Pattern{dot(), cat()}))
	for i, x := range few {
		third = append(third, many(x, 0, -1), cat(x, few[len(few)-1-i], dot()), alt(x, few[len(few)-1-i], dot()))
	}
	for _, x := range third {
		s := rule.Text(x)
		if !samePattern(parsed(t, "keep "+s+" : ;").Rules[0].Before, x, false) {
			t.Fatalf("%v is written %q", x, s)
		}
		noneTooMany(t, s, func(s string) bool {
			f, err := rule.Parse("keep " + s + " : ;")
			return err == nil && samePattern(f.Rules[0].Before, x, false)
		})
	}
}

// TestEachKind: of all kinds of few parts, what is written is read as it was, with no ( ) too many.
func TestEachKind(t *testing.T) {
	kinds := []*api.Kind{ref(0, "a"), lit(0, 'a', 'b')}
	for range 2 {
		for _, x := range kinds[:len(kinds):len(kinds)] {
			kinds = append(kinds, not(0, x))
		}
		for _, x := range kinds[:len(kinds):len(kinds)] {
			for i, y := range kinds[:min(len(kinds), 60)] {
				kinds = append(kinds, two(api.Or+i%3, 0, x, y), two(api.Or+i%3, 0, y, x))
			}
		}
	}
	for _, k := range kinds {
		f := api.File{Else: true, Classes: []api.Class{{Name: "n", Kind: k}}}
		readAgain(t, f)
		noneTooMany(t, rule.Print(f), func(s string) bool {
			g, err := rule.Parse(s)
			return err == nil && sameFile(f, g, false)
		})
	}
}

// noneTooMany fails the test if a text without one of its ( and its ) says the same.
func noneTooMany(t *testing.T, s string, same func(s string) bool) {
	t.Helper()
	var open []int
	for i, c := range []byte(s) {
		if c == '(' {
			open = append(open, i)
		}
		if c == ')' {
			at := open[len(open)-1]
			open = open[:len(open)-1]
			if less := s[:at] + s[at+1:i] + s[i+1:]; same(less) {
				t.Fatalf("%q says the same as %q", less, s)
			}
		}
	}
}

// TestDrawnFiles: files of many kinds are read as they were.
func TestDrawnFiles(t *testing.T) {
	d := die(7)
	for range 3000 {
		s := ""
		for range d.n(4) {
			s += "class " + []string{"a", "b2", "abcdefghij"}[d.n(3)] + "=" + drawnKind(&d, 3) + ";"
		}
		for range d.n(4) {
			s += []string{"break ", "keep "}[d.n(2)] + drawnPattern(&d, 3) + ":" + drawnPattern(&d, 3) + ";"
		}
		f, err := rule.Parse(s + []string{"", "else keep;", "else break;"}[d.n(3)])
		if err == nil {
			readAgain(t, f)
		} else if api.Tell(err) != api.ErrLimit {
			t.Fatalf("Parse(%q): %s", s, told(err))
		}
	}
}

func drawnKind(d *die, deep int) string {
	s := []string{"a", "[61]", "[]", "~ab"}[d.n(4)]
	if deep > 0 && d.n(2) == 0 {
		s = []string{"(", "~("}[d.n(2)] + drawnKind(d, deep-1) + ")"
	}
	if d.n(2) == 0 {
		s += []string{"|", "&", "-"}[d.n(3)] + drawnKind(d, max(0, deep-1))
	}
	return s
}

func drawnPattern(d *die, deep int) string {
	s := ""
	for range d.n(4) {
		x := []string{"a ", "b", "[61]", ".", "$", "()"}[d.n(6)]
		if deep > 0 && d.n(2) == 0 {
			x = "(" + drawnPattern(d, deep-1) + ")"
		}
		s += x + []string{"", "", "*", "+", "?", "{2}", "{0,1}", "{1,}", "{2,5}"}[d.n(9)] + []string{" ", " ", "|"}[d.n(3)]
	}
	return s
}

// TestManyInMany: no ( ) stand about it, even where as many TIMES behind one another are too many to be read.
func TestManyInMany(t *testing.T) {
	x := parsed(t, "keep (.*******)*+ : ;").Rules[0].Before
	if got := rule.Text(x); got != ".********+" {
		t.Errorf("it is written %q", got)
	}
}

// TestHandedIn (P4): files and patterns are not written into, nor is what stands behind a list's length.
func TestHandedIn(t *testing.T) {
	const s = "class a = [61-7a 80] | ~(b - c); keep a (a | .)* : [61]{2,} ()|; else keep;"
	f, want := parsed(t, s), parsed(t, s)
	spare := append(f.Rules, api.Rule{At: 77})
	f.Rules = spare[:1]
	x := f.Rules[0].Before
	parts := append(x.Parts, edge())
	x.Parts = parts[:2]
	for range 2 {
		rule.Print(f)
		rule.Text(x)
	}
	if !sameFile(f, want, true) || spare[1].At != 77 || parts[2].Code != api.Edge {
		t.Errorf("it is written into: %v", f)
	}
}

// TestPutTogether (P1): what is put together of what Parse told is written, too.
func TestPutTogether(t *testing.T) {
	x := dot()
	for range 10_000 {
		x = many(cat(x, dot()), 0, -1)
	}
	if s := rule.Text(x); len(s) != 1+10_000*len("( .)*") {
		t.Errorf("%d bytes", len(s))
	}
	left, right := ref(0, "a"), ref(0, "a")
	for range 10_000 {
		left, right = two(api.Or, 0, left, ref(0, "b")), not(0, two(api.Less, 0, ref(0, "b"), right))
	}
	f := api.File{Else: true, Classes: []api.Class{{Name: "x", Kind: left}, {Name: "y", Kind: right}}}
	want := "class x = a" + strings.Repeat(" | b", 10_000) + ";\nclass y = " + strings.Repeat("~(b - ", 10_000) + "a" + strings.Repeat(")", 10_000) + ";\n"
	if rule.Print(f) != want {
		t.Errorf("deep kinds are written in another way")
	}
}

// TestNothingThere (P1): what is not there is written as nothing.
func TestNothingThere(t *testing.T) {
	if got := rule.Text(nil); got != "" {
		t.Errorf("Text of nothing is %q", got)
	}
	for _, x := range []*api.Pattern{{}, {Code: 99}, {Code: api.One}, {Code: api.Cat}, {Code: api.Alt}, {Code: api.Many}, {Code: api.Cat, Parts: []*api.Pattern{nil, nil}}, {Code: api.Many, Parts: []*api.Pattern{nil}}} {
		rule.Text(x)
		rule.Print(api.File{Rules: []api.Rule{{Before: x}, {After: x}}})
	}
	for _, k := range []*api.Kind{nil, {}, {Code: 99}, {Code: api.Not}, {Code: api.Or}, {Code: api.Less, Left: &api.Kind{}}} {
		rule.Print(api.File{Classes: []api.Class{{Kind: k}}})
		rule.Text(one(k))
	}
}
