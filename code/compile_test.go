package code_test

import (
	"fmt"
	"reflect"
	"slices"
	"strings"
	"testing"

	"caesura/api"
	"caesura/check"
	"caesura/code"
	"caesura/mean"
	"caesura/rule"
	"caesura/utf"
	"caesura/vm"
)

// compiled is the program of a file, which there must be.
func compiled(t testing.TB, f api.File) api.Program {
	t.Helper()
	p, err := code.Compile(f)
	if err != nil {
		t.Fatalf("Compile(%q): %v", rule.Print(f), err)
	}
	if !vm.RightProgram(p) {
		t.Fatalf("Compile(%q) is not right: %v", rule.Print(f), p)
	}
	return p
}

// breaksOf are where a file's program breaks a text, in words.
func breaksOf(t testing.TB, f api.File, text string) string {
	t.Helper()
	l, err := vm.Breaks(compiled(t, f), pointsOf(utf.Decode(text)))
	if err != nil {
		t.Fatalf("Breaks by %q: %v", rule.Print(f), err)
	}
	return numbers(l)
}

// isNoProgram says whether a program is the zero value.
func isNoProgram(p api.Program) bool {
	return p.Rules == nil && !p.Else
}

// TestCompile (7.2): files and texts, and the places at which these break.
func TestCompile(t *testing.T) {
	for _, c := range []struct{ file, text, want string }{
		// the document's own
		{"class a = [61-7a]; keep a: a;", "ab cd", "0 2 3 5"},
		// no rule: Else
		{"", "", ""},
		{"", "a", "0 1"},
		{"", "abc", "0 1 2 3"},
		{"else break;", "abc", "0 1 2 3"},
		{"else keep;", "", ""},
		{"else keep;", "abc", "0 3"},
		{"class a = [61];", "aa", "0 1 2"},
		// the text's ends are breaks, whatever is said
		{"keep : ;", "abc", "0 3"},
		{"keep $ : ; keep : $;", "ab", "0 1 2"},
		{"break : ; else keep;", "abc", "0 1 2 3"},
		// Before is ahead of the place, read backwards, After behind it, read forwards
		{"keep [61] : [62];", "abab", "0 2 4"},
		{"keep [62] : [61];", "abab", "0 1 3 4"},
		{"break [61] : [62]; else keep;", "abab", "0 1 3 4"},
		{"keep [61] [62] : [63] [64];", "abcdab", "0 1 3 4 5 6"},
		{"keep [62] [61] : [64] [63];", "abcdab", "0 1 2 3 4 5 6"},
		{"break : [62] [61]; else keep;", "abab", "0 1 4"},
		{"break [62] [61] : ; else keep;", "abab", "0 3 4"},
		// both must stand
		{"keep [61] : [63];", "abac", "0 1 2 4"},
		{"keep [63] : [61]; break [61] : [63]; else keep;", "acac", "0 1 3 4"},
		// the first one that stands says
		{"keep [61] : ; break [61] : ; else break;", "aab", "0 3"},
		{"break [61] : ; keep [61] : ; else keep;", "aab", "0 1 2 3"},
		{"break [61] : [62]; keep [61] : ; else keep;", "aabcc", "0 2 5"},
		{"keep [61] : ; break [61] : [62]; else break;", "aabcc", "0 3 4 5"},
		{"break [63] : [63]; keep [61] : [61]; break . : [61]; else keep;", "aabaacca", "0 3 6 7 8"},
		// Edge, on the side on which it is
		{"break $ . : ; else keep;", "abc", "0 1 3"},
		{"break : . $; else keep;", "abc", "0 2 3"},
		{"break . $ : ; else keep;", "abc", "0 3"},
		{"break : $ .; else keep;", "abc", "0 3"},
		{"break $ [61]* : [62]* $; else keep;", "aabb", "0 2 4"},
		{"break $ (. .)* : ; else keep;", "abcdefg", "0 2 4 6 7"},
		// names, of all classes
		{"class a = [61]; class b = a | [62]; class c = ~b; keep a : b; keep c : a; else break;", "abca", "0 2 4"},
		// flags in pairs, words with marks in them
		{"class r = [1f1e6-1f1ff]; class o = ~r; keep ($ | o) (r r)* r : r;", "\U0001f1e6\U0001f1e8\U0001f1e9\U0001f1ea\U0001f1ebx\U0001f1e6\U0001f1e8\U0001f1e9", "0 2 4 5 6 8 9"},
		{"class l = [61-7a]; class m = [27 2d]; keep l : l; keep l : m l; keep l m : l;", "don't stop-", "0 5 6 10 11"},
		{"keep [d] : [a]; break [a d] : ; break : [a d]; else keep;", "ab\r\ncd\n\r", "0 2 4 6 7 8"},
	} {
		if got := breaksOf(t, parsed(t, c.file), c.text); got != c.want {
			t.Errorf("%q breaks %q at %q, not %q", c.file, c.text, got, c.want)
		}
	}
}

// TestCompileDrawn (7.2): drawn files and texts: a program breaks where it is meant.
func TestCompileDrawn(t *testing.T) {
	d := die(7)
	within, all := 0, 0
	for range 1500 {
		f := parsed(t, drawFile(&d))
		for range 3 {
			text := drawText(&d, 9)
			want, err := mean.Breaks(f, utf.Decode(text))
			if got := breaksOf(t, f, text); err != nil || got != numbers(want) {
				t.Fatalf("%q breaks %q at %s, not %v, %v", rule.Print(f), text, got, want, err)
			}
			if len(f.Rules) > 0 && len(want) > 1 {
				within, all = within+len(want)-2, all+len(utf.Decode(text))-1
			}
		}
	}
	if within < all/5 || within > all*4/5 {
		t.Errorf("what was drawn is one-sided: %d breaks of %d places", within, all)
	}
}

// TestCompileTrees (7.2, P1): files that are put together by hand.
func TestCompileTrees(t *testing.T) {
	d := die(8)
	for range 1500 {
		f := parsed(t, classes)
		f.Else = d.n(2) == 0
		for i := range d.n(5) {
			f.Rules = append(f.Rules, api.Rule{At: i - 1, Break: d.n(2) == 0, Before: drawTree(&d, 3), After: drawTree(&d, 3)})
		}
		text := drawText(&d, 9)
		want, err := mean.Breaks(f, utf.Decode(text))
		if got := breaksOf(t, f, text); err != nil || got != numbers(want) {
			t.Fatalf("%q breaks %q at %s, not %v, %v", rule.Print(f), text, got, want, err)
		}
	}
}

// TestCompileRules (7.2): rules in order, each with what it says, its Before's code that is read backwards, and its After's; and what is said else.
func TestCompileRules(t *testing.T) {
	d := die(9)
	for range 300 {
		f := parsed(t, drawFile(&d))
		names, _ := check.Names(f)
		p := compiled(t, f)
		if len(p.Rules) != len(f.Rules) || p.Else != f.Else {
			t.Fatalf("%q: %d rules, else %v", rule.Print(f), len(p.Rules), p.Else)
		}
		for i, r := range f.Rules {
			if p.Rules[i].Break != r.Break {
				t.Errorf("%q: rule %d says %v", rule.Print(f), i, p.Rules[i].Break)
			}
			l := utf.Decode(drawText(&d, 9))
			for place := range len(l) + 1 {
				before, after := matches(t, p.Rules[i].Before, pointsOf(l), place, true), matches(t, p.Rules[i].After, pointsOf(l), place, false)
				if before != mean.Stands(r.Before, names, l, place, true) || after != mean.Stands(r.After, names, l, place, false) {
					t.Fatalf("%q: rule %d at %d of %v: %v, %v", rule.Print(f), i, place, l, before, after)
				}
			}
		}
	}
}

// TestCompileMost (7.2): as many rules and classes as there may be, each of which says at one place; and more rules, put together by hand, are each compiled, too.
func TestCompileMost(t *testing.T) {
	s, text, want := "", "", []int{0}
	for i := range api.MaxKinds {
		s += fmt.Sprintf("class c%d = [%x]; ", i, 'a'+i)
	}
	for i := range api.MaxRules {
		s += fmt.Sprintf("%s c%d : ; ", []string{"break", "keep"}[i%2], i)
		text += string(rune('a' + i))
		if i%2 == 0 || i == api.MaxRules-1 {
			want = append(want, i+1)
		}
	}
	f := parsed(t, s)
	if got := breaksOf(t, f, text); got != numbers(want) {
		t.Errorf("it breaks at %s, not %v", got, want)
	}
	f.Rules = append(f.Rules, f.Rules...)
	p, err := code.Compile(f)
	if err != nil || len(p.Rules) != 2*api.MaxRules || !reflect.DeepEqual(p.Rules[:api.MaxRules], p.Rules[api.MaxRules:]) {
		t.Errorf("Compile of %d rules is %v, %v", len(f.Rules), p, err)
	}
}

// tooMuch is a pattern's text of which Pattern tells ErrLimit.
const tooMuch = ".{12}{12}{12}{12}"

// TestCompileWrong (7.2): Check's errors, with their places (@), whatever else there is, and no program.
func TestCompileWrong(t *testing.T) {
	for _, c := range []struct {
		file string
		e    api.Errno
	}{
		{"class a = @x;", api.ErrMissing},
		{"class a = ~@a; keep a : a;", api.ErrMissing},
		{"class a = @b; class b = [61];", api.ErrMissing},
		{"class a = [61]; @class a = [62];", api.ErrTwice},
		{"class a = [61]; @class a = x; keep y : z;", api.ErrTwice},
		{"class a = [61] | @x; class a = [62];", api.ErrMissing},
		{"keep @x : ;", api.ErrMissing},
		{"keep : @x;", api.ErrMissing},
		{"keep @x : y;", api.ErrMissing},
		{"class a = [61]; keep a : a; break a : a | @x; keep y : z;", api.ErrMissing},
		{"keep @x{0} : ; else keep;", api.ErrMissing},
		{"keep [] @x : ;", api.ErrMissing},
		{"keep " + tooMuch + " @x : ;", api.ErrMissing},
		{"keep " + tooMuch + " : @x;", api.ErrMissing},
		{"keep : " + tooMuch + "; keep @x : ;", api.ErrMissing},
		{"keep " + tooMuch + ": ; keep " + tooMuch + ": (. | @x); keep y : ;", api.ErrMissing},
		{"class a = [61]; @class a = [62]; keep " + tooMuch + ": x;", api.ErrTwice},
		{"class a = @b; keep " + tooMuch + ": ; else keep;", api.ErrMissing},
	} {
		s, place := marked(c.file)
		p, err := code.Compile(parsed(t, s))
		if !isError(err, c.e, place) || !isNoProgram(p) {
			t.Errorf("Compile(%q) is %v, %v, want %v at %d", s, p, err, c.e, place)
		}
	}
	f := api.File{Rules: []api.Rule{{At: 3, Before: one(not(ref(77, "x"))), After: cat()}}, Else: true}
	if p, err := code.Compile(f); !isError(err, api.ErrMissing, 77) || !isNoProgram(p) {
		t.Errorf("Compile of a kind of several: %v, %v", p, err)
	}
}

// TestCompileLimit (7.2): ErrLimit at the first rule of which a pattern is too much (@), and no program.
func TestCompileLimit(t *testing.T) {
	const just = ".{12}{12}{12} .{12}{12} .{12}{10} .{7}"
	for _, s := range []string{
		"@keep " + tooMuch + " : ;",
		"@keep : " + tooMuch + ";",
		"@break " + tooMuch + " : " + tooMuch + "; else keep;",
		"keep : ; @break " + tooMuch + " : ;",
		"keep : ; @break : " + tooMuch + ";",
		"class a = [61]; keep a : a; keep a : ;  # rules\n  @break a : a " + tooMuch + "; keep " + tooMuch + ": ; keep a : a; else keep;",
		"@keep : " + tooMuch + "; keep " + tooMuch + " : ;",
		"keep : ; @break " + tooMuch + " : ; keep : " + tooMuch + ";",
		"keep " + just + " : " + just + "; @keep " + just + " . : " + just + ";",
		"keep " + just + " : " + just + "; @keep " + just + " : " + just + " .;",
		strings.Repeat("keep : ;", api.MaxRules-1) + "@keep : " + tooMuch + ";",
	} {
		text, place := marked(s)
		p, err := code.Compile(parsed(t, text))
		if !isError(err, api.ErrLimit, place) || !isNoProgram(p) {
			t.Errorf("Compile(%q) is %.100v, %v, want ErrLimit at %d", text, p, err, place)
		}
	}
	// where a rule is, its At says
	for _, at := range []int{0, 7, 1 << 40} {
		f := api.File{Else: true, Rules: []api.Rule{{At: 3, Before: cat(), After: cat()}, {At: at, Before: cat(), After: dots(2000)}, {At: 5, Before: dots(2000), After: cat()}}}
		if p, err := code.Compile(f); !isError(err, api.ErrLimit, at) || !isNoProgram(p) {
			t.Errorf("Compile is %v, %v, want ErrLimit at %d", p, err, at)
		}
	}
	// each pattern has its own bound
	f := parsed(t, strings.Repeat("keep "+just+" : "+just+";", 5))
	f.Rules = slices.Concat(f.Rules, f.Rules, f.Rules, f.Rules)
	p := compiled(t, f)
	for _, r := range p.Rules {
		if len(r.Before.Ins) != api.MaxCode || len(r.After.Ins) != api.MaxCode {
			t.Errorf("%d, and %d instructions", len(r.Before.Ins), len(r.After.Ins))
		}
	}
}

// TestTurned (7.2): with break for keep, and keep for break, all places within are turned.
func TestTurned(t *testing.T) {
	d := die(10)
	for range 500 {
		f, l := parsed(t, drawFile(&d)), pointsOf(utf.Decode(drawText(&d, 12)))
		other := f
		other.Else = !f.Else
		other.Rules = slices.Clone(f.Rules)
		for i := range other.Rules {
			other.Rules[i].Break = !f.Rules[i].Break
		}
		a, _ := vm.Breaks(compiled(t, f), l)
		b, _ := vm.Breaks(compiled(t, other), l)
		for place := 1; place < len(l); place++ {
			if slices.Contains(a, place) == slices.Contains(b, place) {
				t.Fatalf("%s: it breaks at %v, and with break for keep at %v", rule.Print(f), a, b)
			}
		}
	}
}

// TestCompileLong (7.2): a text as long as one may be told at a desk.
func TestCompileLong(t *testing.T) {
	text := strings.Repeat("aab ", api.MaxText/4)
	var want []int
	for i := range api.MaxText/4 + 1 {
		want = append(want, 4*i-1, 4*i)
	}
	f := parsed(t, "class l = [61-7a]; keep l+ ([2d] l+)* : (l+ [2d]?)+; keep (l+ [20])* $ : ;")
	if got := breaksOf(t, f, text); got != numbers(want[1:]) {
		t.Errorf("it breaks at %.100s", got)
	}
}
