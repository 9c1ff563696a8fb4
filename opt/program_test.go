package opt_test

import (
	"slices"
	"strings"
	"testing"

	"caesura/api"
	"caesura/check"
	"caesura/code"
	"caesura/mean"
	"caesura/opt"
	"caesura/rule"
	"caesura/utf"
	"caesura/vm"
)

// programmed is a program in words: a rule a line (what it says, Before : After), then what is said else.
func programmed(t testing.TB, text string) api.Program {
	t.Helper()
	var p api.Program
	for _, line := range strings.Split(text, "\n") {
		word, rest, _ := strings.Cut(strings.TrimSpace(line), " ")
		before, after, rule := strings.Cut(rest, ":")
		if word == "else" && !rule {
			p.Else = rest == "break"
			continue
		}
		if !rule || word != "break" && word != "keep" {
			t.Fatalf("%q: %q is no rule", text, line)
		}
		p.Rules = append(p.Rules, api.Pair{Break: word == "break", Before: coded(t, before), After: coded(t, after)})
	}
	return p
}

// programWords is a program in words, as programmed reads it.
func programWords(p api.Program) string {
	said := func(says bool) string {
		if says {
			return "break"
		}
		return "keep"
	}
	s := ""
	for _, r := range p.Rules {
		s += said(r.Break) + " " + words(r.Before) + " : " + words(r.After) + "\n"
	}
	return s + "else " + said(p.Else)
}

// madeProgram is Program of what is RightProgram: it is, too, of no more rules, and of no greater Size; what is said else is as it was.
func madeProgram(t testing.TB, p api.Program) api.Program {
	t.Helper()
	q, err := opt.Program(p)
	if err != nil || !vm.RightProgram(q) || len(q.Rules) > len(p.Rules) || opt.Size(q) > opt.Size(p) || q.Else != p.Else {
		t.Fatalf("Program(%s) is %s, %v", programWords(p), programWords(q), err)
	}
	return q
}

// breaks are Breaks of what is RightProgram.
func breaks(t testing.TB, p api.Program, points []int) []int {
	t.Helper()
	l, err := vm.Breaks(p, points)
	if err != nil {
		t.Fatalf("Breaks(%s): %v", programWords(p), err)
	}
	return l
}

// always says whether code is Yes alone.
func always(c api.Code) bool { return slices.Equal(c.Ins, []api.Inst{yes}) }

// TestProgram (8.1, 8.2): programs, and what they are made.
func TestProgram(t *testing.T) {
	const a, b, always, never = "take [61]; yes", "take [62]; yes", "yes", "jump 0"
	for _, c := range []struct{ program, want string }{
		// no rule; Else
		{"else break", "else break"},
		{"else keep", "else keep"},
		// each rule's code, Before and After, and what it says
		{"keep " + a + " : " + b + "\nelse break", "keep " + a + " : " + b + "\nelse break"},
		{"break " + b + " : " + a + "\nelse keep", "break " + b + " : " + a + "\nelse keep"},
		{"keep split 1 3; take [61]; yes; take [62]; yes : " + a + "\nelse keep", "keep take [61-62]; yes : " + a + "\nelse keep"},
		{"keep " + a + " : split 1 3; take [61]; yes; take [62]; yes\nelse break", "keep " + a + " : take [61-62]; yes\nelse break"},
		{"break jump 1; take [61]; jump 3; yes : end; end; yes\nkeep " + a + " : split 1 3; take [61]; jump 0; yes\nelse break", "break " + a + " : end; yes\nkeep " + a + " : yes\nelse break"},
		// rules that say the same are left, each; also what is said else
		{"keep " + a + " : " + b + "\nkeep " + a + " : " + b + "\nelse keep", "keep " + a + " : " + b + "\nkeep " + a + " : " + b + "\nelse keep"},
		{"keep yes : yes\nelse keep", "keep yes : yes\nelse keep"},
		// a rule that never says
		{"keep " + never + " : yes\nelse break", "else break"},
		{"keep yes : " + never + "\nelse break", "else break"},
		{"break " + a + " : " + b + "\nkeep " + a + " : take []; yes\nbreak take [61]; jump 1 : " + a + "\nbreak " + b + " : yes\nelse keep", "break " + a + " : " + b + "\nbreak " + b + " : yes\nelse keep"},
		{"keep " + never + " : yes\nbreak yes : yes\nkeep yes : yes\nelse keep", "break yes : yes\nelse keep"},
		// behind one that always says
		{"keep yes : yes\nbreak " + a + " : " + b + "\nelse break", "keep yes : yes\nelse break"},
		{"break yes : yes\nbreak yes : yes\nkeep yes : yes\nelse keep", "break yes : yes\nelse keep"},
		{"break " + a + " : " + b + "\nkeep yes : yes\nbreak " + b + " : " + a + "\nbreak " + a + " : " + a + "\nelse break", "break " + a + " : " + b + "\nkeep yes : yes\nelse break"},
		// that always says only once it is made less
		{"keep split 1 3; take [61]; jump 0; yes : jump 1; yes\nbreak " + a + " : " + b + "\nelse break", "keep yes : yes\nelse break"},
		{"keep split 1 2; end; yes : split 0 1; yes\nbreak " + a + " : " + b + "\nelse break", "keep yes : yes\nelse break"},
		{"keep yes; jump 0 : yes; take [61]; yes\nbreak " + a + " : " + b + "\nelse break", "keep yes : yes\nelse break"},
		// that does not always say
		{"keep " + a + " : yes\nbreak " + a + " : " + b + "\nelse break", "keep " + a + " : yes\nbreak " + a + " : " + b + "\nelse break"},
		{"keep yes : " + a + "\nbreak yes : " + b + "\nelse break", "keep yes : " + a + "\nbreak yes : " + b + "\nelse break"},
		{"keep yes : end; yes\nbreak end; yes : yes\nelse break", "keep yes : end; yes\nbreak end; yes : yes\nelse break"},
		{"keep yes : take [0-10ffff]; yes\nbreak yes : yes\nkeep yes : " + a + "\nelse break", "keep yes : take [0-10ffff]; yes\nbreak yes : yes\nelse break"},
	} {
		given := programmed(t, c.program)
		got := madeProgram(t, given)
		if programWords(got) != c.want {
			t.Errorf("Program(%q) is %q, not %q", c.program, programWords(got), c.want)
		}
		for _, l := range every(5, 'a', 'b', -1) {
			if want := breaks(t, given, l); !slices.Equal(breaks(t, got, l), want) {
				t.Errorf("Program(%q) is %q: it breaks %v at %v, not %v", c.program, programWords(got), l, breaks(t, got, l), want)
			}
		}
	}
}

// TestProgramMeant (8.1): drawn programs and points: what is made breaks just where the other one does.
func TestProgramMeant(t *testing.T) {
	d := die(7)
	within, all := 0, 0
	for range 6000 {
		p := drawProgram(&d)
		q := madeProgram(t, p)
		for range 3 {
			l := drawPoints(&d, 9)
			want := breaks(t, p, l)
			if got := breaks(t, q, l); !slices.Equal(got, want) {
				t.Fatalf("%s\nis made\n%s\nit breaks %v at %v, not %v", programWords(p), programWords(q), l, got, want)
			}
			if len(p.Rules) > 0 && len(l) > 1 {
				within, all = within+len(want)-2, all+len(l)-1
			}
		}
	}
	if within < all/5 || within > all*4/5 {
		t.Errorf("what was drawn is one-sided: %d breaks of %d places", within, all)
	}
}

// TestProgramRules (8.1, 8.2): drawn programs: each rule that is left is one of those that were there, in their order, with the code that Code makes of each, and what it says; those that are left out never say, or stand behind one that always does.
func TestProgramRules(t *testing.T) {
	d := die(8)
	short, whole := 0, 0
	for range 6000 {
		p := drawProgram(&d)
		left := madeProgram(t, p).Rules
		over := false
		for i, r := range p.Rules {
			want := api.Pair{Break: r.Break, Before: made(t, r.Before), After: made(t, r.After)}
			_, neverAhead := sameMatches(want.Before, coded(t, "jump 0"))
			_, neverBehind := sameMatches(want.After, coded(t, "jump 0"))
			if over || neverAhead || neverBehind {
				short++
				continue
			}
			if len(left) == 0 || left[0].Break != want.Break || words(left[0].Before) != words(want.Before) || words(left[0].After) != words(want.After) {
				t.Fatalf("%s\nis made\n%s\nrule %d is missing, or other", programWords(p), programWords(madeProgram(t, p)), i)
			}
			whole++
			left = left[1:]
			over = always(want.Before) && always(want.After)
		}
		if len(left) > 0 {
			t.Fatalf("%s\nis made\n%s", programWords(p), programWords(madeProgram(t, p)))
		}
	}
	if short < 1000 || whole < 1000 {
		t.Errorf("what was drawn is one-sided: %d rules left out, %d left", short, whole)
	}
}

// TestProgramOfFiles (8.1): the programs of files, made less, break where it is meant.
func TestProgramOfFiles(t *testing.T) {
	for _, s := range []string{
		"",
		"else keep;",
		"class a = [61-7a]; keep a: a;",
		"class r = [61]; class o = ~r; keep ($ | o) (r r)* r : r;",
		"class l = [61-62]; class m = [20 63]; keep l : l; keep l : m l; keep l m : l;",
		"class a = [61]; class b = [62]; class c = [63]; keep (a b | a c)+ : b*; break c : ; else keep;",
		"class a = [61]; class b = [62]; break $ (a | b)* : a (a | b | [])*; keep . : . .; else keep;",
		"class a = [61]; class b = [62]; keep (a* | b)* [20] : (a b | a a | b a){1,2} $; keep [] : a; break : a*; keep : ; else keep;",
	} {
		f, err := rule.Parse(s)
		if err != nil || check.Check(f) != nil {
			t.Fatalf("%q: %v, %v", s, err, check.Check(f))
		}
		p, err := code.Compile(f)
		if err != nil {
			t.Fatalf("%q: %v", s, err)
		}
		q := madeProgram(t, p)
		d := die(9)
		for range 300 {
			var text []byte
			for range d.n(12) {
				text = append(text, "aabbc "[d.n(6)])
			}
			units := utf.Decode(string(text))
			want, _ := mean.Breaks(f, units)
			if got := breaks(t, q, pointsOf(string(text))); !slices.Equal(got, want) {
				t.Fatalf("%q: %q breaks at %v, not %v, by\n%s", s, text, got, want, programWords(q))
			}
		}
	}
}

// TestBehindAlways (8.2): of as many rules as there may be, all behind the one that always says are left out, wherever it stands; and that one is left.
func TestBehindAlways(t *testing.T) {
	for _, one := range []string{"yes", "yes; end; jump 0", "jump 2; take [61]; split 1 3; yes", "split 1 3; take [61]; jump 0; split 4 0; yes"} {
		for at := range api.MaxRules {
			p := api.Program{Else: at%2 == 0}
			for i := range api.MaxRules {
				r := api.Pair{Break: i%3 == 0, Before: coded(t, "take [61]; end; yes"), After: coded(t, one)}
				if i >= at && (i-at)%4 == 0 {
					r.Before = coded(t, one)
				}
				p.Rules = append(p.Rules, r)
			}
			q := madeProgram(t, p)
			if n := len(q.Rules); n != at+1 || !always(q.Rules[at].Before) || !always(q.Rules[at].After) || q.Rules[at].Break != p.Rules[at].Break {
				t.Errorf("rule %d is %s : %s: what is left is\n%s", at, one, one, programWords(q))
			}
		}
	}
}

// TestSize (8.1): programs, with rules and without, also such as may not be, and how many instructions they have.
func TestSize(t *testing.T) {
	code := func(n int) api.Code { return api.Code{Sets: sets(), Ins: make([]api.Inst, n)} }
	pair := func(a, b int) api.Pair { return api.Pair{Before: code(a), After: code(b)} }
	for _, c := range []struct {
		p    api.Program
		want int
	}{
		{api.Program{}, 0},
		{api.Program{Else: true}, 0},
		{programmed(t, "keep yes : yes\nelse break"), 2},
		{programmed(t, "keep take [61]; yes : yes\nelse break"), 3},
		{programmed(t, "keep yes : take [61]; yes\nbreak jump 0 : split 1 3; take [61]; jump 0; end; yes\nelse keep"), 9},
		{api.Program{Rules: []api.Pair{{}}}, 0},
		{api.Program{Rules: []api.Pair{{}, {Break: true}, pair(0, 0)}}, 0},
		{api.Program{Rules: []api.Pair{pair(1, 0)}}, 1},
		{api.Program{Rules: []api.Pair{pair(0, 1)}}, 1},
		{api.Program{Rules: []api.Pair{pair(3, 5), pair(7, 11)}}, 26},
		{api.Program{Rules: []api.Pair{pair(api.MaxCode+1, 2*api.MaxCode)}}, 3*api.MaxCode + 1},
		{api.Program{Rules: slices.Repeat([]api.Pair{pair(api.MaxCode, api.MaxCode)}, api.MaxRules)}, 2 * api.MaxCode * api.MaxRules},
		{api.Program{Rules: slices.Repeat([]api.Pair{pair(2, 3)}, 1000)}, 5000},
		{api.Program{Rules: []api.Pair{{Before: api.Code{Ins: []api.Inst{inst(9, -1, 1<<40), inst(api.Take, 7, 0)}}, After: coded(t, "yes")}}}, 3},
	} {
		if got := opt.Size(c.p); got != c.want {
			t.Errorf("Size(%.200v) is %d, not %d", c.p, got, c.want)
		}
	}
}
