package asm_test

import (
	"fmt"
	"slices"
	"strings"
	"testing"

	"caesura/api"
	"caesura/asm"
)

// one is the set of one point.
func one(point int) api.Set { return api.Set{{Lo: point, Hi: point}} }

// TestParse (9.2): texts by hand, and their programs: sets are in the order in which they first come, and alike ones are one, in each code on its own.
func TestParse(t *testing.T) {
	takes := func(sets []api.Set, l ...int) api.Code {
		c := api.Code{Sets: sets}
		for _, n := range l {
			c.Ins = append(c.Ins, inst(api.Take, n, 0))
		}
		c.Ins = append(c.Ins, yes)
		return c
	}
	a, b, none, all := one('a'), one('b'), api.Set{}, api.Set{{Lo: 0, Hi: api.MaxPoint}}
	for text, want := range map[string]api.Program{
		"else keep":                              {},
		"else break":                             {Else: true},
		"rule break; yes; after; yes; else keep": {Rules: []api.Pair{{Break: true, Before: always, After: always}}},
		"rule keep; take [62]; take [61]; take [62]; take [61]; yes; after; take [61]; take [62]; yes; else keep":        {Rules: []api.Pair{{Before: takes([]api.Set{b, a}, 0, 1, 0, 1), After: takes([]api.Set{a, b}, 0, 1)}}},
		"rule keep; take [61]; yes; after; take [62]; take []; yes; rule keep; take []; yes; after; yes; else keep":      {Rules: []api.Pair{{Before: takes([]api.Set{a}, 0), After: takes([]api.Set{b, none}, 0, 1)}, {Before: takes([]api.Set{none}, 0), After: always}}},
		"rule keep; take []; take []; take [0-10ffff]; take [61]; take []; take [0-10ffff]; yes; after; yes; else break": {Rules: []api.Pair{{Before: takes([]api.Set{none, all, a}, 0, 0, 1, 2, 0, 1), After: always}}, Else: true},
		"rule keep; take [61-62]; take [61 63]; take [61]; take [62]; take [61-62]; yes; after; yes; else keep":          {Rules: []api.Pair{{Before: takes([]api.Set{{{Lo: 'a', Hi: 'b'}}, {{Lo: 'a', Hi: 'a'}, {Lo: 'c', Hi: 'c'}}, a, b}, 0, 1, 2, 3, 0), After: always}}},
		"rule break; split 3 0; end; jump 2; split 0 2; after; end; yes; rule keep; jump 0; after; yes; else break":      {Rules: []api.Pair{{Break: true, Before: codeOf(0, inst(api.Split, 3, 0), end, inst(api.Jump, 2, 0), inst(api.Split, 0, 2)), After: codeOf(0, end, yes)}, {Before: codeOf(0, inst(api.Jump, 0, 0)), After: always}}, Else: true},
	} {
		if got := parsed(t, lines(text)); !alike(got, want) {
			t.Errorf("Parse of %s is %v, not %v", text, got, want)
		}
		if got := printed(t, want); got != lines(text) {
			t.Errorf("Print of what is read of %s is %q", text, got)
		}
	}
}

// TestParseHandmade (9.2): what Print wrote of programs by hand is read again.
func TestParseHandmade(t *testing.T) {
	for text, p := range handmade() {
		if got := parsed(t, lines(text)); !alike(got, readAgain(p)) {
			t.Errorf("Parse of %s is %v, not %v", text, got, readAgain(p))
		}
	}
}

// TestPrintParse (9.2): what Print wrote is read, is written just so, and breaks any points just as the program did; its sets are those that are named, in their order, each once.
func TestPrintParse(t *testing.T) {
	d := die(2)
	twice, gone, otherwise, within := 0, 0, 0, 0
	for range 3000 {
		p := drawProgram(&d)
		s := printed(t, p)
		q := parsed(t, s)
		if !alike(q, readAgain(p)) {
			t.Fatalf("%v: written and read it is %v, not %v", p, q, readAgain(p))
		}
		if again := printed(t, q); again != s {
			t.Fatalf("%q: read and written it is %q", s, again)
		}
		for range 6 {
			points := drawPoints(&d)
			a, b := breaks(t, p, points), breaks(t, q, points)
			if !slices.Equal(a, b) {
				t.Fatalf("%v: breaks of %v at %v, written and read at %v", p, points, a, b)
			}
			if n := len(a); n > 2 && n <= len(points) {
				within++
			}
		}
		for i, r := range p.Rules {
			c, o := r.Before, q.Rules[i].Before
			if alikes(c.Sets) {
				twice++
			}
			if len(o.Sets) < len(c.Sets) {
				gone++
			}
			if len(o.Sets) > 1 && !slices.EqualFunc(o.Sets, c.Sets[:len(o.Sets)], slices.Equal) {
				otherwise++
			}
			if alikes(o.Sets) {
				t.Fatalf("%q: sets of what is read are alike: %v", s, o.Sets)
			}
		}
	}
	if min(twice, gone, otherwise, within) < 300 {
		t.Errorf("drawn are too few: with alike sets %d, with sets that go %d, with sets in another order %d, breaks within %d", twice, gone, otherwise, within)
	}
}

// alikes says whether two of sets are alike.
func alikes(l []api.Set) bool {
	seen := map[string]bool{}
	for _, s := range l {
		if seen[fmt.Sprint(s)] {
			return true
		}
		seen[fmt.Sprint(s)] = true
	}
	return false
}

// TestParseTwo (9.2): two programs' texts, one behind the other but for the first one's last line, are their rules, and what the second one says else; with that line the second one is too much.
func TestParseTwo(t *testing.T) {
	d := die(3)
	for range 1000 {
		p, q := drawProgram(&d), drawProgram(&d)
		a, b := printed(t, p), printed(t, q)
		head := a[:strings.LastIndex(a, "else")]
		want := api.Program{Rules: slices.Concat(readAgain(p).Rules, readAgain(q).Rules), Else: q.Else}
		if got := parsed(t, head+b); !alike(got, want) {
			t.Errorf("Parse of %q and %q is %v, not %v", head, b, got, want)
		}
		wantForm(t, a+b, strings.Count(a, "\n"))
		wantForm(t, head, strings.Count(head, "\n"))
		if got := printed(t, want); got != head+b {
			t.Errorf("%q and %q: both are written %q", head, b, got)
		}
	}
}

// TestParseMost (9.2): the most instructions, and the most rules, are read; one more is ErrArg.
func TestParseMost(t *testing.T) {
	code := strings.Repeat("yes\n", api.MaxCode)
	rule := "rule break\n" + code + "after\n" + code
	p := parsed(t, strings.Repeat(rule, api.MaxRules)+"else break\n")
	if len(p.Rules) != api.MaxRules || !p.Else {
		t.Fatalf("the most rules are read as %d, %v", len(p.Rules), p.Else)
	}
	for _, r := range p.Rules {
		if !r.Break || !slices.Equal(r.Before.Ins, yeses(api.MaxCode)) || !slices.Equal(r.After.Ins, yeses(api.MaxCode)) {
			t.Fatalf("a rule of the most instructions is read as one of %d and %d", len(r.Before.Ins), len(r.After.Ins))
		}
	}
	small := lines("rule keep; yes; after; yes")
	for _, n := range []int{1, 2, 3, 100} {
		wantArg(t, strings.Repeat(rule, api.MaxRules)+strings.Repeat(small, n)+"else keep\n")
		wantArg(t, strings.Repeat(small, api.MaxRules+n)+"else break\n")
		more := strings.Repeat("yes\n", n)
		wantArg(t, "rule break\n"+code+more+"after\nyes\nelse keep\n")
		wantArg(t, "rule break\nyes\nafter\n"+more+code+"else keep\n")
		wantArg(t, small+"rule keep\nyes\nafter\n"+code+more+small+"else keep\n")
	}
	far := fmt.Sprint("rule keep\nsplit ", api.MaxCode-1, " ", api.MaxCode-1, "\n", strings.Repeat("end\n", api.MaxCode-2), "jump 0\nafter\njump 0\nelse keep\n")
	if got := printed(t, parsed(t, far)); got != far {
		t.Errorf("a Split to the last one of the most is read and written %.100q", got)
	}
	wantArg(t, strings.Replace(far, fmt.Sprint(api.MaxCode-1), fmt.Sprint(api.MaxCode), 1))
}

// TestParseSmall (9.2): all texts of at most seven of some lines are read as 9.2 says.
func TestParseSmall(t *testing.T) {
	some := []string{"rule break\n", "after\n", "else keep\n", "yes\n", "jump 1\n", "end\n", "take []\n", "\n"}
	told := map[api.Errno]int{}
	all := []string{""}
	for range 8 {
		var next []string
		for _, s := range all {
			told[wantByWords(t, s)]++
			if s != "" {
				told[wantByWords(t, s[:len(s)-1])]++
			}
			// what stands behind a line that may not stand there changes nothing more
			if line := firstWrong(s); line < 0 || line >= strings.Count(s, "\n")-1 {
				for _, l := range some {
					next = append(next, s+l)
				}
			}
		}
		all = next
	}
	if told[api.OK] < 40 || told[api.ErrArg] < 1000 || told[api.ErrForm] < 50000 {
		t.Errorf("too few are right, or wrong: %v", told)
	}
}

// TestParseAnyText (P1): Parse ends, and tells an error, of texts that are nothing like a program's; and of very long ones.
func TestParseAnyText(t *testing.T) {
	d := die(4)
	for range 5000 {
		b := make([]byte, d.n(40))
		for i := range b {
			b[i] = byte(d.n(256))
			if d.n(2) == 0 {
				b[i] = "\n\n rulesakt061[]-"[d.n(16)]
			}
		}
		wantByWords(t, string(b))
	}
	const many = 1 << 18
	for text, line := range map[string]int{
		strings.Repeat("\n", many):                                                      0,
		strings.Repeat(" ", many):                                                       0,
		strings.Repeat("rule break\n", many):                                            1,
		strings.Repeat("else keep\n", many):                                             1,
		"rule keep" + strings.Repeat(" ", many):                                         0,
		"rule keep\n" + strings.Repeat("yes\n", many):                                   many + 1,
		"rule keep\nafter\n" + strings.Repeat("end\n", many) + "end":                    many + 3,
		"rule keep\ntake " + strings.Repeat("[", many) + "\n":                           1,
		"rule keep\njump " + strings.Repeat("0", many) + "\n":                           1,
		"rule keep\njump " + strings.Repeat("9", many) + "\n":                           1,
		"rule keep\nsplit" + strings.Repeat(" 1", many) + "\n":                          1,
		strings.Repeat("rule keep\nafter\n", many):                                      2 * many,
		strings.Repeat("rule keep\nafter\n", many) + "after\n":                          2 * many,
		strings.Repeat("rule keep\nyes\nafter\nyes\n", many) + "else keep\nelse keep\n": 4*many + 1,
	} {
		wantForm(t, text, line)
	}
	wantArg(t, strings.Repeat("rule keep\nyes\nafter\nyes\n", many)+"else keep\n")
	wantArg(t, strings.Repeat("rule keep\nafter\n", many)+"else keep\n")
	wantArg(t, "rule keep\n"+strings.Repeat("yes\n", many)+"after\nyes\nelse keep\n")
	var b strings.Builder
	b.WriteString("rule keep\nyes\nafter\n")
	for i := range many {
		fmt.Fprintf(&b, "take [%x]\n", i)
	}
	wantArg(t, b.String()+"yes\nelse keep\n")
	wantForm(t, b.String()+"yes\nelse keeps\n", many+4)
}

// FuzzParse (9.2): Parse tells of any text what 9.2 says.
func FuzzParse(f *testing.F) {
	for text := range handmade() {
		f.Add(lines(text))
	}
	f.Fuzz(func(t *testing.T, text string) {
		if wantByWords(t, text) == api.OK {
			if s, err := asm.Print(parsed(t, text)); s != text || err != nil {
				t.Errorf("%q: read and written it is %q, %v", text, s, err)
			}
		}
	})
}
