package asm_test

import (
	"math"
	"slices"
	"testing"

	"caesura/api"
	"caesura/asm"
	"caesura/set"
	"caesura/vm"
)

// always is a rule's code that always matches.
var always = codeOf(0, yes)

// handmade are programs, and their texts, as lines reads them.
func handmade() map[string]api.Program {
	some := api.Code{
		Sets: []api.Set{nil, {{Lo: 'a', Hi: 'a'}}, {{Lo: 'a', Hi: 'z'}}, {{Lo: 0, Hi: 0}, {Lo: 2, Hi: 9}, {Lo: 11, Hi: 11}, {Lo: 0xffff, Hi: api.MaxPoint}}, {}, {{Lo: 0, Hi: api.MaxPoint}}},
		Ins:  insts(inst(api.Take, 0, 0), inst(api.Take, 1, 0), inst(api.Take, 2, 0), inst(api.Take, 3, 0), inst(api.Take, 4, 0), inst(api.Take, 5, 0), yes),
	}
	loop := api.Code{Sets: []api.Set{{{Lo: 0xabcdef, Hi: 0xabcdef}}}, Ins: insts(inst(api.Split, 1, 3), inst(api.Take, 0, 0), inst(api.Jump, 0, 0), end, yes)}
	loop.Sets[0] = api.Set{{Lo: 0xabcde, Hi: 0xbcdef}}
	eleven := codeOf(0, append(yeses(10), inst(api.Split, 10, 0))...)
	return map[string]api.Program{
		"else keep":                                                         {},
		"else break":                                                        {Else: true},
		"rule keep; yes; after; yes; else keep":                             {Rules: []api.Pair{{Before: always, After: always}}},
		"rule break; yes; after; yes; else keep":                            {Rules: []api.Pair{{Break: true, Before: always, After: always}}},
		"rule keep; yes; after; yes; else break":                            {Rules: []api.Pair{{Before: always, After: always}}, Else: true},
		"rule break; end; yes; after; yes; yes; else break":                 {Rules: []api.Pair{{Break: true, Before: codeOf(7, end, yes), After: codeOf(0, yes, yes)}}, Else: true},
		"rule keep; jump 0; after; split 0 0; else keep":                    {Rules: []api.Pair{{Before: codeOf(0, inst(api.Jump, 0, 0)), After: codeOf(0, inst(api.Split, 0, 0))}}},
		"rule keep; jump 1; split 1 2; split 2 0; after; yes; else keep":    {Rules: []api.Pair{{Before: codeOf(0, inst(api.Jump, 1, 0), inst(api.Split, 1, 2), inst(api.Split, 2, 0)), After: always}}},
		"rule keep; end; end; jump 0; after; yes; else keep":                {Rules: []api.Pair{{Before: codeOf(0, end, end, inst(api.Jump, 0, 0)), After: always}}},
		"rule keep; yes; after; take [61-7a]; take [61-7a]; yes; else keep": {Rules: []api.Pair{{Before: always, After: codeOf(2, inst(api.Take, 1, 0), inst(api.Take, 0, 0), yes)}}},
		"rule break; take []; take [61]; take [61-7a]; take [0 2-9 b ffff-10ffff]; take []; take [0-10ffff]; yes; after; split 1 3; take [abcde-bcdef]; jump 0; end; yes; else keep": {Rules: []api.Pair{{Break: true, Before: some, After: loop}}},
		"rule keep; split 1 3; take [abcde-bcdef]; jump 0; end; yes; after; yes; rule break; yes; after; yes; yes; rule break; jump 0; after; yes; else break":                       {Rules: []api.Pair{{Before: loop, After: always}, {Break: true, Before: always, After: codeOf(0, yes, yes)}, {Break: true, Before: codeOf(0, inst(api.Jump, 0, 0)), After: always}}, Else: true},
		"rule keep; yes; yes; yes; yes; yes; yes; yes; yes; yes; yes; split 10 0; after; yes; else keep":                                                                             {Rules: []api.Pair{{Before: eleven, After: always}}},
	}
}

// TestPrint (9.1): programs by hand, with and without rules: of each Op, and of sets of nothing, of one range, and of many.
func TestPrint(t *testing.T) {
	for text, p := range handmade() {
		if got := printed(t, p); got != lines(text) {
			t.Errorf("Print(%v) is %q, not %q", p, got, lines(text))
		}
	}
}

// TestPrintByWords (9.1): drawn programs are written as 9.1 says word by word.
func TestPrintByWords(t *testing.T) {
	d := die(1)
	for range 3000 {
		p := drawProgram(&d)
		if got, want := printed(t, p), told(p); got != want {
			t.Fatalf("Print(%v) is %q, not %q", p, got, want)
		}
	}
}

// TestPrintMost (9.1): as much as may be is written: the most rules, each of the most instructions, of the most sets.
func TestPrintMost(t *testing.T) {
	var c api.Code
	for i := range api.MaxCode {
		c.Sets = append(c.Sets, api.Set{{Lo: i, Hi: i}, {Lo: 5000, Hi: 5000 + i}})
		c.Ins = append(c.Ins, inst(api.Take, i, 0))
	}
	c.Ins[api.MaxCode-1] = inst(api.Split, api.MaxCode-1, 1234)
	p := api.Program{Rules: slices.Repeat([]api.Pair{{Before: c, After: c}, {Break: true, Before: always, After: c}}, api.MaxRules/2)}
	s := printed(t, p)
	if s != told(p) {
		t.Errorf("what is the most is written otherwise than 9.1 says")
	}
	c.Sets = c.Sets[:api.MaxCode-1] // the last one is not named
	p = api.Program{Rules: slices.Repeat([]api.Pair{{Before: c, After: c}, {Break: true, Before: always, After: c}}, api.MaxRules/2)}
	if q := parsed(t, s); !alike(q, p) || printed(t, q) != s {
		t.Errorf("what is the most is read otherwise than it was written")
	}
}

// wrongSets are sets that may not be.
func wrongSets() []api.Set {
	return []api.Set{{{Lo: 'b', Hi: 'a'}}, {{Lo: -1, Hi: 3}}, {{Lo: 0, Hi: api.MaxPoint + 1}}, {{Lo: 5, Hi: 6}, {Lo: 1, Hi: 2}}, {{Lo: 1, Hi: 2}, {Lo: 3, Hi: 4}}, {{Lo: 1, Hi: 5}, {Lo: 4, Hi: 9}}, {{Lo: 1, Hi: 1}, {Lo: 1, Hi: 1}}}
}

// wrongCodes are codes that are not Right (6.1), each in one way.
func wrongCodes() map[string]api.Code {
	take := inst(api.Take, 0, 0)
	m := map[string]api.Code{
		"nothing":                  {},
		"no instructions":          codeOf(3),
		"no instructions, not nil": {Sets: []api.Set{}, Ins: []api.Inst{}},
		"one too many":             codeOf(0, yeses(api.MaxCode+1)...),
		"one set too many":         codeOf(api.MaxCode+1, yes),
		"a last Take":              codeOf(1, take),
		"a last Take, far":         codeOf(1, yes, take),
		"a last End":               codeOf(0, end),
		"a last End, far":          codeOf(0, yes, end),
		"no set to take":           codeOf(0, take, yes),
		"a Take behind all sets":   codeOf(2, inst(api.Take, 2, 0), yes, yes, yes),
		"a Jump behind all":        codeOf(5, inst(api.Jump, 2, 0), yes),
		"A of a Split behind all":  codeOf(5, inst(api.Split, 2, 1), yes),
		"B of a Split behind all":  codeOf(5, inst(api.Split, 1, 2), yes),
		"a last Split, behind all": codeOf(5, yes, inst(api.Split, 0, 2)),
		"one that is not met":      codeOf(0, yes, inst(api.Yes, 1, 0), yes),
		"no Op, 0":                 codeOf(0, inst(0, 0, 0), yes),
		"no Op, 0, the last one":   codeOf(0, yes, inst(0, 0, 0)),
		"no Op, below":             codeOf(0, inst(-1, 0, 0), yes),
		"no Op, the next one":      codeOf(0, inst(api.Yes+1, 0, 0), yes),
		"no Op, far":               codeOf(0, inst(math.MaxInt, 0, 0), yes),
		"no Op, far below":         codeOf(0, inst(math.MinInt, 0, 0), yes),
	}
	for name, n := range map[string]int{" -1": -1, " 7": 7, " the least": math.MinInt, " the most": math.MaxInt} {
		m["B of a Take"+name] = codeOf(9, inst(api.Take, 0, n), yes)
		m["B of a Jump"+name] = codeOf(9, inst(api.Jump, 1, n), yes)
		m["A of a Take"+name] = codeOf(7, inst(api.Take, n, 0), yes)
		m["A of a Jump"+name] = codeOf(9, inst(api.Jump, n, 0), yes)
		m["A of a Split"+name] = codeOf(9, inst(api.Split, n, 1), yes)
		m["B of a Split"+name] = codeOf(9, inst(api.Split, 1, n), yes)
		for what, op := range map[string]int{"an End": api.End, "a Yes": api.Yes} {
			m["A of "+what+name] = codeOf(9, inst(op, n, 0), yes)
			m["B of "+what+name] = codeOf(9, inst(op, 0, n), yes)
		}
	}
	for _, s := range wrongSets() {
		m["a wrong set"+set.Print(s)] = api.Code{Sets: []api.Set{s}, Ins: insts(take, yes)}
		m["a wrong set, not named"+set.Print(s)] = api.Code{Sets: []api.Set{{}, s}, Ins: insts(take, yes)}
	}
	return m
}

// TestPrintWrong (9.1): a program that is not RightProgram is ErrArg, and there is no text, wherever in it the wrong code is.
func TestPrintWrong(t *testing.T) {
	want := func(what string, p api.Program) {
		t.Helper()
		if vm.RightProgram(p) {
			t.Errorf("%s: it is right", what)
		}
		if s, err := asm.Print(p); s != "" || !isArg(err) {
			t.Errorf("%s: Print is %.200q, %v, not ErrArg", what, s, err)
		}
	}
	right := api.Pair{Break: true, Before: always, After: always}
	for what, c := range wrongCodes() {
		for _, r := range []api.Pair{{Before: c, After: always}, {Before: always, After: c}, {Before: c, After: c}} {
			want(what, api.Program{Rules: []api.Pair{r}})
			want(what, api.Program{Rules: []api.Pair{right, r}, Else: true})
			want(what, api.Program{Rules: []api.Pair{r, right, right}})
		}
	}
	p := api.Program{Rules: slices.Repeat([]api.Pair{right}, api.MaxRules)}
	if got := printed(t, p); got != told(p) {
		t.Errorf("as many rules as may be are written %q", got)
	}
	p.Rules = append(p.Rules, right)
	want("one rule too many", p)
	p.Else = true
	p.Rules = slices.Repeat(p.Rules, 9)
	want("many rules too many", p)
}
