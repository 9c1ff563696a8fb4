package opt_test

import (
	"math"
	"slices"
	"testing"

	"caesura/api"
	"caesura/opt"
	"caesura/vm"
)

// codeOf is instructions, and so many sets.
func codeOf(sets int, l ...api.Inst) api.Code {
	return api.Code{Sets: slices.Repeat([]api.Set{{{Lo: 'a', Hi: 'z'}}}, sets), Ins: l}
}

// yeses are so many instructions.
func yeses(n int) []api.Inst { return slices.Repeat([]api.Inst{yes}, n) }

// wrongSets are sets that may not be.
func wrongSets() []api.Set {
	return []api.Set{{{Lo: 'b', Hi: 'a'}}, {{Lo: -1, Hi: 3}}, {{Lo: 0, Hi: api.MaxPoint + 1}}, {{Lo: 5, Hi: 6}, {Lo: 1, Hi: 2}}, {{Lo: 1, Hi: 2}, {Lo: 3, Hi: 4}}, {{Lo: 1, Hi: 5}, {Lo: 4, Hi: 9}}}
}

// wrongCodes are codes that are not Right (6.1), each in one way.
func wrongCodes() map[string]api.Code {
	take, end := inst(api.Take, 0, 0), inst(api.End, 0, 0)
	m := map[string]api.Code{
		"nothing":                       {},
		"no instructions":               codeOf(3),
		"no instructions, not nil":      {Sets: []api.Set{}, Ins: []api.Inst{}},
		"one instruction too many":      codeOf(0, yeses(api.MaxCode+1)...),
		"too many, of which all go":     codeOf(0, append([]api.Inst{inst(api.Jump, api.MaxCode, 0)}, yeses(api.MaxCode)...)...),
		"one set too many":              codeOf(api.MaxCode+1, yes),
		"a last one that is Take":       codeOf(1, take),
		"a last one that is Take, far":  codeOf(1, yes, take),
		"a last one that is End":        codeOf(0, end),
		"a last one that is End, far":   codeOf(0, yes, end),
		"a set's number, without sets":  codeOf(0, take, yes),
		"a set's number behind all":     codeOf(2, inst(api.Take, 2, 0), yes),
		"an instruction's, but no set":  codeOf(1, inst(api.Take, 1, 0), yes, yes),
		"an instruction behind all":     codeOf(5, inst(api.Jump, 2, 0), yes),
		"one behind all, A of a Split":  codeOf(5, inst(api.Split, 2, 1), yes),
		"one behind all, B of a Split":  codeOf(5, inst(api.Split, 1, 2), yes),
		"a last Split, behind all":      codeOf(5, yes, inst(api.Split, 0, 2)),
		"a wrong one that is not met":   codeOf(0, yes, inst(api.Yes, 1, 0), yes),
		"a wrong one behind what loops": codeOf(0, inst(api.Jump, 0, 0), inst(api.End, 0, 1), yes),
		"the last one of the most":      codeOf(0, append(yeses(api.MaxCode-1), inst(api.Yes, 0, 1))...),
	}
	for _, n := range []int{-1, 1, 7, math.MinInt, math.MaxInt, 1 << 32} {
		m["0 must be, B of a Take "+numbers([]int{n})] = codeOf(9, inst(api.Take, 0, n), yes)
		m["0 must be, B of a Jump "+numbers([]int{n})] = codeOf(9, inst(api.Jump, 1, n), yes)
		for _, op := range []int{api.End, api.Yes} {
			m["0 must be, A of "+numbers([]int{op, n})] = codeOf(9, inst(op, n, 0), yes)
			m["0 must be, B of "+numbers([]int{op, n})] = codeOf(9, inst(op, 0, n), yes)
		}
		if n != 1 {
			m["no such number, A of a Take "+numbers([]int{n})] = codeOf(2, inst(api.Take, n, 0), yes)
			m["no such number, A of a Jump "+numbers([]int{n})] = codeOf(9, inst(api.Jump, n, 0), yes)
			m["no such number, A of a Split "+numbers([]int{n})] = codeOf(9, inst(api.Split, n, 1), yes)
			m["no such number, B of a Split "+numbers([]int{n})] = codeOf(9, inst(api.Split, 1, n), yes)
		}
	}
	for _, op := range []int{0, -1, api.Yes + 1, math.MaxInt, math.MinInt} {
		m["no Op "+numbers([]int{op})] = codeOf(1, inst(op, 0, 0), yes)
		m["no Op, the last one "+numbers([]int{op})] = codeOf(1, yes, inst(op, 0, 0))
	}
	for _, s := range wrongSets() {
		c := codeOf(1, take, yes)
		c.Sets[0] = s
		m["a wrong set "+numbers([]int{s[0].Lo, s[0].Hi, len(s)})] = c
		c = codeOf(2, take, yes)
		c.Sets[1] = s
		m["a wrong set, not named "+numbers([]int{s[0].Lo, s[0].Hi, len(s)})] = c
	}
	return m
}

// TestCodeWrong (8.1): code that is not Right is ErrArg, and there is no code.
func TestCodeWrong(t *testing.T) {
	for name, c := range wrongCodes() {
		if vm.Right(c) {
			t.Errorf("%s: it is right", name)
		}
		if o, err := opt.Code(c); !isArg(err) || !isNoCode(o) {
			t.Errorf("%s: Code is %v, %v", name, o, err)
		}
	}
}

// TestProgramWrong (8.1): a program that is not RightProgram is ErrArg, and there is no program; also where what is wrong would be left out.
func TestProgramWrong(t *testing.T) {
	always, never := codeOf(0, yes), codeOf(0, inst(api.Jump, 0, 0))
	all, none := api.Pair{Break: true, Before: always, After: always}, api.Pair{Before: never, After: always}
	for name, c := range wrongCodes() {
		for _, rules := range [][]api.Pair{
			{{Before: c, After: always}},
			{{Before: always, After: c}},
			{{Before: c, After: c}, all},
			{none, {Before: always, After: c}},
			{all, {Before: c, After: always}},
			{all, all, {Before: never, After: c}},
			{{Before: never, After: c}},
		} {
			for _, p := range []api.Program{{Rules: rules}, {Rules: rules, Else: true}} {
				if q, err := opt.Program(p); !isArg(err) || !isNoProgram(q) {
					t.Errorf("%s: Program is %v, %v", name, q, err)
				}
			}
		}
	}
	for _, r := range []api.Pair{all, none} {
		p := api.Program{Rules: slices.Repeat([]api.Pair{r}, api.MaxRules+1), Else: true}
		if q, err := opt.Program(p); !isArg(err) || !isNoProgram(q) {
			t.Errorf("Program of too many rules is %v, %v", q, err)
		}
		p.Rules = p.Rules[1:]
		if q, err := opt.Program(p); err != nil || len(q.Rules) > 1 || !q.Else {
			t.Errorf("Program of as many rules as may be is %v, %v", q, err)
		}
	}
}
