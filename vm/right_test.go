package vm_test

import (
	"math"
	"slices"
	"testing"

	"caesura/api"
	"caesura/vm"
)

// insts are instructions.
func insts(l ...api.Inst) []api.Inst { return l }

// letters are so many sets.
func letters(n int) []api.Set {
	return slices.Repeat([]api.Set{{{Lo: 'a', Hi: 'z'}}}, n)
}

// code is instructions, and so many sets.
func code(sets int, l ...api.Inst) api.Code {
	return api.Code{Sets: letters(sets), Ins: l}
}

// yeses are so many instructions.
func yeses(n int) []api.Inst {
	return slices.Repeat(insts(yes), n)
}

var yes = api.Inst{Op: api.Yes}

// inst is an instruction.
func inst(op, a, b int) api.Inst { return api.Inst{Op: op, A: a, B: b} }

// rightCodes are codes that may be.
func rightCodes() map[string]api.Code {
	return map[string]api.Code{
		"yes":                   code(0, yes),
		"two yeses":             code(0, yes, yes),
		"a jump to itself":      code(0, inst(api.Jump, 0, 0)),
		"a split to itself":     code(0, inst(api.Split, 0, 0)),
		"a jump to the last":    code(0, inst(api.Jump, 2, 0), yes, yes),
		"a last one, a jump":    code(0, yes, yes, inst(api.Jump, 2, 0)),
		"a last one, a split":   code(0, yes, yes, inst(api.Split, 0, 2)),
		"a split, turned":       code(0, yes, yes, inst(api.Split, 2, 0)),
		"a split to one":        code(0, inst(api.Split, 1, 1), yes),
		"a take of the only":    code(1, inst(api.Take, 0, 0), yes),
		"a take of the first":   code(3, inst(api.Take, 0, 0), yes),
		"a take of the last":    code(3, inst(api.Take, 2, 0), yes),
		"a take beyond insts":   code(9, inst(api.Take, 8, 0), yes),
		"an end":                code(0, inst(api.End, 0, 0), yes),
		"ends":                  code(0, inst(api.End, 0, 0), inst(api.End, 0, 0), inst(api.Jump, 0, 0)),
		"what nothing leads to": code(1, yes, inst(api.Take, 0, 0), inst(api.End, 0, 0), yes),
		"sets for nothing":      code(5, yes),
		"as many as may be":     code(0, yeses(api.MaxCode)...),
		"a jump to the far end": code(0, append(insts(inst(api.Jump, api.MaxCode-1, 0)), yeses(api.MaxCode-1)...)...),
		"as many sets":          code(api.MaxCode, inst(api.Take, api.MaxCode-1, 0), yes),
		"an empty set":          {Sets: []api.Set{nil, {}}, Ins: insts(inst(api.Take, 1, 0), yes)},
		"all points":            {Sets: []api.Set{{{Lo: 0, Hi: api.MaxPoint}}}, Ins: insts(inst(api.Take, 0, 0), yes)},
		"ranges":                {Sets: []api.Set{{{Lo: 0, Hi: 0}, {Lo: 2, Hi: 3}, {Lo: api.MaxPoint, Hi: api.MaxPoint}}}, Ins: insts(yes)},
	}
}

// wrongCodes are codes that may not be, each in one way.
func wrongCodes() map[string]api.Code {
	take, end := inst(api.Take, 0, 0), inst(api.End, 0, 0)
	m := map[string]api.Code{
		"nothing":                  {},
		"no instruction":           code(3),
		"no instruction, not nil":  {Sets: letters(1), Ins: insts()},
		"one too many":             code(0, yeses(api.MaxCode+1)...),
		"many too many":            code(0, yeses(3*api.MaxCode)...),
		"one set too many":         code(api.MaxCode+1, yes),
		"the last one is a take":   code(1, take),
		"the last of two, a take":  code(1, yes, take),
		"the last one is an end":   code(0, end),
		"the last of two, an end":  code(0, yes, end),
		"no set to take":           code(0, take, yes),
		"behind all sets":          code(2, inst(api.Take, 2, 0), yes),
		"an instruction, no set":   code(1, inst(api.Take, 1, 0), yes, yes),
		"a take with a B":          code(3, inst(api.Take, 0, 1), yes),
		"a take with B -1":         code(3, inst(api.Take, 0, -1), yes),
		"a jump behind all":        code(5, inst(api.Jump, 2, 0), yes),
		"a last jump behind all":   code(0, yes, inst(api.Jump, 2, 0)),
		"a jump with a B":          code(0, inst(api.Jump, 1, 1), yes),
		"a jump with B -1":         code(0, inst(api.Jump, 1, -1), yes),
		"a split, A behind all":    code(5, inst(api.Split, 2, 1), yes),
		"a split, B behind all":    code(5, inst(api.Split, 1, 2), yes),
		"a last split, behind all": code(5, yes, inst(api.Split, 0, 2)),
		"a wrong one at the end":   code(0, append(yeses(api.MaxCode-1), inst(api.Yes, 0, 1))...),
		"a wrong one, not met":     code(0, yes, inst(api.End, 1, 0), yes),
	}
	for _, op := range []int{api.Take, api.Split, api.Jump} {
		for _, a := range []int{-1, math.MinInt, 2, math.MaxInt, 1 << 32} {
			m["A "+numbers([]int{op, a})] = code(2, inst(op, a, 0), yes)
			m["B "+numbers([]int{op, a})] = code(2, inst(op, 0, a), yes)
		}
	}
	for _, op := range []int{api.End, api.Yes} {
		for _, a := range []int{-1, 1, math.MinInt, math.MaxInt, 1 << 32} {
			m["A "+numbers([]int{op, a})] = code(2, inst(op, a, 0), yes)
			m["B "+numbers([]int{op, a})] = code(2, inst(op, 0, a), yes)
		}
	}
	for _, op := range []int{0, -1, 6, 7, 255, 256 + api.Yes, 1<<32 + api.Yes, math.MinInt, math.MaxInt} {
		m["op "+numbers([]int{op})] = code(2, inst(op, 0, 0), yes)
		m["last op "+numbers([]int{op})] = code(2, yes, inst(op, 0, 0))
	}
	for _, s := range wrongSets {
		m["set "+setWords(s)] = api.Code{Sets: []api.Set{s}, Ins: insts(take, yes)}
		m["last set "+setWords(s)] = api.Code{Sets: append(letters(2), s), Ins: insts(take, yes)}
		m["set for nothing "+setWords(s)] = api.Code{Sets: append([]api.Set{nil, s}, letters(2)...), Ins: insts(yes)}
	}
	return m
}

// wrongSets are sets that are not Right.
var wrongSets = []api.Set{
	{{Lo: -1, Hi: 0}},
	{{Lo: 0, Hi: api.MaxPoint + 1}},
	{{Lo: 5, Hi: 4}},
	{{Lo: 1, Hi: 2}, {Lo: 3, Hi: 4}},
	{{Lo: 1, Hi: 5}, {Lo: 3, Hi: 7}},
	{{Lo: 7, Hi: 7}, {Lo: 1, Hi: 1}},
	{{Lo: 1, Hi: 1}, {Lo: 1, Hi: 1}},
}

func setWords(s api.Set) string {
	var l []int
	for _, r := range s {
		l = append(l, r.Lo, r.Hi)
	}
	return numbers(l)
}

// TestRight (6.1): code that may be, and such that may not.
func TestRight(t *testing.T) {
	for name, c := range rightCodes() {
		if !vm.Right(c) {
			t.Errorf("%s: it is Right", name)
		}
	}
	for name, c := range wrongCodes() {
		if vm.Right(c) {
			t.Errorf("%s: it is not Right", name)
		}
	}
}

// TestRightNumbers (6.1): each instruction with each small A and B, in code of three instructions and two sets.
func TestRightNumbers(t *testing.T) {
	within := func(n, count int) bool { return 0 <= n && n < count }
	for op := -1; op <= 7; op++ {
		for a := -2; a <= 5; a++ {
			for b := -2; b <= 5; b++ {
				may := map[int]bool{
					api.Take:  within(a, 2) && b == 0,
					api.Split: within(a, 3) && within(b, 3),
					api.Jump:  within(a, 3) && b == 0,
					api.End:   a == 0 && b == 0,
					api.Yes:   a == 0 && b == 0,
				}[op]
				for at := range 3 {
					l := yeses(3)
					l[at] = inst(op, a, b)
					want := may && (at < 2 || op != api.Take && op != api.End)
					if got := vm.Right(code(2, l...)); got != want {
						t.Errorf("Right of %v, of three, at %d: %v", l[at], at, got)
					}
				}
			}
		}
	}
}

// TestRightProgram (6.1): programs that may be, and such that may not.
func TestRightProgram(t *testing.T) {
	rules := func(n int) []api.Pair {
		return slices.Repeat([]api.Pair{{Break: true, Before: always(), After: always()}}, n)
	}
	for n := range api.MaxRules + 3 {
		for _, other := range []bool{false, true} {
			if got := vm.RightProgram(api.Program{Rules: rules(n), Else: other}); got != (n <= api.MaxRules) {
				t.Errorf("RightProgram of %d rules: %v", n, got)
			}
		}
	}
	for name, c := range rightCodes() {
		p := api.Program{Rules: append(rules(2), api.Pair{Before: c, After: c})}
		if !vm.RightProgram(p) {
			t.Errorf("%s: a program of it is right", name)
		}
	}
	for name, c := range wrongCodes() {
		for _, at := range []int{0, 1, api.MaxRules - 1} {
			before, after := rules(api.MaxRules), rules(api.MaxRules)
			before[at].Before, after[at].After = c, c
			if vm.RightProgram(api.Program{Rules: before}) || vm.RightProgram(api.Program{Rules: after}) {
				t.Errorf("%s: a program with it in rule %d is not right", name, at)
			}
		}
	}
}

// TestWrong (6.2, 6.3, P2, P3): ErrArg, without a place, and nothing beside it, whatever the points are.
func TestWrong(t *testing.T) {
	for name, c := range wrongCodes() {
		for _, points := range [][]int{nil, {}, {'a'}, {'a', 'b', 'c'}} {
			if ok, n, err := vm.Match(c, points); ok || n != 0 || !isArg(err) {
				t.Errorf("%s: Match is %v, %d, %v", name, ok, n, err)
			}
			first := api.Pair{Break: true, Before: always(), After: always()}
			for _, p := range []api.Program{
				{Rules: []api.Pair{{Before: c, After: always()}}},
				{Rules: []api.Pair{{Before: always(), After: c}}, Else: true},
				{Rules: []api.Pair{first, {Before: never(), After: c}}, Else: true},
			} {
				if l, err := vm.Breaks(p, points); len(l) != 0 || !isArg(err) {
					t.Errorf("%s: Breaks is %v, %v", name, l, err)
				}
			}
		}
	}
	many := api.Program{Rules: slices.Repeat([]api.Pair{{Before: always(), After: always()}}, api.MaxRules+1)}
	for _, points := range [][]int{nil, {'a', 'b'}} {
		if l, err := vm.Breaks(many, points); len(l) != 0 || !isArg(err) {
			t.Errorf("Breaks of too many rules is %v, %v", l, err)
		}
	}
}
