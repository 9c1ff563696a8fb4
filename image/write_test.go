package image_test

import (
	"fmt"
	"math"
	"slices"
	"testing"

	"caesura/api"
	"caesura/set"
)

// handmade are programs, and their images' bytes ahead of the sum.
func handmade() map[string]api.Program {
	all := api.Set{{Lo: 0, Hi: api.MaxPoint}}
	some := api.Code{
		Sets: []api.Set{one('b'), nil, {{Lo: 0, Hi: 0}, {Lo: 2, Hi: 127}, {Lo: 129, Hi: 16383}, {Lo: 16385, Hi: 0xffff}}, one('b'), {}, all},
		Ins:  insts(inst(api.Take, 2, 0), inst(api.Split, 0, 4), inst(api.Jump, 3, 0), end, inst(api.Take, 5, 0), yes),
	}
	long := codeOf(0, append(yeses(129), inst(api.Split, 128, 127), inst(api.Split, 0, 129), inst(api.Jump, 130, 0))...)
	longBytes := "00 84 01"
	for range 129 {
		longBytes += " 05 00 00"
	}
	longBytes += " 02 80 01 7f 02 00 81 01 03 82 01 00"
	alike := api.Code{Sets: slices.Repeat([]api.Set{nil}, 130), Ins: insts(inst(api.Take, 129, 0), inst(api.Take, 128, 0), inst(api.Take, 127, 0), yes)}
	alikeBytes := "82 01"
	for range 130 {
		alikeBytes += " 00"
	}
	alikeBytes += " 04 01 81 01 00 01 80 01 00 01 7f 00 05 00 00"
	return map[string]api.Program{
		"00 00": {},
		"01 00": {Else: true},
		"00 01  00  00 01 05 00 00  00 01 05 00 00":                            {Rules: []api.Pair{{Before: always, After: always}}},
		"00 01  01  00 01 05 00 00  00 01 05 00 00":                            {Rules: []api.Pair{{Break: true, Before: always, After: always}}},
		"01 01  00  00 01 05 00 00  00 01 05 00 00":                            {Rules: []api.Pair{{Before: always, After: always}}, Else: true},
		"01 01  01  00 01 05 00 00  00 01 05 00 00":                            {Rules: []api.Pair{{Break: true, Before: always, After: always}}, Else: true},
		"00 01  00  00 01 03 00 00  00 01 02 00 00":                            {Rules: []api.Pair{{Before: codeOf(0, inst(api.Jump, 0, 0)), After: codeOf(0, inst(api.Split, 0, 0))}}},
		"00 01  00  00 02 04 00 00 05 00 00  00 03 03 01 00 02 02 01 03 01 00": {Rules: []api.Pair{{Before: codeOf(0, end, yes), After: codeOf(0, inst(api.Jump, 1, 0), inst(api.Split, 2, 1), inst(api.Jump, 1, 0))}}},
		"00 01  00  02 01 61 7a 01 61 7a 01 05 00 00  00 01 05 00 00":          {Rules: []api.Pair{{Before: codeOf(2, yes), After: always}}},
		"00 01  00  00 01 05 00 00  01 01 61 7a 02 01 00 00 05 00 00":          {Rules: []api.Pair{{Before: always, After: codeOf(1, inst(api.Take, 0, 0), yes)}}},
		"00 01  01  06 01 62 62 00 04 00 00 02 7f 81 01 ff 7f 81 80 01 ff ff 03 01 62 62 00 01 00 ff ff 43 06 01 02 00 02 00 04 03 03 00 04 00 00 01 05 00 05 00 00  00 01 05 00 00": {Rules: []api.Pair{{Break: true, Before: some, After: always}}},
		"01 03  00  00 01 05 00 00  00 01 03 00 00  01  01 01 61 7a 01 05 00 00  00 02 05 00 00 05 00 00  00  00 01 02 00 00  02 01 61 7a 01 61 7a 02 01 01 00 05 00 00":             {Rules: []api.Pair{{Before: always, After: codeOf(0, inst(api.Jump, 0, 0))}, {Break: true, Before: codeOf(1, yes), After: codeOf(0, yes, yes)}, {Before: codeOf(0, inst(api.Split, 0, 0)), After: codeOf(2, inst(api.Take, 1, 0), yes)}}, Else: true},
		"00 01  00 " + longBytes + " " + alikeBytes:                                   {Rules: []api.Pair{{Before: long, After: alike}}},
		"00 01  01 " + alikeBytes + " " + longBytes:                                   {Rules: []api.Pair{{Break: true, Before: alike, After: long}}},
		"00 02  00 " + longBytes + " 00 01 05 00 00  01 00 01 05 00 00 " + alikeBytes: {Rules: []api.Pair{{Before: long, After: always}, {Break: true, Before: always, After: alike}}},
	}
}

// TestWrite (10.1): programs by hand, byte by byte: with and without rules, of each Op, of sets of nothing, such as are alike, and such as no instruction names.
func TestWrite(t *testing.T) {
	for bytes, p := range handmade() {
		if got, want := written(t, p), sealed(bytesIn(t, bytes)); got != want {
			t.Errorf("Write(%v) is % x, not % x", p, got, want)
		}
	}
	for bytes, p := range map[string]api.Program{
		"00 00  01 00 02 00": {},
		"01 00  02 00 04 00": {Else: true},
		"00 01  00  00 01 05 00 00  00 01 05 00 00  0e 00 5d 00": {Rules: []api.Pair{{Before: always, After: always}}},
	} {
		if got, want := written(t, p), bytesIn(t, bytes); got != want {
			t.Errorf("Write(%v) is % x, not % x", p, got, want)
		}
	}
}

// TestWriteNumbers (10.1): numbers have seven bits a byte, the least ones first, and 128 is added to all but the last byte.
func TestWriteNumbers(t *testing.T) {
	for n, bytes := range map[int]string{
		0: "00", 1: "01", 2: "02", 63: "3f", 64: "40", 126: "7e", 127: "7f",
		128: "80 01", 129: "81 01", 130: "82 01", 255: "ff 01", 256: "80 02", 257: "81 02", 300: "ac 02", 1000: "e8 07", 1999: "cf 0f", 8192: "80 40", 16256: "80 7f", 16382: "fe 7f", 16383: "ff 7f",
		16384: "80 80 01", 16385: "81 80 01", 16512: "80 81 01", 32768: "80 80 02", 65535: "ff ff 03", 65536: "80 80 04", 1 << 20: "80 80 40", 0xabcde: "de f9 2a", api.MaxPoint - 1: "fe ff 43", api.MaxPoint: "ff ff 43",
	} {
		p := api.Program{Rules: []api.Pair{{Before: api.Code{Sets: []api.Set{one(n)}, Ins: insts(yes)}, After: always}}}
		want := sealed(bytesIn(t, "00 01  00  01 01 "+bytes+" "+bytes+" 01 05 00 00  00 01 05 00 00"))
		if got := written(t, p); got != want {
			t.Errorf("%d is written % x, not % x", n, got, want)
		}
		if q := parsed(t, want); !alike(q, p) {
			t.Errorf("%d is read %v", n, q)
		}
		if n < api.MaxCode { // as an instruction's, and a set's
			c := codeOf(n+1, append(yeses(n), inst(api.Split, n, n))...)
			if n > 0 {
				c.Ins[0] = inst(api.Take, n, 0)
			}
			s := written(t, api.Program{Rules: []api.Pair{{Before: always, After: c}}})
			if tail, want := s[:len(s)-4], bytesIn(t, "02 "+bytes+" "+bytes); tail[len(tail)-len(want):] != want {
				t.Errorf("a Split to %d is written % x, not % x", n, tail[len(tail)-len(want):], want)
			}
			if q := parsed(t, s); !slices.Equal(q.Rules[0].After.Ins, c.Ins) {
				t.Errorf("a Take of %d, and a Split to it, are read %v", n, q.Rules[0].After.Ins)
			}
		}
	}
}

// TestWriteByWords (10.1): drawn programs are written as 10.1 says word by word.
func TestWriteByWords(t *testing.T) {
	d := die(3)
	great := 0
	for range 3000 {
		p := drawProgram(&d)
		got, want := written(t, p), imageOf(numbersOf(p)...)
		if got != want {
			t.Fatalf("Write(%v) is % x, not % x", p, got, want)
		}
		if slices.ContainsFunc(p.Rules, func(r api.Pair) bool { return len(r.Before.Ins) > 127 && len(r.Before.Sets) > 127 }) {
			great++
		}
	}
	if great < 100 {
		t.Errorf("drawn are too few programs of many instructions and sets: %d", great)
	}
}

// most is as much as may be: the most rules, each of the most instructions, and of the most sets.
func most() api.Program {
	var c api.Code
	for i := range api.MaxCode {
		c.Sets = append(c.Sets, api.Set{{Lo: i, Hi: i}, {Lo: 5000, Hi: 5000 + 300*i}})
		c.Ins = append(c.Ins, inst(api.Take, i, 0))
	}
	c.Ins[api.MaxCode-1] = inst(api.Split, api.MaxCode-1, 1234)
	return api.Program{Rules: slices.Repeat([]api.Pair{{Before: c, After: c}, {Break: true, Before: always, After: c}}, api.MaxRules/2), Else: true}
}

// TestWriteMost (10.1): as much as may be is written, and read again; also a set of the most ranges.
func TestWriteMost(t *testing.T) {
	p := most()
	s := written(t, p)
	if s != imageOf(numbersOf(p)...) {
		t.Errorf("what is the most is written otherwise than 10.1 says")
	}
	if !alike(parsed(t, s), p) {
		t.Errorf("what is the most is read otherwise than it was written")
	}
	for first := range 2 { // every second point, from 0 on, and from 1 on
		var every api.Set
		for point := first; point <= api.MaxPoint; point += 2 {
			every = append(every, api.Range{Lo: point, Hi: point})
		}
		if len(every) != 557056 {
			t.Fatalf("every second point from %d on is %d points", first, len(every))
		}
		p = api.Program{Rules: []api.Pair{{Before: always, After: api.Code{Sets: []api.Set{nil, every}, Ins: insts(inst(api.Take, 1, 0), yes)}}}}
		s = written(t, p)
		if s != imageOf(numbersOf(p)...) {
			t.Errorf("a set of the most ranges is written otherwise than 10.1 says")
		}
		if !alike(parsed(t, s), p) {
			t.Errorf("a set of the most ranges is read otherwise than it was written")
		}
	}
}

// wrongCodes are codes that are not Right (6.1), each in one way.
func wrongCodes() map[string]api.Code {
	take := inst(api.Take, 0, 0)
	m := map[string]api.Code{
		"nothing":                  {},
		"no instructions":          codeOf(3),
		"no instructions, not nil": {Sets: []api.Set{}, Ins: []api.Inst{}},
		"one too many":             codeOf(0, yeses(api.MaxCode+1)...),
		"one set too many":         codeOf(api.MaxCode+1, yes),
		"a last Take":              codeOf(1, take),
		"a last Take, far":         codeOf(1, yes, take),
		"a last End":               codeOf(0, end),
		"a last End, far":          codeOf(0, yes, end),
		"no set to take":           codeOf(0, take, yes),
		"a Take behind all sets":   codeOf(2, inst(api.Take, 2, 0), yes, yes, yes),
		"a Jump behind all":        codeOf(5, inst(api.Jump, 2, 0), yes),
		"A of a Split behind all":  codeOf(5, inst(api.Split, 2, 1), yes),
		"B of a Split behind all":  codeOf(5, inst(api.Split, 1, 2), yes),
		"a last Split, behind all": codeOf(5, yes, inst(api.Split, 0, 2)),
		"one that is not met":      codeOf(0, yes, inst(api.Yes, 1, 0), yes),
		"no Op, 0":                 codeOf(0, inst(0, 0, 0), yes),
		"no Op, 0, the last one":   codeOf(0, yes, inst(0, 0, 0)),
		"no Op, below":             codeOf(0, inst(-1, 0, 0), yes),
		"no Op, the next one":      codeOf(0, inst(api.Yes+1, 0, 0), yes),
		"no Op, far":               codeOf(0, inst(math.MaxInt, 0, 0), yes),
		"no Op, far below":         codeOf(0, inst(math.MinInt, 0, 0), yes),
	}
	for name, n := range map[string]int{" -1": -1, " 7": 7, " the least": math.MinInt, " the most": math.MaxInt} {
		m["B of a Take"+name] = codeOf(9, inst(api.Take, 0, n), yes)
		m["B of a Jump"+name] = codeOf(9, inst(api.Jump, 1, n), yes)
		m["A of a Take"+name] = codeOf(7, inst(api.Take, n, 0), yes)
		m["A of a Jump"+name] = codeOf(9, inst(api.Jump, n, 0), yes)
		m["A of a Split"+name] = codeOf(9, inst(api.Split, n, 1), yes)
		m["B of a Split"+name] = codeOf(9, inst(api.Split, 1, n), yes)
		for what, op := range map[string]int{"an End": api.End, "a Yes": api.Yes} {
			m["A of "+what+name] = codeOf(9, inst(op, n, 0), yes)
			m["B of "+what+name] = codeOf(9, inst(op, 0, n), yes)
		}
	}
	for _, s := range wrongSets() {
		m["a wrong set"+set.Print(s)] = api.Code{Sets: []api.Set{s}, Ins: insts(take, yes)}
		m["a wrong set, not named"+set.Print(s)] = api.Code{Sets: []api.Set{{}, s}, Ins: insts(take, yes)}
	}
	return m
}

// wrongPrograms are programs that are not RightProgram, each in one way.
func wrongPrograms() map[string]api.Program {
	m := map[string]api.Program{}
	right := api.Pair{Break: true, Before: always, After: always}
	for what, c := range wrongCodes() {
		for i, r := range []api.Pair{{Before: c, After: always}, {Before: always, After: c}, {Before: c, After: c}} {
			what = fmt.Sprint(what, i)
			m[what] = api.Program{Rules: []api.Pair{r}}
			m[what+", behind"] = api.Program{Rules: []api.Pair{right, r}, Else: true}
			m[what+", ahead"] = api.Program{Rules: []api.Pair{r, right, right}}
		}
	}
	m["one rule too many"] = api.Program{Rules: slices.Repeat([]api.Pair{right}, api.MaxRules+1)}
	m["one rule too many, and break else"] = api.Program{Rules: slices.Repeat([]api.Pair{right}, api.MaxRules+1), Else: true}
	m["many rules too many"] = api.Program{Rules: slices.Repeat([]api.Pair{right}, 9*api.MaxRules)}
	return m
}

// TestWriteWrong (10.1): a program that is not RightProgram is ErrArg, and there is no image, wherever in it the wrong code is; and what would be its image is ErrForm.
func TestWriteWrong(t *testing.T) {
	for what, p := range wrongPrograms() {
		wantArg(t, what, p)
		wantForm(t, imageOf(numbersOf(p)...))
	}
	p := api.Program{Rules: slices.Repeat([]api.Pair{{Break: true, Before: always, After: always}}, api.MaxRules)}
	if got := written(t, p); got != imageOf(numbersOf(p)...) {
		t.Errorf("as many rules as may be are written % x", got)
	}
}
