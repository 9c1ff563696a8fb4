package image_test

import (
	"encoding/binary"
	"errors"
	"hash/adler32"
	"reflect"
	"slices"
	"strings"
	"testing"

	"caesura/api"
	"caesura/image"
	"caesura/plain"
	"caesura/vm"
)

// die: numbers that look drawn, the same each time.
type die uint64

func (d *die) n(most int) int {
	*d = *d*6364136223846793005 + 1442695040888963407
	return int(uint64(*d>>33) % uint64(most))
}

// inst is an instruction.
func inst(op, a, b int) api.Inst { return api.Inst{Op: op, A: a, B: b} }

var yes, end = inst(api.Yes, 0, 0), inst(api.End, 0, 0)

// always is a rule's code that always matches.
var always = codeOf(0, yes)

// insts are instructions.
func insts(l ...api.Inst) []api.Inst { return l }

// codeOf is instructions, and so many sets.
func codeOf(sets int, l ...api.Inst) api.Code {
	return api.Code{Sets: slices.Repeat([]api.Set{{{Lo: 'a', Hi: 'z'}}}, sets), Ins: l}
}

// yeses are so many instructions.
func yeses(n int) []api.Inst { return slices.Repeat(insts(yes), n) }

// one is the set of one point.
func one(point int) api.Set { return api.Set{{Lo: point, Hi: point}} }

// wrongSets are sets that may not be.
func wrongSets() []api.Set {
	return []api.Set{{{Lo: 'b', Hi: 'a'}}, {{Lo: -1, Hi: 3}}, {{Lo: 0, Hi: api.MaxPoint + 1}}, {{Lo: 5, Hi: 6}, {Lo: 1, Hi: 2}}, {{Lo: 1, Hi: 2}, {Lo: 3, Hi: 4}}, {{Lo: 1, Hi: 5}, {Lo: 4, Hi: 9}}, {{Lo: 1, Hi: 1}, {Lo: 1, Hi: 1}}}
}

// numbersOf are the numbers of an image, by 10.1 word by word: also of a program that may not be.
func numbersOf(p api.Program) []int {
	bit := map[bool]int{true: 1}
	code := func(c api.Code) []int {
		l := []int{len(c.Sets)}
		for _, s := range c.Sets {
			l = append(l, len(s))
			for _, r := range s {
				l = append(l, r.Lo, r.Hi)
			}
		}
		l = append(l, len(c.Ins))
		for _, in := range c.Ins {
			l = append(l, in.Op, in.A, in.B)
		}
		return l
	}
	l := []int{bit[p.Else], len(p.Rules)}
	for _, r := range p.Rules {
		l = slices.Concat(l, []int{bit[r.Break]}, code(r.Before), code(r.After))
	}
	return l
}

// bytesOf are numbers, seven bits a byte.
func bytesOf(l ...int) string {
	var b []byte
	for _, n := range l {
		b = binary.AppendUvarint(b, uint64(n))
	}
	return string(b)
}

// sealed is a text with its sum behind it.
func sealed(s string) string {
	return string(binary.LittleEndian.AppendUint32([]byte(s), adler32.Checksum([]byte(s))))
}

// imageOf is the image of numbers.
func imageOf(l ...int) string { return sealed(bytesOf(l...)) }

// byWords is the program of which Write tells just s, by 10.1, and whether there is one: first the sum, then all numbers, then what they say.
func byWords(s string) (api.Program, bool) {
	if len(s) < 4 || sealed(s[:len(s)-4]) != s {
		return api.Program{}, false
	}
	var l []int
	for s = s[:len(s)-4]; s != ""; {
		n, size := binary.Uvarint([]byte(s[:min(10, len(s))]))
		if size <= 0 || n > 1<<40 || bytesOf(int(n)) != s[:size] {
			return api.Program{}, false
		}
		l, s = append(l, int(n)), s[size:]
	}
	ok := true
	next := func() int {
		if len(l) == 0 {
			ok = false
			return 0
		}
		n := l[0]
		l = l[1:]
		return n
	}
	bit := func() bool {
		n := next()
		ok = ok && n <= 1
		return n == 1
	}
	code := func() api.Code {
		var c api.Code
		for n := next(); ok && n > 0; n-- {
			var s api.Set
			for k := next(); ok && k > 0; k-- {
				lo := next()
				s = append(s, api.Range{Lo: lo, Hi: next()})
			}
			c.Sets = append(c.Sets, s)
		}
		for n := next(); ok && n > 0; n-- {
			op := next()
			a := next()
			c.Ins = append(c.Ins, inst(op, a, next()))
		}
		return c
	}
	p := api.Program{Else: bit()}
	for n := next(); ok && n > 0; n-- {
		r := api.Pair{Break: bit(), Before: code()}
		r.After = code()
		p.Rules = append(p.Rules, r)
	}
	if !ok || len(l) > 0 || !vm.RightProgram(p) {
		return api.Program{}, false
	}
	return p, true
}

// written is Write of what is RightProgram.
func written(t testing.TB, p api.Program) string {
	t.Helper()
	s, err := image.Write(p)
	if err != nil {
		t.Fatalf("Write(%v): %v", p, err)
	}
	return s
}

// parsed is Parse of an image.
func parsed(t testing.TB, s string) api.Program {
	t.Helper()
	p, err := image.Parse(s)
	if err != nil || !vm.RightProgram(p) {
		t.Fatalf("Parse(%.2000q) is %v, %v", s, p, err)
	}
	return p
}

// isJust says whether an error is such a one, and has no place.
func isJust(err error, want api.Errno) bool {
	var a *api.At
	e, place := plain.Place(err)
	return errors.Is(err, want) && !errors.As(err, &a) && e == want && place == -1
}

// wantArg fails the test, unless Write tells ErrArg, and no image.
func wantArg(t testing.TB, what string, p api.Program) {
	t.Helper()
	if vm.RightProgram(p) {
		t.Errorf("%s: it is right", what)
	}
	if s, err := image.Write(p); s != "" || !isJust(err, api.ErrArg) {
		t.Errorf("%s: Write is %.200q, %v, not ErrArg", what, s, err)
	}
}

// wantForm fails the test, unless Parse tells ErrForm, and no program.
func wantForm(t testing.TB, s string) {
	t.Helper()
	if p, err := image.Parse(s); !isJust(err, api.ErrForm) || p.Rules != nil || p.Else {
		t.Errorf("Parse(%.2000q) is %v, %v, not ErrForm", s, p, err)
	}
}

// wantByWords fails the test, unless Parse tells of a text what 10.1 says word by word; it tells whether that is a program.
func wantByWords(t testing.TB, s string) bool {
	t.Helper()
	p, ok := byWords(s)
	if !ok {
		wantForm(t, s)
		return false
	}
	if q := parsed(t, s); !alike(p, q) {
		t.Errorf("Parse(%q) is %v, not %v", s, q, p)
	}
	if again := written(t, p); again != s {
		t.Errorf("%q: read and written it is %q", s, again)
	}
	return true
}

// alike says whether two programs are, an empty list and none being one.
func alike(p, q api.Program) bool { return reflect.DeepEqual(filled(p), filled(q)) }

// filled is a program none of whose lists is nil.
func filled(p api.Program) api.Program {
	fill := func(c api.Code) api.Code {
		sets := []api.Set{}
		for _, s := range c.Sets {
			sets = append(sets, append(api.Set{}, s...))
		}
		return api.Code{Sets: sets, Ins: append([]api.Inst{}, c.Ins...)}
	}
	q := api.Program{Rules: []api.Pair{}, Else: p.Else}
	for _, r := range p.Rules {
		q.Rules = append(q.Rules, api.Pair{Break: r.Break, Before: fill(r.Before), After: fill(r.After)})
	}
	return q
}

// drawSet is a set, of no range, of one, or of some, whose numbers have one byte to three.
func drawSet(d *die) api.Set {
	l := []api.Range{{Lo: 0, Hi: 0}, {Lo: 9, Hi: 10}, {Lo: 'a', Hi: 'a'}, {Lo: 'c', Hi: 127}, {Lo: 200, Hi: 16383}, {Lo: 16385, Hi: 16385}, {Lo: 0xabcde, Hi: 0xffffe}, {Lo: api.MaxPoint, Hi: api.MaxPoint}}
	switch d.n(5) {
	case 0:
		return []api.Set{nil, {}, {{Lo: 0, Hi: api.MaxPoint}}}[d.n(3)]
	case 1, 2:
		return api.Set{l[d.n(len(l))]}
	}
	most := d.n(9)
	return slices.DeleteFunc(l, func(api.Range) bool { return d.n(9) > most })
}

// drawCode is code that is Right, of at most so many instructions, now and then of many more: some of its sets are alike, and some are not named.
func drawCode(d *die, most int) api.Code {
	var c api.Code
	n, sets := 1+d.n(most), 1+d.n(6)
	if d.n(20) == 0 {
		n, sets = n+200, sets+150
	}
	for range sets {
		c.Sets = append(c.Sets, drawSet(d))
	}
	for range d.n(4) {
		c.Sets = append(c.Sets, slices.Clone(c.Sets[d.n(len(c.Sets))]))
	}
	for i := range n {
		one := insts(inst(api.Take, d.n(len(c.Sets)), 0), inst(api.Take, d.n(len(c.Sets)), 0), end,
			inst(api.Split, min(i+1, n-1), d.n(n)), inst(api.Split, d.n(n), d.n(n)), inst(api.Jump, d.n(n), 0), yes)
		if i == n-1 {
			one = one[3:]
		}
		c.Ins = append(c.Ins, one[d.n(len(one))])
	}
	if d.n(10) == 0 && !slices.ContainsFunc(c.Ins, func(in api.Inst) bool { return in.Op == api.Take }) {
		c.Sets = nil
	}
	return c
}

// drawProgram is a program that is RightProgram.
func drawProgram(d *die) api.Program {
	p := api.Program{Else: d.n(2) == 0}
	for range d.n(5) {
		p.Rules = append(p.Rules, api.Pair{Break: d.n(2) == 0, Before: drawCode(d, 12), After: drawCode(d, 12)})
	}
	return p
}

// bytesIn are bytes, as they are told in hexadecimal digits, blanks between.
func bytesIn(t testing.TB, text string) string {
	t.Helper()
	var b []byte
	for _, word := range strings.Fields(text) {
		hi, lo := strings.Index("0123456789abcdef", word[:1]), strings.Index("0123456789abcdef", word[1:])
		if len(word) != 2 || hi < 0 || lo < 0 {
			t.Fatalf("%q is no byte", word)
		}
		b = append(b, byte(hi*16+lo))
	}
	return string(b)
}
