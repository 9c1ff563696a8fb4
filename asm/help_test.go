package asm_test

import (
	"errors"
	"fmt"
	"reflect"
	"regexp"
	"slices"
	"strconv"
	"strings"
	"testing"

	"caesura/api"
	"caesura/asm"
	"caesura/plain"
	"caesura/set"
	"caesura/vm"
)

// die: numbers that look drawn, the same each time.
type die uint64

func (d *die) n(most int) int {
	*d = *d*6364136223846793005 + 1442695040888963407
	return int(uint64(*d>>33) % uint64(most))
}

// inst is an instruction.
func inst(op, a, b int) api.Inst { return api.Inst{Op: op, A: a, B: b} }

var yes, end = inst(api.Yes, 0, 0), inst(api.End, 0, 0)

// insts are instructions.
func insts(l ...api.Inst) []api.Inst { return l }

// codeOf is instructions, and so many sets.
func codeOf(sets int, l ...api.Inst) api.Code {
	return api.Code{Sets: slices.Repeat([]api.Set{{{Lo: 'a', Hi: 'z'}}}, sets), Ins: l}
}

// yeses are so many instructions.
func yeses(n int) []api.Inst { return slices.Repeat(insts(yes), n) }

// lines are a text's: a ; is a line's end, and blanks behind it are none of the text's; nothing is no line.
func lines(text string) string {
	var b strings.Builder
	for _, l := range strings.Split(text, ";") {
		if l = strings.TrimLeft(l, " "); l != "" {
			b.WriteString(l + "\n")
		}
	}
	return b.String()
}

// printed is Print of what is RightProgram.
func printed(t testing.TB, p api.Program) string {
	t.Helper()
	s, err := asm.Print(p)
	if err != nil {
		t.Fatalf("Print(%v): %v", p, err)
	}
	return s
}

// parsed is Parse of a program's text.
func parsed(t testing.TB, s string) api.Program {
	t.Helper()
	p, err := asm.Parse(s)
	if err != nil || !vm.RightProgram(p) {
		t.Fatalf("Parse(%q) is %v, %v", s, p, err)
	}
	return p
}

// breaks are Breaks of what is RightProgram.
func breaks(t testing.TB, p api.Program, points []int) []int {
	t.Helper()
	l, err := vm.Breaks(p, points)
	if err != nil {
		t.Fatalf("Breaks(%v, %v): %v", p, points, err)
	}
	return l
}

// isArg says whether an error is ErrArg, and has no place.
func isArg(err error) bool {
	var a *api.At
	e, place := plain.Place(err)
	return errors.Is(err, api.ErrArg) && !errors.As(err, &a) && e == api.ErrArg && place == -1
}

// isForm says whether an error is ErrForm at a line.
func isForm(err error, line int) bool {
	var a *api.At
	e, place := plain.Place(err)
	return errors.As(err, &a) && a.Err == api.ErrForm && a.Place == line && e == api.ErrForm && place == line
}

// isNoProgram says whether a program is the zero value.
func isNoProgram(p api.Program) bool { return p.Rules == nil && !p.Else }

// wantForm fails the test, unless Parse tells ErrForm at a line, and no program.
func wantForm(t testing.TB, s string, line int) {
	t.Helper()
	if p, err := asm.Parse(s); !isForm(err, line) || !isNoProgram(p) {
		e, at := plain.Place(err)
		t.Errorf("Parse(%.2000q) is %v, %v at %d, not ErrForm at %d", s, p, e, at, line)
	}
}

// wantArg fails the test, unless Parse tells ErrArg, and no program.
func wantArg(t testing.TB, s string) {
	t.Helper()
	if p, err := asm.Parse(s); !isArg(err) || !isNoProgram(p) {
		e, at := plain.Place(err)
		t.Errorf("Parse(%.2000q) is %v, %v at %d, not ErrArg", s, p, e, at)
	}
}

// alike says whether two programs are, an empty list and none being one.
func alike(p, q api.Program) bool { return reflect.DeepEqual(filled(p), filled(q)) }

// filled is a program none of whose lists is nil.
func filled(p api.Program) api.Program {
	fill := func(c api.Code) api.Code {
		sets := []api.Set{}
		for _, s := range c.Sets {
			sets = append(sets, append(api.Set{}, s...))
		}
		return api.Code{Sets: sets, Ins: append([]api.Inst{}, c.Ins...)}
	}
	q := api.Program{Rules: []api.Pair{}, Else: p.Else}
	for _, r := range p.Rules {
		q.Rules = append(q.Rules, api.Pair{Break: r.Break, Before: fill(r.Before), After: fill(r.After)})
	}
	return q
}

// rangesOf are some of drawn sets' ranges: none is beside the next one.
func rangesOf() []api.Range {
	return []api.Range{{Lo: 0, Hi: 0}, {Lo: 9, Hi: 10}, {Lo: 'a', Hi: 'a'}, {Lo: 'c', Hi: 'd'}, {Lo: 'f', Hi: 0xfff}, {Lo: 0x1234, Hi: 0x1234}, {Lo: 0xabcde, Hi: 0xffffe}, {Lo: api.MaxPoint, Hi: api.MaxPoint}}
}

// drawSet is a set, of none of the ranges, of one, of some, or of all.
func drawSet(d *die) api.Set {
	l := rangesOf()
	switch d.n(5) {
	case 0:
		return []api.Set{nil, {}, {{Lo: 0, Hi: api.MaxPoint}}}[d.n(3)]
	case 1, 2:
		return api.Set{l[d.n(len(l))]}
	}
	most := d.n(9)
	return slices.DeleteFunc(l, func(api.Range) bool { return d.n(9) > most })
}

// drawCode is code that is Right, of at most so many instructions: some of its sets are alike, and some are not named.
func drawCode(d *die, most int) api.Code {
	var c api.Code
	for range 1 + d.n(6) {
		c.Sets = append(c.Sets, drawSet(d))
	}
	for range d.n(4) {
		c.Sets = append(c.Sets, slices.Clone(c.Sets[d.n(len(c.Sets))]))
	}
	n := 1 + d.n(most)
	for i := range n {
		one := insts(inst(api.Take, d.n(len(c.Sets)), 0), inst(api.Take, d.n(len(c.Sets)), 0), end,
			inst(api.Split, min(i+1, n-1), d.n(n)), inst(api.Split, d.n(n), d.n(n)), inst(api.Jump, d.n(n), 0), yes)
		if i == n-1 {
			one = one[3:]
		}
		c.Ins = append(c.Ins, one[d.n(len(one))])
	}
	return c
}

// drawProgram is a program that is RightProgram.
func drawProgram(d *die) api.Program {
	p := api.Program{Else: d.n(2) == 0}
	for range d.n(5) {
		p.Rules = append(p.Rules, api.Pair{Break: d.n(2) == 0, Before: drawCode(d, 12), After: drawCode(d, 12)})
	}
	return p
}

// drawPoints are some code points.
func drawPoints(d *die) []int {
	var l []int
	for range d.n(9) {
		l = append(l, []int{'a', 'a', 'c', 'c', 'd', 'b', 0, 10, 0x1234, api.MaxPoint, -1, api.MaxPoint + 1}[d.n(12)])
	}
	return l
}

// told is the text of a program, by 9.1 word by word.
func told(p api.Program) string {
	word := map[bool]string{true: "break", false: "keep"}
	code := func(c api.Code) string {
		s := ""
		for _, in := range c.Ins {
			switch in.Op {
			case api.Take:
				s += fmt.Sprintln("take", set.Print(c.Sets[in.A]))
			case api.Split:
				s += fmt.Sprintln("split", in.A, in.B)
			case api.Jump:
				s += fmt.Sprintln("jump", in.A)
			case api.End:
				s += fmt.Sprintln("end")
			case api.Yes:
				s += fmt.Sprintln("yes")
			}
		}
		return s
	}
	s := ""
	for _, r := range p.Rules {
		s += fmt.Sprintln("rule", word[r.Break]) + code(r.Before) + fmt.Sprintln("after") + code(r.After)
	}
	return s + fmt.Sprintln("else", word[p.Else])
}

// readAgain is what Parse (9.2) is to tell of a program's text: of each code Sets in the order in which they first come, those that are alike one.
func readAgain(p api.Program) api.Program {
	code := func(c api.Code) api.Code {
		var o api.Code
		for _, in := range c.Ins {
			if in.Op == api.Take {
				s := c.Sets[in.A]
				in.A = slices.IndexFunc(o.Sets, func(x api.Set) bool { return slices.Equal(x, s) })
				if in.A < 0 {
					in.A = len(o.Sets)
					o.Sets = append(o.Sets, slices.Clone(s))
				}
			}
			o.Ins = append(o.Ins, in)
		}
		return o
	}
	q := api.Program{Else: p.Else}
	for _, r := range p.Rules {
		q.Rules = append(q.Rules, api.Pair{Break: r.Break, Before: code(r.Before), After: code(r.After)})
	}
	return q
}

var (
	numberForm = regexp.MustCompile(`^(0|[1-9][0-9]*)$`)
	splitForm  = regexp.MustCompile(`^split ([0-9]+) ([0-9]+)$`)
	jumpForm   = regexp.MustCompile(`^jump ([0-9]+)$`)
)

// isInst says whether a line is an instruction, by 9.1 and 9.2.
func isInst(line string) bool {
	numbers := func(l []string) bool {
		for _, n := range l[min(1, len(l)):] {
			if _, err := strconv.ParseInt(n, 10, 64); err != nil || !numberForm.MatchString(n) {
				return false
			}
		}
		return len(l) > 0
	}
	if s, ok := strings.CutPrefix(line, "take "); ok {
		_, err := set.Parse(s)
		return err == nil
	}
	return line == "end" || line == "yes" || numbers(splitForm.FindStringSubmatch(line)) || numbers(jumpForm.FindStringSubmatch(line))
}

// isHead says whether a line begins with a word and a blank, and whether it goes on with break or keep.
func isHead(line, word string) (begins, right bool) {
	rest, begins := strings.CutPrefix(line, word+" ")
	return begins, begins && (rest == "break" || rest == "keep")
}

// firstWrong is the number of the first line that may not stand there (-1: none), by 9.2 word by word, part by part of the text.
func firstWrong(text string) int {
	l := strings.Split(text, "\n")
	missing := len(l) // the number behind the last line, which has no line feed
	if l[len(l)-1] == "" {
		l = l[:len(l)-1]
		missing = -1
	}
	at := 0
	// part goes over instructions, to the line at which they end: false, if one of them is none
	part := func(ends func(line string) bool) bool {
		for ; at < len(l) && !ends(l[at]); at++ {
			if !isInst(l[at]) {
				return false
			}
		}
		return at < len(l)
	}
	isAfter := func(line string) bool { return line == "after" }
	for at < len(l) {
		if _, right := isHead(l[at], "else"); right {
			if at+1 < len(l) {
				return at + 1
			}
			return missing
		}
		if _, right := isHead(l[at], "rule"); !right {
			return at
		}
		at++
		if !part(isAfter) {
			return at
		}
		at++
		if !part(func(line string) bool {
			isRule, _ := isHead(line, "rule")
			isElse, _ := isHead(line, "else")
			return isRule || isElse || isAfter(line)
		}) {
			return at
		}
	}
	return at
}

// byWords is the program of a text all of whose lines may stand there.
func byWords(text string) api.Program {
	var p api.Program
	var c *api.Code
	for _, line := range strings.Split(strings.TrimSuffix(text, "\n"), "\n") {
		word, rest, _ := strings.Cut(line, " ")
		in := inst(slices.Index([]string{"", "take", "split", "jump", "end", "yes"}, word), 0, 0)
		switch word {
		case "rule":
			p.Rules = append(p.Rules, api.Pair{Break: rest == "break"})
			c = &p.Rules[len(p.Rules)-1].Before
			continue
		case "after":
			c = &p.Rules[len(p.Rules)-1].After
			continue
		case "else":
			p.Else = rest == "break"
			continue
		case "take":
			in.A = len(c.Sets)
			s, _ := set.Parse(rest)
			c.Sets = append(c.Sets, s)
		case "split", "jump":
			fmt.Sscan(rest, &in.A, &in.B)
		}
		c.Ins = append(c.Ins, in)
	}
	return readAgain(p)
}

// wantByWords fails the test, unless Parse tells of a text what 9.2 says word by word; it tells the Errno.
func wantByWords(t testing.TB, text string) api.Errno {
	t.Helper()
	if line := firstWrong(text); line >= 0 {
		wantForm(t, text, line)
		return api.ErrForm
	}
	p := byWords(text)
	if !vm.RightProgram(p) {
		wantArg(t, text)
		return api.ErrArg
	}
	if q := parsed(t, text); !alike(p, q) {
		t.Errorf("Parse(%q) is %v, not %v", text, q, p)
	}
	return api.OK
}
