package image_test

import (
	"fmt"
	"reflect"
	"slices"
	"sync"
	"testing"

	"caesura/api"
	"caesura/image"
)

// roomy is a list with something behind its length, in which a wrong append would be seen.
func roomy[S ~[]E, E any](l S, more ...E) S {
	return append(slices.Clone(l), more...)[:len(l)]
}

// roomyCode is code with something behind each list's length: what would be wrong, if it were read.
func roomyCode(c api.Code) api.Code {
	var sets []api.Set
	for _, s := range c.Sets {
		sets = append(sets, roomy(s, api.Range{Lo: -7, Hi: -7}, api.Range{Lo: 'a', Hi: 'z'}))
	}
	return api.Code{Sets: roomy(sets, wrongSets()...), Ins: roomy(c.Ins, inst(9, 9, 9), inst(api.Take, -1, -1))}
}

func roomyProgram(p api.Program) api.Program {
	var rules []api.Pair
	for _, r := range p.Rules {
		rules = append(rules, api.Pair{Break: r.Break, Before: roomyCode(r.Before), After: roomyCode(r.After)})
	}
	return api.Program{Rules: roomy(rules, api.Pair{Break: true}), Else: p.Else}
}

// whole is a value in words, with what stands behind the length of its lists.
func whole(v reflect.Value) string {
	switch v.Kind() {
	case reflect.Slice:
		s := fmt.Sprint(v.Len(), v.Cap(), "[")
		for i := range v.Cap() {
			s += whole(v.Slice(0, v.Cap()).Index(i)) + " "
		}
		return s + "]"
	case reflect.Struct:
		s := "{"
		for i := range v.NumField() {
			s += whole(v.Field(i)) + " "
		}
		return s + "}"
	}
	return fmt.Sprint(v.Interface())
}

func wholeOf(v any) string { return whole(reflect.ValueOf(v)) }

// spoil writes into code, and behind its lists' lengths.
func spoil(c api.Code) {
	for _, s := range c.Sets {
		spoilList(s, api.Range{Lo: 99, Hi: 98})
	}
	spoilList(c.Sets, api.Set{{Lo: 99, Hi: 98}})
	spoilList(c.Ins, inst(-1, -1, -1))
}

func spoilList[S ~[]E, E any](l S, x E) {
	for i := range l[:cap(l)] {
		l[:cap(l)][i] = x
	}
}

func spoilProgram(p api.Program) {
	for _, r := range p.Rules {
		spoil(r.Before)
		spoil(r.After)
	}
	spoilList(p.Rules, api.Pair{})
}

// drawAny is a drawn program, now and then one that may not be.
func drawAny(d *die) api.Program {
	p := drawProgram(d)
	if d.n(5) == 0 {
		c := drawCode(d, 4)
		c.Sets = append(c.Sets, wrongSets()[d.n(7)])
		p.Rules = append(p.Rules, api.Pair{Before: drawCode(d, 4), After: c})
	}
	return p
}

// answers are what is told of a program, and of its image, in words.
func answers(p api.Program) string {
	s, err := image.Write(p)
	q, errParse := image.Parse(s)
	return fmt.Sprint(s, err, q, errParse)
}

// TestNotWritten (P4): nothing that is handed in is written into, nor what stands behind it; and what stands behind it changes no answer.
func TestNotWritten(t *testing.T) {
	d := die(6)
	for range 500 {
		p := drawAny(&d)
		q := roomyProgram(p)
		want := wholeOf(q)
		if a, b := answers(p), answers(q); a != b {
			t.Errorf("%v: %s, and with more behind %s", p, a, b)
		}
		if wholeOf(q) != want {
			t.Fatalf("%v: what is handed in is written into", p)
		}
	}
}

// TestNotKept (P4): what is written later into what was handed in, or came out, changes no answer: neither one that was told, nor a later one.
func TestNotKept(t *testing.T) {
	d := die(7)
	for range 500 {
		p := drawProgram(&d)
		handed, want := roomyProgram(p), answers(p)
		s := written(t, handed)
		spoilProgram(handed)
		if again := written(t, p); again != s {
			t.Fatalf("%v: Write is %q, and then %q", p, s, again)
		}
		q, other := parsed(t, s), parsed(t, s)
		text := fmt.Sprint(other)
		spoilProgram(q)
		if fmt.Sprint(other) != text {
			t.Fatalf("%q: one answer shares what is another one's", s)
		}
		if again := answers(p); again != want {
			t.Fatalf("%v: %s, and then %s", p, want, again)
		}
	}
	p := api.Program{Rules: []api.Pair{{Before: codeOf(1, inst(api.Take, 0, 0), yes), After: always}}}
	for _, step := range []struct {
		change func()
		want   string
	}{
		{func() {}, "00 01  00  01 01 61 7a 02 01 00 00 05 00 00  00 01 05 00 00"},
		{func() { p.Rules[0].Before.Sets[0][0].Hi = 'b' }, "00 01  00  01 01 61 62 02 01 00 00 05 00 00  00 01 05 00 00"},
		{func() { p.Rules[0].Before.Sets[0] = nil }, "00 01  00  01 00 02 01 00 00 05 00 00  00 01 05 00 00"},
		{func() { p.Rules[0].Before.Ins[0] = end }, "00 01  00  01 00 02 04 00 00 05 00 00  00 01 05 00 00"},
		{func() { p.Rules[0].Break = true }, "00 01  01  01 00 02 04 00 00 05 00 00  00 01 05 00 00"},
	} {
		step.change()
		if got, want := written(t, p), sealed(bytesIn(t, step.want)); got != want {
			t.Errorf("Write is % x, not % x", got, want)
		}
	}
}

// TestNotShared (P4): no two lists of one answer share memory: what is written into one, and behind it, changes no other one.
func TestNotShared(t *testing.T) {
	c := api.Code{Sets: []api.Set{{{Lo: 'a', Hi: 'a'}, {Lo: 'c', Hi: 'c'}}, nil, {{Lo: 0, Hi: api.MaxPoint}}, {{Lo: 'a', Hi: 'a'}, {Lo: 'c', Hi: 'c'}}}, Ins: insts(inst(api.Take, 3, 0), yes)}
	images := []string{written(t, api.Program{Rules: []api.Pair{{Before: c, After: c}, {Before: c, After: c}}})}
	d := die(8)
	for len(images) < 100 {
		if s := written(t, drawProgram(&d)); len(s) < 1000 {
			images = append(images, s)
		}
	}
	for _, s := range images {
		n := len(parsed(t, s).Rules)
		for i := range 2 * n {
			q := parsed(t, s)
			code := func(k int) api.Code { return []api.Code{q.Rules[k/2].Before, q.Rules[k/2].After}[k%2] }
			var want []string
			for k := range 2 * n {
				want = append(want, fmt.Sprint(code(k)))
			}
			c := code(i)
			for k, x := range c.Sets {
				told := fmt.Sprint(c.Sets[:k], c.Sets[k+1:], c.Ins)
				spoilList(x, api.Range{Lo: 99, Hi: 98})
				if fmt.Sprint(c.Sets[:k], c.Sets[k+1:], c.Ins) != told {
					t.Errorf("%q: what is written into set %d of code %d is elsewhere", s, k, i)
				}
			}
			spoil(c)
			for k := range 2 * n {
				if k != i && fmt.Sprint(code(k)) != want[k] {
					t.Errorf("%q: what is written into code %d is in code %d", s, i, k)
				}
			}
		}
	}
}

// TestAtOnce (P4): an answer hangs on the arguments alone, also if many ask at once by the same program, and of the same image.
func TestAtOnce(t *testing.T) {
	d := die(9)
	for range 100 {
		p := drawAny(&d)
		wrong := "\x00" + written(t, drawProgram(&d))
		ask := func() string {
			q, err := image.Parse(wrong)
			return answers(p) + fmt.Sprint(q, err)
		}
		want := ask()
		told := make([]string, 8)
		var group sync.WaitGroup
		for i := range told {
			group.Go(func() { told[i] = ask() })
		}
		group.Wait()
		for _, got := range told {
			if got != want {
				t.Errorf("%v: %s, and at once %s", p, want, got)
			}
		}
	}
}
