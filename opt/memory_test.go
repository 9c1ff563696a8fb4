package opt_test

import (
	"fmt"
	"reflect"
	"slices"
	"sync"
	"testing"

	"caesura/api"
	"caesura/opt"
)

// roomy is a list with something behind its length, in which a wrong append would be seen.
func roomy[S ~[]E, E any](l S, more ...E) S {
	return append(slices.Clone(l), more...)[:len(l)]
}

// roomyCode is code with something behind each list's length: what would be wrong, if it were read.
func roomyCode(c api.Code) api.Code {
	var sets []api.Set
	for _, s := range c.Sets {
		sets = append(sets, roomy(s, api.Range{Lo: -7, Hi: -7}, api.Range{Lo: 'a', Hi: 'z'}))
	}
	return api.Code{Sets: roomy(sets, wrongSets()...), Ins: roomy(c.Ins, inst(9, 9, 9), inst(api.Take, -1, -1))}
}

func roomyProgram(p api.Program) api.Program {
	var rules []api.Pair
	for _, r := range p.Rules {
		rules = append(rules, api.Pair{Break: r.Break, Before: roomyCode(r.Before), After: roomyCode(r.After)})
	}
	return api.Program{Rules: roomy(rules, api.Pair{Break: true}), Else: p.Else}
}

// whole is a value in words, with what stands behind the length of its lists.
func whole(v reflect.Value) string {
	switch v.Kind() {
	case reflect.Slice:
		s := fmt.Sprint(v.Len(), v.Cap(), "[")
		for i := range v.Cap() {
			s += whole(v.Slice(0, v.Cap()).Index(i)) + " "
		}
		return s + "]"
	case reflect.Struct:
		s := "{"
		for i := range v.NumField() {
			s += whole(v.Field(i)) + " "
		}
		return s + "}"
	}
	return fmt.Sprint(v.Interface())
}

func wholeOf(v any) string { return whole(reflect.ValueOf(v)) }

// spoil writes into code, and behind its lists' lengths.
func spoil(c api.Code) {
	for _, s := range c.Sets {
		spoilList(s, api.Range{Lo: 99, Hi: 98})
	}
	spoilList(c.Sets, api.Set{{Lo: 99, Hi: 98}})
	spoilList(c.Ins, inst(-1, -1, -1))
}

func spoilList[S ~[]E, E any](l S, x E) {
	for i := range l[:cap(l)] {
		l[:cap(l)][i] = x
	}
}

func spoilProgram(p api.Program) {
	for _, r := range p.Rules {
		spoil(r.Before)
		spoil(r.After)
	}
	spoilList(p.Rules, api.Pair{})
}

// answers are what is told of a program, and of its codes, in words.
func answers(p api.Program) string {
	q, err := opt.Program(p)
	s := fmt.Sprint(q, err, opt.Size(p))
	for _, r := range p.Rules {
		before, errBefore := opt.Code(r.Before)
		after, errAfter := opt.Code(r.After)
		s += fmt.Sprint(before, errBefore, after, errAfter)
	}
	return s
}

// drawAny is a drawn program, now and then one that may not be.
func drawAny(d *die) api.Program {
	p := drawProgram(d)
	if d.n(5) == 0 {
		c := drawCode(d, 4)
		c.Sets = append(c.Sets, wrongSets()[d.n(6)])
		p.Rules = append(p.Rules, api.Pair{Before: drawCode(d, 4), After: c})
	}
	return p
}

// TestNotWritten (P4): nothing that is handed in is written into, nor what stands behind it; and what stands behind it changes no answer.
func TestNotWritten(t *testing.T) {
	d := die(10)
	for range 400 {
		p := drawAny(&d)
		q := roomyProgram(p)
		want := wholeOf(q)
		if a, b := answers(p), answers(q); a != b {
			t.Errorf("%v: %s, and with more behind %s", p, a, b)
		}
		if wholeOf(q) != want {
			t.Fatalf("%v: what is handed in is written into", p)
		}
	}
}

// TestNotKept (P4): what is written later into what was handed in, or came out, changes no answer: neither one that was told, nor a later one.
func TestNotKept(t *testing.T) {
	d := die(11)
	for range 400 {
		p := drawAny(&d)
		handed, want := roomyProgram(p), answers(p)
		o, _ := opt.Program(handed)
		told := fmt.Sprint(o)
		spoilProgram(handed)
		if fmt.Sprint(o) != told {
			t.Fatalf("%v: what came out keeps what was handed in: %s is now %v", p, told, o)
		}
		handed = roomyProgram(p)
		before := wholeOf(handed)
		o, _ = opt.Program(handed)
		spoilProgram(o)
		for _, r := range handed.Rules {
			a, _ := opt.Code(r.Before)
			b, _ := opt.Code(r.After)
			told := fmt.Sprint(b)
			spoil(a)
			if fmt.Sprint(b) != told {
				t.Fatalf("%v: one answer shares what is another one's", p)
			}
			spoil(b)
		}
		if wholeOf(handed) != before {
			t.Fatalf("%v: what came out shares what was handed in", p)
		}
		if again := answers(handed); again != want {
			t.Fatalf("%v: %s, and then %s", p, want, again)
		}
	}
	// the same lists, with something else in them
	c := coded(t, "split 1 3; take [61]; jump 0; take [62]; yes")
	for _, step := range []struct {
		change func()
		want   string
	}{
		{func() {}, "split 1 3; take [61]; jump 0; take [62]; yes"},
		{func() { c.Sets[1][0] = api.Range{Lo: 'a', Hi: 'a'} }, "take [61]; yes"},
		{func() { c.Sets[0] = nil }, "take [61]; yes"},
		{func() { c.Ins[3] = inst(api.End, 0, 0) }, "end; yes"},
		{func() { c.Ins[4] = inst(api.Jump, 0, 0) }, "jump 0"},
	} {
		step.change()
		if got := words(made(t, c)); got != step.want {
			t.Errorf("%s is made %s, not %s", words(c), got, step.want)
		}
	}
}

// TestNotShared (P4): no two lists of one answer share memory: what is written into one, and behind it, changes no other one.
func TestNotShared(t *testing.T) {
	d := die(12)
	several := 0
	for range 200 {
		p := drawProgram(&d)
		n := len(madeProgram(t, p).Rules)
		for i := range 2 * n {
			q := madeProgram(t, p)
			code := func(k int) api.Code { return []api.Code{q.Rules[k/2].Before, q.Rules[k/2].After}[k%2] }
			var want []string
			for k := range 2 * n {
				want = append(want, fmt.Sprint(code(k)))
			}
			spoil(code(i))
			for k := range 2 * n {
				if k != i && fmt.Sprint(code(k)) != want[k] {
					t.Errorf("%v: what is written into code %d is in code %d", p, i, k)
				}
			}
		}
		c := made(t, drawCode(&d, 14))
		ins := fmt.Sprint(c.Ins)
		for i, s := range c.Sets {
			want := fmt.Sprint(c.Sets[:i], c.Sets[i+1:])
			spoilList(s, api.Range{Lo: 99, Hi: 98})
			if fmt.Sprint(c.Sets[:i], c.Sets[i+1:]) != want || fmt.Sprint(c.Ins) != ins {
				t.Errorf("%v: what is written into set %d is elsewhere", c, i)
			}
			several = max(several, i)
		}
	}
	if several == 0 {
		t.Error("no code of several sets was drawn")
	}
}

// TestAtOnce (P4): an answer hangs on the arguments alone, also if many ask at once by the same program.
func TestAtOnce(t *testing.T) {
	d := die(13)
	for range 60 {
		p := drawAny(&d)
		want := answers(p)
		told := make([]string, 8)
		var group sync.WaitGroup
		for i := range told {
			group.Go(func() { told[i] = answers(p) })
		}
		group.Wait()
		for _, got := range told {
			if got != want {
				t.Errorf("%v: %s, and at once %s", p, want, got)
			}
		}
	}
}
