package vm_test

import (
	"fmt"
	"reflect"
	"slices"
	"sync"
	"testing"

	"caesura/api"
	"caesura/vm"
)

// roomy is a list with something behind its length, in which a wrong append would be seen.
func roomy[S ~[]E, E any](l S, more ...E) S {
	return append(slices.Clone(l), more...)[:len(l)]
}

// roomyCode is code with something behind each list's length: what would be wrong, if it were read.
func roomyCode(c api.Code) api.Code {
	var sets []api.Set
	for _, s := range c.Sets {
		sets = append(sets, roomy(s, api.Range{Lo: -7, Hi: -7}, api.Range{Lo: 'a', Hi: 'z'}))
	}
	return api.Code{Sets: roomy(sets, wrongSets...), Ins: roomy(c.Ins, inst(9, 9, 9), inst(api.Take, -1, -1))}
}

func roomyProgram(p api.Program) api.Program {
	var rules []api.Pair
	for _, r := range p.Rules {
		rules = append(rules, api.Pair{Break: r.Break, Before: roomyCode(r.Before), After: roomyCode(r.After)})
	}
	return api.Program{Rules: roomy(rules, api.Pair{Break: true}), Else: p.Else}
}

// whole is a value in words, with what stands behind the length of its lists.
func whole(v reflect.Value) string {
	switch v.Kind() {
	case reflect.Slice:
		s := fmt.Sprint(v.Len(), v.Cap(), "[")
		for i := range v.Cap() {
			s += whole(v.Slice(0, v.Cap()).Index(i)) + " "
		}
		return s + "]"
	case reflect.Struct:
		s := "{"
		for i := range v.NumField() {
			s += whole(v.Field(i)) + " "
		}
		return s + "}"
	}
	return fmt.Sprint(v.Interface())
}

func wholeOf(v any) string { return whole(reflect.ValueOf(v)) }

// TestNotWritten (P4): nothing that is handed in is written into, nor what stands behind it; and what stands behind it changes no answer.
func TestNotWritten(t *testing.T) {
	d := die(7)
	for i := range 400 {
		p, l := drawProgram(&d), drawPoints(&d, 8)
		if i%4 == 0 {
			p.Rules = append(p.Rules, api.Pair{Before: drawCode(&d, 4), After: api.Code{Sets: sets(), Ins: insts(yes, inst(api.Take, 0, 0))}})
		}
		q, m := roomyProgram(p), roomy(l, 'a', 'b', -1)
		wantProgram, wantPoints := wholeOf(q), wholeOf(m)
		a, errA := vm.Breaks(p, l)
		b, errB := vm.Breaks(q, m)
		if !slices.Equal(a, b) || errA != errB || vm.RightProgram(p) != vm.RightProgram(q) {
			t.Errorf("Breaks(%v, %v) is %v, %v, and with more behind %v, %v", p, l, a, errA, b, errB)
		}
		for i, r := range p.Rules {
			yesA, nA, errA := vm.Match(r.After, l)
			yesB, nB, errB := vm.Match(q.Rules[i].After, m)
			if yesA != yesB || nA != nB || errA != errB || vm.Right(r.After) != vm.Right(q.Rules[i].After) {
				t.Errorf("Match(%v, %v) is %v, %d, %v, and with more behind %v, %d, %v", r.After, l, yesA, nA, errA, yesB, nB, errB)
			}
		}
		if wholeOf(q) != wantProgram || wholeOf(m) != wantPoints {
			t.Fatalf("%v, %v: what is handed in is written into", p, l)
		}
	}
}

// TestNotKept (P4): what is written later into what was handed in, or came out, changes no answer: neither one that was told, nor a later one.
func TestNotKept(t *testing.T) {
	d := die(8)
	for range 300 {
		p, l := drawProgram(&d), drawPoints(&d, 8)
		q, m := roomyProgram(p), slices.Clone(l)
		got, _ := vm.Breaks(q, m)
		want := slices.Clone(got)
		for i := range m {
			m[i] = -1
		}
		for i := range q.Rules {
			q.Rules[i].Before.Ins[0] = inst(api.Jump, 0, 0)
			q.Rules[i].After.Sets[0] = nil
			q.Rules[i] = api.Pair{}
		}
		if !slices.Equal(got, want) {
			t.Fatalf("%v, %v: Breaks keeps what it was handed: %v is now %v", p, l, want, got)
		}
		for i := range got[:cap(got)] {
			got[:cap(got)][i] = -1
		}
		if again, err := vm.Breaks(p, l); err != nil || !slices.Equal(again, want) {
			t.Fatalf("Breaks(%v, %v) is %v, and then %v, %v", p, l, want, again, err)
		}
	}
	// the same lists, with something else in them
	c, l := coded(t, "take [61]; yes"), pointsOf("ab")
	for _, step := range []struct {
		change func()
		yes    bool
	}{
		{func() {}, true},
		{func() { l[0] = 'b' }, false},
		{func() { c.Sets[0][0] = api.Range{Lo: 'b', Hi: 'b'} }, true},
		{func() { c.Ins[1] = inst(api.Jump, 1, 0) }, false},
	} {
		step.change()
		if got, _ := mustMatch(t, c, l); got != step.yes {
			t.Errorf("Match(%v, %v) is %v", c, l, got)
		}
	}
}

// TestAtOnce (P4): an answer hangs on the arguments alone, also if many ask at once by the same program.
func TestAtOnce(t *testing.T) {
	d := die(9)
	for range 50 {
		p, c, l := drawProgram(&d), drawCode(&d, 9), drawPoints(&d, 8)
		tell := func() string {
			breaks, err := vm.Breaks(p, l)
			yes, n, _ := vm.Match(c, l)
			return fmt.Sprint(breaks, err, yes, n, vm.Right(c), vm.RightProgram(p))
		}
		want := tell()
		answers := make([]string, 8)
		var group sync.WaitGroup
		for i := range answers {
			group.Go(func() { answers[i] = tell() })
		}
		group.Wait()
		for _, got := range answers {
			if got != want {
				t.Errorf("%v, %v: %s, and at once %s", p, l, want, got)
			}
		}
	}
}
