package code_test

import (
	"fmt"
	"reflect"
	"slices"
	"sync"
	"testing"

	"caesura/api"
	"caesura/check"
	"caesura/code"
	"caesura/plain"
)

// files are files of every kind, right ones and wrong ones.
var files = []string{
	"", "else keep;", "keep : ;", "keep [61 63] : [62-65];", "keep [61 63]+ [61 63] : [62-65]{3} . [0-10ffff];",
	classes + "keep a b : c* (a | b) [61-63]; break a{2} : ${0,3}; else keep;",
	classes + "break $ (a | b c)* : ((a | b)+ c?)* $; keep b+ : (. .){1,2}; keep c : ; keep c : c [61];",
	classes + "keep a (b (a | c)*)+ : ([61 63] b | c a b | .)*; else break;",
	"class a = [61 70]; class a = [62];", "class a = [61 70]; keep a x : a;", "class a = ~x;",
	classes + "keep a : ; keep [61] a c{2} | c{12}{12}{12}{12} : ;", "keep [61]{3} : a .{12}{12}{12}{12};",
}

// roomy is a list with something behind its length, in which a wrong append would be seen.
func roomy[S ~[]E, E any](l S, more ...E) S {
	return append(slices.Clone(l), more...)[:len(l)]
}

func roomyKind(k *api.Kind) {
	if k != nil {
		k.Set = roomy(k.Set, api.Range{Lo: 7, Hi: 7}, api.Range{Lo: -7, Hi: -7})
		roomyKind(k.Left)
		roomyKind(k.Right)
	}
}

func roomyPattern(x *api.Pattern) {
	roomyKind(x.Kind)
	x.Parts = roomy(x.Parts, dot(), edge())
	for _, part := range x.Parts {
		roomyPattern(part)
	}
}

// roomyFile is the file of a text, with something behind each list's length.
func roomyFile(t *testing.T, text string) api.File {
	f := parsed(t, text)
	for _, c := range f.Classes {
		roomyKind(c.Kind)
	}
	for _, r := range f.Rules {
		roomyPattern(r.Before)
		roomyPattern(r.After)
	}
	f.Classes = roomy(f.Classes, api.Class{Name: "behind", At: 7, Kind: lit()})
	f.Rules = roomy(f.Rules, api.Rule{At: 7, Before: dot(), After: edge()})
	return f
}

// whole is a value in words, with what stands behind the length of its lists.
func whole(v reflect.Value) string {
	switch v.Kind() {
	case reflect.Pointer:
		if v.IsNil() {
			return "nil"
		}
		return "&" + whole(v.Elem())
	case reflect.Slice:
		s := fmt.Sprint(v.Len(), v.Cap(), "[")
		for i := range v.Cap() {
			s += whole(v.Slice(0, v.Cap()).Index(i)) + " "
		}
		return s + "]"
	case reflect.Struct:
		s := "{"
		for i := range v.NumField() {
			s += whole(v.Field(i)) + " "
		}
		return s + "}"
	case reflect.Map:
		var l []string
		for _, k := range v.MapKeys() {
			l = append(l, k.String()+": "+whole(v.MapIndex(k)))
		}
		slices.Sort(l)
		return fmt.Sprint(l)
	}
	return fmt.Sprint(v.Interface())
}

func wholeOf(v any) string { return whole(reflect.ValueOf(v)) }

// roomyNames are what a file's names stand for, with something behind each set (of a wrong file: those of the tests' classes).
func roomyNames(t *testing.T, f api.File) map[string]api.Set {
	names, err := check.Names(f)
	if err != nil {
		names = namesOf(t)
	}
	for name, s := range names {
		names[name] = roomy(s, api.Range{Lo: 7, Hi: 7})
	}
	return names
}

// codes are codes of all patterns of a file, or errors, in words.
func codes(f api.File, names map[string]api.Set) string {
	s := ""
	for _, r := range f.Rules {
		for _, x := range []*api.Pattern{r.Before, r.After} {
			for _, back := range []bool{true, false} {
				c, err := code.Pattern(x, names, back)
				s += fmt.Sprint(c, err, " ")
			}
		}
	}
	return s
}

// program is a file's program, or an error, in words.
func program(f api.File) string {
	p, err := code.Compile(f)
	e, place := plain.Place(err)
	return fmt.Sprint(p, e, place)
}

// TestNotWritten (P4): nothing that is handed in is written into, nor what stands behind it; and what stands behind it changes no answer.
func TestNotWritten(t *testing.T) {
	for _, text := range files {
		f := roomyFile(t, text)
		names := roomyNames(t, f)
		wantFile, wantNames := wholeOf(f), wholeOf(names)
		got, gotCodes := program(f), codes(f, names)
		if wholeOf(f) != wantFile || wholeOf(names) != wantNames {
			t.Errorf("%q: what is handed in is written into", text)
		}
		if got != program(parsed(t, text)) || gotCodes != codes(parsed(t, text), names) {
			t.Errorf("%q: with more behind it is %s", text, got)
		}
	}
	some := map[string]api.Set{}
	code.Pattern(one(ref(1, "x")), some, true)
	if len(some) != 0 {
		t.Errorf("a name that is asked for is now in the map: %v", some)
	}
	d := die(11)
	for range 300 {
		x, names := drawTree(&d, 4), namesOf(t)
		roomyPattern(x)
		wantPattern, wantNames := wholeOf(x), wholeOf(names)
		code.Pattern(x, names, true)
		code.Pattern(x, names, false)
		if wholeOf(x) != wantPattern || wholeOf(names) != wantNames {
			t.Fatalf("%q: what is handed in is written into", textOf(x))
		}
	}
}

// spoil writes into code, and behind its lists' lengths.
func spoil(c api.Code) {
	for _, s := range c.Sets {
		spoilSet(s)
	}
	for i := range c.Sets[:cap(c.Sets)] {
		c.Sets[:cap(c.Sets)][i] = api.Set{{Lo: 99, Hi: 98}}
	}
	for i := range c.Ins[:cap(c.Ins)] {
		c.Ins[:cap(c.Ins)][i] = api.Inst{Op: -1, A: -1, B: -1}
	}
}

func spoilSet(s api.Set) {
	for i := range s[:cap(s)] {
		s[:cap(s)][i] = api.Range{Lo: 99, Hi: 98}
	}
}

func spoilKind(k *api.Kind) {
	if k != nil {
		spoilSet(k.Set)
		spoilKind(k.Left)
		spoilKind(k.Right)
		*k = api.Kind{Code: api.Ref, Name: "spoilt", At: -1}
	}
}

func spoilPattern(x *api.Pattern) {
	for _, part := range x.Parts {
		spoilPattern(part)
	}
	spoilKind(x.Kind)
	*x = api.Pattern{Code: -1}
}

// spoilFile writes into a file, and all that it has.
func spoilFile(f api.File) {
	for i, c := range f.Classes {
		spoilKind(c.Kind)
		f.Classes[i] = api.Class{Name: "spoilt"}
	}
	for i, r := range f.Rules {
		spoilPattern(r.Before)
		spoilPattern(r.After)
		f.Rules[i] = api.Rule{}
	}
}

// TestNotKept (P4): what is written later into what was handed in, or came out, changes no answer: neither one that was told, nor a later one.
func TestNotKept(t *testing.T) {
	for _, text := range files {
		f := roomyFile(t, text)
		p, err := code.Compile(f)
		tell := func() string {
			e, place := plain.Place(err)
			return fmt.Sprint(p, e, place)
		}
		want, wantFile := tell(), wholeOf(f)
		spoilFile(f)
		if got := tell(); got != want {
			t.Errorf("%q: the program keeps what was handed in: %s is now %s", text, want, got)
		}
		f = roomyFile(t, text)
		p, _ = code.Compile(f)
		for _, r := range p.Rules {
			spoil(r.Before)
			spoil(r.After)
		}
		if wholeOf(f) != wantFile {
			t.Errorf("%q: the program shares what was handed in", text)
		}
		if got := program(f); got != want {
			t.Errorf("%q: %s, and then %s", text, want, got)
		}
	}
	for _, text := range files {
		f := roomyFile(t, text)
		names := roomyNames(t, f)
		wantFile, wantNames, want := wholeOf(f), wholeOf(names), codes(f, names)
		for _, r := range f.Rules {
			before, _ := code.Pattern(r.Before, names, true)
			after, _ := code.Pattern(r.After, names, false)
			spoil(before)
			spoil(after)
		}
		if wholeOf(f) != wantFile || wholeOf(names) != wantNames || codes(f, names) != want {
			t.Errorf("%q: the codes share what was handed in", text)
		}
		for _, r := range f.Rules {
			before, _ := code.Pattern(r.Before, names, true)
			want := fmt.Sprint(before)
			spoilPattern(r.Before)
			for name, s := range names {
				spoilSet(s)
				delete(names, name)
			}
			if fmt.Sprint(before) != want {
				t.Errorf("%q: the code keeps what was handed in", text)
			}
			names = roomyNames(t, parsed(t, text))
		}
	}
	// the same pattern and map, with something else in them
	names, x := map[string]api.Set{"n": {{Lo: 'a', Hi: 'a'}}}, one(ref(0, "n"))
	for _, step := range []struct {
		change func()
		on     bool
	}{
		{func() {}, true},
		{func() { names["n"][0] = api.Range{Lo: 'b', Hi: 'b'} }, false},
		{func() { names["n"] = api.Set{{Lo: 'a', Hi: 'c'}} }, true},
		{func() { x.Kind = lit('c') }, false},
		{func() { x.Code, x.Lo, x.Hi = api.Many, 0, -1; x.Parts = append(x.Parts, dot()) }, true},
	} {
		step.change()
		if got := matches(t, coded(t, x, names, false), []int{'a'}, 0, false); got != step.on {
			t.Errorf("%v of %v: %v", x, names, got)
		}
	}
}

// TestNotShared (P4): no two lists of one answer share memory: what is written into one, and behind it, changes no other one.
func TestNotShared(t *testing.T) {
	for _, text := range files {
		p, _ := code.Compile(parsed(t, text))
		for i := range p.Rules {
			for j := range 2 {
				q, _ := code.Compile(parsed(t, text))
				want := []string{}
				for _, r := range q.Rules {
					want = append(want, fmt.Sprint(r.Before), fmt.Sprint(r.After))
				}
				want[2*i+j] = ""
				spoil([]api.Code{q.Rules[i].Before, q.Rules[i].After}[j])
				for k, r := range q.Rules {
					for m, c := range []api.Code{r.Before, r.After} {
						if want[2*k+m] != "" && want[2*k+m] != fmt.Sprint(c) {
							t.Errorf("%q: what is written into rule %d is in rule %d", text, i, k)
						}
					}
				}
			}
			sets := p.Rules[i].After.Sets
			for j, s := range sets {
				want := fmt.Sprint(sets[:j], sets[j+1:])
				spoilSet(s)
				if fmt.Sprint(sets[:j], sets[j+1:]) != want {
					t.Errorf("%q: what is written into set %d of rule %d is in another one", text, j, i)
				}
			}
		}
	}
}

// TestAtOnce (P4): an answer hangs on the arguments alone, also if many ask at once by the same file.
func TestAtOnce(t *testing.T) {
	for _, text := range files {
		f := parsed(t, text)
		names := roomyNames(t, f)
		want := program(f) + codes(f, names)
		answers := make([]string, 8)
		var group sync.WaitGroup
		for i := range answers {
			group.Go(func() { answers[i] = program(f) + codes(f, names) })
		}
		group.Wait()
		for _, got := range answers {
			if got != want {
				t.Errorf("%q: %s, and at once %s", text, want, got)
			}
		}
	}
}
