package mean_test

import (
	"fmt"
	"reflect"
	"slices"
	"sync"
	"testing"

	"caesura/api"
	"caesura/check"
	"caesura/mean"
	"caesura/utf"
)

// files are files of every kind, right ones and wrong ones.
var files = []string{
	"", "else keep;", "keep : ;", "keep [61 63] : [62-65];",
	classes + "keep a b : c* (a | b) [61-63]; break a{2} : ${0,3}; else keep;",
	classes + "break $ (a | b c)* : ((a | b)+ c?)* $; keep b+ : (. .){1,2}; keep c : ;",
	classes + "keep a (b (a | c)*)+ : ([61 63] b | c a b | .)*; else break;",
	"class a = [61 70]; class a = [62];", "class a = [61 70]; keep a x : a;", "class a = ~x;",
}

// roomyList is a list with something behind its length, in which a wrong append would be seen.
func roomyList[S ~[]E, E any](l S, more ...E) S {
	return append(slices.Clone(l), more...)[:len(l)]
}

func roomyKind(k *api.Kind) {
	if k != nil {
		k.Set = roomyList(k.Set, api.Range{Lo: 7, Hi: 7}, api.Range{Lo: -7, Hi: -7})
		roomyKind(k.Left)
		roomyKind(k.Right)
	}
}

func roomyPattern(x *api.Pattern) {
	roomyKind(x.Kind)
	x.Parts = roomyList(x.Parts, dot(), edge())
	for _, part := range x.Parts {
		roomyPattern(part)
	}
}

// roomyFile is the file of a text, with something behind each list's length.
func roomyFile(t *testing.T, text string) api.File {
	f := parsed(t, text)
	for _, c := range f.Classes {
		roomyKind(c.Kind)
	}
	for _, r := range f.Rules {
		roomyPattern(r.Before)
		roomyPattern(r.After)
	}
	f.Classes = roomyList(f.Classes, api.Class{Name: "behind", At: 7, Kind: lit()})
	f.Rules = roomyList(f.Rules, api.Rule{At: 7, Before: dot(), After: edge()})
	return f
}

// roomyUnits are the units of a text, with one behind them.
func roomyUnits(text string) []api.Unit {
	return roomyList(utf.Decode(text), api.Unit{Point: 'a', At: 99, Len: 1}, api.Unit{Point: 'b', At: -5, Len: 7})
}

// whole is a value in words, with what stands behind the length of its lists.
func whole(v reflect.Value) string {
	switch v.Kind() {
	case reflect.Pointer:
		if v.IsNil() {
			return "nil"
		}
		return "&" + whole(v.Elem())
	case reflect.Slice:
		s := fmt.Sprint(v.Len(), v.Cap(), "[")
		for i := range v.Cap() {
			s += whole(v.Slice(0, v.Cap()).Index(i)) + " "
		}
		return s + "]"
	case reflect.Struct:
		s := "{"
		for i := range v.NumField() {
			s += whole(v.Field(i)) + " "
		}
		return s + "}"
	case reflect.Map:
		keys := v.MapKeys()
		slices.SortFunc(keys, func(a, b reflect.Value) int {
			return len(a.String()) - len(b.String()) + 9*int(a.String()[0]) - 9*int(b.String()[0])
		})
		s := "map{"
		for _, k := range keys {
			s += k.String() + ": " + whole(v.MapIndex(k)) + " "
		}
		return s + "}"
	}
	return fmt.Sprint(v.Interface())
}

func wholeOf(v any) string { return whole(reflect.ValueOf(v)) }

// TestNotWritten (P4): nothing that is handed in is written into, nor what stands behind it.
func TestNotWritten(t *testing.T) {
	for _, text := range files {
		f, l := roomyFile(t, text), roomyUnits("abcabbca")
		wantFile, wantUnits := wholeOf(f), wholeOf(l)
		mean.Breaks(f, l)
		if wholeOf(f) != wantFile || wholeOf(l) != wantUnits {
			t.Errorf("%q: Breaks writes into what it is handed", text)
		}
		names, err := check.Names(f)
		if err != nil {
			continue
		}
		for name, s := range names {
			names[name] = roomyList(s, api.Range{Lo: 7, Hi: 7})
		}
		wantNames := wholeOf(names)
		for _, r := range f.Rules {
			for place := -1; place <= len(l)+1; place++ {
				mean.Stands(r.Before, names, l, place, true)
				mean.Stands(r.After, names, l, place, false)
			}
		}
		if wholeOf(f) != wantFile || wholeOf(l) != wantUnits || wholeOf(names) != wantNames {
			t.Errorf("%q: Stands writes into what it is handed", text)
		}
	}
	some := map[string]api.Set{}
	mean.Stands(one(ref(1, "x")), some, utf.Decode("ab"), 1, true)
	if len(some) != 0 {
		t.Errorf("a name that is asked for is now in the map: %v", some)
	}
}

// TestBehindLength (P4): what stands behind a list's length changes no answer.
func TestBehindLength(t *testing.T) {
	for _, text := range files {
		a, e := mean.Breaks(roomyFile(t, text), roomyUnits("abcabbca"))
		b, g := mean.Breaks(parsed(t, text), utf.Decode("abcabbca"))
		if !slices.Equal(a, b) || fmt.Sprint(e) != fmt.Sprint(g) {
			t.Errorf("%q: %v, %v, and with more behind: %v, %v", text, b, g, a, e)
		}
	}
}

// TestNotKept (P4): what is written later into what was handed in, or came out, changes no answer: neither one that was told, nor a later one.
func TestNotKept(t *testing.T) {
	for _, text := range files {
		f, l := roomyFile(t, text), roomyUnits("abcabbca")
		got, err := mean.Breaks(f, l)
		want := slices.Clone(got)
		for i := range l[:cap(l)] {
			l[:cap(l)][i] = api.Unit{Point: 'z'}
		}
		for i := range f.Rules {
			f.Rules[i] = api.Rule{Before: dot(), After: dot()}
		}
		if !slices.Equal(got, want) {
			t.Errorf("%q: Breaks keeps what it was handed: %v is now %v", text, want, got)
		}
		for i := range got[:cap(got)] {
			got[:cap(got)][i] = -1
		}
		again, e := mean.Breaks(parsed(t, text), utf.Decode("abcabbca"))
		if !slices.Equal(again, want) || fmt.Sprint(e) != fmt.Sprint(err) {
			t.Errorf("%q: Breaks is %v, %v, and then %v, %v", text, want, err, again, e)
		}
	}
	// the same list, pattern and map, with something else in them
	l, names, x := utf.Decode("ab"), map[string]api.Set{"n": {{Lo: 'a', Hi: 'a'}}}, one(ref(0, "n"))
	if !mean.Stands(x, names, l, 0, false) {
		t.Error("n does not stand at 0")
	}
	l[0].Point = 'b'
	if mean.Stands(x, names, l, 0, false) {
		t.Error("the units are kept")
	}
	names["n"] = api.Set{{Lo: 'b', Hi: 'b'}}
	if !mean.Stands(x, names, l, 0, false) {
		t.Error("the names are kept")
	}
	x.Kind = lit('c')
	if mean.Stands(x, names, l, 0, false) {
		t.Error("the pattern is kept")
	}
}

// TestAtOnce (P4): an answer hangs on the arguments alone, also if many ask at once by the same file.
func TestAtOnce(t *testing.T) {
	for _, text := range files {
		f, l := parsed(t, text), utf.Decode("abcabbcaabcba")
		want, _ := mean.Breaks(f, l)
		var group sync.WaitGroup
		answers := make([][]int, 8)
		for i := range answers {
			group.Go(func() { answers[i], _ = mean.Breaks(f, l) })
		}
		group.Wait()
		for _, got := range answers {
			if !slices.Equal(got, want) {
				t.Errorf("%q: %v, and at once %v", text, want, got)
			}
		}
	}
}
