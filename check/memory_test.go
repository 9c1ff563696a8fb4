package check_test

import (
	"reflect"
	"strconv"
	"testing"

	"caesura/api"
	"caesura/check"
	"caesura/set"
)

// texts are files of every kind, right ones and wrong ones.
var texts = []string{
	"", "class a = [61];", "class a = []; class b = a; class c = b;",
	"class a = [61-63 70]; class b = a; class c = b; class d = ((c));",
	"class a = [61-63 70]; class b = a | a; class c = a & a; class d = a - []; class e = ~~a; keep a b : c* (d | e) [61-63];",
	"class a = ~[61-63 70]; class b = ~a; class c = [1 3] | b; class d = c & [2-90] - [65]; keep a : b; break c{2} : d; else keep;",
	"class a = [61 70]; class a = [62];", "class a = [61 70]; class b = a | x;", "class a = [61 70]; keep a x : a;",
}

// roomyFile is the file of a text, with something behind each list's length.
func roomyFile(t *testing.T, text string) api.File {
	f := parsed(t, text)
	for _, c := range f.Classes {
		roomyKind(c.Kind)
	}
	classes, rules := len(f.Classes), len(f.Rules)
	f.Classes = append(f.Classes, api.Class{Name: "behind", At: 7, Kind: lit(nil)})[:classes]
	f.Rules = append(f.Rules, api.Rule{At: 7, Before: dot(), After: edge()})[:rules]
	return f
}

// TestNotWritten (P4): nothing that is handed in is written into, nor what stands behind it.
func TestNotWritten(t *testing.T) {
	for _, text := range texts {
		f := roomyFile(t, text)
		before := copyFile(f)
		m, _ := check.Names(f)
		check.Check(f)
		if !sameFile(f, before) {
			t.Errorf("%q: the file is written into", text)
		}
		for name, s := range m {
			m[name] = roomy(s)
		}
		handed := copyMap(m)
		for _, c := range f.Classes {
			check.Kind(c.Kind, m)
		}
		if !sameFile(f, before) || !sameMap(m, handed) {
			t.Errorf("%q: Kind writes into what it is handed", text)
		}
	}
	var none map[string]api.Set
	check.Kind(ref(1, "x"), none)
	some := map[string]api.Set{}
	check.Kind(ref(1, "x"), some)
	if none != nil || len(some) != 0 {
		t.Errorf("a name that is asked for is now in the map: %v", some)
	}
}

// sameFile says whether two files are alike, with what stands behind the length of their lists.
func sameFile(a, b api.File) bool {
	whole := func(f api.File) api.File {
		f = copyFile(f)
		f.Classes, f.Rules = f.Classes[:cap(f.Classes)], f.Rules[:cap(f.Rules)]
		for _, c := range f.Classes {
			wholeKind(c.Kind)
		}
		return f
	}
	return len(a.Classes) == len(b.Classes) && len(a.Rules) == len(b.Rules) && reflect.DeepEqual(whole(a), whole(b))
}

// wholeKind makes what stands behind the sets of a kind part of them.
func wholeKind(k *api.Kind) {
	if k != nil {
		k.Set = k.Set[:cap(k.Set)]
		wholeKind(k.Left)
		wholeKind(k.Right)
	}
}

// sameMap says whether two maps are alike, with what stands behind their sets.
func sameMap(a, b map[string]api.Set) bool {
	whole := func(m map[string]api.Set) map[string]api.Set {
		out := map[string]api.Set{}
		for name, s := range m {
			out[name] = s[:cap(s)]
		}
		return out
	}
	return reflect.DeepEqual(whole(a), whole(b))
}

// TestNotKept (P4): what is written later into what was handed in changes no answer.
func TestNotKept(t *testing.T) {
	for _, text := range texts {
		f := roomyFile(t, text)
		names, err := check.Names(f)
		if err != nil {
			continue
		}
		handed := copyMap(names)
		var kinds []api.Set
		var want []string
		for _, c := range f.Classes {
			s, _ := check.Kind(c.Kind, handed)
			kinds, want = append(kinds, s), append(want, set.Print(s))
		}
		wantNames := words(names)
		for _, s := range handed {
			spoil(s)
		}
		clear(handed)
		for _, c := range f.Classes {
			spoilKind(c.Kind)
		}
		if words(names) != wantNames {
			t.Errorf("%q: Names keeps what it was handed: %s is now %s", text, wantNames, words(names))
		}
		for i, s := range kinds {
			if set.Print(s) != want[i] {
				t.Errorf("%q: Kind keeps what it was handed: %s is now %s", text, want[i], set.Print(s))
			}
		}
	}
}

// TestFresh (P4): what comes out is the caller's: writing into it changes nothing that was handed in, no other list of the answer, and no later answer.
func TestFresh(t *testing.T) {
	for _, text := range texts {
		f := roomyFile(t, text)
		before := copyFile(f)
		m, err := check.Names(f)
		if err != nil {
			continue
		}
		want := copyMap(m)
		for _, c := range f.Classes {
			spoil(m[c.Name])
			delete(m, c.Name)
			delete(want, c.Name)
			if words(m) != words(want) {
				t.Fatalf("%q: two sets of one answer share memory: %s is now %s", text, words(want), words(m))
			}
		}
		again, _ := check.Names(f)
		handed := copyMap(again)
		for _, c := range f.Classes {
			s, _ := check.Kind(c.Kind, again)
			if set.Print(s) != set.Print(again[c.Name]) {
				t.Errorf("%q: Kind of %s is %s, Names's %s", text, c.Name, set.Print(s), set.Print(again[c.Name]))
			}
			spoil(s)
		}
		if !sameFile(f, before) || !sameMap(again, handed) {
			t.Errorf("%q: an answer shares memory with what was handed in", text)
		}
	}
	m, err := check.Names(api.File{})
	if err != nil {
		t.Fatalf("Names of nothing: %v", err)
	}
	if len(m) != 0 {
		t.Errorf("Names of nothing is %s", words(m))
	}
}

// TestAgain (P4): the same call answers the same, whatever was asked between.
func TestAgain(t *testing.T) {
	tell := func(text string) string {
		f := parsed(t, text)
		m, err := check.Names(f)
		return words(m) + place(err) + place(check.Check(f))
	}
	var first []string
	for _, text := range texts {
		first = append(first, tell(text))
	}
	for i, text := range texts {
		if s := tell(text); s != first[i] {
			t.Errorf("%q: %s, and then %s", text, first[i], s)
		}
	}
}

// place is an error, and where it is, in words.
func place(err error) string {
	if err == nil {
		return " ok"
	}
	a, ok := err.(*api.At)
	if !ok {
		return " " + err.Error()
	}
	return " " + a.Error() + " at " + strconv.Itoa(a.Place)
}

// TestDeep (P1): as many parts in one another as the limits name, and long files.
func TestDeep(t *testing.T) {
	const deep = 1<<16 - 8
	a := setOf(t, "[61]")
	m := map[string]api.Set{"a": a}
	left, right, nots := ref(0, "a"), ref(0, "a"), ref(0, "a")
	for range deep {
		left, right, nots = two(api.Or, left, ref(0, "a")), two(api.Less, lit(nil), right), not(nots)
	}
	for _, c := range []struct {
		k    *api.Kind
		want string
	}{{left, "[61]"}, {right, "[]"}, {nots, "[61]"}} {
		if s, err := check.Kind(c.k, m); err != nil || set.Print(s) != c.want {
			t.Errorf("Kind of a deep kind is %s, %v", set.Print(s), err)
		}
		if _, err := check.Kind(c.k, nil); !isError(err, api.ErrMissing, 0) {
			t.Errorf("Kind of a deep kind without names: %v", err)
		}
	}
	x := one(ref(5, "x"))
	for i := range deep {
		x = []*api.Pattern{cat(x), alt(dot(), x), many(x, 0, -1)}[i%3]
	}
	if err := check.Check(api.File{Rules: []api.Rule{{Before: dot(), After: x}}}); !isError(err, api.ErrMissing, 5) {
		t.Errorf("Check of a deep pattern: %v", err)
	}
	f := api.File{Classes: []api.Class{{Name: "c", Kind: lit(a)}}}
	for i := range 10_000 {
		f.Classes = append(f.Classes, api.Class{Name: "c" + strconv.Itoa(i), Kind: ref(i, f.Classes[i].Name)})
		f.Rules = append(f.Rules, api.Rule{Before: one(ref(i, "c"+strconv.Itoa(i))), After: dot()})
	}
	names, err := check.Names(f)
	if err != nil || len(names) != 10_001 || set.Print(names["c9999"]) != "[61]" || check.Check(f) != nil {
		t.Errorf("Names of a long file: %d, %v, %v", len(names), err, check.Check(f))
	}
}

// TestNothingThere (P1): what is not there is no reason to panic.
func TestNothingThere(t *testing.T) {
	for _, k := range []*api.Kind{nil, {}, {Code: -1}, {Code: 99}, {Code: api.Or}, {Code: api.And}, {Code: api.Less}, {Code: api.Not}, {Code: api.Lit}} {
		check.Kind(k, nil)
		check.Check(api.File{Classes: []api.Class{{Kind: k}}, Rules: []api.Rule{{Before: one(k)}}})
	}
	for _, x := range []*api.Pattern{nil, {}, {Code: -1}, {Code: 99}, {Code: api.One}, cat(nil), alt(nil, nil), {Code: api.Many}} {
		check.Check(api.File{Rules: []api.Rule{{}, {Before: x, After: x}}})
	}
	if _, err := check.Kind(ref(3, ""), nil); !isError(err, api.ErrMissing, 3) {
		t.Errorf("Kind of a name without letters: %v", err)
	}
}
