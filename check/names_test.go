package check_test

import (
	"strconv"
	"testing"

	"caesura/api"
	"caesura/check"
	"caesura/set"
)

// TestNames: what ordinary classes stand for.
func TestNames(t *testing.T) {
	for _, c := range []struct{ text, want string }{
		{"", ""},
		{"else keep;", ""},
		{"keep [61] : .;", ""},
		{"class a = [61-7a];", "a [61-7a]"},
		{"class a = [];", "a []"},
		{"class a = ~[];", "a [0-10ffff]"},
		{"class a = [61]; class b = [62]; class c = [];", "a [61], b [62], c []"},
		{"class b = [62]; class a = b;", "a [62], b [62]"},
		{"class a = [61]; class b = a; class c = b;", "a [61], b [61], c [61]"},
		{"class a = [61-7a] - [65];", "a [61-64 66-7a]"},
		{"class a = [61-63]; class b = a | [64 70];", "a [61-63], b [61-64 70]"},
		{"class a = [61-70]; class b = a & [6a-7a];", "a [61-70], b [6a-70]"},
		{"class a = [61-70]; class b = a - [6a-7a];", "a [61-70], b [61-69]"},
		{"class a = [61-70]; class b = [6a-7a] - a;", "a [61-70], b [71-7a]"},
		{"class a = [61-70]; class b = ~a;", "a [61-70], b [0-60 71-10ffff]"},
		{"class a = [61-70]; class b = ~~a;", "a [61-70], b [61-70]"},
		{"class a = ~[0-60] - [70-10ffff];", "a [61-6f]"},
		{"class a = ~([0-60] | [70-10ffff]);", "a [61-6f]"},
		{"class a = ~[0-60] & ~[70-10ffff];", "a [61-6f]"},
		{"class a = [61]; class b = [62]; class c = (a | b); class d = ((c)) - (a);", "a [61], b [62], c [61-62], d [62]"},
		// marks are read from the left, unless ( ) say otherwise
		{"class a = [61] | [62] & [62];", "a [62]"},
		{"class a = [61] | ([62] & [62]);", "a [61-62]"},
		{"class a = [61-63] - [62] | [62];", "a [61-63]"},
		{"class a = [61-63] - ([62] | [62]);", "a [61 63]"},
		{"class a = [61-63] - [62] - [62];", "a [61 63]"},
		{"class a = [61-63] - ([62] - [62]);", "a [61-63]"},
		{"class a = [61-63] & [62] - [62] | [70];", "a [70]"},
		{"class a = [1-9]; class b = [3-5]; class c = a - b; class d = c | b; class e = ~c & a;", "a [1-9], b [3-5], c [1-2 6-9], d [1-9], e [3-5]"},
		// names that look alike, and that a kind's letters might be taken for
		{"class a = [61]; class aa = [62]; class a1 = a | aa; class a11 = a1 - a;", "a [61], a1 [61-62], a11 [62], aa [62]"},
		{"class abcdefghi1 = [1]; class abcdefghi2 = [3]; class x = abcdefghi2 | abcdefghi1;", "abcdefghi1 [1], abcdefghi2 [3], x [1 3]"},
		{"class a = [0]; class b = [10ffff]; class c = ~(a | b);", "a [0], b [10ffff], c [1-10fffe]"},
		{"class a = [d800-dfff]; class b = ~a;", "a [d800-dfff], b [0-d7ff e000-10ffff]"},
		// what a rule names is nothing to Names
		{"class a = [61]; keep x y : z;", "a [61]"},
	} {
		f := parsed(t, c.text)
		m, err := check.Names(f)
		if err != nil || words(m) != c.want {
			t.Errorf("Names(%q) is %s, %v; want %s", c.text, words(m), err, c.want)
		}
		for name, s := range m {
			if !set.Right(s) {
				t.Errorf("Names(%q): %s is %v: not Right", c.text, name, s)
			}
		}
	}
}

// TestMostClasses: as many classes as a text may have, each of the one ahead.
func TestMostClasses(t *testing.T) {
	s := "class a0 = [0];"
	for i := 1; i < api.MaxKinds; i++ {
		s += "class a" + strconv.Itoa(i) + " = a" + strconv.Itoa(i-1) + " | [" + strconv.FormatInt(int64(2*i), 16) + "];"
	}
	m, err := check.Names(parsed(t, s))
	if err != nil || len(m) != api.MaxKinds {
		t.Fatalf("Names: %d, %v", len(m), err)
	}
	for i := range api.MaxKinds {
		l := m["a"+strconv.Itoa(i)]
		if len(l) != i+1 || l[i] != (api.Range{Lo: 2 * i, Hi: 2 * i}) {
			t.Errorf("a%d is %s", i, set.Print(l))
		}
	}
}

// TestNamesWrong: of a text in which @ tells the place.
func TestNamesWrong(t *testing.T) {
	for _, c := range []struct {
		text string
		e    api.Errno
	}{
		// told twice
		{"class a = [61]; @class a = [61];", api.ErrTwice},
		{"class a = [61]; @class a = [62];", api.ErrTwice},
		{"class a = [61]; class b = [61]; @class a = [];", api.ErrTwice},
		{"class a = [61]; class b = [61]; @class b = a; class a = b;", api.ErrTwice},
		{"class a = [61]; @class a = a;", api.ErrTwice},
		{"class a = []; @class a = [];", api.ErrTwice},
		{"class a = [61];\n# again\n@class   a=[61];", api.ErrTwice},
		{"class a = [61]; @class a = [61]; class a = [61];", api.ErrTwice},
		{"class abcdefghij = [61]; @class abcdefghij = [61];", api.ErrTwice},
		// that is told ahead of what is wrong in its kind, but behind what is wrong in a class ahead
		{"class a = [61]; @class a = x;", api.ErrTwice},
		{"class a = [61]; @class a = x; class b = y;", api.ErrTwice},
		{"class a = [61]; class b = @x; class a = [61];", api.ErrMissing},
		{"class a = @x; class a = x;", api.ErrMissing},
		{"class a = [61]; @class a = [61]; class b = x;", api.ErrTwice},
		// a name that is none
		{"class a = @x;", api.ErrMissing},
		{"class a = (@x);", api.ErrMissing},
		{"class a = ((~@x));", api.ErrMissing},
		{"class a = [61]; class b = @aa;", api.ErrMissing},
		{"class aa = [61]; class b = @a;", api.ErrMissing},
		{"class a1 = [61]; class b = a1 | @a2;", api.ErrMissing},
		// itself, or one behind it
		{"class a = @a;", api.ErrMissing},
		{"class a = ~@a;", api.ErrMissing},
		{"class a = [61] | @a;", api.ErrMissing},
		{"class a = [61]; class b = a & ~(a - @b);", api.ErrMissing},
		{"class a = @b; class b = [61];", api.ErrMissing},
		{"class a = @b; class b = a;", api.ErrMissing},
		{"class a = [61]; class b = a - @c; class c = a;", api.ErrMissing},
		// the first from the left, class by class
		{"class a = @x | y;", api.ErrMissing},
		{"class a = [61]; class b = a | @y | x;", api.ErrMissing},
		{"class a = [61]; class b = a; class c = @x; class d = y;", api.ErrMissing},
		{"class a = @c | b; class b = [61]; class c = [62];", api.ErrMissing},
		{"class a = (@x | y) & (z - ~w);", api.ErrMissing},
		{"class a = [61]; class b = (a | ~@y) & (z - ~w);", api.ErrMissing},
		{"class a = [61]; class b = (a | ~a) & (@z - ~w);", api.ErrMissing},
		{"class a = [61]; class b = (a | ~a) & (a - ~@w);", api.ErrMissing},
		// a name that changes nothing is asked for, too
		{"class a = [] & @x;", api.ErrMissing},
		{"class a = [0-10ffff] | @x;", api.ErrMissing},
		{"class a = [] - @x;", api.ErrMissing},
		{"class a = @x - x;", api.ErrMissing},
	} {
		s, place := marked(c.text)
		f := parsed(t, s)
		m, err := check.Names(f)
		if !isError(err, c.e, place) {
			t.Errorf("Names(%q): %v, want %v at %d", s, err, c.e, place)
		}
		if m != nil {
			t.Errorf("Names(%q): beside an error %s", s, words(m))
		}
		if err := check.Check(f); !isError(err, c.e, place) {
			t.Errorf("Check(%q): %v, want %v at %d", s, err, c.e, place)
		}
	}
}

// TestKind: what a kind tells, of names that are handed in.
func TestKind(t *testing.T) {
	m := map[string]api.Set{
		"a": setOf(t, "[61-65]"), "b": setOf(t, "[64-6a 70]"), "none": nil, "empty": {}, "all": setOf(t, "[0-10ffff]"),
	}
	for _, c := range []struct{ text, want string }{
		{"[]", "[]"}, {"[61 63-70]", "[61 63-70]"}, {"[0-10ffff]", "[0-10ffff]"},
		{"a", "[61-65]"}, {"b", "[64-6a 70]"}, {"all", "[0-10ffff]"},
		{"none", "[]"}, {"empty", "[]"}, {"~none", "[0-10ffff]"}, {"~all", "[]"},
		{"a | b", "[61-6a 70]"}, {"b | a", "[61-6a 70]"},
		{"a & b", "[64-65]"}, {"b & a", "[64-65]"},
		{"a - b", "[61-63]"}, {"b - a", "[66-6a 70]"},
		{"~a", "[0-60 66-10ffff]"}, {"~a & b", "[66-6a 70]"}, {"~(a & b)", "[0-63 66-10ffff]"},
		{"~~~a", "[0-60 66-10ffff]"}, {"all - a - b", "[0-60 6b-6f 71-10ffff]"}, {"all - (a - b)", "[0-60 64-10ffff]"},
		{"a & b | [70] - [64]", "[65 70]"}, {"a & (b | [70] - [64])", "[65]"},
		{"none | empty", "[]"}, {"a - none", "[61-65]"}, {"none - a", "[]"}, {"a & empty", "[]"},
	} {
		s, err := check.Kind(kindOf(t, c.text), m)
		if err != nil || !set.Right(s) || set.Print(s) != c.want {
			t.Errorf("Kind(%q) is %s, %v; want %s", c.text, set.Print(s), err, c.want)
		}
	}
	// no names at all are enough for a kind that names none
	for _, none := range []map[string]api.Set{nil, {}} {
		if s, err := check.Kind(kindOf(t, "~([61-66] & [64-6a]) | [30]"), none); err != nil || set.Print(s) != "[0-63 67-10ffff]" {
			t.Errorf("Kind without names is %s, %v", set.Print(s), err)
		}
	}
}

// TestKindMissing: of a kind in which @ tells the first name that is not there.
func TestKindMissing(t *testing.T) {
	some := map[string]api.Set{"a": setOf(t, "[61-65]"), "b": setOf(t, "[64-6a 70]"), "none": nil}
	for _, s := range []string{
		"@x", "@n", "@aa", "~@x", "(@x)", "~(@x)", "~~@x", "@x | a", "a | @x", "a & @x", "a - @x", "[] & @x", "none - @x",
		"@x | y", "@y | x", "a | @x | y", "@x & y - z", "a & @y - z", "a & b - @z", "a & (b - @z)",
		"(a | @x) - (y & z)", "(a | b) - (@y & z)", "(a | b) - (a & @z)", "~(a - ~@x) | ~y", "~(a - ~b) | ~@y",
		"[61] | @x", "@x - [61]", "[61] | a | [62] | @x | [63] | y", "((((((((@x))))))))", "~~~~~~~~@x",
	} {
		kindMissing(t, s, some)
	}
	for _, s := range []string{"@a", "~@a", "@a | b", "[61] | @none", "[] & (~[] - @b) & a"} {
		kindMissing(t, s, nil)
		kindMissing(t, s, map[string]api.Set{})
	}
}

// kindMissing fails the test unless Kind tells that the name at @ is not in m.
func kindMissing(t *testing.T, kind string, m map[string]api.Set) {
	t.Helper()
	text, place := marked("class n = " + kind + ";")
	s, err := check.Kind(parsed(t, text).Classes[0].Kind, m)
	if !isError(err, api.ErrMissing, place) || len(s) != 0 {
		t.Errorf("Kind(%q) is %s, %v; want %v at %d", kind, set.Print(s), err, api.ErrMissing, place)
	}
}
