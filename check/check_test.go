package check_test

import (
	"strings"
	"testing"

	"caesura/api"
	"caesura/check"
	"caesura/rule"
	"caesura/set"
)

// TestCheck: files in which @ tells the first name that is missing, if there is one.
func TestCheck(t *testing.T) {
	for _, text := range []string{
		// nothing is wrong
		"", "else keep;", "keep:;", "break $ : .;", "keep [61] : [62]*;", "class a = [61];",
		"class a = [61-7a]; keep a: a;",
		"class a = [61]; class b = ~a; keep a b{2,} (a | b | . a)* : (a b)? | b; break b : a;",
		"class b = [61]; class a = b; keep a : b; keep b : a; else keep;",
		"class a = []; keep a{0} : a{0,0};",
		// one name, on either side, in whatever stands about it
		"keep @x : ;", "keep : @x;", "break @x : ;", "break : @x;",
		"class a = [61]; keep a @x : a;", "class a = [61]; keep a : a @x;",
		"class a = [61]; keep @aa : a;", "class aa = [61]; keep @a : ;",
		"class a = [61]; class b = [62]; keep a | b @c : ; else keep;",
		"keep @x* : ;", "keep @x+ : ;", "keep @x? : ;", "keep @x{2} : ;", "keep @x{2,} : ;", "keep @x{2,3} : ;", "keep @x** : ;",
		"keep @x{0} : ;", "keep @x{0,0} : ;", "keep : ($ @x){0};",
		"keep (@x) : ;", "keep (. | @x) : ;", "keep (@x | .) : ;", "keep . | @x : ;", "keep | @x : ;", "keep () @x : ;",
		"keep ((. ($ | . @x)*)+ [61]) : ;", "keep : ((. ($ | . (@x | $)?)*)+ [61]){2,3};",
		"keep ((((((((@x)))))))) : ;",
		// of several the first from the left: Before ahead of After, rule by rule
		"keep @x y : z;", "keep @y x : z;", "keep : @y x;", "keep @x : y;", "keep @y : x;",
		"keep @x | y : z;", "keep (. | @x) y : z;", "keep (. @x | y)* z : w;", "keep . (@x y) : ;", "keep ((@x)* y)* : ;",
		"class a = [61]; keep a a : a @x; keep y : z;",
		"class a = [61]; keep a : a; keep a : @x; break y : a;",
		"class a = [61]; keep a : a; keep @y : x; break x : a;",
		"class a = [61]; keep a : a; break a : a; keep a : a (a | a* @x);",
		"class a = [61]; keep a : @x; keep y : a;",
	} {
		s, place := marked(text)
		e := api.ErrMissing
		if place < 0 {
			e = api.OK
		}
		f := parsed(t, s)
		if err := check.Check(f); !isError(err, e, place) {
			t.Errorf("Check(%q): %v, want %v at %d", s, err, e, place)
		}
		if _, err := check.Names(f); err != nil {
			t.Errorf("Names(%q): %v: nothing is wrong with its classes", s, err)
		}
	}
}

// TestNamesFirst: what Names tells is told ahead of what is wrong in rules.
func TestNamesFirst(t *testing.T) {
	for _, c := range []struct {
		text string
		e    api.Errno
	}{
		{"class a = @x; keep y : z;", api.ErrMissing},
		{"class a = [61]; class b = ~@b; keep x : x;", api.ErrMissing},
		{"class a = [61]; @class a = [62]; keep x : x;", api.ErrTwice},
		{"class a = [61]; @class a = [62]; keep a : a;", api.ErrTwice},
		{"class a = [61]; keep @x : a;", api.ErrMissing},
	} {
		s, place := marked(c.text)
		if err := check.Check(parsed(t, s)); !isError(err, c.e, place) {
			t.Errorf("Check(%q): %v, want %v at %d", s, err, c.e, place)
		}
	}
	// also where classes stand behind rules in what was put together
	f := api.File{
		Classes: []api.Class{{Name: "a", At: 90, Kind: ref(91, "x")}},
		Rules:   []api.Rule{{At: 1, Before: one(ref(2, "y")), After: one(ref(3, "z"))}},
	}
	if err := check.Check(f); !isError(err, api.ErrMissing, 91) {
		t.Errorf("Check of a class behind a rule: %v", err)
	}
}

// TestTogether: what is put together of what Parse told: from the left is as it stands, whatever the places are.
func TestTogether(t *testing.T) {
	have := []api.Class{{Name: "a", At: 70, Kind: lit(setOf(t, "[61]"))}}
	of := func(before, after *api.Pattern) api.Rule { return api.Rule{Before: before, After: after} }
	for _, c := range []struct {
		rules []api.Rule
		place int
	}{
		{[]api.Rule{of(one(ref(9, "x")), one(ref(3, "y")))}, 9},
		{[]api.Rule{of(one(ref(9, "a")), one(ref(3, "y"))), of(one(ref(1, "x")), dot())}, 3},
		{[]api.Rule{of(cat(one(ref(9, "x")), one(ref(3, "x"))), cat())}, 9},
		{[]api.Rule{of(alt(one(ref(9, "x")), one(ref(3, "x"))), alt())}, 9},
		{[]api.Rule{of(alt(cat(edge(), dot()), many(one(ref(8, "x")), 0, 0)), one(ref(0, "y")))}, 8},
		{[]api.Rule{of(cat(cat(), cat(dot()), cat(cat(one(ref(8, "x"))), one(ref(1, "x")))), dot())}, 8},
		// kinds of several in a pattern
		{[]api.Rule{of(one(two(api.Or, ref(9, "a"), ref(7, "x"))), one(ref(3, "y")))}, 7},
		{[]api.Rule{of(one(not(two(api.Less, ref(9, "x"), ref(7, "y")))), dot())}, 9},
		{[]api.Rule{of(dot(), many(one(two(api.And, lit(nil), not(ref(7, "y")))), 1, -1))}, 7},
		{[]api.Rule{of(dot(), one(two(api.And, two(api.Or, ref(1, "a"), ref(5, "x")), ref(4, "y"))))}, 5},
	} {
		f := api.File{Classes: have, Rules: c.rules}
		if err := check.Check(f); !isError(err, api.ErrMissing, c.place) {
			t.Errorf("Check(%q): %v, want %d", rule.Print(f), err, c.place)
		}
	}
	// what one field tells is no other's: names and parts where none are asked for
	x := &api.Pattern{Code: api.Any, Kind: ref(5, "x"), Parts: []*api.Pattern{one(ref(6, "x"))}}
	k := &api.Kind{Code: api.Lit, Name: "x", Set: setOf(t, "[61]"), Left: ref(7, "x"), Right: ref(8, "x")}
	f := api.File{Classes: have, Rules: []api.Rule{of(cat(x, one(k)), edge())}}
	if err := check.Check(f); err != nil {
		t.Errorf("Check of fields that say nothing: %v", err)
	}
	if s, err := check.Kind(k, nil); err != nil || set.Print(s) != "[61]" {
		t.Errorf("Kind of fields that say nothing: %s, %v", set.Print(s), err)
	}
}

// TestLikeText: many files, held against 4.1 as it may be read off the text itself, word by word.
func TestLikeText(t *testing.T) {
	d := die(4)
	told := map[api.Errno]int{}
	for range 20_000 {
		s := drawFile(&d)
		f := parsed(t, s)
		e, place, inRule := byWords(s)
		told[e]++
		if err := check.Check(f); !isError(err, e, place) {
			t.Fatalf("Check(%q): %v, want %v at %d", s, err, e, place)
		}
		m, err := check.Names(f)
		if inRule {
			e = api.OK
		}
		if !isError(err, e, place) || err != nil && m != nil || err == nil && len(m) != len(f.Classes) {
			t.Fatalf("Names(%q): %v, want %v at %d", s, err, e, place)
		}
	}
	for _, e := range []api.Errno{api.OK, api.ErrTwice, api.ErrMissing} {
		if told[e] < 1000 {
			t.Errorf("%v is told %d times: the files that are drawn say too little", e, told[e])
		}
	}
}

// byWords is what Check must tell of a text without remarks: an error, its place, and whether it lies in a rule.
func byWords(s string) (e api.Errno, place int, inRule bool) {
	ahead := map[string]int{}
	class, name := -1, ""
	for at := 0; at < len(s); {
		n := 0
		for at+n < len(s) && strings.IndexByte("abcdefghijklmnopqrstuvwxyz0123456789", s[at+n]) >= 0 {
			n++
		}
		word := s[at : at+n]
		switch {
		case n == 0 && s[at] == '[':
			n = strings.IndexByte(s[at:], ']') + 1
		case n == 0:
			if s[at] == ';' && class >= 0 {
				ahead[name], class, name = 1, -1, ""
			}
			n = 1
		case word == "class":
			class = at
		case word == "keep" || word == "break":
			inRule = true
		case word == "else":
			return api.OK, 0, inRule
		case '0' <= word[0] && word[0] <= '9':
		case class >= 0 && name == "":
			if name = word; ahead[word] == 1 {
				return api.ErrTwice, class, false
			}
		case ahead[word] == 0:
			return api.ErrMissing, at, inRule
		}
		at += n
	}
	return api.OK, 0, inRule
}

// drawName is a name, mostly one of few.
func drawName(d *die, seldom int) string {
	if d.n(seldom) == 0 {
		return "z"
	}
	return []string{"a", "b", "c", "ab"}[d.n(4)]
}

// drawKind is the text of a kind.
func drawKind(d *die, deep int) string {
	switch n := d.n(8); {
	case n < 2 || deep == 0:
		return []string{"[]", "[61]", "[61-63]", "[62 64-70]", "[0-10ffff]"}[d.n(5)]
	case n < 4:
		return drawName(d, 20)
	case n == 4:
		return "~" + drawOne(d, deep-1)
	}
	return drawKind(d, deep-1) + []string{" | ", "&", " - "}[d.n(3)] + drawOne(d, deep-1)
}

// drawOne is the text of a kind that may stand behind a mark.
func drawOne(d *die, deep int) string {
	s := drawKind(d, deep)
	if strings.ContainsAny(s, "|&") || strings.Contains(s, " - ") {
		return "(" + s + ")"
	}
	return s
}

// drawPattern is the text of a pattern.
func drawPattern(d *die, deep int) string {
	s := ""
	for range d.n(4) {
		t := []string{".", "$", "[61]", "[62-64]"}[d.n(4)]
		if d.n(2) == 0 {
			t = drawName(d, 60)
		} else if deep > 0 && d.n(2) == 0 {
			t = "(" + drawPattern(d, deep-1) + ")"
		}
		s += t + []string{" ", " ", "* ", "{0} ", "{2,3}", " | "}[d.n(6)]
	}
	return s
}

// drawFile is the text of a file: a few classes, whose kinds mostly name those ahead, and rules.
func drawFile(d *die) string {
	s := ""
	if d.n(2) == 0 {
		s = "class a = [61]; class b = a | [63]; "
		if d.n(2) == 0 {
			s += "class c = ~b - [20]; class ab = b; "
		}
	}
	for range d.n(3) {
		s += "class " + []string{"c", "d", "ab", "a"}[d.n(4)] + " = " + drawKind(d, 2) + ";\n"
	}
	for range d.n(3) {
		s += []string{"keep ", "break "}[d.n(2)] + drawPattern(d, 2) + ":" + drawPattern(d, 2) + ";\n"
	}
	return s + []string{"", "else keep;", "else break;"}[d.n(3)]
}

// TestLikePoints: many kinds, held against what 2.1 says of each point.
func TestLikePoints(t *testing.T) {
	d := die(5)
	m := map[string]api.Set{"a": setOf(t, "[61]"), "b": setOf(t, "[0 62-65]"), "c": nil, "ab": setOf(t, "[64-10ffff]"), "z": setOf(t, "[0-10fffe]")}
	for range 5000 {
		text := drawKind(&d, 5)
		k := kindOf(t, text)
		s, err := check.Kind(k, m)
		if err != nil || !set.Right(s) {
			t.Fatalf("Kind(%q) is %v, %v", text, s, err)
		}
		for _, p := range []int{0, 1, 0x60, 0x61, 0x62, 0x63, 0x64, 0x65, 0x66, 0x6f, 0x70, 0x71, 0xd800, api.MaxPoint - 1, api.MaxPoint} {
			if set.Has(s, p) != pointIn(k, m, p) {
				t.Fatalf("Kind(%q) is %s: %x is in it: %v", text, set.Print(s), p, set.Has(s, p))
			}
		}
	}
}

// pointIn says whether a point is in what a kind tells.
func pointIn(k *api.Kind, m map[string]api.Set, p int) bool {
	switch k.Code {
	case api.Lit:
		return set.Has(k.Set, p)
	case api.Ref:
		return set.Has(m[k.Name], p)
	case api.Or:
		return pointIn(k.Left, m, p) || pointIn(k.Right, m, p)
	case api.And:
		return pointIn(k.Left, m, p) && pointIn(k.Right, m, p)
	case api.Less:
		return pointIn(k.Left, m, p) && !pointIn(k.Right, m, p)
	}
	return !pointIn(k.Left, m, p)
}
