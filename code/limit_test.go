package code_test

import (
	"slices"
	"strings"
	"testing"

	"caesura/api"
	"caesura/code"
	"caesura/utf"
	"caesura/vm"
)

// isLimit says whether Pattern tells ErrLimit, without a place, and no code, both ways.
func isLimit(x *api.Pattern, names map[string]api.Set) bool {
	for _, back := range []bool{true, false} {
		c, err := code.Pattern(x, names, back)
		if !isError(err, api.ErrLimit, -1) || !isNone(c) {
			return false
		}
	}
	return true
}

// dots are so many Any.
func dots(n int) *api.Pattern {
	return cat(slices.Repeat([]*api.Pattern{dot()}, n)...)
}

// TestLimit (7.1): code of just MaxCode instructions, and of one more: so many units, and Yes, are read by no less.
func TestLimit(t *testing.T) {
	const just = ".{12}{12}{12} .{12}{12} .{12}{10} .{7}"
	fit := patternOf(t, just)
	l := utf.Decode(strings.Repeat("a", api.MaxCode))
	for _, x := range []*api.Pattern{fit, dots(api.MaxCode - 1), cat(dots(1000), many(dots(333), 3, 3)), many(fit, 1, 1), cat(many(dot(), 0, 0), fit, many(cat(), 12, 12))} {
		for _, back := range []bool{true, false} {
			c := coded(t, x, nil, back)
			if len(c.Ins) != api.MaxCode {
				t.Errorf("%q, back %v: %d instructions", textOf(x), back, len(c.Ins))
			}
			if !matches(t, c, pointsOf(l[:api.MaxCode-1]), 0, false) || matches(t, c, pointsOf(l[:api.MaxCode-2]), 0, false) {
				t.Errorf("%q, back %v: does not read %d units", textOf(x), back, api.MaxCode-1)
			}
		}
		for _, more := range []*api.Pattern{cat(x, dot()), cat(dot(), x), cat(x, alt(dot(), dot())), cat(x, x), many(x, 2, 2), many(x, 12, -1), alt(cat(x, dot())), many(cat(x, dot()), 1, 1)} {
			if !isLimit(more, nil) {
				t.Errorf("%q is not ErrLimit", textOf(more))
			}
		}
	}
	for _, s := range []string{
		strings.Replace(just, ".{7}", ".{8}", 1), just + " .", ". " + just, "(" + just + "){2}", "(" + just + "){2,}", just + " $",
		".{12}{12}{12}{12}", "(((.{12}){12}){12}){12}", "(. .){12}{12}{12}", "[61]{12,}{12}{12}{12}", "(. | . .){12}{12}{12}{12}",
		"$ .{12}{12}{12}{12}", ".{12}{12}{12}{12} $", "([61] [62]* [63]){12}{12}{12}", ".{12}{12}{12}{12}{12}{12}{12}{12}", "(.{10}{10}{10}{2})",
		".{1}{12}{12}{12}{12}", ".{1}{10}{10}{10}{2}", ".{10}{10}{10}{2}", ".{1,}{10}{10}{10}{2}", ".+{12}{12}{12}{12}", ".{2,}{12}{12}{12}",
	} {
		if !isLimit(patternOf(t, s), nil) {
			t.Errorf("%q is not ErrLimit", s)
		}
	}
	for _, n := range []int{api.MaxCode, api.MaxCode + 1, 5 * api.MaxCode} {
		if !isLimit(dots(n), nil) {
			t.Errorf("%d Any are not ErrLimit", n)
		}
	}
}

// TestJust (7.1): what each code of patterns is written with: it is no more, so that beside so many units there is just room for it.
func TestJust(t *testing.T) {
	names := namesOf(t)
	for _, c := range []struct {
		pattern string
		size    int
	}{
		{"", 0}, {"()", 0}, {"a", 1}, {".", 1}, {"$", 1}, {"[]", 1}, {"a b", 2}, {"a $", 2},
		{"a*", 3}, {"a+", 2}, {"a?", 2}, {"a{0}", 0}, {"a{1}", 1}, {"a{2}", 2}, {"a{2,}", 3}, {"a{0,2}", 4}, {"a{1,3}", 5}, {"a{2,3}", 4},
		{"a | b", 4}, {"(a | )", 3}, {"( | a)", 3}, {"a | b | c", 7}, {"(a | b)*", 6}, {"(a b | $)+", 6},
		{"a**", 3}, {"a+*", 3}, {"a*+", 3}, {"a?*", 3}, {"a*?", 3}, {"a?+", 3}, {"a+?", 3}, {"a++", 2}, {"a??", 2}, {"a{1}{1}", 1},
		{"a*{12}", 3}, {"(() a*){12}", 3}, {"(a* ()){12}", 3}, {"(a{0} a* b{0}){12}", 3}, {"a{2,3}{1}{2}", 8}, {"a+{12}", 13}, {"a{2}{3}", 6}, {"a{2,3}{2}", 8}, {"a{2,}{2}", 5}, {"(a{2})*", 4},
	} {
		x := patternOf(t, c.pattern)
		for _, back := range []bool{true, false} {
			if n := len(coded(t, x, names, back).Ins); n > c.size+1 {
				t.Errorf("%q, back %v: %d instructions, not %d", c.pattern, back, n, c.size+1)
			}
			y := cat(dots(api.MaxCode-1-c.size), x)
			coded(t, y, names, back)
		}
	}
}

// drawNever is a pattern's text without { and +, of about so many tokens, so deep.
func drawNever(d *die, tokens, deep int) string {
	s := ""
	for tokens > 0 {
		unit, used := []string{"[61]", ".", "$", "()", "[62-63]"}[d.n(5)], 3
		if deep > 0 && tokens > 8 && d.n(4) > 0 {
			used = min(tokens, 8+d.n(tokens))
			unit = "(" + drawNever(d, used-6, deep-2) + ")"
		}
		s += unit + []string{"", "*", "?", "**"}[d.n(4)] + []string{"", " ", "|"}[d.n(3)]
		tokens -= used
	}
	return s
}

// TestNeverLimit (7.1): without { and + it is never told: as many tokens as there may be, that are written with the most instructions.
func TestNeverLimit(t *testing.T) {
	const most = api.MaxTokens - 3 // keep, :, ;
	texts := []string{
		strings.Repeat("|", most), strings.Repeat("[61]|", most/2), strings.Repeat("$|", most/2), strings.Repeat("[61]*", most/2), strings.Repeat("[61]?", most/2),
		strings.Repeat(".", most), strings.Repeat("[61]****", most/5), strings.Repeat("[61]********", most/9), strings.Repeat("(|)*", most/4), strings.Repeat("(|)?|", most/5),
		strings.Repeat("(.|$)*", most/6), strings.Repeat("((((((((.|)|)|)|)|)|)|)|)", most/25), strings.Repeat("((((.*|)*|)*|)*|)", most/17), strings.Repeat("($ [61]|.)?", most/7),
		strings.Repeat("()", most/2), strings.Repeat("()*", most/3), strings.Repeat("$*", most/2), strings.Repeat("(|", 8) + strings.Repeat("|", most-24) + strings.Repeat(")", 8),
	}
	d := die(5)
	for range 1000 {
		texts = append(texts, drawNever(&d, most-60, 8))
	}
	long := 0
	for _, s := range texts {
		x := patternOf(t, s)
		long = max(long, len(coded(t, x, nil, true).Ins))
		long = max(long, len(coded(t, x, nil, false).Ins))
	}
	if long < most {
		t.Errorf("the longest code has %d instructions", long)
	}
	for _, s := range texts[:20] {
		f := parsed(t, "break "+s+":;")
		if p, err := code.Compile(f); err != nil || !vm.RightProgram(p) {
			t.Errorf("Compile of %.100q: %v", s, err)
		}
	}
}

// TestNotTooMuch (7.1): so often so often, of what needs no more instructions the more often it stands.
func TestNotTooMuch(t *testing.T) {
	names := namesOf(t)
	said := map[bool]int{}
	for _, s := range []string{
		"(){12}{12}{12}{12}{12}{12}{12}{12}", "b (() | $){12}{12}{12}{12} a", "${12}{12}{12}{12}{12} a | b", "b (($ | ){12}{12} $ | ()){12}{12}{12} a",
		"b a*{12}{12}{12}{12}{12}{12} b", "b (a b | )*{12}{12}{12}{12} b", "b a+?{12}{12}{12}{12} b", "b ((a?){12,}){12}{12} b", "b (a{0}){12}{12}{12}{12} b", "b (a b){0}{12}{12}{12}{12} a",
		"b (a{0} | $){12}{12}{12}{12}{12} a", "(b{0} | () | a{0}){12}{12}{12}{12}{12} a", "(b $+{12}{12}{12}{12} | a) b", "${3,}{12}{12}{12}{12} b | a",
		"b a+{12}{12} b", "b a{2,}{12}{12} b", "(b a{2,}{12}){0,12}{0} b",
	} {
		holds(t, patternOf(t, s), names, said, "bab", "baaab", "babaabb", "aaab", "", "baaaaaaaaaaaaaaaaaaaaaaaaaaab")
	}
	l := pointsOf(utf.Decode("b" + strings.Repeat("a", 2*1728) + "b"))
	c := coded(t, patternOf(t, "b a+{12}{12}{12} b"), names, false)
	for _, n := range []int{1727, 1728, 1729, 2*1728 - 1} {
		read := append(slices.Clone(l[:1+n]), 'b')
		if got := matches(t, c, read, 0, false); got != (n >= 1728) {
			t.Errorf("a+ so often of %d: %v", n, got)
		}
	}
}
