package opt_test

import (
	"strconv"
	"strings"
	"testing"

	"caesura/api"
	"caesura/opt"
)

// rows are instructions in words, a row so often: +k in it is the number of the instruction that is k behind the row's first one.
func rows(times int, row string) string {
	size := strings.Count(row, ";") + 1
	var l []string
	for k := range times {
		for _, word := range strings.Fields(row) {
			number, isNumber := strings.CutPrefix(strings.TrimSuffix(word, ";"), "+")
			if isNumber {
				n, _ := strconv.Atoi(number)
				word = strconv.Itoa(k*size+n) + word[1+len(number):]
			}
			l = append(l, word)
		}
		l[len(l)-1] += ";"
	}
	return strings.Join(l, " ") + " "
}

// TestLong (P1, 8.1): code that is long in each way: it ends, and matches as it did.
func TestLong(t *testing.T) {
	for _, c := range []struct {
		name, code string
		most       int
	}{
		{"jumps, each to the one behind", rows(1999, "jump +1") + "yes", 1},
		{"jumps, each to the one ahead", "jump 1998; yes; " + rows(1997, "jump +1") + "yes", 1},
		{"jumps in a round", "jump 1998; " + rows(1998, "jump +0") + "yes", 1},
		{"a? a? ..", rows(999, "split +1 +2; take [61]") + "end; yes", 2000},
		{"(a(a(..)?)?)?", rows(999, "split +1 1998; take [61]") + "end; yes", 2000},
		{"a | a | ..", rows(666, "split +1 +3; take [61]; yes") + "yes; yes", 1},
		{"a a | a a | ..", rows(499, "split +1 +4; take [61]; take [61]; yes") + "take [61]; take [61]; end; yes", 3},
		{"a (a | b (a | b ..", rows(499, "take [61]; split +2 +3; take [62]; take [61-62]") + "end; yes", 2000},
		{"(a | b | ..)*", rows(665, "split +1 +3; take [61]; jump 0") + "split 1996 1998; take [62]; jump 0; end; yes", 5},
		{"a* a* ..", rows(666, "split +1 +3; take [61]; jump +0") + "end; yes", 2000},
		{"(a* b*)* ..", rows(333, "split +1 +6; split +2 +4; take [61]; jump +1; split +5 +0; take [62]") + "end; yes", 2000},
		{"ladders", rows(280, "split +1 +3; take [61]; jump +7; take [62]; jump +12; take [61-62]; jump +12") + "take [63]; yes; yes; yes; yes; take [63]; yes", 290},
	} {
		given := coded(t, c.code)
		got := made(t, given)
		if len(got.Ins) > c.most {
			t.Errorf("%s: %d instructions are %d, more than %d", c.name, len(given.Ins), len(got.Ins), c.most)
		}
		for _, n := range []int{0, 1, 2, 3, 4, 279, 280, 281, 499, 500, 665, 666, 999, 1000, 2001} {
			for _, text := range []string{strings.Repeat("a", n), strings.Repeat("ab", n/2), strings.Repeat("b", n), strings.Repeat("a", n) + "b", strings.Repeat("ba", n/2) + "c", strings.Repeat("a", n) + "cc"} {
				if l := pointsOf(text); matches(t, given, l) != matches(t, got, l) {
					t.Errorf("%s: %d points match otherwise", c.name, len(l))
				}
			}
		}
	}
}

// TestMuch (P1): as many rules, each of as many instructions, as there may be; and sets of many ranges, all of which become one.
func TestMuch(t *testing.T) {
	long := coded(t, rows(999, "split +1 1998; take [61]")+"end; yes")
	var p api.Program
	for range api.MaxRules {
		p.Rules = append(p.Rules, api.Pair{Before: long, After: long})
	}
	q := madeProgram(t, p)
	if opt.Size(p) != 2*api.MaxRules*api.MaxCode || len(q.Rules) != api.MaxRules {
		t.Errorf("of size %d, it is made such of size %d", opt.Size(p), opt.Size(q))
	}
	const sets, ranges = 660, 500
	c := coded(t, rows(sets, "split +1 +3; take [61]; yes")+"take []; yes")
	for i := range sets {
		c.Sets[i] = nil
		for k := range ranges {
			c.Sets[i] = append(c.Sets[i], api.Range{Lo: 3 * (sets*k + i), Hi: 3 * (sets*k + i)})
		}
	}
	o := made(t, c)
	if len(o.Ins) != 2 || len(o.Sets) != 1 || len(o.Sets[0]) != sets*ranges {
		t.Errorf("%d sets are %d, with %d instructions", len(c.Sets), len(o.Sets), len(o.Ins))
	}
}
