package asm_test

import (
	"slices"
	"strings"
	"testing"

	"caesura/api"
)

// rightText has each kind of line, in both parts of two rules.
const rightText = `rule break
split 1 3
take [61 63-64]
jump 0
end
yes
after
take []
take [0-10ffff]
yes
rule keep
end
yes
after
yes
else keep
`

// TestFormOfLines (9.2): a line that is written otherwise than Print does is ErrForm, wherever it stands.
func TestFormOfLines(t *testing.T) {
	if got := wantByWords(t, rightText); got != api.OK {
		t.Fatalf("%q: %v", rightText, got)
	}
	right := strings.Split(strings.TrimSuffix(rightText, "\n"), "\n")
	for _, line := range []string{
		"", " ", "\r", "\x00", "\xff", "é", "\t", "#", "yes yes", "end end", "yes;", "no", "y", "ye", "yess", "Yes", "YES", "en", "ends", "End", "\u2028yes",
		" yes", "yes ", "yes\r", "\tyes", "yes\t", " end", "end ", "end\r", "end 0", "yes 0", "yes yes", "end []", "yes []", "yes 0 0",
		"take", "take ", "take  []", " take []", "take [] ", "take []\r", "Take []", "take[]", "take\t[]", "take 0", "take [] 0", "take 0 []", "take [] []", "takes []", "tak []", "ke []",
		"take [", "take ]", "take ()", "take [[]]", "take []]", "take 61", "take [61", "take 61]", "take [ ]", "take [61 ]", "take [ 61]", "take [61  63]", "take [61,63]", "take [61\t63]",
		"take [061]", "take [0061]", "take [00]", "take [-0]", "take [-1]", "take [+61]", "take [6A]", "take [0x61]", "take [6_1]", "take [x]", "take [g]", "take [61-]", "take [-61]", "take [-]", "take [61-61]", "take [62-61]", "take [61--63]", "take [61-63-65]", "take [61 -63]", "take [61- 63]", "take [61-0063]",
		"take [61 61]", "take [61 62]", "take [61-62 63]", "take [61 62-63]", "take [63 61]", "take [61-65 64]", "take [61-65 62-63]", "take [110000]", "take [0-110000]", "take [10ffff-110000]", "take [ffffffff]", "take [fffffffffffffffff]", "take [10000000000000061]",
		"split", "split ", "split 0", "split 0 ", "split  0 0", "split 0  0", "split 0 0 ", " split 0 0", "split 0 0 0", "split 0,0", "split 0 0\r", "split\t0 0", "split 0\t0", "split00", "split 00", "Split 0 0", "splits 0 0", "spli 0 0",
		"split 00 0", "split 0 00", "split 01 0", "split 0 01", "split 000 0", "split 0 0001", "split +0 0", "split 0 +0", "split +1 0", "split 0 +1", "split -0 0", "split 0 -0", "split -1 0", "split 0 -1", "split x 0", "split 0 x", "split a 0", "split 0 a", "split 0x0 0", "split 0 0x1", "split 1_0 0", "split 0 1_0", "split 1.0 0", "split 0 1e0", "split [] 0", "split 0 []", "split ٠ 0", "split 0 ١",
		"split 9223372036854775808 0", "split 0 9223372036854775808", "split 18446744073709551616 0", "split 0 18446744073709551617", "split 99999999999999999999999999 0", "split 0 99999999999999999999999999", "split -9223372036854775808 0", "split 0 -9223372036854775809",
		"jump", "jump ", "jump  0", "jump 0 ", " jump 0", "jump 0 0", "jump 0\r", "jump\t0", "jump0", "Jump 0", "jumps 0", "jum 0", "jump -", "jump +", "jump -0", "jump +0", "jump -1", "jump +1", "jump 00", "jump 01", "jump 001", "jump 0x0", "jump 1_0", "jump x", "jump a", "jump []", "jump 0.", "jump ０",
		"jump 9223372036854775808", "jump 18446744073709551616", "jump 36893488147419103232", "jump 99999999999999999999999999", "jump -9223372036854775808",
		"rule", "rule ", "rule  break", "rule break ", " rule break", "rule break\r", "rule\tbreak", "rulebreak", "Rule break", "rules break", "rule Break", "rule breaks", "rule brea", "rule break keep", "rule keep ", "rule keep 0", "rule 0", "rule yes", "rule after", "rule else", "rule rule", "rule rule break", "rule true", "rule keeps",
		"break", "keep", "after ", " after", "after\r", "After", "afters", "afte", "after after", "after 0", "after yes", "after break", "after keep", "before",
		"else", "else ", "else  keep", "else keep ", " else keep", "else keep\r", "else\tkeep", "elsekeep", "Else keep", "elses keep", "else Keep", "else keeps", "else kee", "else break ", "else breaks", "else break keep", "else keep keep", "else 0", "else yes", "else after", "else else keep", "else rule break",
	} {
		for i := range right {
			l := slices.Clone(right)
			l[i] = line
			wantForm(t, strings.Join(l, "\n")+"\n", i)
			l = slices.Insert(slices.Clone(right), i, line)
			wantForm(t, strings.Join(l, "\n")+"\n", i)
		}
		wantForm(t, rightText+line+"\n", len(right))
		if line != "" {
			wantForm(t, rightText+line, len(right))
			wantForm(t, line, 0)
		}
		wantForm(t, line+"\n", 0)
	}
}

// TestFormOfPlaces (9.2): a line that stands in a wrong place, and one that is missing, or too much, is ErrForm at the first one that may not stand there, or behind the last one.
func TestFormOfPlaces(t *testing.T) {
	for text, line := range map[string]int{
		"":                        0,
		"yes":                     0,
		"end; else keep":          0,
		"take []; else keep":      0,
		"split 0 0; else keep":    0,
		"jump 0; yes; else break": 0,
		"after":                   0,
		"after; else keep":        0,
		"after; yes; else keep":   0,
		"yes; rule keep; yes; after; yes; else keep":        0,
		"jump 0; rule keep; yes; after; yes; else keep":     0,
		"after; rule keep; yes; after; yes; else keep":      0,
		"after; yes; rule keep; yes; after; yes; else keep": 0,
		"rule keep":                       1,
		"rule break":                      1,
		"rule keep; yes":                  2,
		"rule keep; take [61]; yes":       3,
		"rule keep; after":                2,
		"rule keep; yes; after":           3,
		"rule keep; yes; after; yes":      4,
		"rule keep; yes; after; yes; yes": 5,
		"rule keep; yes; after; yes; rule keep; yes; after; yes":                        8,
		"rule keep; yes; after; yes; rule keep; yes; after":                             7,
		"rule keep; yes; after; yes; rule keep; yes":                                    6,
		"rule keep; yes; after; yes; rule keep":                                         5,
		"rule keep; rule keep; yes; after; yes; else keep":                              1,
		"rule keep; else keep":                                                          1,
		"rule keep; else break; yes; after; yes":                                        1,
		"rule keep; yes; rule keep; yes; after; yes; else keep":                         2,
		"rule keep; yes; rule break; yes; after; yes; else keep":                        2,
		"rule keep; yes; else keep":                                                     2,
		"rule keep; yes; else break":                                                    2,
		"rule keep; yes; else keep; after; yes; else keep":                              2,
		"rule keep; after; after; else keep":                                            2,
		"rule keep; yes; after; after; else keep":                                       3,
		"rule keep; yes; after; yes; after; else keep":                                  4,
		"rule keep; yes; after; yes; after; yes; else keep":                             4,
		"rule keep; yes; after; yes; rule keep; yes; after; yes; after; yes; else keep": 8,
		"rule keep; yes; after; yes; rule keep; yes; else keep":                         6,
		"rule keep; yes; after; yes; rule keep; yes; rule keep; yes; after; yes":        6,
		"rule keep; yes; after; yes; else keep; after":                                  5,
		"rule keep; yes; after; yes; else keep; yes":                                    5,
		"rule keep; yes; after; yes; else keep; rule keep":                              5,
		"rule keep; yes; after; yes; else keep; rule keep; yes; after; yes; else keep":  5,
		"rule keep; yes; after; yes; else keep; else keep":                              5,
		"rule keep; yes; after; yes; else break; else keep":                             5,
		"else keep; else keep":                                                          1,
		"else break; else break":                                                        1,
		"else keep; rule keep; yes; after; yes":                                         1,
		"else keep; rule keep; yes; after; yes; else keep":                              1,
		"else keep; yes":   1,
		"else keep; after": 1,
		"rule keep; yes; else; yes; after; yes; else keep":                                2,
		"rule keep; yes; after; yes; rule; yes; after; yes; else keep":                    4,
		"rule keep; yes; after; yes; else":                                                4,
		"rule keep; yes; after; else keep; yes":                                           4,
		"rule keep; no; after; no; else no":                                               1,
		"rule keep; yes; after; no; else no":                                              3,
		"rule keep; yes; after; yes; else no":                                             4,
		"rule no; no; after; no; else no":                                                 0,
		"rule keep; yes; no; no; after; yes; else keep":                                   2,
		"rule keep; yes; after; yes; rule no; no; after; no; else no; no":                 4,
		"rule keep; yes; after; yes; rule keep; no; after; yes; else keep; rule keep; no": 5,
	} {
		wantForm(t, lines(text), line)
		if s := strings.TrimSuffix(lines(text), "\n"); s != "" { // what may not stand there is told ahead of its line feed
			wantForm(t, s, line)
		}
	}
}

// TestFormOfLineFeeds (9.2): a line feed that is missing at the end is ErrForm behind the last line, wherever the text ends; what stands behind the last line is ErrForm, also an empty line.
func TestFormOfLineFeeds(t *testing.T) {
	right := strings.SplitAfter(rightText, "\n")
	for i := range right[:len(right)-1] {
		s := strings.Join(right[:i+1], "")
		wantForm(t, strings.TrimSuffix(s, "\n"), i+1)
		if s != rightText {
			wantForm(t, s, i+1)
			wantForm(t, s+"\n", i+1)
			wantForm(t, s+"\n"+strings.Join(right[i+1:], ""), i+1)
		}
		wantForm(t, strings.TrimSuffix(s, "\n")+"\r\n"+strings.Join(right[i+1:], ""), i)
	}
	for _, s := range []string{"else keep", "else break"} {
		wantForm(t, s, 1)
		wantForm(t, s+"\n\n", 1)
		wantForm(t, s+"\n\n\n", 1)
		wantForm(t, s+"\n ", 1)
		wantForm(t, s+"\n\x00", 1)
		wantForm(t, s+"\n \n", 1)
		wantForm(t, s+"\n\n"+s+"\n", 1)
		wantForm(t, "\n"+s+"\n", 0)
		wantForm(t, " \n"+s+"\n", 0)
		wantForm(t, s+" \n", 0)
		wantForm(t, s+"\r\n", 0)
		wantForm(t, s+s+"\n", 0)
		wantForm(t, s+"|", 0)
	}
	wantForm(t, rightText+"\n", len(right)-1)
	wantForm(t, rightText+"\n\n", len(right)-1)
	wantForm(t, rightText+rightText, len(right)-1)
	wantForm(t, strings.ReplaceAll(rightText, "\n", "\r"), 0)
	wantForm(t, strings.ReplaceAll(rightText, "\n", "\r\n"), 0)
	wantForm(t, strings.ReplaceAll(rightText, "\n", "\n\n"), 1)
	wantForm(t, strings.ReplaceAll(rightText, "\n", ";"), 0)
}

// TestFormOfDamage (9.2): texts with one byte, or one line, that is gone, stands there twice, is another one, or one too much, are told as 9.2 says word by word.
func TestFormOfDamage(t *testing.T) {
	d := die(5)
	told := map[api.Errno]int{}
	texts := []string{rightText, "else break\n", "rule break\njump 0\nafter\nsplit 1 10\njump 1\nelse keep\n"}
	for range 40 {
		texts = append(texts, printed(t, drawProgram(&d)))
	}
	for _, s := range texts[:3] {
		for i := range len(s) + 1 {
			told[wantByWords(t, s[:i])]++
			told[wantByWords(t, s[i:])]++
			for _, b := range []byte("[]-0169af \n\r\tyesknd\x00\xff") {
				told[wantByWords(t, s[:i]+string([]byte{b})+s[i:])]++
				if i < len(s) {
					told[wantByWords(t, s[:i]+string([]byte{b})+s[i+1:])]++
				}
			}
			if i < len(s) {
				told[wantByWords(t, s[:i]+s[i+1:])]++
			}
		}
	}
	some := []string{"rule break\n", "rule keep\n", "after\n", "else break\n", "else keep\n", "yes\n", "end\n", "jump 0\n", "jump 3\n", "split 0 1\n", "take []\n", "take [61]\n", "\n", " \n", "rule\n"}
	for _, s := range texts {
		l := strings.SplitAfter(s, "\n")
		l = l[:len(l)-1]
		for i := range l {
			gone := slices.Delete(slices.Clone(l), i, i+1)
			told[wantByWords(t, strings.Join(gone, ""))]++
			j := d.n(len(l))
			told[wantByWords(t, strings.Join(slices.Insert(gone, min(j, len(gone)), l[i]), ""))]++
			for _, x := range append(some, l[i], l[j]) {
				told[wantByWords(t, strings.Join(slices.Insert(slices.Clone(l), i, x), ""))]++
				other := slices.Clone(l)
				other[i] = x
				told[wantByWords(t, strings.Join(other, ""))]++
			}
		}
	}
	if told[api.OK] < 500 || told[api.ErrArg] < 500 || told[api.ErrForm] < 5000 {
		t.Errorf("too few are right, or wrong: %v", told)
	}
}

// TestArg (9.2): lines that may all stand there, but of a program that is not RightProgram, are ErrArg.
func TestArg(t *testing.T) {
	for _, code := range []string{
		"", "take [61]", "take []", "end", "yes; take [61]", "yes; end", "end; end", "jump 0; end", "take [61]; take [61]", "yes; take [0-10ffff]",
		"jump 1", "jump 2; yes", "jump 10", "yes; jump 2", "jump 2000", "jump 2147483648", "jump 4294967296", "jump 9223372036854775807", "jump 1000000000000000000",
		"split 0 1", "split 1 0", "split 1 1", "split 2 0; yes", "split 0 2; yes", "yes; split 1 2", "yes; split 2 1", "split 0 9223372036854775807", "split 9223372036854775807 0", "split 9223372036854775807 9223372036854775807", "split 4294967296 0", "split 0 4294967296",
		"yes; jump 1; jump 4; yes", "take [61]; jump 0; take [61]; jump 4",
	} {
		for _, s := range []string{
			"rule keep;" + code + "; after; yes; else keep",
			"rule break; yes; after;" + code + "; else break",
			"rule break;" + code + "; after;" + code + "; else keep",
			"rule keep;" + code + "; after; yes; rule keep; yes; after; yes; else break",
			"rule keep; yes; after;" + code + "; rule keep; yes; after; yes; else keep",
			"rule keep; yes; yes; yes; after; yes; rule keep;" + code + "; after; yes; yes; yes; else break",
			"rule keep; yes; yes; yes; after; yes; rule break; yes; yes; yes; after;" + code + "; else keep",
		} {
			s = lines(s)
			wantArg(t, s)
			// what is ErrForm is told ahead of it, wherever it is
			wantForm(t, s+"yes\n", strings.Count(s, "\n"))
			wantForm(t, s[:len(s)-1], strings.Count(s, "\n"))
			wantForm(t, strings.Replace(s, "else", "elsewhere", 1), strings.Count(s, "\n")-1)
			wantForm(t, strings.Replace(s, "rule", "ruler", 1), 0)
		}
	}
	rule := "rule keep\nyes\nafter\nyes\n"
	if p := parsed(t, strings.Repeat(rule, api.MaxRules)+"else keep\n"); len(p.Rules) != api.MaxRules {
		t.Errorf("as many rules as may be are read as %d", len(p.Rules))
	}
	for _, n := range []int{1, 2, api.MaxRules, 1000} {
		s := strings.Repeat(rule, api.MaxRules+n)
		wantArg(t, s+"else keep\n")
		wantArg(t, s+"else break\n")
		wantForm(t, s, 4*(api.MaxRules+n))
		wantForm(t, s+"else keep\n\n", 4*(api.MaxRules+n)+1)
	}
}
