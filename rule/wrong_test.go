package rule_test

import (
	"slices"
	"strings"
	"testing"

	"caesura/api"
	"caesura/rule"
)

// TestNoToken: each byte that begins no token is one, wherever it stands.
func TestNoToken(t *testing.T) {
	for c := range 256 {
		b := string([]byte{byte(c)})
		if strings.Contains("abcdefghijklmnopqrstuvwxyz0123456789 \n#=;:|&-~().*+?{},$", b) {
			continue
		}
		refused(t, b, api.ErrForm, 0)
		refused(t, " \n"+b, api.ErrForm, 2)
		refused(t, "keep a"+b+":;", api.ErrForm, 6)
		refused(t, "keep 1"+b, api.ErrForm, 6)
		refused(t, "else keep;#\n"+b, api.ErrForm, 12)
	}
	for _, s := range []string{"@[", "class a = @[61", "keep [61] @[: ;", "keep [61]@] : ;", "@[ # no more"} {
		refusedAt(t, s, api.ErrForm)
	}
}

// TestMarksAlone: of what is a token, none but some words may stand first.
func TestMarksAlone(t *testing.T) {
	for _, s := range []string{"=", ";", ":", "|", "&", "-", "~", "(", ")", ".", "*", "+", "?", "{", "}", ",", "$", "[]", "[61]", "a", "zz", "1", "0"} {
		refused(t, " "+s, api.ErrForm, 1)
		refused(t, "keep:;"+s, api.ErrForm, 6)
		refused(t, "else keep;"+s, api.ErrForm, 10)
	}
}

func TestMayNotStandThere(t *testing.T) {
	for _, s := range []string{
		// files
		"@class1 a = [];", "@classa = [];", "@keepa:;", "@elsekeep;",
		"keep:; @class a = [];", "else keep; @class a = [];", "else keep; @keep:;", "else keep; @else keep;", "else keep; @;", "@; keep:;",
		"else @else;", "else @;", "else @class", "else @a;", "else keep @keep;", "else break @:;",
		// classes
		"class @= [];", "class @class = [];", "class @break = [];", "class @keep = [];", "class @else = [];", "class @1 = [];", "class @[] = [];",
		"class a @[];", "class a @: [];", "class a = @;", "class a = [] @[];", "class a = a @b;", "class a = [] @. ;", "class a = @.;", "class a = @$;", "class a = [] @*;",
		"class a = @1;", "class a = a @1;", "class a = @| a;", "class a = a | @| a;", "class a = a | @;", "class a = a @~b;", "class a = a @, b;",
		"class a = @break;", "class a = a | @keep;", "class a = ~@;", "class a = ~@| a;", "class a = (@);", "class a = (a@;", "class a = (a @b);", "class a = a@);", "class a = ((a)@;", "class a = (a)@);",
		"class a = []@: ;", "class a = a @class b = a;", "class a = [] @",
		// rules
		"keep @;", "keep . @;", "keep : @: ;", "keep . @= . ;", "break . : . @: . ;", "keep . : . @keep", "keep . : . @class",
		"keep @class : ;", "keep @else : ;", "keep . @break : ;", "keep : @keep ;", "keep @1 : ;", "keep . @1 : ;",
		"keep @* : ;", "keep @+ : ;", "keep @? : ;", "keep @{2} : ;", "keep . | @* : ;", "keep (@*) : ;", "keep : @* ;",
		"keep . @& . : ;", "keep . @- . : ;", "keep @~a : ;", "keep . @~ : ;", "keep . @} : ;", "keep . @, : ;",
		"keep @) : ;", "keep . @) : ;", "keep (. @: . ;", "keep (. @; ", "keep ((.) @: ;", "keep (.)@) : ;", "keep : (. @;", "keep : .@) ;",
		// times
		"keep .{@} : ;", "keep .{@,} : ;", "keep .{@,2} : ;", "keep .{@a} : ;", "keep .{@[2]} : ;", "keep .{@: ;", "keep .{2 @: ;", "keep .{2 @3} : ;", "keep .{2 @a} : ;",
		"keep .{2,@: ;", "keep .{2,@,} : ;", "keep .{2,@a} : ;", "keep .{2,3@,} : ;", "keep .{2,3@: ;", "keep .{2,3 @4} : ;", "keep .{@-2} : ;", "keep .{@+2} : ;", "keep .{2,@-2} : ;", "keep .{1@a} : ;",
		"keep .{@*} : ;", "keep .{2@* : ;", "keep .{2}@} : ;", "keep . {2 @. ;",
	} {
		refusedAt(t, s, api.ErrForm)
	}
}

// TestMissingAtTheEnd: of every beginning of a file's tokens, but for whole ones, something is missing at the end.
func TestMissingAtTheEnd(t *testing.T) {
	tokens := strings.Fields("class a = [61-7a] | ~ ( b - c ) ; keep a { 2 , 3 } ( a | . ) * : $ { 2 } { 3 , } [] + ; break : ; else keep ;")
	whole := 0
	for n := range len(tokens) + 1 {
		for _, end := range []string{"", " ", "\n \n", "# to the end", " #\n"} {
			s := strings.Join(tokens[:n], " ") + end
			last := "; "
			if n > 0 {
				last = tokens[n-1]
			}
			if n == 0 || last == ";" {
				parsed(t, s)
				whole++
			} else {
				refused(t, s, api.ErrForm, len(s))
			}
		}
	}
	if whole != 5*5 {
		t.Errorf("%d beginnings are whole", whole)
	}
}

func TestWrongSets(t *testing.T) {
	for _, s := range []string{
		"[ ]", "[61 ]", "[ 61]", "[61  63]", "[61\n63]", "[61;\n#]", "[61,63]", "[061]", "[6A]", "[61-]", "[-61]", "[61-61]", "[7a-61]", "[61-62-63]", "[61 62]", "[63 61]", "[61 61]", "[61-65 63]",
		"[110000]", "[0-110000]", "[ffffffffffffffffffffffff]", "[g]", "[#]", "[#\n61]", "[[]", "[61[]", "[keep . : .;\n# x]", "[\xff]", "[\x00]", "[+61]", "[0x61]", "[a-z]", "[61 -63]",
	} {
		refused(t, "class a = "+s+";", api.ErrForm, 10)
		refused(t, "class a = a & ~("+s+");", api.ErrForm, 16)
		refused(t, "keep "+s+" : ;", api.ErrForm, 5)
		refused(t, "keep : . | (."+s+"*);", api.ErrForm, 13)
	}
	parsed(t, "class a = [a-c];")
}

func TestSecondBelowFirst(t *testing.T) {
	for _, s := range []string{
		"keep .{1,0@} : ;", "keep .{5,4 @} : ;", "keep .{12,0 # so\n @} : ;", "keep : .{2,1@};", "keep (a{02,001@}) : ;", "keep .{2,3}{3,2@} : ;", "break a | .{9,8@}* : ;",
		// the token behind is told of whatever it is, and so is the end
		"keep .{2,1@,} : ;", "keep .{2,1 @x", "keep .{2,1 @3} : ;", "keep .{2,1@", "keep .{2,1 # no more@",
	} {
		refusedAt(t, s, api.ErrRange)
	}
	for _, s := range []string{"keep .{1,1} : ;", "keep .{0,0} : ;", "keep .{0,12} : ;", "keep .{12,} : ;", "keep .{009,10} : ;"} {
		parsed(t, s)
	}
}

func TestMaxTokens(t *testing.T) {
	n := api.MaxTokens
	most := "keep " + strings.Repeat(".", n-3) + ":;"
	parsed(t, most)
	parsed(t, most+" \n# nothing more\n#")
	over := "keep " + strings.Repeat(".", n-2) + ":@;"
	refusedAt(t, over, api.ErrLimit)
	refusedAt(t, most+" @[61", api.ErrForm)
	refusedAt(t, most+" @A", api.ErrForm)
	refusedAt(t, most+" @; A", api.ErrLimit)
	refusedAt(t, most+" @[61] [", api.ErrLimit)
	refusedAt(t, most+"#\n  @12345", api.ErrLimit)
	refusedAt(t, most[:len(most)-1]+"@\t;", api.ErrForm)
	// whatever the tokens are, and wherever they may not stand
	refusedAt(t, strings.Repeat(";", n)+"@;", api.ErrLimit)
	refused(t, strings.Repeat(";", n), api.ErrForm, 0)
	for _, token := range []string{"class ", "a ", "1 ", "[] ", "[x] ", "[\n] ", "~ ", "keep "} {
		refusedAt(t, strings.Repeat(token, n)+"@"+token, api.ErrLimit)
		refused(t, strings.Repeat(token, n-1)+"%", api.ErrForm, len(token)*(n-1))
		refused(t, strings.Repeat(token, n)+"%", api.ErrForm, len(token)*n)
		refused(t, strings.Repeat(token, n+1)+"%", api.ErrLimit, len(token)*n)
	}
}

func TestMaxName(t *testing.T) {
	most := "abcdefghij"
	if len(most) != api.MaxName {
		t.Fatal("the name is of another length")
	}
	for _, name := range []string{most, "a234567890", "z000000000"} {
		for _, s := range []string{"class NAME = [];", "class a = NAME;", "class a = a | ~NAME;", "keep NAME : ;", "keep : (a NAME*);"} {
			f := parsed(t, strings.Replace(s, "NAME", name, 1))
			if !strings.Contains(rule.Print(f), name) {
				t.Errorf("%s is not there: %s", name, rule.Print(f))
			}
			refusedAt(t, strings.Replace(s, "NAME", "@"+name+"a", 1), api.ErrLimit)
			refusedAt(t, strings.Replace(s, "NAME", "@"+name+"0", 1), api.ErrLimit)
			refusedAt(t, strings.Replace(s, "NAME", "@"+name+strings.Repeat("z9", 5000), 1), api.ErrLimit)
		}
	}
	// where no NAME may stand, it is that first
	for _, s := range []string{"@abcdefghijk", "class a @abcdefghijk", "class a = a @abcdefghijk;", "else @abcdefghijk;", "keep .{@abcdefghijk} : ;", "keep:; @abcdefghijk", "class @[61 63 65 67] = [];", "class @12345678901 = [];", "class a = a | @12345678901;", "keep @12345678901 : ;"} {
		refusedAt(t, s, api.ErrForm)
	}
}

func TestMaxTimes(t *testing.T) {
	for _, s := range []string{"keep .{@13} : ;", "keep .{@13,} : ;", "keep .{@13,14} : ;", "keep .{0,@13} : ;", "keep .{12,@13} : ;", "keep .{@0000013} : ;", "keep .{@13 x", "keep .{1,@13", "keep .{@13", "keep .{@20,1} : ;", "keep .{5,@99 4", "keep .{@100} : ;", "keep .{@4294967296} : ;", "keep .{@18446744073709551616} : ;", "keep .{@18446744073709551617,} : ;", "keep .{1,@340282366920938463463374607431768211457} : ;"} {
		refusedAt(t, s, api.ErrLimit)
	}
	for _, digits := range []string{"9", "10", "01", "120"} {
		refused(t, "keep .{"+strings.Repeat(digits, 20_000)+"} : ;", api.ErrLimit, 7)
		refused(t, "keep .{2,"+strings.Repeat(digits, 20_000)+"} : ;", api.ErrLimit, 9)
	}
	// where no NUMBER may stand, it is that first
	for _, s := range []string{"@13", "keep @13 : ;", "class @13 = [];", "keep .{2 @13} : ;", "keep .{2,3 @13} : ;"} {
		refusedAt(t, s, api.ErrForm)
	}
}

func TestMaxKinds(t *testing.T) {
	most := strings.Repeat("class a = []; ", api.MaxKinds)
	if f := parsed(t, most+"keep:;"); len(f.Classes) != api.MaxKinds {
		t.Errorf("%d classes", len(f.Classes))
	}
	refusedAt(t, most+"@class a = [];", api.ErrLimit)
	refusedAt(t, most+"@class a = []; class a = [];", api.ErrLimit)
	refusedAt(t, most+"@class", api.ErrLimit)
	refusedAt(t, most+"@class class", api.ErrLimit)
	// it is told whatever else is wrong: also where no class may stand
	refusedAt(t, most+"keep:; @class a = [];", api.ErrLimit)
	refusedAt(t, most+"keep @class : ;", api.ErrLimit)
	refusedAt(t, most+"else keep; @class", api.ErrLimit)
	refusedAt(t, most[14:]+"class @class", api.ErrLimit)
	refusedAt(t, most[14:]+"keep:; @class a = [];", api.ErrForm)
	refusedAt(t, most[28:]+"class @class", api.ErrForm)
	refusedAt(t, most+"@;class", api.ErrForm)
}

func TestMaxRules(t *testing.T) {
	half := strings.Repeat("break:;keep:;", api.MaxRules/2)
	if f := parsed(t, half+"else break;"); len(f.Rules) != api.MaxRules {
		t.Errorf("%d rules", len(f.Rules))
	}
	parsed(t, half+"else keep;")
	for _, word := range []string{"break", "keep"} {
		refusedAt(t, half+"@"+word+":;", api.ErrLimit)
		refusedAt(t, half+"@"+word, api.ErrLimit)
		refusedAt(t, half+"@"+word+" * else", api.ErrLimit)
		refusedAt(t, half+"else keep; @"+word+":;", api.ErrForm)
		refusedAt(t, half[13:]+"keep:; break @"+word+":;", api.ErrForm)
	}
	refusedAt(t, half+"@class a = [];", api.ErrForm)
	refusedAt(t, half+"else @;", api.ErrForm)
}

// TestMaxDepthOfKinds: in all orders of ~ and ( ), what lies in MaxDepth is read, and what lies in more is not.
func TestMaxDepthOfKinds(t *testing.T) {
	for bits := range 1 << (api.MaxDepth + 1) {
		ahead, behind := "", ""
		for i := range api.MaxDepth + 1 {
			if i == api.MaxDepth {
				parsed(t, "class a = "+ahead+"a"+behind+";")
				parsed(t, "class a = []|"+ahead+"[]"+behind+"|"+ahead+"b"+behind+";")
			}
			if bits>>i&1 == 1 {
				ahead += "~"
			} else {
				ahead += "("
				behind += ")"
			}
		}
		for _, s := range []string{"a", "[]", "~a", "(a)", ")", ";", "*", "class", "1", "[x]", "abcdefghijk", ""} {
			refused(t, "class a = "+ahead+s+behind+";", api.ErrLimit, 10+len(ahead))
		}
		refused(t, "class a = a - "+ahead, api.ErrLimit, 14+len(ahead))
	}
}

func TestMaxDepthOfPatterns(t *testing.T) {
	open, shut := strings.Repeat("(", api.MaxDepth), strings.Repeat(")", api.MaxDepth)
	parsed(t, "keep "+open+"."+shut+":;")
	parsed(t, "keep "+open+shut+":"+open+". a|[]"+shut+open+shut+";")
	for _, s := range []string{".", ")", "a", "[]", "[x]", "(", "|", ":", ";", "*", "1", "class", "else", "abcdefghijk", ""} {
		refusedAt(t, "keep "+open+"(@"+s, api.ErrLimit)
		refusedAt(t, "keep "+open+"(@"+s+")"+shut+":;", api.ErrLimit)
		refusedAt(t, "break:. | a "+open+" | (#\n@"+s, api.ErrLimit)
	}
	refusedAt(t, "keep "+open+"."+shut+"@):;", api.ErrForm)
}

// TestMaxDepthOfTimes: within so many ( ), so many TIMES are read, and no more.
func TestMaxDepthOfTimes(t *testing.T) {
	times := []string{"*", "+", "?", "{2}", "{2,}", "{2,3}", "{ 0 , 12 }", "*", "+"}
	for deep := range api.MaxDepth + 1 {
		open, shut := strings.Repeat("(", deep), strings.Repeat(")", deep)
		most := strings.Join(times[:api.MaxDepth-deep], "")
		parsed(t, "keep "+open+"."+most+shut+":;")
		parsed(t, "keep "+open+"."+most+" a"+most+"|[]"+most+shut+":;")
		parsed(t, "keep:"+open+"."+most+shut+" "+open+"."+shut+strings.Repeat("*", api.MaxDepth)+";")
		for _, s := range []string{")", " )", "#\n|", "*", "{", "a", ":", ";", "1", "class", "[x]", ""} {
			next := strings.TrimLeft(s, " #\n")
			gap := s[:len(s)-len(next)]
			for _, one := range times {
				refusedAt(t, "keep "+open+"."+most+one+gap+"@"+next+shut, api.ErrLimit)
				refusedAt(t, "keep . :"+open+"a"+most+" ."+most+one+gap+"@"+next, api.ErrLimit)
			}
		}
	}
	// what is wrong within a TIMES is ahead of what is told behind it
	most := strings.Repeat("*", api.MaxDepth)
	refusedAt(t, "keep ."+most+"{@} : ;", api.ErrForm)
	refusedAt(t, "keep ."+most+"{@13} : ;", api.ErrLimit)
	refusedAt(t, "keep ."+most+"{3,2@} : ;", api.ErrRange)
	refusedAt(t, "keep ."+most+"{2,3} @: ;", api.ErrLimit)
}

// TestTimesWithinTimes: those of the parts around are not counted: ( ) alone are.
func TestTimesWithinTimes(t *testing.T) {
	parsed(t, "keep (.*******)******** : ;")
	refusedAt(t, "keep (.********@)* : ;", api.ErrLimit)
	refusedAt(t, "keep (.*******)*********@: ;", api.ErrLimit)
	parsed(t, "keep ((.******)*******)******** : ;")
	refusedAt(t, "keep ((.*******@)*)* : ;", api.ErrLimit)
	refusedAt(t, "keep ((.*)********@)* : ;", api.ErrLimit)
	parsed(t, "keep .******** a******** : .********;")
}

// TestFirstOfSeveral: tokens are looked at ahead of all else; then what comes first from the left is told.
func TestFirstOfSeveral(t *testing.T) {
	for _, c := range []struct {
		marked string
		e      api.Errno
	}{
		{"; ; @A", api.ErrForm},
		{"class class = [x]; @%", api.ErrForm},
		{"keep .{13} : ; @\t", api.ErrForm},
		{"keep .{3,2} : ; @[61", api.ErrForm},
		{"keep .{3,2@} [x] : ; ;", api.ErrRange},
		{"keep ; @[", api.ErrForm},
		{"class @abcdefghijk = [x];", api.ErrLimit},
		{"class a = @[x] abcdefghijk;", api.ErrForm},
		{"class a = @abcdefghijk [x];", api.ErrLimit},
		{"keep .{@13,12} : ;", api.ErrLimit},
		{"keep .{@13,12", api.ErrLimit},
		{"keep .{12,@13", api.ErrLimit},
		{"keep .{@99999999999999999999 99", api.ErrLimit},
		{"keep a @1 .{3,2} : ;", api.ErrForm},
		{"keep .{3,2@}{13} : ;", api.ErrRange},
		{"keep .{2,3}{@13} .{3,2} : ;", api.ErrLimit},
		{"keep (((((((((@[x]", api.ErrLimit},
		{"keep @) (((((((((. : ;", api.ErrForm},
		{"class a = ~~~~~~~~~@abcdefghijk", api.ErrLimit},
		{"keep .*********@1", api.ErrLimit},
		{"keep .{@abcdefghijk,0} : ;", api.ErrForm},
	} {
		refusedAt(t, c.marked, c.e)
	}
}

// sample is the text of each terminal of the grammar; one whose value is nowhere too great.
var sample = map[string]string{"NAME": "a", "SET": "[61]", "NUMBER": "3"}

// grammar is the document's, with names of its own for what is repeated.
var grammar = map[string][]string{
	"FILE":    {"CLASSES RULES", "CLASSES RULES else break ;", "CLASSES RULES else keep ;"},
	"CLASSES": {"", "CLASS CLASSES"},
	"RULES":   {"", "RULE RULES"},
	"CLASS":   {"class NAME = KIND ;"},
	"RULE":    {"break PAT : PAT ;", "keep PAT : PAT ;"},
	"KIND":    {"KONE", "KIND | KONE", "KIND & KONE", "KIND - KONE"},
	"KONE":    {"SET", "NAME", "~ KONE", "( KIND )"},
	"PAT":     {"ROW", "PAT | ROW"},
	"ROW":     {"", "PART ROW"},
	"PART":    {"UNIT", "PART TIMES"},
	"UNIT":    {"SET", "NAME", ".", "$", "( PAT )"},
	"TIMES":   {"*", "+", "?", "{ NUMBER }", "{ NUMBER , }", "{ NUMBER , NUMBER }"},
}

// item is a line of the grammar, how far of it is read, and where it began.
type item struct {
	head, line string
	done, from int
}

func (i item) next() string {
	if f := strings.Fields(i.line); i.done < len(f) {
		return f[i.done]
	}
	return ""
}

// closed are all items that may be, where some are (chart: those of each place ahead).
func closed(chart [][]item, here []item) []item {
	seen := map[item]bool{}
	add := func(i item) {
		if !seen[i] {
			seen[i] = true
			here = append(here, i)
		}
	}
	for _, i := range here {
		seen[i] = true
	}
	for grown := -1; grown != len(here); {
		grown = len(here)
		for k := 0; k < len(here); k++ {
			i := here[k]
			for _, line := range grammar[i.next()] {
				add(item{i.next(), line, 0, len(chart)})
			}
			if i.next() != "" {
				continue
			}
			waiting := here
			if i.from < len(chart) {
				waiting = chart[i.from]
			}
			for _, w := range waiting {
				if w.next() == i.head {
					add(item{w.head, w.line, w.done + 1, w.from})
				}
			}
		}
	}
	return here
}

// moved are the items behind a token.
func moved(here []item, token string) []item {
	var out []item
	for _, i := range here {
		if i.next() == token {
			out = append(out, item{i.head, i.line, i.done + 1, i.from})
		}
	}
	return out
}

// TestByTheGrammar: behind all beginnings of few tokens, and behind some of more, just those tokens may stand that the grammar allows.
func TestByTheGrammar(t *testing.T) {
	terminals := strings.Fields("class break keep else NAME NUMBER SET = ; : | & - ~ ( ) . * + ? { } , $")
	var walk func(chart [][]item, here []item, s string, steps int)
	walk = func(chart [][]item, here []item, s string, steps int) {
		here = closed(chart, here)
		whole := slices.ContainsFunc(here, func(i item) bool { return i.head == "FILE" && i.next() == "" })
		if f, err := rule.Parse(s); whole && err != nil {
			t.Fatalf("Parse(%q): %s", s, told(err))
		} else if !whole && told(err) != text(api.ErrForm, len(s)) {
			t.Fatalf("Parse(%q) = %v, %s: more is missing", s, f, told(err))
		}
		for _, token := range terminals {
			piece := token
			if v, ok := sample[token]; ok {
				piece = v
			}
			behind := moved(here, token)
			if len(behind) == 0 {
				refused(t, s+piece, api.ErrForm, len(s))
				refused(t, s+piece+" ;", api.ErrForm, len(s))
			} else if steps > 0 {
				walk(append(slices.Clip(chart), here), behind, s+piece+" ", steps-1)
			}
		}
	}
	for _, ahead := range []string{"", "class NAME =", "class NAME = ( ~ NAME", "keep", "break ( NAME | SET ) { NUMBER", "keep . * : NAME", "keep : ; else"} {
		var chart [][]item
		var here []item
		for _, line := range grammar["FILE"] {
			here = append(here, item{"FILE", line, 0, 0})
		}
		s := ""
		for _, token := range strings.Fields(ahead) {
			here = closed(chart, here)
			next := moved(here, token)
			chart = append(chart, here)
			here = next
			if v, ok := sample[token]; ok {
				token = v
			}
			s += token + " "
		}
		walk(chart, here, s, 3)
	}
}

// TestAnyText (P1): every text is read or refused, at a place of it.
func TestAnyText(t *testing.T) {
	d := die(5)
	pieces := []string{"class ", "break ", "keep ", "else ", "a", "b1 ", "[61]", "[", "]", "12", "13", "0", "=", ";", ":", "|", "&", "-", "~", "(", ")", ".", "*", "+", "?", "{", "}", ",", "$", " ", "\n", "#", "\xff", "A", "\x00", "class a = [];", "keep . : .;", "{2,3}", "{3,2}"}
	for range 30_000 {
		s := ""
		for range d.n(12) {
			s += pieces[d.n(len(pieces))]
		}
		anyText(t, s)
	}
}

// anyText fails the test unless a text is refused at a place of it, or is read, and is written so that it is read as it was.
func anyText(t *testing.T, s string) {
	t.Helper()
	f, err := rule.Parse(s)
	if err == nil {
		readAgain(t, f)
		return
	}
	e := api.Tell(err)
	if e != api.ErrForm && e != api.ErrLimit && e != api.ErrRange || !isZero(f) {
		t.Fatalf("Parse(%q) = %v, %s", s, f, told(err))
	}
	for place := range len(s) + 1 {
		if told(err) == text(e, place) {
			return
		}
	}
	t.Fatalf("Parse(%q): %s", s, told(err))
}

func FuzzParse(f *testing.F) {
	f.Add("class a=[61-7a]-[65];keep a(a|.)* : ( a ){2,} ;")
	f.Add("# x\nclass a = ~(a & b) | [];break $|:[61]{2,3}?;else keep;")
	f.Fuzz(func(t *testing.T, s string) {
		if strings.Count(s, "*")+strings.Count(s, "+")+strings.Count(s, "?")+strings.Count(s, "{") > api.MaxDepth {
			t.Skip() // so many TIMES may be one PART's, once no ( ) is about them
		}
		anyText(t, s)
	})
}
