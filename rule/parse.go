package rule

import (
	"strings"

	"caesura/api"
	"caesura/set"
)

// anyTimes is the Hi of a pattern that may stand any times.
const anyTimes = -1

// parser reads tokens from the left. What lies in so many ~ and ( ) is told how many they are: deep.
type parser struct {
	rest    []token // what is not read yet: the text's end is the last one
	classes int     // how many `class` are read
}

// refuse throws an error at the next token.
func (p *parser) refuse(e api.Errno) {
	// a `class` too many is told whatever else is wrong with it
	if p.is(tokenClass) && p.classes == api.MaxKinds {
		e = api.ErrLimit
	}
	panic(wrong(e, p.rest[0].at))
}

// is says whether the next token is of a kind.
func (p *parser) is(kind int) bool {
	return p.rest[0].kind == kind
}

// take reads the next token, which must be of that kind.
func (p *parser) take(kind int) token {
	t := p.rest[0]
	if t.kind != kind {
		p.refuse(api.ErrForm)
	}
	p.rest = p.rest[1:]
	return t
}

// accept reads the next token, if it is that mark, and says whether it is.
func (p *parser) accept(mark string) bool {
	if p.rest[0].text != mark {
		return false
	}
	p.rest = p.rest[1:]
	return true
}

// mark reads a mark that must stand there.
func (p *parser) mark(mark string) {
	if !p.accept(mark) {
		p.refuse(api.ErrForm)
	}
}

// file reads a FILE, to the text's end.
func (p *parser) file() api.File {
	f := api.File{Else: true}
	for p.is(tokenClass) {
		f.Classes = append(f.Classes, p.class())
	}
	for p.is(tokenBreak) || p.is(tokenKeep) {
		if len(f.Rules) == api.MaxRules {
			p.refuse(api.ErrLimit)
		}
		f.Rules = append(f.Rules, p.rule())
	}
	if p.is(tokenElse) {
		p.take(tokenElse)
		f.Else = p.breaks()
		p.mark(";")
	}
	p.take(tokenEnd)
	return f
}

// breaks reads `break` or `keep`: is it `break`?
func (p *parser) breaks() bool {
	if p.is(tokenBreak) {
		p.take(tokenBreak)
		return true
	}
	p.take(tokenKeep)
	return false
}

// class reads a CLASS.
func (p *parser) class() api.Class {
	if p.classes == api.MaxKinds {
		p.refuse(api.ErrLimit)
	}
	c := api.Class{At: p.take(tokenClass).at}
	p.classes++
	c.Name = p.name()
	p.mark("=")
	c.Kind = p.kind(0)
	p.mark(";")
	return c
}

// rule reads a RULE.
func (p *parser) rule() api.Rule {
	r := api.Rule{At: p.rest[0].at}
	r.Break = p.breaks()
	r.Before = p.pattern(0)
	p.mark(":")
	r.After = p.pattern(0)
	p.mark(";")
	return r
}

// name reads a NAME.
func (p *parser) name() string {
	if p.is(tokenName) && len(p.rest[0].text) > api.MaxName {
		p.refuse(api.ErrLimit)
	}
	return p.take(tokenName).text
}

// number reads a NUMBER.
func (p *parser) number() int {
	n := 0
	if p.is(tokenNumber) {
		for _, c := range []byte(p.rest[0].text) {
			n = min(10*n+int(c-'0'), api.MaxTimes+1) // too much stays too much, of however many digits
		}
	}
	if n > api.MaxTimes {
		p.refuse(api.ErrLimit)
	}
	p.take(tokenNumber)
	return n
}

// kind reads a KIND.
func (p *parser) kind(deep int) *api.Kind {
	at := p.rest[0].at
	k := p.oneKind(deep)
	for code := codeOf(p.rest[0].text); code != 0; code = codeOf(p.rest[0].text) {
		p.take(tokenMark)
		k = &api.Kind{Code: code, At: at, Left: k, Right: p.oneKind(deep)}
	}
	return k
}

// codeOf is the code of a mark between two kinds (0: none).
func codeOf(mark string) int {
	switch mark {
	case "|":
		return api.Or
	case "&":
		return api.And
	case "-":
		return api.Less
	}
	return 0
}

// oneKind reads a KONE.
func (p *parser) oneKind(deep int) *api.Kind {
	if deep > api.MaxDepth {
		p.refuse(api.ErrLimit)
	}
	at := p.rest[0].at
	if p.accept("~") {
		return &api.Kind{Code: api.Not, At: at, Left: p.oneKind(deep + 1)}
	}
	if p.accept("(") {
		k := p.kind(deep + 1)
		p.mark(")")
		return k
	}
	return p.setOrName()
}

// setOrName reads a SET or a NAME.
func (p *parser) setOrName() *api.Kind {
	at := p.rest[0].at
	if !p.is(tokenSet) {
		return &api.Kind{Code: api.Ref, At: at, Name: p.name()}
	}
	s, err := set.Parse(p.rest[0].text)
	if err != nil {
		p.refuse(api.ErrForm)
	}
	p.take(tokenSet)
	return &api.Kind{Code: api.Lit, At: at, Set: s}
}

// pattern reads a PAT.
func (p *parser) pattern(deep int) *api.Pattern {
	if deep > api.MaxDepth {
		p.refuse(api.ErrLimit)
	}
	rows := []*api.Pattern{p.row(deep)}
	for p.accept("|") {
		rows = append(rows, p.row(deep))
	}
	return together(api.Alt, rows)
}

// row reads a ROW.
func (p *parser) row(deep int) *api.Pattern {
	var parts []*api.Pattern
	for p.atUnit() {
		parts = append(parts, p.part(deep))
	}
	return together(api.Cat, parts)
}

// together is patterns as one: of one alone, that.
func together(code int, parts []*api.Pattern) *api.Pattern {
	if len(parts) == 1 {
		return parts[0]
	}
	return &api.Pattern{Code: code, Parts: parts}
}

// atUnit says whether a UNIT may begin with the next token.
func (p *parser) atUnit() bool {
	return p.is(tokenSet) || p.is(tokenName) || p.is(tokenMark) && strings.Contains(".$(", p.rest[0].text)
}

// part reads a PART.
func (p *parser) part(deep int) *api.Pattern {
	x := p.unit(deep)
	for {
		lo, hi, ok := p.times()
		if !ok {
			return x
		}
		if deep++; deep > api.MaxDepth {
			p.refuse(api.ErrLimit)
		}
		x = &api.Pattern{Code: api.Many, Parts: []*api.Pattern{x}, Lo: lo, Hi: hi}
	}
}

// unit reads a UNIT.
func (p *parser) unit(deep int) *api.Pattern {
	if p.accept(".") {
		return &api.Pattern{Code: api.Any}
	}
	if p.accept("$") {
		return &api.Pattern{Code: api.Edge}
	}
	if p.accept("(") {
		x := p.pattern(deep + 1)
		p.mark(")")
		return x
	}
	return &api.Pattern{Code: api.One, Kind: p.setOrName()}
}

// times reads a TIMES, if there is one.
func (p *parser) times() (lo, hi int, ok bool) {
	switch {
	case p.accept("*"):
		return 0, anyTimes, true
	case p.accept("+"):
		return 1, anyTimes, true
	case p.accept("?"):
		return 0, 1, true
	case p.accept("{"):
		lo, hi = p.bounds()
		return lo, hi, true
	}
	return 0, 0, false
}

// bounds reads what stands behind a { , and its } .
func (p *parser) bounds() (lo, hi int) {
	lo = p.number()
	hi = lo
	if p.accept(",") {
		hi = anyTimes
		if p.is(tokenNumber) {
			hi = p.number()
			if hi < lo {
				p.refuse(api.ErrRange)
			}
		}
	}
	p.mark("}")
	return lo, hi
}
