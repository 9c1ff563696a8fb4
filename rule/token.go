package rule

import (
	"strings"

	"caesura/api"
)

// Kinds of tokens.
const (
	tokenEnd = iota // the text's end, behind all others
	tokenName
	tokenNumber
	tokenSet
	tokenMark
	tokenClass
	tokenBreak
	tokenKeep
	tokenElse
)

// marks are the tokens of one byte.
const marks = "=;:|&-~().*+?{},$"

// token is a piece of a text, and where it begins.
type token struct {
	kind int
	at   int
	text string
}

// wrong is what is thrown: an error at a byte.
func wrong(e api.Errno, at int) *api.At {
	return &api.At{Err: e, Place: at}
}

// tokens are a text's tokens, and behind them its end.
func tokens(s string) []token {
	noNames := map[string]int{"class": tokenClass, "break": tokenBreak, "keep": tokenKeep, "else": tokenElse}
	var list []token
	for at := skip(s, 0); at < len(s); {
		t := tokenAt(s, at)
		if len(list) == api.MaxTokens {
			panic(wrong(api.ErrLimit, at))
		}
		if kind, ok := noNames[t.text]; ok {
			t.kind = kind
		}
		list = append(list, t)
		at = skip(s, at+len(t.text))
	}
	return append(list, token{kind: tokenEnd, at: len(s)})
}

// tokenAt is the token that begins at a byte; a word is a name as yet.
func tokenAt(s string, at int) token {
	letter := func(c byte) bool { return 'a' <= c && c <= 'z' }
	digit := func(c byte) bool { return '0' <= c && c <= '9' }
	either := func(c byte) bool { return letter(c) || digit(c) }
	cut := func(kind, to int) token { return token{kind: kind, at: at, text: s[at:to]} }
	switch c := s[at]; {
	case letter(c):
		return cut(tokenName, past(s, at, either))
	case digit(c):
		return cut(tokenNumber, past(s, at, digit))
	case c == '[':
		if n := strings.IndexByte(s[at:], ']'); n >= 0 {
			return cut(tokenSet, at+n+1)
		}
	case strings.IndexByte(marks, c) >= 0:
		return cut(tokenMark, at+1)
	}
	panic(wrong(api.ErrForm, at))
}

// skip is where, from a byte on, the next token begins: behind blanks, line feeds and remarks.
func skip(s string, at int) int {
	blank := func(c byte) bool { return c == ' ' || c == '\n' }
	ofLine := func(c byte) bool { return c != '\n' }
	at = past(s, at, blank)
	for at < len(s) && s[at] == '#' {
		at = past(s, past(s, at, ofLine), blank)
	}
	return at
}

// past is the first place, from a byte on, whose letter is not such a one.
func past(s string, at int, such func(c byte) bool) int {
	for at < len(s) && such(s[at]) {
		at++
	}
	return at
}
