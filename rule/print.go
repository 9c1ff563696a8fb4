package rule

import (
	"strconv"

	"caesura/api"
	"caesura/set"
)

// appendRule puts a rule's line behind bytes.
func appendRule(b []byte, r api.Rule) []byte {
	if r.Break {
		b = append(b, "break"...)
	} else {
		b = append(b, "keep"...)
	}
	b = appendSide(b, r.Before)
	b = append(b, " :"...)
	b = appendSide(b, r.After)
	return append(b, ";\n"...)
}

// appendSide puts a pattern with a blank ahead behind bytes: nothing, if there is nothing to write.
func appendSide(b []byte, x *api.Pattern) []byte {
	n := len(b)
	b = appendPattern(append(b, ' '), x)
	if len(b) == n+1 {
		return b[:n]
	}
	return b
}

// appendPattern puts a pattern's text behind bytes.
func appendPattern(b []byte, x *api.Pattern) []byte {
	if x == nil {
		return b
	}
	switch x.Code {
	case api.One:
		return appendKind(b, x.Kind)
	case api.Any:
		return append(b, '.')
	case api.Edge:
		return append(b, '$')
	case api.Cat:
		return appendParts(b, x, " ")
	case api.Alt:
		return appendParts(b, x, " | ")
	case api.Many:
		return appendTimes(appendParts(b, x, ""), x.Lo, x.Hi)
	}
	return b
}

// appendParts puts a pattern's parts behind bytes, with a text between.
func appendParts(b []byte, x *api.Pattern, between string) []byte {
	for i, part := range x.Parts {
		if i > 0 {
			b = append(b, between...)
		}
		if wrapped(part, x.Code) {
			b = append(appendPattern(append(b, '('), part), ')')
		} else {
			b = appendPattern(b, part)
		}
	}
	return b
}

// wrapped says whether a part must stand in ( ) within a pattern of that code.
func wrapped(part *api.Pattern, within int) bool {
	if part == nil {
		return false
	}
	return part.Code == api.Alt || part.Code == api.Cat && within != api.Alt
}

// appendTimes puts a TIMES behind bytes: the shortest that says it.
func appendTimes(b []byte, lo, hi int) []byte {
	switch {
	case lo == 0 && hi < 0:
		return append(b, '*')
	case lo == 1 && hi < 0:
		return append(b, '+')
	case lo == 0 && hi == 1:
		return append(b, '?')
	}
	b = strconv.AppendInt(append(b, '{'), int64(lo), 10)
	if hi != lo {
		b = append(b, ',')
	}
	if hi != lo && hi >= 0 {
		b = strconv.AppendInt(b, int64(hi), 10)
	}
	return append(b, '}')
}

// appendKind puts a kind's text behind bytes.
func appendKind(b []byte, k *api.Kind) []byte {
	if k == nil {
		return b
	}
	switch k.Code {
	case api.Lit:
		return append(b, set.Print(k.Set)...)
	case api.Ref:
		return append(b, k.Name...)
	case api.Not:
		return appendOneKind(append(b, '~'), k.Left)
	}
	// marks are read from the left: what stands at the left needs no ( )
	b = appendKind(b, k.Left)
	b = append(b, markOf(k.Code)...)
	return appendOneKind(b, k.Right)
}

// appendOneKind puts a kind's text behind bytes, in ( ) if it is one of two.
func appendOneKind(b []byte, k *api.Kind) []byte {
	if k == nil || markOf(k.Code) == "" {
		return appendKind(b, k)
	}
	return append(appendKind(append(b, '('), k), ')')
}

// markOf is the mark between two kinds, with its blanks ("": the code is of none such).
func markOf(code int) string {
	switch code {
	case api.Or:
		return " | "
	case api.And:
		return " & "
	case api.Less:
		return " - "
	}
	return ""
}
