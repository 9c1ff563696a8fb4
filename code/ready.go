package code

import (
	"slices"

	"caesura/api"
	"caesura/check"
	"caesura/set"
)

// part is a pattern, made ready to be written. What no instruction is written of is left out (but as a choice), so that what stands in others, each so often, is soon written, or soon too much.
type part struct {
	code   int     // One, Edge, Cat, Alt, Many
	set    api.Set // of One
	parts  []*part // in the order in which they are read
	lo, hi int     // of Many: how often; hi below 0: any times
	still  bool    // reads no unit
}

// reader makes patterns ready, to be read forwards, or backwards.
type reader struct {
	names map[string]api.Set
	back  bool
}

// ready makes a pattern ready. ErrMissing is thrown. What is none stands nowhere.
func (r reader) ready(x *api.Pattern) *part {
	if x == nil {
		return choice(nil)
	}
	switch x.Code {
	case api.One:
		return &part{code: api.One, set: r.setOf(x.Kind)}
	case api.Any:
		return &part{code: api.One, set: set.Not(nil)}
	case api.Edge:
		return &part{code: api.Edge, still: true}
	case api.Cat:
		return r.row(x)
	case api.Alt:
		return choice(r.partsOf(x))
	case api.Many:
		return often(r.row(x), x.Lo, x.Hi)
	}
	return choice(nil)
}

// setOf is a kind's set. ErrMissing is thrown.
func (r reader) setOf(k *api.Kind) api.Set {
	s, err := check.Kind(k, r.names)
	if err != nil {
		panic(api.ErrMissing)
	}
	return s
}

// partsOf are a pattern's Parts, made ready.
func (r reader) partsOf(x *api.Pattern) []*part {
	var out []*part
	for _, p := range x.Parts {
		out = append(out, r.ready(p))
	}
	return out
}

// row is a pattern's Parts, one behind another: one alone is that, and what is nothing is left out.
func (r reader) row(x *api.Pattern) *part {
	parts := slices.DeleteFunc(r.partsOf(x), isNothing)
	if len(parts) == 1 {
		return parts[0]
	}
	if r.back {
		slices.Reverse(parts)
	}
	return &part{code: api.Cat, parts: parts, still: allStill(parts)}
}

// nothing stands everywhere, and reads no unit.
func nothing() *part {
	return &part{code: api.Cat, still: true}
}

// isNothing says whether a part is nothing.
func isNothing(p *part) bool {
	return p.code == api.Cat && len(p.parts) == 0
}

// choice is one of parts: of one alone, that; of none, what stands nowhere.
func choice(parts []*part) *part {
	if len(parts) == 1 {
		return parts[0]
	}
	return &part{code: api.Alt, parts: parts, still: allStill(parts)}
}

// allStill says whether none of parts reads a unit.
func allStill(parts []*part) bool {
	return !slices.ContainsFunc(parts, func(p *part) bool { return !p.still })
}

// often is a part that stands lo to hi times, or, hi below 0, any times from lo on.
func often(p *part, lo, hi int) *part {
	switch {
	case hi == 0, p.still && lo == 0:
		return nothing()
	case p.still:
		return p // where it stands, it stands once more
	case p.code == api.Many && (p.lo <= 1 || p.hi < 0 && lo > 0):
		// times of times are one, where no number between is left out by them
		return &part{code: api.Many, parts: p.parts, lo: times(p.lo, lo), hi: times(p.hi, hi)}
	}
	return &part{code: api.Many, parts: []*part{p}, lo: lo, hi: hi}
}

// times are times of times: any (below 0), if one of them is. MaxCode times are too much as well as more of them: they are cut there, lest they wrap round.
func times(a, b int) int {
	if a < 0 || b < 0 {
		return -1
	}
	return min(a*b, api.MaxCode)
}
