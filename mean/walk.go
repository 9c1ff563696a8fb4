package mean

import (
	"slices"

	"caesura/api"
	"caesura/check"
	"caesura/set"
)

// walk goes through a text by patterns, from many places at once: from where they begin to where they end, or from where they end to where they begin.
type walk struct {
	units []api.Unit
	names map[string]api.Set
	count int    // of places
	ends  bool   // goes to where patterns end
	all   places // all units, by their numbers
	edge  places // where Edge stands
}

// path is a pattern made ready for a walk.
type path struct {
	code   int
	units  places  // that One or Any may take, by their numbers
	parts  []*path // in the order in which they are gone through
	lo, hi int
	asked  int      // how often a Many was asked
	known  []places // where a Many goes from each place, as far as it is known
}

// standing are the places at which a pattern Stands. Those ahead of which it stands are where it ends, from wherever it begins: all of them are found at once, while to look back from each would take as long for every single one.
func standing(x *api.Pattern, names map[string]api.Set, l []api.Unit, back bool) places {
	w := walk{units: l, names: names, count: len(l) + 1, ends: back}
	edge := len(l)
	if back {
		edge = 0
	}
	w.all = which(w.count, func(i int) bool { return i < len(l) })
	w.edge = which(w.count, func(i int) bool { return i == edge })
	everywhere := which(w.count, func(int) bool { return true })
	return w.from(w.ready(x), everywhere)
}

// ready makes a pattern ready. What is none stands nowhere.
func (w *walk) ready(x *api.Pattern) *path {
	if x == nil {
		return &path{}
	}
	p := &path{code: x.Code, lo: x.Lo, hi: x.Hi}
	switch x.Code {
	case api.One:
		p.units = w.unitsOf(x.Kind)
	case api.Any:
		p.units = w.all
	case api.Cat, api.Alt, api.Many:
		for _, part := range x.Parts {
			p.parts = append(p.parts, w.ready(part))
		}
		if !w.ends {
			slices.Reverse(p.parts)
		}
	}
	return p
}

// unitsOf are the units, by their numbers, whose Points are in a kind.
func (w *walk) unitsOf(k *api.Kind) places {
	s, err := check.Kind(k, w.names)
	if err != nil {
		return nowhere(w.count)
	}
	return which(w.count, func(i int) bool { return w.all.has(i) && set.Has(s, w.units[i].Point) })
}

// from are the places to which a pattern goes from some.
func (w *walk) from(p *path, s places) places {
	if s.none() {
		return s
	}
	switch p.code {
	case api.One, api.Any:
		return w.over(p.units, s)
	case api.Edge:
		return s.and(w.edge)
	case api.Cat:
		return w.through(p.parts, s)
	case api.Alt:
		out := nowhere(w.count)
		for _, part := range p.parts {
			out = out.or(w.from(part, s))
		}
		return out
	case api.Many:
		return w.many(p, s)
	}
	return nowhere(w.count)
}

// over goes over one of some units: the unit behind a place has the place's number.
func (w *walk) over(units, s places) places {
	if w.ends {
		return s.and(units).up()
	}
	return s.down().and(units)
}

// through goes through parts, one from where the one before has gone to.
func (w *walk) through(parts []*path, s places) places {
	for _, part := range parts {
		s = w.from(part, s)
	}
	return s
}

// many goes so often as a Many may. One that lies in others may be asked again and again, with each of them more often by far: once it was asked more often than there are places, it is worked out place by place, once each, so that the walk ends soon however deep they lie.
func (w *walk) many(p *path, s places) places {
	p.asked++
	if p.asked <= w.count {
		return w.repeat(p, s)
	}
	if p.known == nil {
		p.known = make([]places, w.count)
	}
	out := nowhere(w.count)
	for place := range s.each() {
		if p.known[place] == nil {
			p.known[place] = w.repeat(p, which(w.count, func(i int) bool { return i == place }))
		}
		out = out.or(p.known[place])
	}
	return out
}

// repeat goes through the only Part of a Many Lo times, and on, up to Hi times, as long as there is a place that is new.
func (w *walk) repeat(p *path, s places) places {
	for range p.lo {
		next := w.through(p.parts, s)
		if slices.Equal(next, s) {
			break // and once more is the same again
		}
		s = next
	}
	all, fresh := s, s
	for n := p.lo; (p.hi < 0 || n < p.hi) && !fresh.none(); n++ {
		fresh = w.through(p.parts, fresh).less(all)
		all = all.or(fresh)
	}
	return all
}
