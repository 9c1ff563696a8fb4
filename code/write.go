package code

import (
	"slices"

	"caesura/api"
)

// writer writes instructions, one behind another. Parts go on behind their last one.
type writer struct {
	code api.Code
}

// here is the number of the next instruction.
func (w *writer) here() int {
	return len(w.code.Ins)
}

// put writes an instruction, and tells its number. ErrLimit is thrown.
func (w *writer) put(in api.Inst) int {
	if w.here() == api.MaxCode {
		panic(api.ErrLimit)
	}
	w.code.Ins = append(w.code.Ins, in)
	return w.here() - 1
}

// write writes a part.
func (w *writer) write(p *part) {
	switch p.code {
	case api.One:
		w.take(p.set)
	case api.Edge:
		w.put(api.Inst{Op: api.End})
	case api.Cat:
		for _, q := range p.parts {
			w.write(q)
		}
	case api.Alt:
		w.alt(p.parts)
	case api.Many:
		w.many(p)
	}
}

// take writes what takes a unit of a set.
func (w *writer) take(s api.Set) {
	i := slices.IndexFunc(w.code.Sets, func(t api.Set) bool { return slices.Equal(s, t) })
	if i < 0 {
		i = len(w.code.Sets)
		w.code.Sets = append(w.code.Sets, s)
	}
	w.put(api.Inst{Op: api.Take, A: i})
}

// alt writes a choice. All but the last one end with a jump behind that.
func (w *writer) alt(parts []*part) {
	if len(parts) == 0 {
		w.take(nil) // there is no unit of it, so that nothing goes on
		return
	}
	last := len(parts) - 1
	var jumps []int
	for _, p := range parts[:last] {
		split := w.put(api.Inst{Op: api.Split, A: w.here() + 1})
		w.write(p)
		jumps = append(jumps, w.put(api.Inst{Op: api.Jump}))
		w.code.Ins[split].B = w.here()
	}
	w.write(parts[last])
	for _, i := range jumps {
		w.code.Ins[i].A = w.here()
	}
}

// many writes a part so often as it must stand, and then so often as it may.
func (w *writer) many(p *part) {
	last := w.here()
	for range p.lo {
		last = w.here()
		w.write(p.parts[0])
	}
	switch {
	case p.hi >= 0:
		w.atMost(p.parts[0], p.hi-p.lo)
	case p.lo > 0:
		w.put(api.Inst{Op: api.Split, A: last, B: w.here() + 1})
	default:
		w.anyTimes(p.parts[0])
	}
}

// atMost writes a part that may stand so often, or less.
func (w *writer) atMost(p *part, times int) {
	var splits []int
	for range times {
		splits = append(splits, w.put(api.Inst{Op: api.Split, A: w.here() + 1}))
		w.write(p)
	}
	for _, i := range splits {
		w.code.Ins[i].B = w.here()
	}
}

// anyTimes writes a part that may stand any times, or not at all.
func (w *writer) anyTimes(p *part) {
	split := w.put(api.Inst{Op: api.Split, A: w.here() + 1})
	w.write(p)
	w.put(api.Inst{Op: api.Jump, A: split})
	w.code.Ins[split].B = w.here()
}
