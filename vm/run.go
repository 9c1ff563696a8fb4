package vm

import (
	"caesura/api"
	"caesura/set"
)

// met are the instructions that were met at a point.
type met struct {
	order []int  // in which they were met, each once
	has   []bool // of each instruction, whether it was met
}

// noneMet is met of code of so many instructions, before any was met.
func noneMet(count int) *met {
	return &met{has: make([]bool, count)}
}

// meet meets an instruction, unless it was met already.
func (m *met) meet(i int) {
	if !m.has[i] {
		m.has[i] = true
		m.order = append(m.order, i)
	}
}

// forget makes met what it was before any was met.
func (m *met) forget() {
	for _, i := range m.order {
		m.has[i] = false
	}
	m.order = m.order[:0]
}

// each has instructions looked at, in the order in which they were met, also those that are met meanwhile, as long as look says that it goes on; it tells how many were looked at.
func (m *met) each(look func(i int) bool) int {
	for n := 0; n < len(m.order); n++ {
		if !look(m.order[n]) {
			return n + 1
		}
	}
	return len(m.order)
}

// run runs code that is Right over points: whether it matches, and how many instructions were looked at.
func run(c api.Code, points []int) (bool, int) {
	here, next := noneMet(len(c.Ins)), noneMet(len(c.Ins))
	here.meet(0)
	yes, looked := false, 0
	// it ends behind all points at the latest: nothing is taken there, so that none is met at a next one
	for place := 0; !yes && len(here.order) > 0; place++ {
		left := points[place:]
		looked += here.each(func(i int) bool {
			in := c.Ins[i]
			switch in.Op {
			case api.Take:
				if takes(c, in, left) {
					next.meet(i + 1)
				}
			case api.Split:
				here.meet(in.A)
				here.meet(in.B)
			case api.Jump:
				here.meet(in.A)
			case api.End:
				if len(left) == 0 {
					here.meet(i + 1)
				}
			case api.Yes:
				yes = true
			}
			return !yes
		})
		here, next = next, here
		next.forget()
	}
	return yes, looked
}

// takes says whether a Take takes the first one of the points that are left, if there is any.
func takes(c api.Code, in api.Inst, left []int) bool {
	return len(left) > 0 && set.Has(c.Sets[in.A], left[0])
}
