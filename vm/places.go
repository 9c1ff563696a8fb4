package vm

import (
	"slices"

	"caesura/api"
)

// says is, of each place between points, what the first rule that matches there says, or else Else.
func says(p api.Program, points []int) []bool {
	count := len(points)
	turned := slices.Clone(points)
	slices.Reverse(turned)
	said := slices.Repeat([]bool{p.Else}, count+1)
	// from the last rule on, so that the first one has the last word
	for _, r := range slices.Backward(p.Rules) {
		before, after := matching(r.Before, turned), matching(r.After, points)
		for place := range said {
			if before[count-place] && after[place] {
				said[place] = r.Break
			}
		}
	}
	return said
}

// matching is, of each place between points, whether code that is Right matches those behind it. It is worked out from the last place on: which instructions come to Yes hangs on the next place alone, while to run code anew from each place may read the whole text as often as it has places.
func matching(c api.Code, points []int) []bool {
	out := make([]bool, len(points)+1)
	ahead := leadingTo(c.Ins)
	here, next := noneMet(len(c.Ins)), noneMet(len(c.Ins))
	for place := len(points); place >= 0; place-- {
		left := points[place:]
		for i, in := range c.Ins {
			if in.Op == api.Yes || in.Op == api.Take && next.has[i+1] && takes(c, in, left) {
				here.meet(i)
			}
		}
		here.each(func(i int) bool {
			for _, from := range ahead[i] {
				if c.Ins[from].Op != api.End || len(left) == 0 {
					here.meet(from)
				}
			}
			return true
		})
		out[place] = here.has[0]
		here, next = next, here
		here.forget()
	}
	return out
}

// leadingTo are, of each instruction, those by which it is met at the same point.
func leadingTo(ins []api.Inst) [][]int {
	out := make([][]int, len(ins))
	for i, in := range ins {
		switch in.Op {
		case api.Split:
			out[in.A] = append(out[in.A], i)
			out[in.B] = append(out[in.B], i)
		case api.Jump:
			out[in.A] = append(out[in.A], i)
		case api.End:
			out[i+1] = append(out[i+1], i)
		}
	}
	return out
}
