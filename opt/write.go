package opt

import (
	"slices"

	"caesura/api"
)

// writer writes a graph as code. Until all is written, instructions lead to numbers of nodes.
type writer struct {
	g     *graph
	ahead []int       // of each node, the one behind which it is written, so that this goes on at it; -1: none
	at    []int       // each node's instruction
	used  map[int]int // the sets that are used: their numbers in code, by those in the graph
	code  api.Code
}

// code is a graph's code.
func (g *graph) code() api.Code {
	g.pair()
	g.trim()
	w := writer{g: g, ahead: g.ahead(), at: make([]int, len(g.nodes)), used: map[int]int{}}
	for i, n := range w.ahead {
		if n < 0 {
			w.write(i)
		}
	}
	for i, in := range w.code.Ins {
		switch in.Op {
		case api.Split:
			w.code.Ins[i].A, w.code.Ins[i].B = w.at[in.A], w.at[in.B]
		case api.Jump:
			w.code.Ins[i].A = w.at[in.A]
		}
	}
	return w.code
}

// pair makes Splits of more than two ways such as have two.
func (g *graph) pair() {
	for i := 0; i < len(g.nodes); i++ {
		if n := g.nodes[i]; n.op == api.Split && len(n.ways) > 2 {
			g.nodes[i].ways = []int{n.ways[0], len(g.nodes)}
			g.nodes = append(g.nodes, node{op: api.Split, ways: n.ways[1:]})
		}
	}
}

// ahead is of each node one that goes on at it, as writer has it. They never go in a round: by Takes alone none comes to Yes.
func (g *graph) ahead() []int {
	ahead := slices.Repeat([]int{-1}, len(g.nodes))
	for i, n := range g.nodes {
		if n.op != api.Take && n.op != api.End {
			continue
		}
		if w := n.ways[0]; w != 0 && ahead[w] < 0 { // the first node is written first
			ahead[w] = i
		}
	}
	return ahead
}

// write writes a node, and what is written behind it.
func (w *writer) write(i int) {
	w.at[i] = len(w.code.Ins)
	n := w.g.nodes[i]
	switch n.op {
	case api.Yes:
		w.put(api.Inst{Op: api.Yes})
		return
	case api.Split:
		w.split(i)
		return
	case api.Take:
		w.put(api.Inst{Op: api.Take, A: w.setOf(n.set)})
	case api.End:
		w.put(api.Inst{Op: api.End})
	}
	switch next := n.ways[0]; {
	case w.ahead[next] == i:
		w.write(next)
	case w.g.nodes[next].op == api.Yes:
		w.put(api.Inst{Op: api.Yes})
	default:
		w.put(api.Inst{Op: api.Jump, A: next})
	}
}

// split writes a Split. Of no ways, it is a jump to itself.
func (w *writer) split(i int) {
	if l := w.g.nodes[i].ways; len(l) > 0 {
		w.put(api.Inst{Op: api.Split, A: l[0], B: l[1]})
	} else {
		w.put(api.Inst{Op: api.Jump, A: i})
	}
}

// put writes an instruction.
func (w *writer) put(in api.Inst) {
	w.code.Ins = append(w.code.Ins, in)
}

// setOf is a set's number in code.
func (w *writer) setOf(number int) int {
	k, ok := w.used[number]
	if !ok {
		k = len(w.code.Sets)
		w.code.Sets = append(w.code.Sets, slices.Clone(w.g.sets[number]))
		w.used[number] = k
	}
	return k
}
