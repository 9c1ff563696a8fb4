package opt

import (
	"slices"

	"caesura/api"
	"caesura/set"
)

// node is what code does at a place of it. There are no jumps: a Jump is a Split of one way.
type node struct {
	op   int
	set  int   // what a Take takes: a set's number
	ways []int // the nodes at which it goes on: one of a Take and of an End, none of Yes, any number of a Split (where there is none, it never matches)
}

// graph is code that is made less. It begins at the first node.
type graph struct {
	nodes  []node
	sets   []api.Set
	number map[string]int // each set's, by its text, so that alike sets are one
}

// graphOf is the graph of code: a node of each instruction.
func graphOf(c api.Code) *graph {
	g := &graph{number: map[string]int{}}
	var sets []int
	for _, s := range c.Sets {
		sets = append(sets, g.setOf(s))
	}
	for i, in := range c.Ins {
		n := node{op: in.Op}
		switch in.Op {
		case api.Take:
			n.set, n.ways = sets[in.A], []int{i + 1}
		case api.Split:
			n.ways = []int{in.A, in.B}
		case api.Jump:
			n.op, n.ways = api.Split, []int{in.A}
		case api.End:
			n.ways = []int{i + 1}
		}
		g.nodes = append(g.nodes, n)
	}
	return g
}

// setOf is a set's number. The set is not written into.
func (g *graph) setOf(s api.Set) int {
	text := set.Print(s)
	i, ok := g.number[text]
	if !ok {
		i = len(g.sets)
		g.sets = append(g.sets, s)
		g.number[text] = i
	}
	return i
}

// less makes a graph less. No step makes more of what it is written as: where two nodes become one, one may need a jump to it, that had none, but there is one node less.
func (g *graph) less() *graph {
	g.settle()
	g.trim()
	g.join()
	g.trim()
	g.thin()
	return g
}

// leads says of each node whether it leads to Yes through such nodes alone.
func (g *graph) leads(through func(n node) bool) []bool {
	yes := make([]bool, len(g.nodes))
	for more := true; more; {
		more = false
		for i, n := range slices.Backward(g.nodes) {
			if !yes[i] && (n.op == api.Yes || through(n) && slices.ContainsFunc(n.ways, func(w int) bool { return yes[w] })) {
				yes[i], more = true, true
			}
		}
	}
	return yes
}

// settle makes what always matches Yes, and leaves out ways that never match.
func (g *graph) settle() {
	always := g.leads(func(n node) bool { return n.op == api.Split })
	behindAll := g.leads(func(n node) bool { return n.op != api.Take })
	ever := g.leads(func(n node) bool {
		switch n.op {
		case api.Take:
			return len(g.sets[n.set]) > 0
		case api.End:
			return behindAll[n.ways[0]]
		}
		return true
	})
	if !ever[0] {
		g.nodes = []node{{op: api.Split}}
		return
	}
	yes := slices.Index(always, true)
	for i := range g.nodes {
		n := &g.nodes[i]
		switch {
		case always[i]:
			*n = node{op: api.Yes}
		case n.op == api.End:
			n.ways = []int{yes} // there is no point left: that Yes is reached is all that matters
		case n.op == api.Split:
			n.ways = slices.DeleteFunc(n.ways, func(w int) bool { return !ever[w] })
		}
	}
}

// trim leaves out nodes that are not reached, and Splits of one way. What is left stands in the order in which it is reached.
func (g *graph) trim() {
	var l []node
	number := make([]int, len(g.nodes)) // in l, from 1 on
	var reach func(i int) int
	reach = func(i int) int {
		for n := g.nodes[i]; n.op == api.Split && len(n.ways) == 1; n = g.nodes[i] {
			i = n.ways[0]
		}
		if number[i] == 0 {
			n := g.nodes[i]
			l = append(l, n)
			number[i] = len(l)
			for k, w := range n.ways {
				n.ways[k] = reach(w)
			}
		}
		return number[i] - 1
	}
	reach(0)
	g.nodes = l
}
