package opt

import (
	"slices"

	"caesura/api"
	"caesura/set"
)

// thin makes Splits go fewer ways. Meanwhile refs may become too high, but not too low: ways are handed on, or left out, and none is added.
func (g *graph) thin() {
	refs := g.refs()
	for i, n := range g.nodes {
		if n.op == api.Split {
			g.gather(i, refs)
			g.spare(i)
			g.unite(i, refs)
			g.factor(i, refs)
		}
	}
}

// refs are how often each node is led to.
func (g *graph) refs() []int {
	refs := make([]int, len(g.nodes))
	refs[0] = 1
	for _, n := range g.nodes {
		for _, w := range n.ways {
			refs[w]++
		}
	}
	return refs
}

// gather makes the ways of other Splits a Split's own: of those to which it alone leads, and of those that lead back to it, which then lead there alone. No way is left twice, nor one to itself.
func (g *graph) gather(i int, refs []int) {
	var ways []int
	var add func(l []int)
	add = func(l []int) {
		for _, w := range l {
			switch n := g.nodes[w]; {
			case w == i || slices.Contains(ways, w):
			case n.op == api.Split && refs[w] == 1:
				g.nodes[w].ways = nil
				add(n.ways)
			case n.op == api.Split && slices.Contains(n.ways, i):
				g.nodes[w].ways = []int{i}
				add(n.ways)
			default:
				ways = append(ways, w)
			}
		}
	}
	add(g.nodes[i].ways)
	g.nodes[i].ways = ways
}

// spare leaves out a Split's ways that end nowhere but where others of them do.
func (g *graph) spare(i int) {
	ways := g.nodes[i].ways
	if !slices.ContainsFunc(ways, func(w int) bool { return g.nodes[w].op == api.Split }) {
		return
	}
	times := make([]int, len(g.nodes))
	var ends [][]int
	for _, w := range ways {
		ends = append(ends, g.ends(w, i))
		for _, e := range ends[len(ends)-1] {
			times[e]++
		}
	}
	var kept []int
	for k, w := range ways {
		if slices.ContainsFunc(ends[k], func(e int) bool { return times[e] == 1 }) {
			kept = append(kept, w)
			continue
		}
		for _, e := range ends[k] {
			times[e]--
		}
	}
	g.nodes[i].ways = kept
}

// ends are the nodes, but for Splits, to which a way leads through Splits, one of which it may not go through.
func (g *graph) ends(way, but int) []int {
	met := make([]bool, len(g.nodes))
	met[but] = true
	var out []int
	var meet func(i int)
	meet = func(i int) {
		if met[i] {
			return
		}
		met[i] = true
		if g.nodes[i].op != api.Split {
			out = append(out, i)
			return
		}
		for _, w := range g.nodes[i].ways {
			meet(w)
		}
	}
	meet(way)
	return out
}

// unite makes one of a Split's Takes that go on at one node: it takes what any of them takes. To it nothing else may lead.
func (g *graph) unite(i int, refs []int) {
	var kept []int
	for _, l := range groups(g.nodes[i].ways, func(a, b int) bool { return g.bothTake(a, b) && g.next(a) == g.next(b) }) {
		k := slices.IndexFunc(l, func(w int) bool { return refs[w] == 1 })
		if k < 0 || len(l) == 1 {
			kept = append(kept, l...)
			continue
		}
		var all api.Set
		for _, w := range l {
			all = append(all, g.sets[g.nodes[w].set]...)
		}
		g.nodes[l[k]].set = g.setOf(set.Of(all))
		kept = append(kept, l[k])
	}
	g.nodes[i].ways = kept
}

// factor makes one of a Split's Takes of one set, to which nothing else leads: behind it they part.
func (g *graph) factor(i int, refs []int) {
	var kept []int
	for _, l := range groups(g.nodes[i].ways, func(a, b int) bool {
		return g.bothTake(a, b) && g.nodes[a].set == g.nodes[b].set && refs[a] == 1 && refs[b] == 1
	}) {
		kept = append(kept, l[0])
		if len(l) == 1 {
			continue
		}
		var ways []int
		for _, w := range l {
			ways = append(ways, g.next(w))
		}
		g.nodes[l[1]] = node{op: api.Split, ways: ways}
		g.nodes[l[0]].ways = []int{l[1]}
	}
	g.nodes[i].ways = kept
}

// bothTake says whether two nodes are Takes.
func (g *graph) bothTake(a, b int) bool {
	return g.nodes[a].op == api.Take && g.nodes[b].op == api.Take
}

// next is the node at which a Take goes on.
func (g *graph) next(i int) int {
	return g.nodes[i].ways[0]
}
