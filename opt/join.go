package opt

import "slices"

// classes are nodes that are taken to be alike, until they are told apart.
type classes struct {
	of      []int   // each node's class
	members [][]int // each class's nodes, rising
	ahead   [][]int // each node's: those that lead to it
}

// join makes alike nodes one: such as do the same, and lead to alike ones. Only in this way, from few classes on to more of them, are loops found alike.
func (g *graph) join() {
	c := g.classes()
	todo := make([]int, len(c.members))
	for k := range todo {
		todo[k] = k
	}
	for ; len(todo) > 0; todo = todo[1:] {
		todo = append(todo, c.tellApart(todo[0])...)
	}
	for _, n := range g.nodes {
		for k, w := range n.ways {
			n.ways[k] = c.members[c.of[w]][0]
		}
	}
}

// classes are nodes in classes by what they do, wherever they lead to.
func (g *graph) classes() *classes {
	c := &classes{of: make([]int, len(g.nodes)), ahead: make([][]int, len(g.nodes))}
	var all []int
	for i, n := range g.nodes {
		all = append(all, i)
		for _, w := range n.ways {
			c.ahead[w] = append(c.ahead[w], i)
		}
	}
	c.members = groups(all, func(a, b int) bool { return g.nodes[a].op == g.nodes[b].op && g.nodes[a].set == g.nodes[b].set })
	for k, l := range c.members {
		for _, i := range l {
			c.of[i] = k
		}
	}
	return c
}

// tellApart parts the classes of which some nodes lead into a class, and others don't. It tells which classes are new, or have less in them.
func (c *classes) tellApart(into int) []int {
	leads, count := make([]bool, len(c.of)), make([]int, len(c.members))
	for _, i := range c.members[into] {
		for _, j := range c.ahead[i] {
			if !leads[j] {
				leads[j] = true
				count[c.of[j]]++
			}
		}
	}
	var changed []int
	for k, n := range count {
		if n > 0 && n < len(c.members[k]) {
			changed = append(changed, k, len(c.members))
			c.part(k, leads)
		}
	}
	return changed
}

// part parts a class: those that lead somewhere, and the others.
func (c *classes) part(k int, leads []bool) {
	var l []int
	for _, i := range c.members[k] {
		if leads[i] {
			c.of[i] = len(c.members)
			l = append(l, i)
		}
	}
	c.members[k] = slices.DeleteFunc(c.members[k], func(i int) bool { return leads[i] })
	c.members = append(c.members, l)
}

// groups are numbers in groups, each of such as are alike its first one.
func groups(l []int, alike func(a, b int) bool) [][]int {
	var out [][]int
	for _, i := range l {
		k := slices.IndexFunc(out, func(group []int) bool { return alike(group[0], i) })
		if k < 0 {
			k = len(out)
			out = append(out, nil)
		}
		out[k] = append(out[k], i)
	}
	return out
}
