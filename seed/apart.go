package seed

import (
	"slices"

	"stadion/api"
)

// Apart returns ranked heats with the least number of pairs of one club in one heat.
//
// The heats are colours of the edges of a graph: each entrant is an edge from its ranked group to a part of its club, where a part has as many athletes as there are heats, but for the last one of a club. If the edges of a node have different colours, then the heats are ranked, and each heat has one athlete of each whole part and at most one of the last one: the clubs are spread evenly. So many colours always suffice, as the graph has two sides, and no node has more edges.
func Apart(l []Entrant, heats, key int) ([][]int, api.Errno) {
	order, e := orderInHeats(l, heats, key)
	if e != api.OK {
		return nil, e
	}
	g := graph{colours: map[node]*colours{}}
	members := map[string]int{}
	for rank, x := range order {
		club := l[x].Club
		g.add(edge{x, node{"", rank / heats}, node{club, members[club] / heats}})
		members[club]++
	}
	apart := make([][]int, heats)
	for group := range (len(l) + heats - 1) / heats {
		for heat, at := range g.at(node{"", group})[:heats] {
			if at != nobody {
				apart[heat] = append(apart[heat], g.edges[at].entrant)
			}
		}
	}
	return apart, api.OK
}

// node is a ranked group (of no club), or a part of a club.
type node struct {
	club   string
	number int
}

// edge is an entrant of a group, and of a part of a club.
type edge struct {
	entrant int
	group   node
	part    node
}

// colours are the numbers of the edges of a node that have the colours, or nobody.
type colours [api.MaxHeats]int

const nobody = -1

type graph struct {
	edges   []edge
	colours map[node]*colours
}

// at returns the colours at a node.
func (g *graph) at(n node) *colours {
	c, found := g.colours[n]
	if !found {
		c = new(colours)
		for i := range c {
			c[i] = nobody
		}
		g.colours[n] = c
	}
	return c
}

// free returns the first colour that no edge of a node has.
func (g *graph) free(n node) int {
	return slices.Index(g.at(n)[:], nobody)
}

// add adds an edge, and gives it a colour.
func (g *graph) add(x edge) {
	colour := g.free(x.group)
	g.exchange(x.part, colour, g.free(x.part))
	g.at(x.group)[colour] = len(g.edges)
	g.at(x.part)[colour] = len(g.edges)
	g.edges = append(g.edges, x)
}

// exchange makes the colour a free at a part of a club where b is free, by exchanging both along the way from there on which they take turns. The way comes to groups by a alone, so it does not touch a group where a is free.
func (g *graph) exchange(from node, a, b int) {
way:
	for {
		for _, colour := range [2]int{a, b} {
			c := g.at(from)
			next := c[colour]
			c[a], c[b] = c[b], c[a]
			if next == nobody {
				break way
			}
			from = g.edges[next].other(from)
		}
	}
}

// other returns the node of an edge that is not the given one.
func (x edge) other(n node) node {
	if n == x.group {
		return x.part
	}
	return x.group
}
