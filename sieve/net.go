package sieve

import (
	"iter"

	"senvy/api"
)

// net is a valid table with how much more can still flow between nodes, to and fro, and marks of the nodes that were last reached.
type net struct {
	table
	rooms map[pair]int64
	marks []bool
}

// laid returns the net of a valid table, in which as much flows as can of what must.
func laid(t api.SieveTable) net {
	n := net{table{t}, map[pair]int64{}, make([]bool, nodes)}
	for e := range n.edges {
		n.widen(e.pair, e.Hi-e.Lo)
		n.widen(pair{spare, e.to}, e.Lo)
		n.widen(pair{e.from, want}, e.Lo)
	}
	again := pair{want, spare}
	n.widen(again, plenty)
	n.fill(again)
	// What must flow stays so: nothing can flow through the spare and the wanted any more.
	n.shut(again)
	return n
}

// settled returns the net of a valid table, if it has a truth.
func settled(t api.SieveTable) (net, api.Errno) {
	n := laid(t)
	if n.flow() == none() {
		return net{}, api.ErrSieve
	}
	return n, api.OK
}

// widen lets more flow between two nodes, or less.
func (n net) widen(p pair, by int64) {
	n.rooms[p] += by
	if n.rooms[p] == 0 {
		delete(n.rooms, p)
	}
}

// shut lets what flows between two nodes stay as it is.
func (n net) shut(p pair) {
	delete(n.rooms, p)
	delete(n.rooms, p.back())
}

// taking is how much can still flow between two nodes.
type taking func(pair) int64

// room is the taking of a net.
func (n net) room(p pair) int64 { return n.rooms[p] }

// without returns a taking in which nothing can flow between two nodes.
func (takes taking) without(p pair) taking {
	return func(other pair) int64 {
		if other == p {
			return 0
		}
		return takes(other)
	}
}

// ways yields a shortest way from a node to each one that can be reached from it, itself first, and marks them.
func (n net) ways(from int, takes taking) iter.Seq[[]int] {
	return func(yield func([]int) bool) {
		clear(n.marks)
		n.marks[from] = true
		for ways := [][]int{{from}}; len(ways) > 0; ways = ways[1:] {
			way := ways[0]
			if !yield(way) {
				return
			}
			last := len(way) - 1
			for next := range n.marks {
				if !n.marks[next] && takes(pair{way[last], next}) > 0 {
					n.marks[next] = true
					// Ways share their beginnings, so each must grow in new memory.
					ways = append(ways, append(way[:last+1:last+1], next))
				}
			}
		}
	}
}

// fill lets as much as can flow from one node to another, and from there by ways back to the first one.
func (n net) fill(p pair) {
	takes := taking(n.room).without(p.back())
search:
	for n.room(p) > 0 {
		for way := range n.ways(p.to, takes) {
			if way[len(way)-1] == p.from {
				n.push(way)
				continue search
			}
		}
		return
	}
}

// push lets as much as can flow along a way, and from its end to its beginning.
func (n net) push(way []int) {
	round := []pair{{way[len(way)-1], way[0]}}
	for i, node := range way[1:] {
		round = append(round, pair{way[i], node})
	}
	narrower := func(one, two pair) bool { return n.room(one) < n.room(two) }
	by := n.room(best(narrower, round[0], round[1:]...))
	for _, p := range round {
		n.widen(p, -by)
		n.widen(p.back(), by)
	}
}

// best returns the first one of several that no other one is better than.
func best[T any](better func(one, two T) bool, first T, others ...T) T {
	top := first
	for _, other := range others {
		if better(other, top) {
			top = other
		}
	}
	return top
}

// amount returns what flows through an edge.
func (n net) amount(e edge) int64 { return e.Lo + n.room(e.back()) }

// span returns the least and the greatest that can flow through an edge of a net that is settled.
func (n net) span(e edge) api.Range {
	n.fill(e.back())
	least := n.amount(e)
	n.fill(e.pair)
	return api.Range{Lo: least, Hi: n.amount(e)}
}

// span returns the same of a valid table, if it has a truth.
func span(t api.SieveTable, e edge) (api.Range, api.Errno) {
	n, err := settled(t)
	if err != api.OK {
		return api.Range{}, err
	}
	return n.span(e), api.OK
}

// proof returns the proof of a net that was just laid, and has no truth.
//
// From what is still spare only the nodes that are marked can be reached, and nothing that is wanted.
// So more must flow into these than can flow out of them.
// The source is marked if and only if the sink is: any amount can flow from the sink to it, and it is reached only from there, or by taking back what came from there.
func (n net) proof() api.SieveProof {
	p := api.SieveProof{Side: api.SieveRows}
	if n.marks[source] {
		p.Side = api.SieveColumns
	}
	for row := range n.Rows {
		if n.marks[firstRow+row] != n.marks[source] {
			p.Rows = append(p.Rows, row)
		}
	}
	for column := range n.Columns {
		if n.marks[firstColumn+column] != n.marks[source] {
			p.Columns = append(p.Columns, column)
		}
	}
	return p
}
