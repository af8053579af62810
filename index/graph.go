package index

import (
	"islands/api"
	"islands/tour"
)

// edge: what is known of one; the zero value stands where there is none.
type edge struct {
	there  bool
	forest bool
	level  int
}

// isVertex is false for all numbers where there is no index, so that the nil
// of a refused New has no vertices instead of a fault.
func (i *Index) isVertex(v int) bool {
	return i != nil && v >= 0 && v < i.n
}

// checkEnds: may there be an edge between u and v?
func (i *Index) checkEnds(u int, v int) api.Errno {
	if !i.isVertex(u) || !i.isVertex(v) {
		return api.ErrArg
	}
	if u == v {
		return api.ErrLoop
	}
	return api.OK
}

// setEdge: u and v are vertices.
func (i *Index) setEdge(u int, v int, e edge) {
	i.edges[u][v] = e
	i.edges[v][u] = e
}

func (i *Index) countEdges() int {
	count := 0
	for v := 0; v < i.n; v++ {
		// The lesser end alone counts, as both ways are marked.
		for u := 0; u < v; u++ {
			if i.edges[u][v].there {
				count++
			}
		}
	}
	return count
}

// joined: are u and v in one tree of F(level)? F(0) connects what the graph connects.
func (i *Index) joined(u int, v int, level int) bool {
	least := i.forests[level].Least(u)
	return least == i.forests[level].Least(v)
}

// vertices lists those of v's tree in F(level) in the order of its tour from
// the least on. The list is fresh.
func (i *Index) vertices(v int, level int) []int {
	round := i.forests[level].Round(v)
	return tour.Vertices(round)
}
