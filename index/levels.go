package index

import (
	"islands/api"
	"islands/tour"
)

// topLevel: the greatest whole number L with 2^L at most n; n is from 1 to api.MaxN.
func topLevel(n int) int {
	top := 0
	for power := 2; power <= n; power *= 2 {
		top++
	}
	return top
}

// plantEdge: the edge u - v becomes of the forest at a level. In F(0) to that
// of the level its ends are in two trees.
func (i *Index) plantEdge(u int, v int, level int) {
	i.setEdge(u, v, edge{there: true, forest: true, level: level})
	for k := 0; k <= level; k++ {
		i.forests[k].Link(u, v)
	}
}

// cutEdge: the edge u - v of the forest goes out of all of F(0) to that of its level.
func (i *Index) cutEdge(u int, v int, level int) {
	for k := 0; k <= level; k++ {
		i.forests[k].Cut(u, v)
	}
}

// reconnect looks for an edge in the place of u - v, which had the level and
// has been cut.
func (i *Index) reconnect(u int, v int, level int) {
	for k := level; k >= 0; k-- {
		half := i.lesserHalf(u, v, k)
		i.raiseForest(half, k)
		found := i.searchHalf(half, k)
		if found {
			return
		}
	}
}

// lesserHalf: the tour of the one of the trees of u and v in F(level) that has
// fewer vertices; of two that have as many, that of the lesser end.
func (i *Index) lesserHalf(u int, v int, level int) []tour.Item {
	ofU := i.forests[level].Round(u)
	ofV := i.forests[level].Round(v)
	// Of more vertices the round is longer, so the lengths tell which are fewer.
	if len(ofU) < len(ofV) || len(ofU) == len(ofV) && u < v {
		return ofU
	}
	return ofV
}

// raiseForest: the half's edges of the forest rise from the level. There is a
// level above it, as a half that has an edge has at least two vertices, and at
// most n / 2^(level + 1).
func (i *Index) raiseForest(half []tour.Item, level int) {
	for _, way := range half {
		// Of the two ways of an edge one is met; a vertex is none.
		if way.From >= way.To || i.edges[way.From][way.To].level != level {
			continue
		}
		i.setEdge(way.From, way.To, edge{there: true, forest: true, level: level + 1})
		i.forests[level+1].Link(way.From, way.To)
		i.rises++
	}
}

// searchHalf: is an edge found beside the forest that leads out of the half?
func (i *Index) searchHalf(half []tour.Item, level int) bool {
	members := tour.Vertices(half)
	var inside [api.MaxN]bool
	for _, x := range members {
		inside[x] = true
	}
	for _, x := range members {
		found := i.searchVertex(x, level, inside)
		if found {
			return true
		}
	}
	return false
}

// searchVertex: is an edge found at x that leads out of the half, whose
// vertices are marked as inside? What leads to another vertex of it rises.
func (i *Index) searchVertex(x int, level int, inside [api.MaxN]bool) bool {
	for y := 0; y < i.n; y++ {
		e := i.edges[x][y]
		if !e.there || e.forest || e.level != level {
			continue
		}
		if !inside[y] {
			i.plantEdge(x, y, level)
			return true
		}
		i.setEdge(x, y, edge{there: true, level: level + 1})
		i.rises++
	}
	return false
}
