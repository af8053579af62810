// Package index: graphs whose edges come and go: see DOC.md.
package index

import (
	"islands/api"
	"islands/frame"
	"islands/tour"
)

// maxLevel: topLevel of api.MaxN, as the length of an array must be a constant.
const maxLevel = 5

// Index: of a graph.
type Index struct {
	n int
	// Both ways of an edge are marked, so that a search from either end meets it.
	edges [api.MaxN][api.MaxN]edge
	// forests[k] is F(k), the edges of the forest whose level is k or more.
	forests [maxLevel + 1]tour.Forest
	// rises: how often an edge has risen.
	rises int
}

// New: of n vertices without edges (P2).
func New(n int, seed int) (*Index, api.Errno) {
	if n < 1 || n > api.MaxN {
		return nil, api.ErrArg
	}
	i := &Index{n: n}
	top := topLevel(n)
	for k := 0; k <= top; k++ {
		i.forests[k].Plant(n)
	}
	return i, api.OK
}

// Load: the index that bytes are (P9, P10).
func Load(s string, seed int) (*Index, api.Errno) {
	if len(s) > api.MaxBytes {
		return nil, api.ErrLong
	}
	if len(s) < len(magic) || s[:len(magic)] != magic {
		return nil, api.ErrMagic
	}
	contents, ok := splitFrames(s[len(magic):])
	if !ok {
		return nil, api.ErrFrame
	}
	i := readVertices(contents[0], seed)
	if i == nil {
		return nil, api.ErrRecord
	}
	ok = i.readEdges(contents[1])
	if !ok {
		return nil, api.ErrRecord
	}
	ok = i.readTours(contents[2])
	if !ok {
		return nil, api.ErrTour
	}
	ok = i.levelsHold()
	if !ok {
		return nil, api.ErrLevel
	}
	return i, api.OK
}

// Save: all that there is, as bytes (P8).
func (i *Index) Save() string {
	// An index without vertices is one that nobody made: it has no bytes.
	if !i.isVertex(0) {
		return ""
	}
	edges := i.edgeNumbers()
	tours := i.tourNumbers()
	saved := magic
	saved += frame.Of([]int{i.n})
	saved += frame.Of(edges)
	saved += frame.Of(tours)
	return saved
}

// Insert: an edge comes (P3, P5).
func (i *Index) Insert(u int, v int) api.Errno {
	e := i.checkEnds(u, v)
	if e != api.OK {
		return e
	}
	if i.edges[u][v].there {
		return api.ErrThere
	}
	if i.joined(u, v, 0) {
		i.setEdge(u, v, edge{there: true})
		return api.OK
	}
	i.plantEdge(u, v, 0)
	return api.OK
}

// Delete: an edge goes (P3, P6).
func (i *Index) Delete(u int, v int) api.Errno {
	e := i.checkEnds(u, v)
	if e != api.OK {
		return e
	}
	gone := i.edges[u][v]
	if !gone.there {
		return api.ErrNone
	}
	i.setEdge(u, v, edge{})
	if gone.forest {
		i.cutEdge(u, v, gone.level)
		i.reconnect(u, v, gone.level)
	}
	return api.OK
}

// Connected: does a way lead from u to v (P4)?
func (i *Index) Connected(u int, v int) (bool, api.Errno) {
	if !i.isVertex(u) || !i.isVertex(v) {
		return false, api.ErrArg
	}
	return i.joined(u, v, 0), api.OK
}

// Size: how many vertices v's component has (P4).
func (i *Index) Size(v int) (int, api.Errno) {
	if !i.isVertex(v) {
		return 0, api.ErrArg
	}
	members := i.vertices(v, 0)
	return len(members), api.OK
}

// Members: the vertices of v's component, in the order of its tour (P7).
func (i *Index) Members(v int) ([]int, api.Errno) {
	if !i.isVertex(v) {
		return nil, api.ErrArg
	}
	return i.vertices(v, 0), api.OK
}

// Told: vertices, components, edges, how often an edge has risen (P4, P6).
func (i *Index) Told() (int, int, int, int) {
	if i == nil {
		return 0, 0, 0, 0
	}
	components := i.forests[0].Trees()
	edges := i.countEdges()
	return i.n, components, edges, i.rises
}
