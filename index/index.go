// Package index: graphs whose edges come and go: see DOC.md.
package index

import "islands/api"

// Index: of a graph.
type Index struct {
	n int
	// Both ways of an edge are marked, so that a search from either end meets it.
	edge [api.MaxN][api.MaxN]bool
}

// New: of n vertices without edges (P2).
func New(n int, seed int) (*Index, api.Errno) {
	if n < 1 || n > api.MaxN {
		return nil, api.ErrArg
	}
	return &Index{n: n}, api.OK
}

// Load: the index that bytes are (P9, P10). Not built yet.
func Load(s string, seed int) (*Index, api.Errno) { return nil, api.OK }

// Save: all that there is, as bytes (P8). Not built yet.
func (i *Index) Save() string { return "" }

// Insert: an edge comes (P3).
func (i *Index) Insert(u int, v int) api.Errno {
	e := i.checkEnds(u, v)
	if e != api.OK {
		return e
	}
	if i.edge[u][v] {
		return api.ErrThere
	}
	i.setEdge(u, v, true)
	return api.OK
}

// Delete: an edge goes (P3).
func (i *Index) Delete(u int, v int) api.Errno {
	e := i.checkEnds(u, v)
	if e != api.OK {
		return e
	}
	if !i.edge[u][v] {
		return api.ErrNone
	}
	i.setEdge(u, v, false)
	return api.OK
}

// Connected: does a way lead from u to v (P4)?
func (i *Index) Connected(u int, v int) (bool, api.Errno) {
	if !i.isVertex(u) || !i.isVertex(v) {
		return false, api.ErrArg
	}
	reached := i.component(u)
	return contains(reached, v), api.OK
}

// Size: how many vertices v's component has (P4).
func (i *Index) Size(v int) (int, api.Errno) {
	if !i.isVertex(v) {
		return 0, api.ErrArg
	}
	return len(i.component(v)), api.OK
}

// Members: the vertices of v's component, in the order of its tour (P7). Not built yet.
func (i *Index) Members(v int) ([]int, api.Errno) { return nil, api.OK }

// Told: vertices, components, edges, how often an edge has risen (P4, P6).
// The last is 0 until edges have levels.
func (i *Index) Told() (int, int, int, int) {
	if i == nil {
		return 0, 0, 0, 0
	}
	components := i.countComponents()
	edges := i.countEdges()
	return i.n, components, edges, 0
}
