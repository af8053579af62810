package index

import "islands/api"

// isVertex is false for all numbers where there is no index, so that the nil
// of a refused New has no vertices instead of a fault.
func (i *Index) isVertex(v int) bool {
	return i != nil && v >= 0 && v < i.n
}

// checkEnds: may there be an edge between u and v?
func (i *Index) checkEnds(u int, v int) api.Errno {
	if !i.isVertex(u) || !i.isVertex(v) {
		return api.ErrArg
	}
	if u == v {
		return api.ErrLoop
	}
	return api.OK
}

// setEdge: u and v are vertices.
func (i *Index) setEdge(u int, v int, there bool) {
	i.edge[u][v] = there
	i.edge[v][u] = there
}

// component lists the vertices of v's component; v is a vertex.
func (i *Index) component(v int) []int {
	var seen [api.MaxN]bool
	seen[v] = true
	found := []int{v}
	// A vertex is listed once alone, so the list that is walked ends.
	for k := 0; k < len(found); k++ {
		u := found[k]
		for w := 0; w < i.n; w++ {
			if i.edge[u][w] && !seen[w] {
				seen[w] = true
				found = append(found, w)
			}
		}
	}
	return found
}

func (i *Index) countComponents() int {
	var seen [api.MaxN]bool
	count := 0
	for v := 0; v < i.n; v++ {
		if seen[v] {
			continue
		}
		count++
		for _, w := range i.component(v) {
			seen[w] = true
		}
	}
	return count
}

func (i *Index) countEdges() int {
	count := 0
	for v := 0; v < i.n; v++ {
		// The lesser end alone counts, as both ways are marked.
		for u := 0; u < v; u++ {
			if i.edge[u][v] {
				count++
			}
		}
	}
	return count
}

func contains(list []int, v int) bool {
	for _, w := range list {
		if w == v {
			return true
		}
	}
	return false
}
