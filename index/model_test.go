package index_test

import (
	"testing"

	"islands/api"
	"islands/index"
)

// wild: numbers that are vertices of no index (MaxN is one: the greatest vertex is MaxN - 1).
var wild = []int{-1, -2, api.MaxN, api.MaxN + 1, 255, 256, 1 << 31, -1 << 31, 1 << 32, 1<<63 - 1, -1 << 63}

// model: the graph as a plain table of edges, and who reaches whom as the
// closure of it, so that it shares no way of searching with the program.
type model struct {
	n    int
	edge [api.MaxN][api.MaxN]bool
}

func (m *model) move(u, v int) (there bool) {
	there = !m.edge[u][v]
	m.edge[u][v] = there
	m.edge[v][u] = there
	return there
}

func (m *model) edges() int {
	count := 0
	for u := 0; u < m.n; u++ {
		for v := u + 1; v < m.n; v++ {
			if m.edge[u][v] {
				count++
			}
		}
	}
	return count
}

// labels gives each vertex the least vertex of its component.
func (m *model) labels() []int {
	label := make([]int, m.n)
	for v := range label {
		label[v] = v
	}
	for changed := true; changed; {
		changed = false
		for u := 0; u < m.n; u++ {
			for v := 0; v < m.n; v++ {
				if m.edge[u][v] && label[u] < label[v] {
					label[v] = label[u]
					changed = true
				}
			}
		}
	}
	return label
}

func fresh(t *testing.T, n, seed int) *index.Index {
	t.Helper()
	x, e := index.New(n, seed)
	if x == nil || e != api.OK {
		t.Fatalf("New(%d, %d) = %v, %d", n, seed, x, e)
	}
	return x
}

// move deletes the edge u - v if the model has it, and inserts it if not.
func move(t *testing.T, x *index.Index, m *model, u, v int) {
	t.Helper()
	act(t, x, m.move(u, v), u, v)
}

// act inserts or deletes an edge of which nothing is wrong.
func act(t *testing.T, x *index.Index, insert bool, u, v int) {
	t.Helper()
	if insert {
		if e := x.Insert(u, v); e != api.OK {
			t.Fatalf("Insert(%d, %d) = %d", u, v, e)
		}
		return
	}
	if e := x.Delete(u, v); e != api.OK {
		t.Fatalf("Delete(%d, %d) = %d", u, v, e)
	}
}

// same asks all that P4 answers, and compares it with the model.
func same(t *testing.T, x *index.Index, m *model) {
	t.Helper()
	label := m.labels()
	size := make([]int, m.n)
	components := 0
	for v, l := range label {
		size[l]++
		if v == l {
			components++
		}
	}
	if a, b, c, _ := x.Told(); a != m.n || b != components || c != m.edges() {
		t.Fatalf("Told() = %d, %d, %d, .., want %d, %d, %d", a, b, c, m.n, components, m.edges())
	}
	for u := 0; u < m.n; u++ {
		if s, e := x.Size(u); s != size[label[u]] || e != api.OK {
			t.Fatalf("Size(%d) = %d, %d, want %d", u, s, e, size[label[u]])
		}
		for v := 0; v < m.n; v++ {
			if c, e := x.Connected(u, v); c != (label[u] == label[v]) || e != api.OK {
				t.Fatalf("Connected(%d, %d) = %v, %d", u, v, c, e)
			}
		}
	}
}

// sameEdges asks for each edge by itself whether it is there, and leaves the
// graph as it was.
func sameEdges(t *testing.T, x *index.Index, m *model) {
	t.Helper()
	for u := 0; u < m.n; u++ {
		for v := 0; v < m.n; v++ {
			if u == v {
				continue
			}
			e := x.Insert(u, v)
			if m.edge[u][v] {
				if e != api.ErrThere {
					t.Fatalf("Insert(%d, %d) of an edge that is there = %d", u, v, e)
				}
				continue
			}
			if e != api.OK {
				t.Fatalf("Insert(%d, %d) of an edge that is not there = %d", u, v, e)
			}
			if e := x.Delete(v, u); e != api.OK {
				t.Fatalf("Delete(%d, %d) = %d", v, u, e)
			}
		}
	}
	same(t, x, m)
}

// chance: the same row of numbers in every run.
type chance struct{ state uint64 }

func (c *chance) below(n int) int {
	c.state = c.state*6364136223846793005 + 1442695040888963407
	return int(c.state>>33) % n
}
