package index_test

import (
	"testing"

	"islands/api"
)

func TestP4NoSuchVertex(t *testing.T) {
	for _, n := range []int{1, 3, api.MaxN} {
		x := fresh(t, n, 7)
		for _, w := range append([]int{n}, wild...) {
			if c, e := x.Connected(0, w); c || e != api.ErrArg {
				t.Errorf("of %d: Connected(0, %d) = %v, %d", n, w, c, e)
			}
			if c, e := x.Connected(w, 0); c || e != api.ErrArg {
				t.Errorf("of %d: Connected(%d, 0) = %v, %d", n, w, c, e)
			}
			if c, e := x.Connected(w, w); c || e != api.ErrArg {
				t.Errorf("of %d: Connected(%d, %d) = %v, %d", n, w, w, c, e)
			}
			if s, e := x.Size(w); s != 0 || e != api.ErrArg {
				t.Errorf("of %d: Size(%d) = %d, %d", n, w, s, e)
			}
		}
	}
}

// The document's examples 1 to 7: the first three numbers of Told.
func TestP4Examples(t *testing.T) {
	for k, c := range []struct {
		n                 int
		moves             [][2]int
		components, edges int
	}{
		{1, nil, 1, 0},
		{3, [][2]int{{0, 1}, {1, 2}, {2, 0}}, 1, 3},
		{4, [][2]int{{0, 1}, {1, 2}, {2, 3}, {3, 0}, {2, 1}}, 1, 3},
		{5, [][2]int{{3, 1}, {1, 4}, {1, 0}}, 2, 3},
		{6, [][2]int{{0, 1}, {1, 2}, {2, 0}, {2, 3}, {3, 4}, {4, 5}, {5, 3}, {2, 3}}, 2, 6},
		{8, [][2]int{{0, 1}, {1, 2}, {2, 3}, {3, 0}, {0, 2}, {1, 3}, {4, 5}, {5, 6}, {6, 7}, {7, 4}, {0, 4}, {0, 1}, {2, 3}}, 1, 9},
		{8, [][2]int{{0, 1}, {0, 2}, {0, 3}, {1, 2}, {2, 3}, {4, 5}, {0, 4}, {0, 1}, {0, 2}, {0, 3}}, 4, 4},
	} {
		m := model{n: c.n}
		x := fresh(t, c.n, 7)
		for _, w := range c.moves {
			move(t, x, &m, w[0], w[1])
		}
		if n, components, edges, _ := x.Told(); n != c.n || components != c.components || edges != c.edges {
			t.Errorf("example %d: Told() = %d, %d, %d, .., want %d, %d, %d", k+1, n, components, edges, c.n, c.components, c.edges)
		}
		same(t, x, &m)
		switch k + 1 {
		case 4:
			if s, e := x.Size(2); s != 1 || e != api.OK {
				t.Errorf("example 4: Size(2) = %d, %d", s, e)
			}
		case 5:
			if c, e := x.Connected(0, 5); c || e != api.OK {
				t.Errorf("example 5: Connected(0, 5) = %v, %d", c, e)
			}
		case 7:
			if s, e := x.Size(0); s != 3 || e != api.OK {
				t.Errorf("example 7: Size(0) = %d, %d", s, e)
			}
		}
	}
}

// Every graph of up to five vertices, each got from the one ahead of it by a
// move of one edge.
func TestP4EverySmallGraph(t *testing.T) {
	for n := 1; n <= 5; n++ {
		var pairs [][2]int
		for u := 0; u < n; u++ {
			for v := u + 1; v < n; v++ {
				pairs = append(pairs, [2]int{u, v})
			}
		}
		m := model{n: n}
		x := fresh(t, n, 7)
		for k := 1; k < 1<<len(pairs); k++ {
			turned := 0
			for k>>turned&1 == 0 {
				turned++
			}
			move(t, x, &m, pairs[turned][0], pairs[turned][1])
			same(t, x, &m)
		}
	}
}

// One way through all vertices is the longest that a search can meet.
func TestP4LongWay(t *testing.T) {
	m := model{n: api.MaxN}
	x := fresh(t, m.n, 7)
	for k := 0; k < 2; k++ {
		for v := m.n - 1; v > 0; v-- {
			move(t, x, &m, v, v-1)
			same(t, x, &m)
		}
	}
}

func TestP4ManyMoves(t *testing.T) {
	c := chance{3}
	for _, n := range []int{2, 7, 8, 31, 32, 33, 47, 48} {
		m := model{n: n}
		x := fresh(t, n, 7)
		for k := 0; k < 300; k++ {
			u := c.below(n)
			v := c.below(n)
			if k/60%2 == 1 {
				v = (u + 1) % n
			}
			if u != v {
				move(t, x, &m, u, v)
			}
			if n < 10 || k%7 == 0 {
				same(t, x, &m)
			}
		}
		sameEdges(t, x, &m)
	}
}
