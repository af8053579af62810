package index_test

import (
	"testing"

	"islands/api"
)

func TestP3Errors(t *testing.T) {
	x := fresh(t, 3, 7)
	for _, c := range []struct {
		insert bool
		u, v   int
		want   api.Errno
	}{
		{true, 0, 3, api.ErrArg},
		{true, 3, 0, api.ErrArg},
		{true, 3, 3, api.ErrArg},
		{true, 1, 1, api.ErrLoop},
		{false, 1, 1, api.ErrLoop},
		{false, 3, 0, api.ErrArg},
		{false, 0, 3, api.ErrArg},
		{false, 0, 1, api.ErrNone},
		{true, 0, 1, api.OK},
		{true, 1, 0, api.ErrThere},
		{true, 0, 1, api.ErrThere},
		{false, 1, 2, api.ErrNone},
		{false, 1, 0, api.OK},
		{false, 0, 1, api.ErrNone},
		{false, 1, 0, api.ErrNone},
		{true, 1, 0, api.OK},
		{false, 0, 1, api.OK},
	} {
		e := api.OK
		if c.insert {
			e = x.Insert(c.u, c.v)
		} else {
			e = x.Delete(c.u, c.v)
		}
		if e != c.want {
			t.Errorf("(insert %v) %d, %d: %d, want %d", c.insert, c.u, c.v, e, c.want)
		}
	}
	if c, e := x.Connected(0, -1); c || e != api.ErrArg {
		t.Errorf("Connected(0, -1) = %v, %d", c, e)
	}
}

func TestP3WildEnds(t *testing.T) {
	for _, n := range []int{1, 3, api.MaxN} {
		x := fresh(t, n, 7)
		for _, w := range append([]int{n}, wild...) {
			if w >= 0 && w < n {
				t.Fatalf("%d is a vertex of %d", w, n)
			}
			for _, e := range []api.Errno{x.Insert(0, w), x.Insert(w, 0), x.Delete(0, w), x.Delete(w, 0), x.Insert(n-1, w), x.Delete(w, n-1)} {
				if e != api.ErrArg {
					t.Errorf("of %d: an edge to %d: %d, want ErrArg", n, w, e)
				}
			}
		}
	}
}

func TestP3EachEdgeComesAndGoesByItself(t *testing.T) {
	m := model{n: 7}
	x := fresh(t, m.n, 7)
	for u := 0; u < m.n; u++ {
		for v := 0; v < u; v++ {
			move(t, x, &m, u, v)
			sameEdges(t, x, &m)
		}
	}
	for u := 0; u < m.n; u++ {
		for v := u + 1; v < m.n; v++ {
			move(t, x, &m, u, v)
			sameEdges(t, x, &m)
		}
	}
}

// The greatest graph: every edge of MaxN vertices.
func TestP3AllEdgesOfTheGreatestGraph(t *testing.T) {
	m := model{n: api.MaxN}
	x := fresh(t, m.n, 7)
	for round := 0; round < 2; round++ {
		for u := 0; u < m.n; u++ {
			for v := u + 1; v < m.n; v++ {
				move(t, x, &m, v, u)
			}
			same(t, x, &m)
		}
	}
	sameEdges(t, x, &m)
}
