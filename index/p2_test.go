package index_test

import (
	"testing"

	"islands/api"
	"islands/index"
)

func TestP2NoSuchNumberOfVertices(t *testing.T) {
	for _, n := range append([]int{0, 49}, wild...) {
		if n == api.MaxN {
			continue
		}
		if x, e := index.New(n, 7); x != nil || e != api.ErrArg {
			t.Errorf("New(%d, 7) = %v, %d, want nil, ErrArg", n, x, e)
		}
	}
}

func TestP2NewHasVerticesAndNoEdges(t *testing.T) {
	for n := 1; n <= api.MaxN; n++ {
		m := model{n: n}
		x := fresh(t, n, 7)
		if a, b, c, d := x.Told(); a != n || b != n || c != 0 || d != 0 {
			t.Errorf("New(%d, 7): Told() = %d, %d, %d, %d", n, a, b, c, d)
		}
		same(t, x, &m)
		if _, e := x.Size(n); e != api.ErrArg {
			t.Errorf("New(%d, 7): Size(%d) = .., %d", n, n, e)
		}
		for u := 0; u < n; u++ {
			for v := 0; v < n; v++ {
				if e := x.Delete(u, v); u != v && e != api.ErrNone {
					t.Errorf("New(%d, 7): Delete(%d, %d) = %d", n, u, v, e)
				}
			}
		}
	}
}
