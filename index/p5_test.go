package index_test

import (
	"slices"
	"testing"

	"islands/api"
)

// Which of the ends is named first makes no difference.
func TestP5LinksInTheOrderOfTheTour(t *testing.T) {
	for _, c := range []struct {
		n     int
		moves []int
		v     int
		want  []int
	}{
		{2, []int{0, 1}, 1, []int{0, 1}},
		{2, []int{1, 0}, 0, []int{0, 1}},
		{4, []int{2, 3}, 3, []int{2, 3}},
		{4, []int{2, 3, 0, 3}, 2, []int{0, 3, 2}},
		{4, []int{3, 2, 3, 0}, 2, []int{0, 3, 2}},
		{4, []int{2, 3, 0, 3, 1, 3}, 0, []int{0, 1, 3, 2}},
		{4, []int{2, 3, 0, 3, 3, 1}, 0, []int{0, 1, 3, 2}},
		// The tree that is linked last stands ahead of the vertex that it is linked to.
		{5, []int{0, 1, 0, 2, 0, 3, 0, 4}, 0, []int{0, 1, 2, 3, 4}},
		{5, []int{1, 0, 1, 2, 1, 3, 1, 4}, 0, []int{0, 2, 3, 4, 1}},
		{5, []int{3, 1, 1, 4, 1, 0}, 0, []int{0, 1, 3, 4}},
	} {
		x := moved(t, c.n, c.moves...)
		if l, e := x.Members(c.v); e != api.OK || !slices.Equal(l, c.want) {
			t.Errorf("of %d, moves %v: Members(%d) = %v, %d, want %v", c.n, c.moves, c.v, l, e, c.want)
		}
	}
}

// An edge between two that are connected stays beside the forest: no tour has it.
func TestP5BesideTheForest(t *testing.T) {
	told(t, "a circle of three", moved(t, 3, 0, 1, 1, 2, 2, 0), 2, []int{0, 2, 1}, 0)
	x := moved(t, 6, 0, 1, 1, 2, 2, 3, 3, 4, 4, 5)
	before, _ := x.Members(0)
	for u := 0; u < 6; u++ {
		for v := u + 2; v < 6; v++ {
			if e := x.Insert(v, u); e != api.OK {
				t.Fatalf("Insert(%d, %d) = %d", v, u, e)
			}
			told(t, "a way of six, and more", x, v, before, 0)
		}
	}
}

// The edge 0 - 1 rises, goes, and comes again at level 0: so it rises again.
func TestP5ComesAtLevelNought(t *testing.T) {
	moves := []int{0, 1, 1, 2, 2, 3, 3, 0, 2, 1, 0, 1}
	told(t, "0 - 1 has gone", moved(t, 4, moves...), 3, []int{0, 3, 2}, 1)
	moves = append(moves, 0, 1)
	told(t, "0 - 1 is there again", moved(t, 4, moves...), 1, []int{0, 3, 2, 1}, 1)
	moves = append(moves, 0, 2, 0, 3)
	told(t, "0 - 3 has gone", moved(t, 4, moves...), 3, []int{0, 1, 2, 3}, 2)
}

// Wrong inputs link nothing.
func TestP5RefusedInsertLinksNothing(t *testing.T) {
	s := newLayers(5)
	x := fresh(t, 5, 7)
	for _, w := range [][2]int{{4, 2}, {2, 0}, {0, 4}} {
		moveBoth(t, x, s, w[0], w[1])
	}
	for _, w := range append([]int{5}, wild...) {
		for v := 0; v < 5; v++ {
			x.Insert(v, w)
			x.Insert(w, v)
			x.Insert(v, v)
			alikeInside(t, x, s)
		}
	}
	for ends := range s.edges {
		x.Insert(ends[0], ends[1])
		x.Insert(ends[1], ends[0])
		alike(t, x, s)
	}
}

// Edges come alone, in many orders.
func TestP5ManyInserts(t *testing.T) {
	c := chance{21}
	for _, n := range []int{1, 2, 3, 6, 16, 33, api.MaxN} {
		for round := 0; round < 3; round++ {
			s := newLayers(n)
			x := fresh(t, n, round)
			for k := 0; k < 4*n; k++ {
				u := c.below(n)
				v := c.below(n)
				if _, there := s.edges[key(u, v)]; u != v && !there {
					moveBoth(t, x, s, u, v)
				}
			}
			alikeInside(t, x, s)
		}
	}
}
