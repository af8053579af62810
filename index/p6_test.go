package index_test

import (
	"slices"
	"testing"

	"islands/api"
	"islands/index"
)

// The document's examples 1 to 7: the rises, and a list of members.
func TestP6Examples(t *testing.T) {
	told(t, "example 1", moved(t, 1), 0, []int{0}, 0)
	told(t, "example 2", moved(t, 3, 0, 1, 1, 2, 2, 0), 2, []int{0, 2, 1}, 0)
	told(t, "example 3", moved(t, 4, 0, 1, 1, 2, 2, 3, 3, 0, 2, 1), 3, []int{0, 1, 3, 2}, 1)
	told(t, "example 4", moved(t, 5, 3, 1, 1, 4, 1, 0), 0, []int{0, 1, 3, 4}, 0)
	told(t, "example 5", moved(t, 6, 0, 1, 1, 2, 2, 0, 2, 3, 3, 4, 4, 5, 5, 3, 2, 3), 4, []int{3, 5, 4}, 3)
	told(t, "example 6", moved(t, 8, 0, 1, 1, 2, 2, 3, 3, 0, 0, 2, 1, 3, 4, 5, 5, 6, 6, 7, 7, 4, 0, 4, 0, 1, 2, 3), 7, []int{0, 4, 7, 6, 5, 1, 2, 3}, 3)
	told(t, "example 7", moved(t, 8, 0, 1, 0, 2, 0, 3, 1, 2, 2, 3, 4, 5, 0, 4, 0, 1, 0, 2, 0, 3), 3, []int{1, 3, 2}, 3)
}

// The tours in which examples 3 and 5 end, as their bytes have them.
func TestP6ToursOfExamples(t *testing.T) {
	for _, c := range []struct {
		n        int
		moves    []int
		level, v int
		want     [][2]int
	}{
		{4, []int{0, 1, 1, 2, 2, 3, 3, 0, 2, 1}, 0, 2, [][2]int{{0, 0}, {0, 1}, {1, 1}, {1, 0}, {0, 3}, {3, 3}, {3, 2}, {2, 2}, {2, 3}, {3, 0}}},
		{4, []int{0, 1, 1, 2, 2, 3, 3, 0, 2, 1}, 1, 1, [][2]int{{0, 0}, {0, 1}, {1, 1}, {1, 0}}},
		{4, []int{0, 1, 1, 2, 2, 3, 3, 0, 2, 1}, 1, 2, [][2]int{{2, 2}}},
		{6, []int{0, 1, 1, 2, 2, 0, 2, 3, 3, 4, 4, 5, 5, 3, 2, 3}, 0, 4, [][2]int{{3, 3}, {3, 4}, {4, 5}, {5, 5}, {5, 4}, {4, 4}, {4, 3}}},
		{6, []int{0, 1, 1, 2, 2, 0, 2, 3, 3, 4, 4, 5, 5, 3, 2, 3}, 1, 1, [][2]int{{0, 0}, {0, 1}, {1, 2}, {2, 2}, {2, 1}, {1, 1}, {1, 0}}},
		{6, []int{0, 1, 1, 2, 2, 0, 2, 3, 3, 4, 4, 5, 5, 3, 2, 3}, 1, 4, [][2]int{{4, 4}}},
	} {
		x := moved(t, c.n, c.moves...)
		if got := x.TourAt(c.level, c.v); !slices.Equal(got, c.want) {
			t.Errorf("of %d: %d's tour in F(%d) is %v, want %v", c.n, c.v, c.level, got, c.want)
		}
	}
}

func TestP6BesideTheForestNothingElseChanges(t *testing.T) {
	s := newLayers(9)
	x := fresh(t, 9, 7)
	for u := 0; u < 9; u++ {
		for v := u + 1; v < 9; v++ {
			moveBoth(t, x, s, u, v)
		}
	}
	// The forest is the star around 0, which came first.
	before, _ := x.Members(0)
	for u := 1; u < 9; u++ {
		for v := u + 1; v < 9; v++ {
			if e := x.Delete(v, u); e != api.OK {
				t.Fatalf("Delete(%d, %d) = %d", v, u, e)
			}
			told(t, "beside a star", x, u, before, 0)
		}
	}
}

// The half that is searched is told by the edges that rise.
func TestP6LesserHalf(t *testing.T) {
	way := []int{0, 1, 1, 2, 2, 3, 0, 3}
	told(t, "v's half is lesser", moved(t, 8, append(way, 2, 3)...), 3, []int{0, 2, 1, 3}, 0)
	told(t, "u's half is lesser", moved(t, 8, append(way, 0, 1)...), 3, []int{0, 3, 2, 1}, 0)
	// Of two that are as great u's is searched, whichever end is named first.
	told(t, "halves of one size", moved(t, 8, append(way, 1, 2)...), 3, []int{0, 1, 3, 2}, 1)
	told(t, "halves of one size", moved(t, 8, append(way, 2, 1)...), 3, []int{0, 1, 3, 2}, 1)
	// 4 - 5 and 4 - 6 are in the half of the greater end; 0 - 1 is in the lesser end's.
	told(t, "three and two", moved(t, 8, 0, 1, 4, 5, 4, 6, 1, 4, 1, 4), 6, []int{4, 5, 6}, 1)
	told(t, "three and three", moved(t, 8, 0, 1, 0, 2, 4, 5, 4, 6, 2, 4, 2, 4), 6, []int{4, 5, 6}, 2)
}

// Of several edges that lead out of the half the first is found.
func TestP6FirstIsFound(t *testing.T) {
	// The halves are {0, 1} and {2, 3}: 0 stands ahead of 1, and 2 below 3.
	told(t, "0 - 2 ahead of 0 - 3", moved(t, 4, 0, 1, 1, 2, 2, 3, 0, 3, 0, 2, 1, 2), 0, []int{0, 1, 2, 3}, 1)
	told(t, "0 - 3 ahead of 1 - 3", moved(t, 4, 0, 1, 1, 2, 2, 3, 1, 3, 0, 3, 1, 2), 0, []int{0, 1, 3, 2}, 1)
	// The tour of the lesser half is 0 2 1: 2 - 5 is found ahead of 1 - 3.
	told(t, "2 ahead of 1", moved(t, 6, 0, 2, 0, 1, 3, 4, 3, 5, 0, 3, 1, 3, 2, 5, 0, 3), 0, []int{0, 5, 3, 4, 2, 1}, 2)
}

// An edge within the half is met from both ends and rises once; it rises no
// more than once in a Delete at one level, and is there still.
func TestP6BesideRisesOnce(t *testing.T) {
	// A circle of three and one of four, joined by 0 - 4.
	moves := []int{0, 1, 1, 2, 2, 0, 4, 5, 5, 6, 6, 7, 7, 4, 0, 4}
	x := moved(t, 8, append(moves, 0, 4)...)
	told(t, "the halves fall apart", x, 1, []int{0, 2, 1}, 3)
	told(t, "the halves fall apart", x, 4, []int{4, 7, 6, 5}, 3)
	// Joined and cut again, nothing of the lesser half has level 0.
	x = moved(t, 8, append(moves, 0, 4, 0, 4, 0, 4)...)
	told(t, "a second time", x, 1, []int{0, 2, 1}, 3)
	// 0 - 2 was beside the forest; at level 1 it takes the place of 0 - 1, and
	// nothing rises, as 0 is alone.
	x = moved(t, 8, append(moves, 0, 4, 0, 1)...)
	told(t, "found at level 1", x, 1, []int{0, 2, 1}, 3)
}

func TestP6RefusedDeleteChangesNothing(t *testing.T) {
	s := newLayers(6)
	x := fresh(t, 6, 7)
	for _, w := range [][2]int{{0, 1}, {1, 2}, {2, 0}, {2, 3}, {3, 4}, {0, 4}, {2, 3}} {
		moveBoth(t, x, s, w[0], w[1])
	}
	for u := 0; u < 6; u++ {
		for _, w := range append([]int{6, u}, wild...) {
			x.Delete(u, w)
			x.Delete(w, u)
			alike(t, x, s)
		}
		for v := 0; v < 6; v++ {
			if _, there := s.edges[key(u, v)]; !there {
				x.Delete(u, v)
				alike(t, x, s)
			}
		}
	}
}

// forestEdges lists the edges of the forest, rising.
func (s *layers) forestEdges() [][2]int {
	var list [][2]int
	for ends, e := range s.edges {
		if e.forest {
			list = append(list, ends)
		}
	}
	slices.SortFunc(list, func(a, b [2]int) int { return (a[0]-b[0])*api.MaxN + a[1] - b[1] })
	return list
}

// pick: two different vertices; now and then the ends of an edge of the
// forest, as it is those whose Delete does something.
func (s *layers) pick(c *chance) (int, int) {
	forest := s.forestEdges()
	if len(forest) > 0 && c.below(5) < 2 {
		w := forest[c.below(len(forest))]
		if c.below(2) == 0 {
			return w[1], w[0]
		}
		return w[0], w[1]
	}
	u := c.below(s.n)
	return u, (u + 1 + c.below(s.n-1)) % s.n
}

func TestP6ManyMoves(t *testing.T) {
	c := chance{8}
	for n := 2; n <= api.MaxN; n++ {
		s := newLayers(n)
		x := fresh(t, n, n)
		for k := 0; k < 300; k++ {
			u, v := s.pick(&c)
			moveBoth(t, x, s, u, v)
			alike(t, x, s)
			if k%10 == 0 {
				alikeInside(t, x, s)
			}
		}
	}
}

// halveWay: a way of n vertices is halved, then its first half, and so on.
// Behind each cut comes the check.
func halveWay(t *testing.T, n int, check func(*testing.T, *index.Index, *layers)) (*index.Index, *layers) {
	t.Helper()
	s := newLayers(n)
	x := fresh(t, n, 7)
	for v := 1; v < n; v++ {
		moveBoth(t, x, s, v-1, v)
	}
	for half := n / 2; half > 0; half /= 2 {
		moveBoth(t, x, s, half, half-1)
		check(t, x, s)
	}
	return x, s
}

// Each time that a way is halved the first half rises, as far as edges may: a
// tree of F(4) has at most three of 48 vertices.
func TestP6AsFarAsEdgesRise(t *testing.T) {
	for _, c := range []struct{ n, rises, deepest int }{
		{2, 0, 0},
		{3, 0, 0},
		{4, 1, 1},
		{7, 2, 1},
		{8, 3 + 1, 2},
		{32, 15 + 7 + 3 + 1, 4},
		{api.MaxN, 23 + 11 + 5 + 2, 4},
	} {
		x, s := halveWay(t, c.n, alikeInside)
		if _, _, _, rises := x.Told(); rises != c.rises || s.deepest != c.deepest {
			t.Errorf("of %d: edges rose %d times, to level %d, want %d, %d", c.n, rises, s.deepest, c.rises, c.deepest)
		}
	}
}

// letAllGo: all edges go, those of the forest first, so that most of them
// leave a long search behind them. Now and then, and in the end, comes the check.
func letAllGo(t *testing.T, x *index.Index, s *layers, check func(*testing.T, *index.Index, *layers)) {
	t.Helper()
	c := chance{uint64(s.n)}
	for k := 0; len(s.edges) > 0; k++ {
		forest := s.forestEdges()
		w := forest[c.below(len(forest))]
		moveBoth(t, x, s, w[0], w[1])
		if k%9 == 0 || s.n < 20 {
			check(t, x, s)
		}
	}
	check(t, x, s)
}

func TestP6AllGo(t *testing.T) {
	for _, n := range []int{2, 3, 4, 8, 16, 31, 32, api.MaxN} {
		s := newLayers(n)
		x := fresh(t, n, 7)
		for u := 0; u < n; u++ {
			for v := u + 1; v < n; v++ {
				moveBoth(t, x, s, u, v)
			}
		}
		letAllGo(t, x, s, alikeInside)
		if n >= 16 && s.dropped == 0 {
			t.Errorf("of %d: no edge was found below the level of the one that went", n)
		}
	}
}
