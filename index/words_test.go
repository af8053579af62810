package index

import (
	"testing"

	"islands/api"
	"islands/tour"
)

func TestTopLevel(t *testing.T) {
	for n := 1; n <= api.MaxN; n++ {
		top := topLevel(n)
		if 1<<top > n || 2<<top <= n {
			t.Errorf("of %d: %d", n, top)
		}
	}
	if topLevel(api.MaxN) != maxLevel {
		t.Errorf("maxLevel is not %d", topLevel(api.MaxN))
	}
}

// What the document says of levels and tours at all times, behind many moves:
// in turn some edges come and some of the forest go.
func TestLevelsAndToursAtAllTimes(t *testing.T) {
	for _, n := range []int{1, 2, 3, 4, 7, 8, 15, 16, 31, 32, 33, api.MaxN} {
		x, _ := New(n, 7)
		state := uint64(n)
		for k := 0; k < 400; k++ {
			state = state*6364136223846793005 + 1442695040888963407
			u := int(state>>33) % n
			v := int(state>>45) % n
			if k%3 == 0 && len(x.forests[0].Round(u)) > 1 {
				way := x.forests[0].Round(u)[1]
				u = way.From
				v = way.To
			}
			if x.Insert(u, v) == api.ErrThere {
				x.Delete(u, v)
			}
			checkEdges(t, x)
			checkForests(t, x)
		}
	}
}

// checkEdges: levels are from 0 to L; both ways of an edge say the same; the
// ends of an edge beside the forest are in one tree of its level.
func checkEdges(t *testing.T, x *Index) {
	t.Helper()
	for u := 0; u < x.n; u++ {
		for v := 0; v < x.n; v++ {
			e := x.edges[u][v]
			if e != x.edges[v][u] || u == v && e.there || !e.there && e != (edge{}) {
				t.Fatalf("%d - %d: %v, %v", u, v, e, x.edges[v][u])
			}
			if e.level < 0 || e.level > topLevel(x.n) {
				t.Fatalf("%d - %d has level %d", u, v, e.level)
			}
			if e.there && x.forests[e.level].Least(u) != x.forests[e.level].Least(v) {
				t.Fatalf("%d - %d, of level %d, has its ends in two trees", u, v, e.level)
			}
		}
	}
}

// checkForests: F(k) has the edges of the forest from level k on, each vertex
// once, no circle, and trees that are not too great; every round is a tour.
func checkForests(t *testing.T, x *Index) {
	t.Helper()
	for k := 0; k <= topLevel(x.n); k++ {
		ways := 0
		vertices := 0
		for v := 0; v < x.n; v++ {
			if x.forests[k].Least(v) != v {
				continue
			}
			round := x.forests[k].Round(v)
			checkTour(t, x, k, round)
			size := len(tour.Vertices(round))
			if size > x.n>>k || len(round) != 3*size-2 {
				t.Fatalf("of %d, in F(%d): %v", x.n, k, round)
			}
			vertices += size
			ways += len(round) - size
		}
		if vertices != x.n || ways != 2*countForest(x, k) {
			t.Fatalf("of %d: F(%d) has %d vertices, %d ways", x.n, k, vertices, ways)
		}
	}
}

func checkTour(t *testing.T, x *Index, k int, round []tour.Item) {
	t.Helper()
	seen := map[tour.Item]bool{}
	at := round[len(round)-1].To
	for _, item := range round {
		e := x.edges[item.From][item.To]
		if seen[item] || item.From != at || item.From != item.To && (!e.forest || e.level < k) {
			t.Fatalf("in F(%d): %v", k, round)
		}
		seen[item] = true
		at = item.To
	}
}

func countForest(x *Index, k int) int {
	count := 0
	for u := 0; u < x.n; u++ {
		for v := 0; v < u; v++ {
			if x.edges[u][v].forest && x.edges[u][v].level >= k {
				count++
			}
		}
	}
	return count
}
