package tour_test

import (
	"testing"

	"islands/api"
	"islands/tour"
)

// planted: a forest of n vertices, with the edges linked in their order.
func planted(n int, links ...[2]int) *tour.Forest {
	var f tour.Forest
	f.Plant(n)
	for _, w := range links {
		f.Link(w[0], w[1])
	}
	return &f
}

func equal(a, b []tour.Item) bool {
	if len(a) != len(b) {
		return false
	}
	for k := range a {
		if a[k] != b[k] {
			return false
		}
	}
	return true
}

// sameForest compares the rounds of all vertices.
func sameForest(t *testing.T, n int, f, g *tour.Forest) {
	t.Helper()
	if f.Trees() != g.Trees() {
		t.Errorf("%d trees and %d", f.Trees(), g.Trees())
	}
	for v := 0; v < n; v++ {
		if !equal(f.Round(v), g.Round(v)) {
			t.Errorf("the rounds of %d: %v and %v", v, f.Round(v), g.Round(v))
		}
	}
}

func TestPlant(t *testing.T) {
	for n := 0; n <= api.MaxN; n++ {
		f := planted(n)
		if f.Trees() != n {
			t.Errorf("of %d: %d trees", n, f.Trees())
		}
		for v := 0; v < n; v++ {
			if f.Least(v) != v || !equal(f.Round(v), []tour.Item{{v, v}}) {
				t.Errorf("of %d: least of %d is %d, its round %v", n, v, f.Least(v), f.Round(v))
			}
		}
		for _, v := range []int{-1, n, api.MaxN, 1 << 40} {
			if f.Least(v) != -1 || f.Round(v) != nil {
				t.Errorf("of %d: least of %d is %d, its round %v", n, v, f.Least(v), f.Round(v))
			}
		}
	}
}

func TestPlantAgain(t *testing.T) {
	f := planted(6, [2]int{0, 5}, [2]int{1, 2})
	f.Plant(4)
	sameForest(t, 6, f, planted(4))
}

// u's round from u on, the way u->v, v's round from v on, the way v->u.
func TestLink(t *testing.T) {
	f := planted(4, [2]int{2, 3})
	if want := []tour.Item{{2, 2}, {2, 3}, {3, 3}, {3, 2}}; !equal(f.Round(3), want) {
		t.Errorf("2 - 3: %v, want %v", f.Round(3), want)
	}
	f.Link(0, 3)
	if want := []tour.Item{{0, 0}, {0, 3}, {3, 3}, {3, 2}, {2, 2}, {2, 3}, {3, 0}}; !equal(f.Round(2), want) {
		t.Errorf("2 - 3, 0 - 3: %v, want %v", f.Round(2), want)
	}
	f.Link(1, 3)
	want := []tour.Item{{0, 0}, {0, 3}, {3, 1}, {1, 1}, {1, 3}, {3, 3}, {3, 2}, {2, 2}, {2, 3}, {3, 0}}
	if !equal(f.Round(1), want) {
		t.Errorf("2 - 3, 0 - 3, 1 - 3: %v, want %v", f.Round(1), want)
	}
	for v := 0; v < 4; v++ {
		if f.Least(v) != 0 {
			t.Errorf("least of %d is %d", v, f.Least(v))
		}
	}
	if f.Trees() != 1 {
		t.Errorf("%d trees", f.Trees())
	}
}

func TestLinkIsTheSameFromBothEnds(t *testing.T) {
	links := [][2]int{{1, 4}, {6, 2}, {2, 4}, {0, 7}, {7, 1}, {3, 5}}
	for turned := 0; turned < 1<<len(links); turned++ {
		var other [][2]int
		for k, w := range links {
			if turned>>k&1 == 1 {
				w = [2]int{w[1], w[0]}
			}
			other = append(other, w)
		}
		sameForest(t, 8, planted(8, links...), planted(8, other...))
	}
}

// What lies between the ways is the round of one tree, what lies around them that of the other.
func TestCut(t *testing.T) {
	links := [][2]int{{2, 3}, {0, 3}, {1, 3}}
	for _, ends := range [][2]int{{0, 3}, {3, 0}} {
		f := planted(4, links...)
		f.Cut(ends[0], ends[1])
		if !equal(f.Round(0), []tour.Item{{0, 0}}) || f.Least(0) != 0 || f.Trees() != 2 {
			t.Errorf("cut %v: the round of 0 is %v, of %d trees", ends, f.Round(0), f.Trees())
		}
		want := []tour.Item{{1, 1}, {1, 3}, {3, 3}, {3, 2}, {2, 2}, {2, 3}, {3, 1}}
		for v := 1; v < 4; v++ {
			if !equal(f.Round(v), want) || f.Least(v) != 1 {
				t.Errorf("cut %v: the round of %d is %v, want %v", ends, v, f.Round(v), want)
			}
		}
	}
}

func TestCutWhatIsNotThere(t *testing.T) {
	f := planted(4, [2]int{0, 1}, [2]int{1, 2})
	for _, ends := range [][2]int{{0, 2}, {2, 3}, {3, 0}, {0, 4}, {-1, 0}} {
		f.Cut(ends[0], ends[1])
	}
	sameForest(t, 4, f, planted(4, [2]int{0, 1}, [2]int{1, 2}))
}

// The edge that came last goes without a trace: the round closes as it was.
func TestCutUndoesLink(t *testing.T) {
	links := [][2]int{{4, 1}, {1, 6}, {5, 0}, {0, 3}, {3, 6}}
	for k := range links {
		f := planted(8, links[:k+1]...)
		f.Cut(links[k][0], links[k][1])
		sameForest(t, 8, f, planted(8, links[:k]...))
	}
}

// What has been handed out is not changed by what comes later.
func TestRoundsStayAsTheyAre(t *testing.T) {
	f := planted(6, [2]int{0, 1}, [2]int{1, 2})
	round := f.Round(1)
	kept := append([]tour.Item{}, round...)
	f.Link(3, 1)
	f.Cut(0, 1)
	f.Link(0, 2)
	if !equal(round, kept) {
		t.Errorf("%v was %v", round, kept)
	}
}

func TestVertices(t *testing.T) {
	f := planted(4, [2]int{2, 3}, [2]int{0, 3}, [2]int{1, 3})
	got := tour.Vertices(f.Round(2))
	want := []int{0, 1, 3, 2}
	if len(got) != len(want) {
		t.Fatalf("%v, want %v", got, want)
	}
	for k := range want {
		if got[k] != want[k] {
			t.Fatalf("%v, want %v", got, want)
		}
	}
	if len(tour.Vertices(nil)) != 0 {
		t.Errorf("of no round: %v", tour.Vertices(nil))
	}
}

// A round is told at its least vertex and at no other.
func TestRoundFrom(t *testing.T) {
	f := planted(6, [2]int{2, 5}, [2]int{3, 5}, [2]int{4, 1})
	for v := 0; v < 6; v++ {
		want := f.Round(v)
		if v == 3 || v == 4 || v == 5 {
			want = nil
		}
		if got := f.RoundFrom(v); !equal(got, want) {
			t.Errorf("from %d: %v, want %v", v, got, want)
		}
	}
	for _, v := range []int{-1, -1 << 63, 6, api.MaxN - 1, api.MaxN, api.MaxN + 1, 1<<63 - 1} {
		if got := f.RoundFrom(v); got != nil {
			t.Errorf("from %d: %v", v, got)
		}
	}
}

// What is laid is the round from its least vertex on, wherever it began; the
// other trees stay, and links and cuts go on from it.
func TestLay(t *testing.T) {
	want := planted(6, [2]int{2, 3}, [2]int{0, 3}, [2]int{1, 3})
	round := want.Round(0)
	for at := range round {
		f := planted(6)
		f.Lay(append(append([]tour.Item{}, round[at:]...), round[:at]...))
		sameForest(t, 6, f, want)
		f.Link(4, 5)
		f.Cut(3, 0)
		sameForest(t, 6, f, planted(6, [2]int{2, 3}, [2]int{1, 3}, [2]int{4, 5}))
	}
}

func TestLayKeepsAListOfItsOwn(t *testing.T) {
	f := planted(3)
	round := []tour.Item{{0, 0}, {0, 2}, {2, 2}, {2, 0}}
	f.Lay(round)
	for k := range round {
		round[k] = tour.Item{From: 1, To: 1}
	}
	sameForest(t, 3, f, planted(3, [2]int{0, 2}))
}

// A star and a way of all vertices, linked and cut in several orders: each
// round begins at its least vertex, each item begins where the one ahead ends,
// and each stands once.
func TestRoundsAreTours(t *testing.T) {
	n := api.MaxN
	for _, step := range []int{1, 5, 7, 11, 47} {
		for _, star := range []bool{false, true} {
			f := planted(n)
			other := func(v int) int {
				if star {
					return 0
				}
				return v - 1
			}
			for k := 0; k < n; k++ {
				if v := k * step % n; v > 0 {
					f.Link(v, other(v))
					checkTours(t, n, f)
				}
			}
			if f.Trees() != 1 {
				t.Fatalf("%d trees", f.Trees())
			}
			for k := 0; k < n; k++ {
				if v := (k*step + 3) % n; v > 0 {
					f.Cut(other(v), v)
					checkTours(t, n, f)
				}
			}
			sameForest(t, n, f, planted(n))
		}
	}
}

func checkTours(t *testing.T, n int, f *tour.Forest) {
	t.Helper()
	trees := 0
	for v := 0; v < n; v++ {
		round := f.Round(v)
		if f.Least(v) == v {
			trees++
			checkRound(t, round)
		}
		if len(round) == 0 || round[0] != (tour.Item{From: f.Least(v), To: f.Least(v)}) {
			t.Fatalf("the round of %d, whose least is %d: %v", v, f.Least(v), round)
		}
	}
	if trees != f.Trees() {
		t.Fatalf("%d least vertices, %d trees", trees, f.Trees())
	}
}

func checkRound(t *testing.T, round []tour.Item) {
	t.Helper()
	seen := map[tour.Item]bool{}
	vertices := 0
	for k, item := range round {
		ahead := round[(k+len(round)-1)%len(round)]
		if seen[item] || item.From != ahead.To || item.From == item.To && item.From < round[0].From {
			t.Fatalf("item %d of %v", k, round)
		}
		seen[item] = true
		if item.From == item.To {
			vertices++
		}
	}
	for item := range seen {
		if !seen[tour.Item{From: item.To, To: item.From}] || !seen[tour.Item{From: item.To, To: item.To}] {
			t.Fatalf("%v has one way of an edge alone, or no vertex at its end", round)
		}
	}
	if len(round) != 3*vertices-2 {
		t.Fatalf("%v has %d vertices", round, vertices)
	}
}
