package index_test

import (
	"encoding/hex"
	"strings"
	"testing"

	"islands/api"
	"islands/index"
)

func TestP8Examples(t *testing.T) {
	for _, c := range []struct {
		n     int
		moves []int
		want  string
	}{
		{1, nil, "4844543101011bdf05a501008def02d201008def02d2"},
		{3, []int{0, 1, 1, 2, 2, 0}, "48445431010337be0b4b0a030001010002000102011cb3535c0a01000302030002000100e69ede20"},
		{4, []int{0, 1, 1, 2, 2, 3, 3, 0, 2, 1}, "484454310104942b6fd50a03000103000301020301f8634d551301000402000104000300040101000202000100f656f5c3"},
		{5, []int{3, 1, 1, 4, 1, 0}, "484454310105021b68a20a03000101010301010401ea8989440e01000402000400020500020100002569ab26"},
		{6, []int{0, 1, 1, 2, 2, 0, 2, 3, 3, 4, 4, 5, 5, 3, 2, 3}, "484454310106b84a613b1306000103000202010203030401030500040501dc2acb181b020003020300020001030305060005000401000302030002000100761f6ae1"},
	} {
		x := moved(t, c.n, c.moves...)
		if got := hex.EncodeToString([]byte(x.Save())); got != c.want {
			t.Errorf("of %d, moves %v: Save() = %s, want %s", c.n, c.moves, got, c.want)
		}
	}
}

// Frame 3 has a number for each level, also where no level has a tree.
func TestP8WithoutEdges(t *testing.T) {
	for n := 1; n <= api.MaxN; n++ {
		levels := 0
		for power := 1; power <= n; power *= 2 {
			levels++
		}
		want := "HDT1" + framed([]int{n}) + framed([]int{0}) + framed(make([]int, levels))
		if got := fresh(t, n, 7).Save(); got != want {
			t.Errorf("of %d: Save() = %x, want %x", n, got, want)
		}
		saved(t, fresh(t, n, 7), newLayers(n))
	}
}

// Levels and kinds of edges, and the trees of several levels: 0 - 2 has risen
// beside the forest, 5 - 6 has not, and 4 - 6 is of the forest.
func TestP8LevelsAndKinds(t *testing.T) {
	x := moved(t, 8, 0, 1, 1, 2, 2, 0, 4, 5, 4, 6, 5, 6, 0, 4, 0, 4)
	want := "HDT1" + framed([]int{8}) +
		framed([]int{6, 0, 1, 3, 0, 2, 2, 1, 2, 3, 4, 5, 1, 4, 6, 1, 5, 6, 0}) +
		framed([]int{2, 0, 3, 2, 3, 0, 2, 0, 1, 4, 3, 6, 0, 5, 7, 0, 5, 1, 0, 3, 2, 3, 0, 2, 0, 1, 0, 0})
	if got := x.Save(); got != want {
		t.Errorf("Save() = %x, want %x", got, want)
	}
}

func TestP8ManyMoves(t *testing.T) {
	c := chance{21}
	for n := 2; n <= api.MaxN; n++ {
		s := newLayers(n)
		x := fresh(t, n, -n)
		for k := 0; k < 150; k++ {
			u, v := s.pick(&c)
			moveBoth(t, x, s, u, v)
			if n < 10 || k%10 == 0 {
				saved(t, x, s)
			}
		}
	}
}

// All edges come and go, so that counts and lengths of two bytes come and go
// too. All that may be fits into a snapshot.
func TestP8AllEdges(t *testing.T) {
	for _, n := range []int{2, 11, 17, 32, api.MaxN} {
		s := newLayers(n)
		x := fresh(t, n, 7)
		for v := 1; v < n; v++ {
			for u := 0; u < v; u++ {
				moveBoth(t, x, s, v, u)
				if len(s.edges) > 124 && len(s.edges) < 131 {
					saved(t, x, s)
				}
			}
		}
		saved(t, x, s)
		if l := len(x.Save()); l > api.MaxBytes {
			t.Errorf("of %d: %d bytes", n, l)
		}
		letAllGo(t, x, s, saved)
	}
}

// A way is halved, then its first half, and so on: levels as great as they come.
func TestP8GreatLevels(t *testing.T) {
	for _, n := range []int{4, 8, 16, 31, 32, api.MaxN} {
		halveWay(t, n, saved)
	}
}

func TestP8SameStateSameBytes(t *testing.T) {
	want := moved(t, 5, 3, 1, 1, 4, 1, 0).Save()
	for what, x := range map[string]*index.Index{
		"ends the other way around":   moved(t, 5, 1, 3, 4, 1, 0, 1),
		"an edge beside came, went":   moved(t, 5, 3, 1, 1, 4, 1, 0, 3, 4, 3, 4),
		"a vertex came, went":         moved(t, 5, 3, 1, 1, 4, 1, 0, 0, 2, 0, 2),
		"a vertex came first, went":   moved(t, 5, 0, 2, 3, 1, 1, 4, 1, 0, 0, 2),
		"the last edge went and came": moved(t, 5, 3, 1, 1, 4, 1, 0, 1, 0, 1, 0),
	} {
		if got := x.Save(); got != want {
			t.Errorf("%s: Save() = %x, want %x", what, got, want)
		}
	}
	// Another order of coming is another tour.
	if got := moved(t, 5, 1, 4, 3, 1, 1, 0).Save(); got == want {
		t.Errorf("another tour has the same bytes")
	}
}

// Calls that are refused, and calls that only ask, leave the bytes as they are.
func TestP8RefusedCallsLeaveTheBytes(t *testing.T) {
	s := newLayers(6)
	x := fresh(t, s.n, 7)
	for _, w := range [][2]int{{0, 1}, {1, 2}, {2, 0}, {2, 3}, {3, 4}, {0, 4}, {2, 3}} {
		moveBoth(t, x, s, w[0], w[1])
	}
	want := s.save()
	for u := 0; u < s.n; u++ {
		for _, w := range append([]int{0, 1, 2, 3, 4, 5, 6}, wild...) {
			if _, there := s.edges[key(u, w)]; there {
				x.Insert(u, w)
				x.Insert(w, u)
			} else {
				x.Delete(u, w)
				x.Delete(w, u)
			}
			if u == w || w < 0 || w >= s.n {
				x.Insert(u, w)
				x.Insert(w, u)
			}
			x.Connected(u, w)
			x.Size(w)
			x.Members(w)
			if got := x.Save(); got != want {
				t.Fatalf("behind calls of %d, %d: Save() = %x, want %x", u, w, got, want)
			}
		}
	}
}

// What has been saved stays as it is when edges come and go.
func TestP8BytesStayAsTheyAre(t *testing.T) {
	x := moved(t, 5, 0, 1, 1, 2, 2, 3)
	got := x.Save()
	kept := strings.Clone(got)
	x.Delete(1, 2)
	x.Insert(4, 0)
	x.Save()
	if got != kept {
		t.Errorf("%x was %x", got, kept)
	}
}

// There is nothing to save of an index that nobody made.
func TestP8NoIndex(t *testing.T) {
	for _, x := range []*index.Index{nil, {}} {
		if got := x.Save(); got != "" {
			t.Errorf("Save() = %x", got)
		}
	}
}
