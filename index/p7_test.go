package index_test

import (
	"slices"
	"testing"

	"islands/api"
)

func TestP7NoSuchVertex(t *testing.T) {
	for _, n := range []int{1, 3, api.MaxN} {
		x := fresh(t, n, 7)
		for _, w := range append([]int{n}, wild...) {
			if l, e := x.Members(w); l != nil || e != api.ErrArg {
				t.Errorf("of %d: Members(%d) = %v, %d", n, w, l, e)
			}
		}
	}
}

func TestP7EachAlone(t *testing.T) {
	for n := 1; n <= api.MaxN; n++ {
		x := fresh(t, n, 7)
		for v := 0; v < n; v++ {
			told(t, "alone", x, v, []int{v}, 0)
		}
	}
}

// All of a component have the same list; it begins with the least of them.
func TestP7SameForAll(t *testing.T) {
	x := moved(t, 7, 5, 2, 2, 6, 6, 3, 4, 1)
	for _, v := range []int{2, 3, 5, 6} {
		told(t, "2, 3, 5, 6", x, v, []int{2, 5, 3, 6}, 0)
	}
	for _, v := range []int{1, 4} {
		told(t, "1, 4", x, v, []int{1, 4}, 0)
	}
	told(t, "0", x, 0, []int{0}, 0)
}

// The list is the caller's, with all the room behind its end.
func TestP7TheListIsTheCallers(t *testing.T) {
	s := newLayers(8)
	x := fresh(t, 8, 7)
	for _, w := range [][2]int{{0, 1}, {1, 2}, {2, 0}, {2, 3}, {3, 4}, {0, 4}, {6, 7}} {
		moveBoth(t, x, s, w[0], w[1])
	}
	var lists [][]int
	for v := 0; v < 8; v++ {
		for k := 0; k < 2; k++ {
			l, _ := x.Members(v)
			l = l[:cap(l)]
			for j := range l {
				l[j] = -100 - len(lists)
			}
			lists = append(lists, l)
			alike(t, x, s)
		}
	}
	for _, w := range [][2]int{{2, 3}, {0, 1}, {5, 6}, {6, 7}, {2, 3}, {7, 0}} {
		moveBoth(t, x, s, w[0], w[1])
		alike(t, x, s)
	}
	for k, l := range lists {
		for _, w := range l {
			if w != -100-k {
				t.Fatalf("list %d has changed: %v", k, l)
			}
		}
	}
}

func TestP7AListStaysAsItIs(t *testing.T) {
	x := moved(t, 5, 0, 1, 1, 2, 2, 3)
	l, _ := x.Members(3)
	want := slices.Clone(l)
	x.Delete(1, 2)
	x.Insert(4, 0)
	x.Insert(2, 4)
	x.Members(3)
	if !slices.Equal(l, want) {
		t.Errorf("%v was %v", l, want)
	}
}
