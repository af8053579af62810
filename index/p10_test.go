package index_test

import (
	"slices"
	"testing"

	"islands/api"
	"islands/index"
)

// goOn makes the same moves in two indexes and in the layers, and compares
// what all of them say. The layers' rises are those of the second index; the
// first has had more of them.
func goOn(t *testing.T, x, y *index.Index, s *layers, c *chance, moves int) {
	t.Helper()
	_, _, _, more := x.Told()
	s.rises = 0
	for k := 0; k < moves; k++ {
		u, v := s.pick(c)
		insert := s.move(u, v)
		act(t, x, insert, u, v)
		act(t, y, insert, u, v)
		saved(t, y, s)
		if got, want := x.Save(), y.Save(); got != want {
			t.Fatalf("of %d: the one that was saved has %x, the one that was loaded %x", s.n, got, want)
		}
	}
	if _, _, _, r := x.Told(); r != more+s.rises {
		t.Fatalf("of %d: %d rises, want %d and %d", s.n, r, more, s.rises)
	}
}

// What was saved is loaded with all its levels and tours, and goes on from
// there; what is loaded from that again too.
func TestP10GoesOn(t *testing.T) {
	c := chance{41}
	for n := 2; n <= api.MaxN; n++ {
		s := newLayers(n)
		x := fresh(t, n, 7)
		for k := 0; k < 12; k++ {
			for j := 0; j < 2*n; j++ {
				u, v := s.pick(&c)
				moveBoth(t, x, s, u, v)
			}
			y := load(t, x.Save(), k)
			s.rises = 0
			alikeInside(t, y, s)
			goOn(t, x, y, s, &c, 6)
			x = y
		}
	}
}

// All edges are there when it is saved; then all of them go.
func TestP10AllGo(t *testing.T) {
	for _, n := range []int{2, 5, 16, 33, api.MaxN} {
		s := newLayers(n)
		x := fresh(t, n, 7)
		for v := 1; v < n; v++ {
			for u := 0; u < v; u++ {
				moveBoth(t, x, s, v, u)
			}
		}
		letAllGo(t, load(t, x.Save(), 7), s, saved)
		sameBytes(t, x, load(t, x.Save(), 7))
	}
}

func sameBytes(t *testing.T, x, y *index.Index) {
	t.Helper()
	if x.Save() != y.Save() {
		t.Fatalf("%x and %x", x.Save(), y.Save())
	}
}

// Levels and tours that no calls lead to are accepted, and go on as P5 and P6 say.
func TestP10Made(t *testing.T) {
	c := chance{51}
	deepest := 0
	for n := 1; n <= api.MaxN; n++ {
		for k := 0; k < 4; k++ {
			s := makeLayers(n, &c)
			for _, e := range s.edges {
				deepest = max(deepest, e.level)
			}
			text := s.save()
			x := load(t, text, k)
			alikeInside(t, x, s)
			saved(t, x, s)
			if n == 1 {
				continue
			}
			goOn(t, x, load(t, text, -k), s, &c, 15)
			s.rises = 0
			letAllGo(t, load(t, s.save(), k), s, saved)
		}
	}
	if deepest != 4 {
		t.Errorf("the greatest level is %d", deepest)
	}
}

func TestP10RisesCountFromNought(t *testing.T) {
	x := moved(t, 4, 0, 1, 1, 2, 2, 3, 3, 0, 2, 1)
	y := load(t, x.Save(), 7)
	told(t, "saved", x, 3, []int{0, 1, 3, 2}, 1)
	told(t, "loaded", y, 3, []int{0, 1, 3, 2}, 0)
	// 0 and 1 are searched once more, but 0 - 1 has risen already.
	for _, z := range []*index.Index{x, y} {
		act(t, z, true, 1, 2)
		act(t, z, false, 0, 3)
	}
	told(t, "saved", x, 3, []int{0, 2, 3, 1}, 1)
	told(t, "loaded", y, 3, []int{0, 2, 3, 1}, 0)
	sameBytes(t, x, y)
}

// By the same calls both answer alike, also where a call is refused.
func TestP10AnswersAlike(t *testing.T) {
	c := chance{61}
	numbers := append([]int{0, 1, 5, 6, 7}, wild...)
	for k := 0; k < 20; k++ {
		s := makeLayers(7, &c)
		x := load(t, s.save(), 1)
		y := load(t, x.Save(), 2)
		for _, u := range numbers {
			for _, v := range numbers {
				a, e := x.Connected(u, v)
				b, f := y.Connected(u, v)
				if a != b || e != f {
					t.Fatalf("Connected(%d, %d) = %v, %d and %v, %d", u, v, a, e, b, f)
				}
				if e, f := x.Insert(u, v), y.Insert(u, v); e != f {
					t.Fatalf("Insert(%d, %d) = %d and %d", u, v, e, f)
				}
				if e, f := x.Delete(v, v^1), y.Delete(v, v^1); e != f {
					t.Fatalf("Delete(%d, %d) = %d and %d", v, v^1, e, f)
				}
			}
			l, e := x.Members(u)
			m, f := y.Members(u)
			if !slices.Equal(l, m) || e != f {
				t.Fatalf("Members(%d) = %v, %d and %v, %d", u, l, e, m, f)
			}
			sameBytes(t, x, y)
		}
	}
}

// No answer hangs on the seed, and none of what is loaded on the same bytes, or
// on the index that was saved, hangs on another.
func TestP10NoneHangsOnAnother(t *testing.T) {
	c := chance{71}
	for n := 2; n <= 20; n++ {
		s := makeLayers(n, &c)
		text := s.save()
		first := load(t, text, 0)
		for _, seed := range wild {
			x := load(t, text, seed)
			sameBytes(t, x, first)
			for k := 0; k < 5; k++ {
				u := c.below(n)
				v := (u + 1 + c.below(n-1)) % n
				if x.Insert(u, v) == api.ErrThere {
					x.Delete(u, v)
				}
			}
			saved(t, first, s)
		}
	}
}
