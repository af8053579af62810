package index_test

import (
	"strings"
	"testing"

	"islands/api"
	"islands/index"
)

// callAll makes every call of an index with u and v; that it comes back is
// what P1 asks of it.
func callAll(x *index.Index, u, v int) {
	x.Insert(u, v)
	x.Connected(u, v)
	x.Size(u)
	x.Members(u)
	x.Told()
	x.Save()
	x.Delete(u, v)
}

func TestP1NoCallPanics(t *testing.T) {
	numbers := append([]int{0, 1, 2, 3, 46, 47}, wild...)
	for _, n := range numbers {
		for _, seed := range numbers {
			index.New(n, seed)
		}
	}
	for _, n := range []int{1, 2, 3, api.MaxN} {
		x := fresh(t, n, n)
		for _, u := range numbers {
			for _, v := range numbers {
				callAll(x, u, v)
			}
		}
	}
	for _, s := range []string{"", "H", "HDT1", "\x00\xff", strings.Repeat("\x80", api.MaxBytes+1)} {
		for _, seed := range numbers {
			index.Load(s, seed)
		}
	}
}

// Frames of any numbers, whose sums are right: whatever Load makes of them
// can be called with all numbers.
func TestP1NoLoadedIndexPanics(t *testing.T) {
	c := chance{13}
	numbers := append([]int{0, 1, 2, 3, 46, 47}, wild...)
	for k := 0; k < 4000; k++ {
		frames := makeLayers(1+c.below(8), &c).frames()
		for j := c.below(4); j > 0; j-- {
			list := frames[c.below(3)]
			list[c.below(len(list))] = c.below(1 << c.below(29))
		}
		x, _ := index.Load(bytesOf(frames), k)
		callAll(x, numbers[c.below(len(numbers))], numbers[c.below(len(numbers))])
	}
}

// What a refused New gives has no vertices, like an index that nobody made.
func TestP1NoIndex(t *testing.T) {
	for _, x := range []*index.Index{nil, {}} {
		callAll(x, 0, 1)
		if e := x.Insert(0, 1); e != api.ErrArg {
			t.Errorf("Insert(0, 1) = %d", e)
		}
		if e := x.Delete(0, 1); e != api.ErrArg {
			t.Errorf("Delete(0, 1) = %d", e)
		}
		if c, e := x.Connected(0, 0); c || e != api.ErrArg {
			t.Errorf("Connected(0, 0) = %v, %d", c, e)
		}
		if s, e := x.Size(0); s != 0 || e != api.ErrArg {
			t.Errorf("Size(0) = %d, %d", s, e)
		}
		if l, e := x.Members(0); l != nil || e != api.ErrArg {
			t.Errorf("Members(0) = %v, %d", l, e)
		}
		if a, b, c, d := x.Told(); a != 0 || b != 0 || c != 0 || d != 0 {
			t.Errorf("Told() = %d, %d, %d, %d", a, b, c, d)
		}
	}
}

func TestP1FirstErrorHolds(t *testing.T) {
	x := fresh(t, 3, 7)
	for _, v := range append([]int{3}, wild...) {
		if e := x.Insert(v, v); e != api.ErrArg {
			t.Errorf("Insert(%d, %d) = %d, want ErrArg ahead of ErrLoop", v, v, e)
		}
		if e := x.Delete(v, v); e != api.ErrArg {
			t.Errorf("Delete(%d, %d) = %d, want ErrArg ahead of ErrLoop", v, v, e)
		}
		if e := x.Delete(0, v); e != api.ErrArg {
			t.Errorf("Delete(0, %d) = %d, want ErrArg ahead of ErrNone", v, e)
		}
	}
	if e := x.Delete(1, 1); e != api.ErrLoop {
		t.Errorf("Delete(1, 1) = %d, want ErrLoop ahead of ErrNone", e)
	}
}

func TestP1ErrorsChangeNothing(t *testing.T) {
	m := model{n: 6}
	x := fresh(t, m.n, 7)
	for _, w := range [][2]int{{0, 1}, {1, 2}, {2, 0}, {4, 5}} {
		move(t, x, &m, w[0], w[1])
	}
	numbers := append([]int{m.n}, wild...)
	for v := 0; v < m.n; v++ {
		for _, w := range numbers {
			x.Insert(v, w)
			x.Insert(w, v)
			x.Delete(v, w)
			x.Delete(w, v)
			x.Connected(v, w)
			x.Connected(w, v)
			x.Size(w)
			same(t, x, &m)
		}
		x.Insert(v, v)
		x.Delete(v, v)
		same(t, x, &m)
	}
	for u := 0; u < m.n; u++ {
		for v := 0; v < m.n; v++ {
			if m.edge[u][v] {
				x.Insert(u, v)
			} else {
				x.Delete(u, v)
			}
			same(t, x, &m)
		}
	}
	sameEdges(t, x, &m)
}

func TestP1NothingHangsOnTheSeed(t *testing.T) {
	for _, seed := range append([]int{0, 1, 7}, wild...) {
		s := newLayers(9)
		x := fresh(t, s.n, seed)
		c := chance{5}
		for k := 0; k < 150; k++ {
			u, v := s.pick(&c)
			moveBoth(t, x, s, u, v)
			saved(t, x, s)
		}
	}
}

func TestP1NoIndexHangsOnAnother(t *testing.T) {
	const many = 20
	var xs [many]*index.Index
	var ss [many]*layers
	for k := range xs {
		ss[k] = newLayers(4 + k%3)
		xs[k] = fresh(t, ss[k].n, 7)
	}
	c := chance{11}
	for step := 0; step < 1200; step++ {
		k := c.below(many)
		u, v := ss[k].pick(&c)
		moveBoth(t, xs[k], ss[k], u, v)
		if step%50 == 0 {
			for j := range xs {
				saved(t, xs[j], ss[j])
			}
		}
	}
	for k := range xs {
		saved(t, xs[k], ss[k])
	}
}
