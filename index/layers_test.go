package index_test

import (
	"slices"
	"testing"

	"islands/api"
	"islands/index"
)

// layers: the document's levels and tours again, with rounds as links from
// each item to the next, so that they share no way of linking and cutting with
// the program.
type layers struct {
	n       int
	edges   map[[2]int]layered
	next    []map[[2]int][2]int
	rises   int
	deepest int // the greatest level that an edge has had
	dropped int // how often an edge was found below the level of the one that went
}

type layered struct {
	forest bool
	level  int
}

func newLayers(n int) *layers {
	s := &layers{n: n, edges: map[[2]int]layered{}}
	for power := 1; power <= n; power *= 2 {
		round := map[[2]int][2]int{}
		for v := 0; v < n; v++ {
			round[[2]int{v, v}] = [2]int{v, v}
		}
		s.next = append(s.next, round)
	}
	return s
}

func key(u, v int) [2]int {
	return [2]int{min(u, v), max(u, v)}
}

// ahead: the item whose next one is this.
func (s *layers) ahead(level int, item [2]int) [2]int {
	at := item
	for s.next[level][at] != item {
		at = s.next[level][at]
	}
	return at
}

func (s *layers) link(level, u, v int) {
	next := s.next[level]
	endU := s.ahead(level, [2]int{u, u})
	endV := s.ahead(level, [2]int{v, v})
	next[endU] = [2]int{u, v}
	next[[2]int{u, v}] = [2]int{v, v}
	next[endV] = [2]int{v, u}
	next[[2]int{v, u}] = [2]int{u, u}
}

func (s *layers) cut(level, u, v int) {
	next := s.next[level]
	there := [2]int{u, v}
	back := [2]int{v, u}
	endThere := s.ahead(level, there)
	endBack := s.ahead(level, back)
	next[endThere], next[endBack] = next[back], next[there]
	delete(next, there)
	delete(next, back)
}

// tour: the round of v's tree, from the least vertex on.
func (s *layers) tour(level, v int) [][2]int {
	least := v
	start := [2]int{v, v}
	for at := s.next[level][start]; at != start; at = s.next[level][at] {
		least = min(least, at[0])
	}
	start = [2]int{least, least}
	list := [][2]int{start}
	for at := s.next[level][start]; at != start; at = s.next[level][at] {
		list = append(list, at)
	}
	return list
}

func (s *layers) members(level, v int) []int {
	var list []int
	for _, item := range s.tour(level, v) {
		if item[0] == item[1] {
			list = append(list, item[0])
		}
	}
	return list
}

// move deletes the edge u - v if it is there, and inserts it if not.
func (s *layers) move(u, v int) (inserted bool) {
	was, there := s.edges[key(u, v)]
	if !there {
		apart := !slices.Contains(s.members(0, u), v)
		s.edges[key(u, v)] = layered{forest: apart}
		if apart {
			s.link(0, u, v)
		}
		return true
	}
	delete(s.edges, key(u, v))
	if was.forest {
		for k := 0; k <= was.level; k++ {
			s.cut(k, u, v)
		}
		s.replace(min(u, v), max(u, v), was.level)
	}
	return false
}

func (s *layers) replace(u, v, level int) {
	for k := level; k >= 0; k-- {
		start := u
		if len(s.members(k, v)) < len(s.members(k, u)) {
			start = v
		}
		half := s.members(k, start)
		for _, way := range s.tour(k, start) {
			if e := s.edges[way]; way[0] < way[1] && e.level == k {
				s.rise(way, e)
				s.link(k+1, way[0], way[1])
			}
		}
		for _, x := range half {
			for y := 0; y < s.n; y++ {
				e, there := s.edges[key(x, y)]
				if !there || e.forest || e.level != k {
					continue
				}
				if slices.Contains(half, y) {
					s.rise(key(x, y), e)
					continue
				}
				s.edges[key(x, y)] = layered{true, k}
				for j := 0; j <= k; j++ {
					s.link(j, x, y)
				}
				if k < level {
					s.dropped++
				}
				return
			}
		}
	}
}

func (s *layers) rise(ends [2]int, e layered) {
	e.level++
	s.edges[ends] = e
	s.rises++
	s.deepest = max(s.deepest, e.level)
}

// moveBoth makes the same move in the index and in the layers.
func moveBoth(t *testing.T, x *index.Index, s *layers, u, v int) {
	t.Helper()
	act(t, x, s.move(u, v), u, v)
}

// alike compares Told, and the Members and Size of every vertex.
func alike(t *testing.T, x *index.Index, s *layers) {
	t.Helper()
	components := 0
	for v := 0; v < s.n; v++ {
		want := s.members(0, v)
		if want[0] == v {
			components++
		}
		if l, e := x.Members(v); e != api.OK || !slices.Equal(l, want) {
			t.Fatalf("Members(%d) = %v, %d, want %v", v, l, e, want)
		}
		if k, e := x.Size(v); e != api.OK || k != len(want) {
			t.Fatalf("Size(%d) = %d, %d, want %d", v, k, e, len(want))
		}
	}
	if a, b, c, d := x.Told(); a != s.n || b != components || c != len(s.edges) || d != s.rises {
		t.Fatalf("Told() = %d, %d, %d, %d, want %d, %d, %d, %d", a, b, c, d, s.n, components, len(s.edges), s.rises)
	}
}

// alikeInside compares the levels of all edges and the tours of all trees too.
func alikeInside(t *testing.T, x *index.Index, s *layers) {
	t.Helper()
	alike(t, x, s)
	for u := 0; u < s.n; u++ {
		for v := 0; v < s.n; v++ {
			want, there := s.edges[key(u, v)]
			if a, b, c := x.EdgeAt(u, v); a != there || b != want.forest || c != want.level {
				t.Fatalf("%d - %d: there %v, of the forest %v, level %d, want %v, %v", u, v, a, b, c, there, want)
			}
		}
		for k := range s.next {
			if got, want := x.TourAt(k, u), s.tour(k, u); !slices.Equal(got, want) {
				t.Fatalf("%d's tour in F(%d) is %v, want %v", u, k, got, want)
			}
		}
	}
}

// moved: an index of n vertices behind moves, each of two ends.
func moved(t *testing.T, n int, moves ...int) *index.Index {
	t.Helper()
	x := fresh(t, n, 7)
	m := model{n: n}
	for k := 0; k+1 < len(moves); k += 2 {
		move(t, x, &m, moves[k], moves[k+1])
	}
	return x
}

// told checks one Members and the number of rises.
func told(t *testing.T, what string, x *index.Index, v int, want []int, rises int) {
	t.Helper()
	if l, e := x.Members(v); e != api.OK || !slices.Equal(l, want) {
		t.Errorf("%s: Members(%d) = %v, %d, want %v", what, v, l, e, want)
	}
	if _, _, _, r := x.Told(); r != rises {
		t.Errorf("%s: edges rose %d times, want %d", what, r, rises)
	}
}
