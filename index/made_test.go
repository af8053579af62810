package index_test

import (
	"testing"

	"islands/api"
	"islands/index"
)

// makeLayers: layers as P9 asks for, made by chance and not by calls: edges of
// the forest of all levels, with tours that hang on each other at no two
// levels, and edges beside it.
func makeLayers(n int, c *chance) *layers {
	s := newLayers(n)
	for level := len(s.next) - 1; level >= 0; level-- {
		s.growForest(level, c)
	}
	for level := range s.next {
		s.linkAll(level, c)
	}
	for k := c.below(3 * n); k > 0 && n > 1; k-- {
		u := c.below(n)
		v := (u + 1 + c.below(n-1)) % n
		level := c.below(len(s.next))
		if _, there := s.edges[key(u, v)]; !there && s.together(level, u, v) {
			s.edges[key(u, v)] = layered{level: level}
		}
	}
	return s
}

// together: are u and v in one tree?
func (s *layers) together(level, u, v int) bool {
	return s.tour(level, u)[0] == s.tour(level, v)[0]
}

// growForest: edges of the forest come that have the level, and leave its
// trees as small as they must be.
func (s *layers) growForest(level int, c *chance) {
	label := s.labels(level)
	for k := 0; k < s.n; k++ {
		u, v := c.below(s.n), c.below(s.n)
		size := 0
		for _, l := range label {
			if l == label[u] || l == label[v] {
				size++
			}
		}
		if label[u] == label[v] || size > s.n>>level {
			continue
		}
		s.edges[key(u, v)] = layered{true, level}
		label = s.labels(level)
	}
}

// labels gives each vertex the least vertex of its tree, by the edges alone.
func (s *layers) labels(level int) []int {
	m := model{n: s.n}
	for ends, e := range s.edges {
		if e.forest && e.level >= level {
			m.move(ends[0], ends[1])
		}
	}
	return m.labels()
}

// linkAll links the edges of the forest from the level on, in any order: every
// tour comes of some order.
func (s *layers) linkAll(level int, c *chance) {
	forest := s.forestEdges()
	for k := range forest {
		j := k + c.below(len(forest)-k)
		forest[k], forest[j] = forest[j], forest[k]
		if s.edges[forest[k]].level >= level {
			s.link(level, forest[k][0], forest[k][1])
		}
	}
}

// load: the index of a string of which nothing is wrong.
func load(t *testing.T, s string, seed int) *index.Index {
	t.Helper()
	x, e := index.Load(s, seed)
	if x == nil || e != api.OK {
		t.Fatalf("Load(%x) = %v, %d", s, x, e)
	}
	return x
}

// judged: Load answers the error, and an index only beside OK. What is
// accepted is saved again as it was.
func judged(t *testing.T, what, s string, want api.Errno) {
	t.Helper()
	x, e := index.Load(s, 7)
	if e != want || (x != nil) != (e == api.OK) {
		t.Fatalf("%s: Load(%.200x) = %v, %d, want %d", what, s, x != nil, e, want)
	}
	if x != nil && x.Save() != s {
		t.Fatalf("%s: Load(%x) is saved as %x", what, s, x.Save())
	}
}
