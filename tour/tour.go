// Package tour: the tours of a forest's trees: see DOC.md, Words.
package tour

import "islands/api"

// Item: of a round. It is the vertex From if To is the same, else the way From->To.
type Item struct {
	From int
	To   int
}

// Forest: a round for each tree. A round lies at the least vertex of its tree
// and begins there; at the other vertices none lies. So the same tours are
// kept in one way only, whatever led to them.
type Forest struct {
	rounds [api.MaxN][]Item
}

// Plant makes a forest of n vertices without edges; n is at most api.MaxN.
func (f *Forest) Plant(n int) {
	for v := range f.rounds {
		f.rounds[v] = nil
		if v < n {
			f.rounds[v] = []Item{{v, v}}
		}
	}
}

// Trees: how many there are.
func (f *Forest) Trees() int {
	count := 0
	for v := range f.rounds {
		if len(f.rounds[v]) > 0 {
			count++
		}
	}
	return count
}

// Least: the least vertex of v's tree; -1 if v is in no tree.
func (f *Forest) Least(v int) int {
	return f.holder(Item{v, v})
}

// Round: the tour of v's tree from its least vertex on; nil if v is in no
// tree. The list is the forest's own, to be read alone; linking and cutting
// lay new lists in its place and leave it as it is.
func (f *Forest) Round(v int) []Item {
	least := f.Least(v)
	return f.RoundFrom(least)
}

// RoundFrom: the tour of the tree whose least vertex is v; nil if v is not the
// least vertex of a tree. The list is the forest's own, as with Round.
func (f *Forest) RoundFrom(v int) []Item {
	if v < 0 || v >= len(f.rounds) {
		return nil
	}
	return f.rounds[v]
}

// Link: u and v, which are in two trees, get an edge.
func (f *Forest) Link(u int, v int) {
	joined := f.take(Item{u, u})
	other := f.take(Item{v, v})
	joined = append(joined, Item{u, v})
	joined = append(joined, other...)
	joined = append(joined, Item{v, u})
	f.put(joined)
}

// Cut: the edge u - v of the forest goes.
func (f *Forest) Cut(u int, v int) {
	round := f.take(Item{u, v})
	back := position(round, Item{v, u})
	// A round has both ways of an edge or none.
	if back < 1 {
		return
	}
	f.put(round[1:back])
	f.put(round[back+1:])
}

// Lay: the round, which is a tour of vertices of the forest, becomes that of
// their tree. Till now each of them is a tree by itself.
func (f *Forest) Lay(round []Item) {
	members := Vertices(round)
	for _, v := range members {
		f.take(Item{v, v})
	}
	f.put(round)
}

// Vertices lists those of a round in its order. The list is fresh.
func Vertices(round []Item) []int {
	list := []int{}
	for _, item := range round {
		if item.From == item.To {
			list = append(list, item.From)
		}
	}
	return list
}
