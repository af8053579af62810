package index

import (
	"islands/api"
	"islands/frame"
	"islands/tour"
)

// reader: the numbers of frame 3, read one behind the other.
type reader struct {
	numbers []int
	at      int
}

// next: the next number; -1, which no number is, if there is none.
func (r *reader) next() int {
	if r.at >= len(r.numbers) {
		return -1
	}
	x := r.numbers[r.at]
	r.at++
	return x
}

// seen: which items stand in the rounds of one level, by where they begin and end.
type seen struct {
	items [api.MaxN][api.MaxN]bool
}

// see: is the item, of an index's vertices, seen for the first time?
func (s *seen) see(item tour.Item) bool {
	before := s.items[item.From][item.To]
	s.items[item.From][item.To] = true
	return !before
}

// readTours lays down the rounds of frame 3; false if it does not hold just
// the tours, as P8 has them, of the forest that the edges tell.
func (i *Index) readTours(content string) bool {
	numbers, ok := frame.Numbers(content)
	if !ok {
		return false
	}
	r := &reader{numbers: numbers}
	top := topLevel(i.n)
	for k := 0; k <= top; k++ {
		ok = i.readLevel(r, k)
		if !ok {
			return false
		}
	}
	return r.at == len(numbers)
}

// readLevel lays down the rounds of F(level). A round has two ways fewer than
// twice its vertices, and no vertex stands in two rounds: so, once all ways of
// F(level) are seen, no tree is told in parts and no circle is in it.
func (i *Index) readLevel(r *reader, level int) bool {
	trees := r.next()
	if trees < 0 {
		return false
	}
	s := &seen{}
	last := -1
	for t := 0; t < trees; t++ {
		round := i.readRound(r)
		if len(round) == 0 || round[0].From <= last {
			return false
		}
		last = round[0].From
		fits := i.fits(round, level, s)
		if !fits {
			return false
		}
		i.forests[level].Lay(round)
	}
	return i.allSeen(level, s)
}

// readRound: the round that the next numbers tell, from its first vertex on;
// nil if they tell none that closes. Whether it is a tour of the forest is
// left to fits.
func (i *Index) readRound(r *reader) []tour.Item {
	first := r.next()
	size := r.next()
	if !i.isVertex(first) || size < 2 || size > i.n {
		return nil
	}
	round := []tour.Item{{From: first, To: first}}
	at := first
	for k := 0; k < 3*size-3; k++ {
		number := r.next()
		to := at
		if number != 0 {
			to = number - 1
			// A way to where one is would pass for the vertex.
			if to == at || !i.isVertex(to) {
				return nil
			}
		}
		round = append(round, tour.Item{From: at, To: to})
		at = to
	}
	if at != first {
		return nil
	}
	return round
}

// fits: is the round made of ways of F(level) and of as many vertices as its
// length asks for, the first of them the least, and of nothing seen before?
func (i *Index) fits(round []tour.Item, level int, s *seen) bool {
	for _, item := range round {
		if item.From < round[0].From {
			return false
		}
		if item.From != item.To && !i.isWay(item.From, item.To, level) {
			return false
		}
		isNew := s.see(item)
		if !isNew {
			return false
		}
	}
	members := tour.Vertices(round)
	return len(round) == 3*len(members)-2
}

// isWay: is u - v an edge of F(level)?
func (i *Index) isWay(u int, v int, level int) bool {
	e := i.edges[u][v]
	return e.forest && e.level >= level
}

// allSeen: does every way of F(level) stand in a round?
func (i *Index) allSeen(level int, s *seen) bool {
	for u := 0; u < i.n; u++ {
		for v := 0; v < i.n; v++ {
			if i.isWay(u, v, level) && !s.items[u][v] {
				return false
			}
		}
	}
	return true
}
