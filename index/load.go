package index

import (
	"islands/api"
	"islands/frame"
	"islands/tour"
)

// frames: how many a snapshot has behind the magic.
const frames = 3

// splitFrames: what each frame holds; false if s is not just so many frames.
func splitFrames(s string) ([frames]string, bool) {
	var contents [frames]string
	for k := range contents {
		content, rest, ok := frame.Split(s)
		if !ok {
			return [frames]string{}, false
		}
		contents[k] = content
		s = rest
	}
	if len(s) > 0 {
		return [frames]string{}, false
	}
	return contents, true
}

// readVertices: an index without edges, of as many vertices as frame 1 tells;
// nil if that is not just a number of vertices that may be.
func readVertices(content string, seed int) *Index {
	list, ok := frame.Numbers(content)
	if !ok || len(list) != 1 {
		return nil
	}
	i, e := New(list[0], seed)
	if e != api.OK {
		return nil
	}
	return i
}

// readEdges lays down the edges of frame 2, but links none of them; false if
// it does not hold just edges as P8 has them.
func (i *Index) readEdges(content string) bool {
	list, ok := frame.Numbers(content)
	if !ok || len(list) == 0 || len(list) != 1+3*list[0] {
		return false
	}
	top := topLevel(i.n)
	last := -1
	for k := 1; k+2 < len(list); k += 3 {
		u := list[k]
		v := list[k+1]
		e := unmarked(list[k+2])
		if u >= v || v >= i.n || e.level > top {
			return false
		}
		// One number tells which of two edges is ahead, as v is below api.MaxN.
		place := u*api.MaxN + v
		if place <= last {
			return false
		}
		last = place
		i.setEdge(u, v, e)
	}
	return true
}

// unmarked: the edge whose mark this is.
func unmarked(mark int) edge {
	return edge{there: true, forest: mark%2 == 1, level: mark / 2}
}

// levelsHold: is no tree too great for its level, and has no edge beside the
// forest its ends in two trees of its level?
func (i *Index) levelsHold() bool {
	top := topLevel(i.n)
	most := i.n
	for k := 0; k <= top; k++ {
		hold := i.treesHold(k, most)
		if !hold {
			return false
		}
		most /= 2
	}
	return i.besideHold()
}

// treesHold: has no tree of F(level) more vertices than most?
func (i *Index) treesHold(level int, most int) bool {
	for v := 0; v < i.n; v++ {
		round := i.forests[level].RoundFrom(v)
		members := tour.Vertices(round)
		if len(members) > most {
			return false
		}
	}
	return true
}

// besideHold: has every edge beside the forest its ends in one tree of its level?
func (i *Index) besideHold() bool {
	for u := 0; u < i.n; u++ {
		for v := u + 1; v < i.n; v++ {
			e := i.edges[u][v]
			if e.there && !e.forest && !i.joined(u, v, e.level) {
				return false
			}
		}
	}
	return true
}
