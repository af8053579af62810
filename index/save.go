package index

import "islands/tour"

// magic: what a snapshot begins with.
const magic = "HDT1"

// edgeNumbers: what frame 2 tells (P8).
func (i *Index) edgeNumbers() []int {
	list := []int{i.countEdges()}
	for u := 0; u < i.n; u++ {
		for v := u + 1; v < i.n; v++ {
			e := i.edges[u][v]
			if e.there {
				mark := e.mark()
				list = append(list, u, v, mark)
			}
		}
	}
	return list
}

// mark: level and kind of an edge in one number.
func (e edge) mark() int {
	if e.forest {
		return 2*e.level + 1
	}
	return 2 * e.level
}

// tourNumbers: what frame 3 tells (P8).
func (i *Index) tourNumbers() []int {
	list := []int{}
	top := topLevel(i.n)
	for k := 0; k <= top; k++ {
		ofLevel := i.levelNumbers(k)
		list = append(list, ofLevel...)
	}
	return list
}

// levelNumbers: how many trees of F(level) have two vertices or more, and each of them.
func (i *Index) levelNumbers(level int) []int {
	trees := 0
	told := []int{}
	for v := 0; v < i.n; v++ {
		round := i.forests[level].RoundFrom(v)
		// A tree of one vertex has no item behind it.
		if len(round) < 2 {
			continue
		}
		trees++
		ofTree := treeNumbers(round)
		told = append(told, v)
		told = append(told, ofTree...)
	}
	list := []int{trees}
	list = append(list, told...)
	return list
}

// treeNumbers: how many vertices a tree has, and the items of its round behind
// the least of them.
func treeNumbers(round []tour.Item) []int {
	members := tour.Vertices(round)
	list := []int{len(members)}
	for k := 1; k < len(round); k++ {
		// Where one is follows from the items ahead, so a vertex needs no name.
		number := 0
		if round[k].From != round[k].To {
			number = round[k].To + 1
		}
		list = append(list, number)
	}
	return list
}
