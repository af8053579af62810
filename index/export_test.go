package index

// What the tests outside of the package may see of levels and tours, which no
// call tells as they are.

// TourAt: the tour of v's tree in F(level) from its least vertex on.
func (i *Index) TourAt(level int, v int) [][2]int {
	var list [][2]int
	for _, item := range i.forests[level].Round(v) {
		list = append(list, [2]int{item.From, item.To})
	}
	return list
}

// EdgeAt: whether the edge u - v is there, whether it is of the forest, and its level.
func (i *Index) EdgeAt(u int, v int) (bool, bool, int) {
	e := i.edges[u][v]
	return e.there, e.forest, e.level
}
