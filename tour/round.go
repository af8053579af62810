package tour

// holder: the least vertex of the tree in whose round the item stands, or -1.
func (f *Forest) holder(item Item) int {
	for v := range f.rounds {
		if position(f.rounds[v], item) >= 0 {
			return v
		}
	}
	return -1
}

// take takes the round in which the item stands out of the forest, and gives a
// fresh list of it from the item on.
func (f *Forest) take(item Item) []Item {
	v := f.holder(item)
	if v < 0 {
		return nil
	}
	round := f.rounds[v]
	f.rounds[v] = nil
	at := position(round, item)
	return turned(round, at)
}

// put lays a round into the forest; it keeps a list of its own.
func (f *Forest) put(round []Item) {
	at := leastAt(round)
	if at < 0 {
		return
	}
	f.rounds[round[at].From] = turned(round, at)
}

// position: where the item stands in the round, or -1.
func position(round []Item, item Item) int {
	for k := range round {
		if round[k] == item {
			return k
		}
	}
	return -1
}

// leastAt: where the least vertex stands in the round; -1 if it has none.
func leastAt(round []Item) int {
	at := -1
	for k, item := range round {
		if item.From != item.To {
			continue
		}
		if at < 0 || item.From < round[at].From {
			at = k
		}
	}
	return at
}

// turned: the same round from the place at on, as a fresh list; at is a place of it.
func turned(round []Item, at int) []Item {
	list := make([]Item, 0, len(round))
	list = append(list, round[at:]...)
	list = append(list, round[:at]...)
	return list
}
