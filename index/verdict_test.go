package index_test

import (
	"encoding/binary"
	"hash/crc32"
	"math/bits"
	"slices"
	"strings"

	"islands/api"
)

// verdict: what P9 says of a string, by other means than the program's: a
// number is right if it is written again as it was, and a round if its items,
// sorted, are those of its tree.
func verdict(s string) api.Errno {
	if len(s) > 32768 {
		return api.ErrLong
	}
	rest, ok := strings.CutPrefix(s, "HDT1")
	if !ok {
		return api.ErrMagic
	}
	var contents [3]string
	for k := range contents {
		contents[k], rest, ok = unframed(rest)
		if !ok {
			return api.ErrFrame
		}
	}
	if rest != "" {
		return api.ErrFrame
	}
	vertices, ok := plain(contents[0])
	if !ok || len(vertices) != 1 || vertices[0] < 1 || vertices[0] > 48 {
		return api.ErrRecord
	}
	told, ok := plain(contents[1])
	if !ok || !rightEdges(vertices[0], told) {
		return api.ErrRecord
	}
	tours, ok := plain(contents[2])
	if !ok || !rightTours(vertices[0], told, tours) {
		return api.ErrTour
	}
	if !rightLevels(vertices[0], told) {
		return api.ErrLevel
	}
	return api.OK
}

// uvarint: a number at the beginning of s, and how many bytes it has, or 0.
func uvarint(s string) (int, int) {
	x, k := binary.Uvarint([]byte(s))
	if k <= 0 || x >= 1<<28 || string(binary.AppendUvarint(nil, x)) != s[:k] {
		return 0, 0
	}
	return int(x), k
}

func unframed(s string) (string, string, bool) {
	length, k := uvarint(s)
	if k == 0 || len(s) < k+length+4 {
		return "", "", false
	}
	content, s := s[k:k+length], s[k+length:]
	right := binary.LittleEndian.Uint32([]byte(s[:4])) == crc32.ChecksumIEEE([]byte(content))
	return content, s[4:], right
}

func plain(content string) ([]int, bool) {
	var list []int
	for content != "" {
		x, k := uvarint(content)
		if k == 0 {
			return nil, false
		}
		list = append(list, x)
		content = content[k:]
	}
	return list, true
}

func rightEdges(n int, told []int) bool {
	if len(told) == 0 || len(told)-1 != 3*told[0] {
		return false
	}
	var ends [][]int
	for e := range slices.Chunk(told[1:], 3) {
		if e[0] >= e[1] || e[1] >= n || e[2]/2 >= bits.Len(uint(n)) {
			return false
		}
		ends = append(ends, e[:2])
	}
	for k := 1; k < len(ends); k++ {
		if slices.Compare(ends[k-1], ends[k]) >= 0 {
			return false
		}
	}
	return true
}

// forestAt: the graph of the edges that F(level) has.
func forestAt(n, level int, told []int) *model {
	m := &model{n: n}
	for e := range slices.Chunk(told[1:], 3) {
		if e[2]%2 == 1 && e[2]/2 >= level {
			m.move(e[0], e[1])
		}
	}
	return m
}

func rightTours(n int, told, tours []int) bool {
	for level := 0; 1<<level <= n; level++ {
		m := forestAt(n, level, told)
		label := m.labels()
		var trees [][][2]int
		for v := range label {
			items := itemsOf(m, label, v)
			if label[v] == v && len(items) > 1 {
				trees = append(trees, items)
			}
		}
		if len(tours) == 0 || tours[0] != len(trees) {
			return false
		}
		tours = tours[1:]
		for _, items := range trees {
			if len(tours) < 1+len(items) || !rightRound(items, tours[:1+len(items)]) {
				return false
			}
			tours = tours[1+len(items):]
		}
	}
	return len(tours) == 0
}

// itemsOf: the vertices and ways of v's component, sorted.
func itemsOf(m *model, label []int, v int) [][2]int {
	var list [][2]int
	for a := range label {
		for b := range label {
			if label[a] == label[v] && (a == b || m.edge[a][b]) {
				list = append(list, [2]int{a, b})
			}
		}
	}
	return list
}

// rightRound: are least vertex, size and items, which are as many numbers as
// there are items and one more, a round of just these items?
func rightRound(items [][2]int, numbers []int) bool {
	least := items[0][0]
	if numbers[0] != least || len(items) != 3*numbers[1]-2 {
		return false
	}
	at := least
	list := [][2]int{{least, least}}
	for _, x := range numbers[2:] {
		if x == at+1 {
			return false
		}
		to := at
		if x > 0 {
			to = x - 1
		}
		list = append(list, [2]int{at, to})
		at = to
	}
	slices.SortFunc(list, func(a, b [2]int) int { return slices.Compare(a[:], b[:]) })
	return at == least && slices.Equal(list, items)
}

func rightLevels(n int, told []int) bool {
	for level := 0; 1<<level <= n; level++ {
		label := forestAt(n, level, told).labels()
		size := make([]int, n)
		for _, l := range label {
			size[l]++
			if size[l] > n>>level {
				return false
			}
		}
		for e := range slices.Chunk(told[1:], 3) {
			if e[2] == 2*level && label[e[0]] != label[e[1]] {
				return false
			}
		}
	}
	return true
}
