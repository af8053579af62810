package index_test

import (
	"encoding/binary"
	"hash/crc32"
	"testing"

	"islands/index"
)

// framed: the frame of the numbers, by the library's means.
func framed(numbers []int) string {
	var content []byte
	for _, x := range numbers {
		content = binary.AppendUvarint(content, uint64(x))
	}
	list := binary.AppendUvarint(nil, uint64(len(content)))
	list = append(list, content...)
	return string(binary.LittleEndian.AppendUint32(list, crc32.ChecksumIEEE(content)))
}

// bytesOf: a snapshot of three frames, whose sums are right.
func bytesOf(frames [3][]int) string {
	return "HDT1" + framed(frames[0]) + framed(frames[1]) + framed(frames[2])
}

// save: the bytes of the layers.
func (s *layers) save() string {
	return bytesOf(s.frames())
}

// frames: the numbers that the layers' frames hold.
func (s *layers) frames() [3][]int {
	edges := []int{len(s.edges)}
	for u := 0; u < s.n; u++ {
		for v := u + 1; v < s.n; v++ {
			e, there := s.edges[[2]int{u, v}]
			if !there {
				continue
			}
			mark := e.level << 1
			if e.forest {
				mark |= 1
			}
			edges = append(edges, u, v, mark)
		}
	}
	var tours []int
	for level := range s.next {
		tours = append(tours, s.level(level)...)
	}
	return [3][]int{{s.n}, edges, tours}
}

// level: the trees of one level.
func (s *layers) level(level int) []int {
	list := []int{0}
	for v := 0; v < s.n; v++ {
		round := s.tour(level, v)
		if round[0][0] != v || len(round) == 1 {
			continue
		}
		list[0]++
		list = append(list, v, len(s.members(level, v)))
		for _, item := range round[1:] {
			if item[0] == item[1] {
				list = append(list, 0)
				continue
			}
			list = append(list, item[1]+1)
		}
	}
	return list
}

// saved compares Save with the bytes of the layers, and asks twice: Save
// changes nothing.
func saved(t *testing.T, x *index.Index, s *layers) {
	t.Helper()
	want := s.save()
	for k := 0; k < 2; k++ {
		if got := x.Save(); got != want {
			t.Fatalf("of %d: Save() = %x, want %x", s.n, got, want)
		}
	}
	alike(t, x, s)
}
