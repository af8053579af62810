package index_test

import (
	"encoding/binary"
	"encoding/hex"
	"fmt"
	"hash/crc32"
	"slices"
	"strings"
	"testing"

	"islands/api"
	"islands/index"
)

type nums = []int

// example 2 of the document: a circle of three.
var circle = [3][]int{{3}, {3, 0, 1, 1, 0, 2, 0, 1, 2, 1}, {1, 0, 3, 2, 3, 0, 2, 0, 1, 0}}

// rawFrame: a frame of any bytes, with the right sum.
func rawFrame(content string) string {
	list := binary.AppendUvarint(nil, uint64(len(content)))
	list = append(list, content...)
	return string(binary.LittleEndian.AppendUint32(list, crc32.ChecksumIEEE([]byte(content))))
}

// The document's example 10.
func TestP9FramesOfTheExample(t *testing.T) {
	b, _ := hex.DecodeString("48445431010337be0b4b0a030001010002000102011cb3535c0a01000302030002000100e69ede20")
	s := string(b)
	judged(t, "example 2", s, api.OK)
	judged(t, "without the last byte", s[:len(s)-1], api.ErrFrame)
	judged(t, "a byte 0 more", s+"\x00", api.ErrFrame)
	for turned := 1; turned < 256; turned++ {
		judged(t, "the first byte turned", string([]byte{s[0] ^ byte(turned)})+s[1:], api.ErrMagic)
	}
	judged(t, "no bytes", "", api.ErrMagic)
}

// The document's example 11.
func TestP9NumbersOfTheExample(t *testing.T) {
	x := load(t, bytesOf(circle), 7)
	if a, b, c, d := x.Told(); a != 3 || b != 1 || c != 3 || d != 0 {
		t.Errorf("Told() = %d, %d, %d, %d", a, b, c, d)
	}
	told(t, "example 11", x, 2, []int{0, 2, 1}, 0)
	judged(t, "it is example 2", moved(t, 3, 0, 1, 1, 2, 2, 0).Save(), api.OK)
	judged(t, "edges that do not rise", bytesOf([3][]int{{3}, {3, 0, 2, 0, 0, 1, 1, 1, 2, 1}, circle[2]}), api.ErrRecord)
	judged(t, "1 is not the least", bytesOf([3][]int{{3}, circle[1], {1, 1, 3, 0, 1, 2, 3, 0, 2, 0}}), api.ErrTour)
	judged(t, "too great a tree", bytesOf([3][]int{{3}, {3, 0, 1, 3, 0, 2, 0, 1, 2, 1}, {1, 0, 3, 2, 3, 0, 2, 0, 1, 1, 0, 2, 2, 0, 1}}), api.ErrLevel)
}

func TestP9Long(t *testing.T) {
	right := bytesOf(circle)
	for _, s := range []string{right + strings.Repeat("\x00", api.MaxBytes), strings.Repeat("\xff", api.MaxBytes+1), strings.Repeat("HDT1", api.MaxBytes)} {
		judged(t, "too long", s, api.ErrLong)
		judged(t, "a byte too long", s[:api.MaxBytes+1], api.ErrLong)
	}
	judged(t, "just long enough", right+strings.Repeat("\x00", api.MaxBytes-len(right)), api.ErrFrame)
	judged(t, "just long enough, no magic", strings.Repeat("\x00", api.MaxBytes), api.ErrMagic)
	// Three right frames of just MaxBytes bytes, and of one more: the middle one has a length of three bytes.
	head, tail := "HDT1"+framed(nums{3}), framed(nums{0, 0})
	content := strings.Repeat("\x00", api.MaxBytes-len(head)-len(tail)-7)
	judged(t, "long frames", head+rawFrame(content)+tail, api.ErrRecord)
	judged(t, "longer frames", head+rawFrame(content+"\x00")+tail, api.ErrLong)
}

func TestP9Magic(t *testing.T) {
	right := bytesOf(circle)
	for k := 0; k < 4; k++ {
		judged(t, "too short", right[:k], api.ErrMagic)
		judged(t, "begun late", right[k+1:], api.ErrMagic)
		other := []byte(right)
		other[k]++
		judged(t, "another letter", string(other), api.ErrMagic)
	}
	judged(t, "small letters", "hdt1"+right[4:], api.ErrMagic)
	judged(t, "a byte ahead", "\x00"+right, api.ErrMagic)
	judged(t, "HDT1 alone", "HDT1", api.ErrFrame)
}

// Every beginning of a snapshot, every byte of it changed in every way, and
// bytes left out or added anywhere.
func TestP9Bytes(t *testing.T) {
	for _, frames := range [][3][]int{{{1}, {0}, {0}}, circle, makeLayers(8, &chance{3}).frames()} {
		s := bytesOf(frames)
		for k := 4; k < len(s); k++ {
			judged(t, "a beginning", s[:k], api.ErrFrame)
			judged(t, "a byte left out", s[:k]+s[k+1:], api.ErrFrame)
			judged(t, "a byte more", s[:k]+"\x00"+s[k:], api.ErrFrame)
			for turned := 1; turned < 256; turned++ {
				judged(t, "a byte changed", s[:k]+string([]byte{s[k] ^ byte(turned)})+s[k+1:], api.ErrFrame)
			}
		}
		judged(t, "twice", s+s, api.ErrFrame)
	}
}

func TestP9Frames(t *testing.T) {
	a, b, c := framed(circle[0]), framed(circle[1]), framed(circle[2])
	judged(t, "as it is", "HDT1"+a+b+c, api.OK)
	judged(t, "two frames", "HDT1"+a+b, api.ErrFrame)
	judged(t, "four frames", "HDT1"+a+b+c+framed(nil), api.ErrFrame)
	judged(t, "three and bytes behind them", "HDT1"+a+b+c+"\x00\x00\x00\x00", api.ErrFrame)
	for _, length := range []string{
		// As many bytes as there are, but written with more than it needs.
		"\x8a\x00", "\x8a\x80\x00", "\x8a\x80\x80\x00", "\x8a\x80\x80\x80\x00",
		// More than there are.
		"\x0b", "\x0e", "\x0f", "\x7f", "\x80\x01", "\xff\xff\x7f", "\xff\xff\xff\x7f",
		// Not below 2^28.
		"\x8a\x80\x80\x80\x01", "\xff\xff\xff\xff\x07", "\xff\xff\xff\xff\x0f", strings.Repeat("\xff", 9) + "\x01", strings.Repeat("\x80", 64),
	} {
		judged(t, "the length of frame 2", "HDT1"+a+length+b[1:]+c, api.ErrFrame)
		judged(t, "the length of frame 3", "HDT1"+a+b+length+c[1:], api.ErrFrame)
	}
	// The sum is right, but its bytes stand the other way around.
	k := len(c) - 4
	judged(t, "a sum turned around", "HDT1"+a+b+c[:k]+string([]byte{c[k+3], c[k+2], c[k+1], c[k]}), api.ErrFrame)
}

func TestP9NumberOfVertices(t *testing.T) {
	none := "HDT1%s" + framed(nums{0}) + framed(make(nums, 6))
	for _, first := range []string{
		"", "\x00", "\x31", "\x7f", "\x80\x01", "\xff\xff\xff\x7f",
		"\x30\x00", "\x30\x30", "\x30\x80", "\xb0\x00", "\xb0\x80\x00", "\xb0", "\xb0\x80\x80\x80\x00", "\x80\x80\x80\x80\x01", "\xb0\x80\x80\x80\x10",
	} {
		judged(t, fmt.Sprintf("frame 1 is %x", first), fmt.Sprintf(none, rawFrame(first)), api.ErrRecord)
	}
	judged(t, "48 vertices", fmt.Sprintf(none, rawFrame("\x30")), api.OK)
	for n := 1; n <= api.MaxN; n++ {
		judged(t, "without edges", newLayers(n).save(), api.OK)
	}
}

func TestP9Edges(t *testing.T) {
	for _, c := range []struct {
		what  string
		edges []int
	}{
		{"nothing", nil},
		{"fewer than told", nums{4, 0, 1, 1, 0, 2, 0, 1, 2, 1}},
		{"more than told", nums{2, 0, 1, 1, 0, 2, 0, 1, 2, 1}},
		{"none told", nums{0, 0, 1, 1, 0, 2, 0, 1, 2, 1}},
		{"far more told", nums{1<<28 - 1, 0, 1, 1, 0, 2, 0, 1, 2, 1}},
		{"two numbers of the last", nums{3, 0, 1, 1, 0, 2, 0, 1, 2}},
		{"a number more", nums{3, 0, 1, 1, 0, 2, 0, 1, 2, 1, 0}},
		{"an edge twice", nums{3, 0, 1, 1, 0, 1, 1, 1, 2, 1}},
		{"an edge twice, of two kinds", nums{4, 0, 1, 1, 0, 2, 0, 1, 2, 0, 1, 2, 1}},
		{"other ends that fall", nums{3, 0, 2, 0, 0, 1, 1, 1, 2, 1}},
		{"lesser ends that fall", nums{3, 0, 1, 1, 1, 2, 1, 0, 2, 0}},
		{"the lesser end behind", nums{3, 1, 0, 1, 0, 2, 0, 1, 2, 1}},
		{"the lesser end behind, in the end", nums{3, 0, 1, 1, 0, 2, 0, 2, 1, 1}},
		{"from 1 to itself", nums{4, 0, 1, 1, 0, 2, 0, 1, 1, 0, 1, 2, 1}},
		{"from 0 to itself", nums{4, 0, 0, 0, 0, 1, 1, 0, 2, 0, 1, 2, 1}},
		{"an end that is no vertex", nums{3, 0, 1, 1, 0, 3, 0, 1, 2, 1}},
		{"an end far off", nums{3, 0, 1, 1, 0, 1<<28 - 1, 0, 1, 2, 1}},
		{"both ends far off", nums{3, 0, 1, 1, 0, 2, 0, 1<<28 - 2, 1<<28 - 1, 1}},
		{"a level above L", nums{3, 0, 1, 1, 0, 2, 4, 1, 2, 1}},
		{"a level above L, of the forest", nums{3, 0, 1, 1, 0, 2, 0, 1, 2, 5}},
		{"a level far above L", nums{3, 0, 1, 1, 0, 2, 1<<28 - 2, 1, 2, 1}},
	} {
		judged(t, c.what, bytesOf([3][]int{{3}, c.edges, circle[2]}), api.ErrRecord)
	}
	for what, content := range map[string]string{
		"a number of too many bytes":   "\x03\x00\x01\x81\x00\x00\x02\x00\x01\x02\x01",
		"a count of too many bytes":    "\x83\x00\x00\x01\x01\x00\x02\x00\x01\x02\x01",
		"a number that breaks off":     "\x03\x00\x01\x01\x00\x02\x00\x01\x02\x81",
		"a number that is not below":   "\x03\x00\x01\x01\x00\x02\x00\x01\x02\x81\x80\x80\x80\x10",
		"a number that is far too big": "\x03\x00\x01\x01\x00\x02\x00\x01\x02" + strings.Repeat("\xff", 40) + "\x01",
	} {
		judged(t, what, "HDT1"+framed(circle[0])+rawFrame(content)+framed(circle[2]), api.ErrRecord)
	}
}

// The level L may be told, but no edge can have it; L + 1 may not.
func TestP9TopLevel(t *testing.T) {
	for n := 2; n <= api.MaxN; n++ {
		frames := newLayers(n).frames()
		top := len(frames[2]) - 1
		frames[1] = nums{1, 0, n - 1, 2*top + 2}
		judged(t, "level L + 1", bytesOf(frames), api.ErrRecord)
		frames[1] = nums{1, 0, n - 1, 2*top + 3}
		judged(t, "level L + 1, of the forest", bytesOf(frames), api.ErrRecord)
		frames[1] = nums{1, 0, n - 1, 2 * top}
		judged(t, "level L", bytesOf(frames), api.ErrLevel)
		frames[1] = nums{1, 0, n - 1, 2*top + 1}
		judged(t, "level L, of the forest, without tours", bytesOf(frames), api.ErrTour)
		frames[2] = nil
		for k := 0; k <= top; k++ {
			frames[2] = append(frames[2], 1, 0, 2, n, 0, 1)
		}
		judged(t, "level L, of the forest", bytesOf(frames), api.ErrLevel)
	}
}

func TestP9Tours(t *testing.T) {
	twoTrees := nums{2, 0, 1, 1, 2, 3, 1}
	wayOfFour := nums{3, 0, 1, 1, 1, 2, 1, 2, 3, 1}
	circleOfFour := nums{4, 0, 1, 1, 0, 3, 1, 1, 2, 1, 2, 3, 1}
	for _, c := range []struct {
		what         string
		n            int
		edges, tours []int
		want         api.Errno
	}{
		{"nothing", 3, circle[1], nil, api.ErrTour},
		{"nothing of an index without edges", 1, nums{0}, nil, api.ErrTour},
		{"a level too few", 3, circle[1], nums{1, 0, 3, 2, 3, 0, 2, 0, 1}, api.ErrTour},
		{"a level too many", 3, circle[1], nums{1, 0, 3, 2, 3, 0, 2, 0, 1, 0, 0}, api.ErrTour},
		{"a level too many of 1", 1, nums{0}, nums{0, 0}, api.ErrTour},
		{"a tree left out", 3, circle[1], nums{0, 0}, api.ErrTour},
		{"a tree told, not there", 3, circle[1], nums{0, 0, 3, 2, 3, 0, 2, 0, 1, 0}, api.ErrTour},
		{"a tree that breaks off", 3, circle[1], nums{1, 0, 3, 2, 3, 0}, api.ErrTour},
		{"a tree without items", 3, circle[1], nums{1, 0, 3}, api.ErrTour},
		{"a tree without size", 3, circle[1], nums{1, 0}, api.ErrTour},
		{"far more trees than there are", 3, circle[1], nums{1<<28 - 1, 0, 3, 2, 3, 0, 2, 0, 1, 0}, api.ErrTour},
		{"far more vertices", 3, circle[1], nums{1, 0, 1<<28 - 1, 2, 3, 0, 2, 0, 1, 0}, api.ErrTour},
		{"a vertex more", 3, circle[1], nums{1, 0, 4, 2, 3, 0, 2, 0, 1, 0, 0, 0, 0}, api.ErrTour},
		{"a vertex less", 3, circle[1], nums{1, 0, 2, 2, 3, 0, 2, 0, 1, 0}, api.ErrTour},
		{"no vertices", 3, circle[1], nums{1, 0, 0, 2, 3, 0, 2, 0, 1, 0}, api.ErrTour},
		{"it begins at no vertex", 3, circle[1], nums{1, 3, 3, 2, 3, 0, 2, 0, 1, 0}, api.ErrTour},
		{"it begins far off", 3, circle[1], nums{1, 1<<28 - 1, 3, 2, 3, 0, 2, 0, 1, 0}, api.ErrTour},
		{"it leads to no vertex", 3, circle[1], nums{1, 0, 3, 2, 4, 0, 2, 0, 1, 0}, api.ErrTour},
		{"it leads far off", 3, circle[1], nums{1, 0, 3, 2, 1<<28 - 1, 0, 2, 0, 1, 0}, api.ErrTour},
		{"by the edge beside the forest", 3, circle[1], nums{1, 0, 3, 3, 0, 2, 0, 3, 1, 0}, api.ErrTour},
		{"by an edge that is not there", 3, nums{2, 0, 1, 1, 1, 2, 1}, nums{1, 0, 3, 3, 0, 2, 0, 3, 1, 0}, api.ErrTour},
		{"1 stands behind 2", 3, circle[1], nums{1, 0, 3, 2, 3, 0, 2, 0, 1, 0}, api.OK},
		{"1 stands ahead of 2", 3, circle[1], nums{1, 0, 3, 2, 0, 3, 0, 2, 1, 0}, api.OK},
		{"1 stands twice, 2 does not", 3, circle[1], nums{1, 0, 3, 2, 0, 3, 2, 0, 1, 0}, api.ErrTour},
		{"0 stands twice", 3, circle[1], nums{1, 0, 3, 0, 2, 3, 0, 2, 1, 0}, api.ErrTour},
		{"0 stands twice, in the end", 3, circle[1], nums{1, 0, 3, 2, 0, 3, 2, 1, 0, 0}, api.ErrTour},
		{"a way for a vertex", 2, nums{1, 0, 1, 1}, nums{1, 0, 2, 2, 2, 1, 0}, api.ErrTour},
		{"a way for the least vertex", 2, nums{1, 0, 1, 1}, nums{1, 0, 2, 1, 2, 1, 0}, api.ErrTour},
		{"there and back, there and back", 3, circle[1], nums{1, 0, 3, 2, 0, 1, 2, 1, 0, 0}, api.ErrTour},
		{"the way is not closed", 2, nums{1, 0, 1, 1}, nums{1, 0, 2, 2, 0, 0, 0}, api.ErrTour},
		{"a tree of one vertex", 3, nums{1, 0, 1, 1}, nums{2, 0, 2, 2, 0, 1, 2, 1, 0}, api.ErrTour},
		{"a tree of one vertex alone", 1, nums{0}, nums{1, 0, 1}, api.ErrTour},
		{"two trees", 5, twoTrees, nums{2, 0, 2, 2, 0, 1, 2, 2, 4, 0, 3, 0, 0}, api.OK},
		{"two trees that fall", 5, twoTrees, nums{2, 2, 2, 4, 0, 3, 0, 2, 2, 0, 1, 0, 0}, api.ErrTour},
		{"a tree twice", 5, twoTrees, nums{2, 0, 2, 2, 0, 1, 0, 2, 2, 0, 1, 0, 0}, api.ErrTour},
		{"a tree twice, and the other", 5, twoTrees, nums{3, 0, 2, 2, 0, 1, 0, 2, 2, 0, 1, 2, 2, 4, 0, 3, 0, 0}, api.ErrTour},
		{"one of two trees", 5, twoTrees, nums{1, 0, 2, 2, 0, 1, 0, 0}, api.ErrTour},
		{"the other of two trees", 5, twoTrees, nums{1, 2, 2, 4, 0, 3, 0, 0}, api.ErrTour},
		{"a tree of a level that it has not", 5, twoTrees, nums{2, 0, 2, 2, 0, 1, 2, 2, 4, 0, 3, 1, 0, 2, 2, 0, 1, 0}, api.ErrTour},
		{"a tree left out of a level", 5, nums{2, 0, 1, 3, 2, 3, 1}, nums{2, 0, 2, 2, 0, 1, 2, 2, 4, 0, 3, 0, 0}, api.ErrTour},
		{"a tree of its level", 5, nums{2, 0, 1, 3, 2, 3, 1}, nums{2, 0, 2, 2, 0, 1, 2, 2, 4, 0, 3, 1, 0, 2, 2, 0, 1, 0}, api.OK},
		{"a tree not begun at its least vertex", 5, twoTrees, nums{2, 0, 2, 2, 0, 1, 3, 2, 3, 0, 4, 0, 0}, api.ErrTour},
		{"a way of four", 4, wayOfFour, nums{1, 0, 4, 2, 3, 4, 0, 3, 0, 2, 0, 1, 0, 0}, api.OK},
		{"a way of four in two parts", 4, wayOfFour, nums{2, 0, 2, 2, 0, 1, 2, 2, 4, 0, 3, 0, 0}, api.ErrTour},
		{"a way of four in parts that share 1", 4, wayOfFour, nums{2, 0, 2, 2, 0, 1, 1, 3, 3, 4, 0, 3, 0, 2, 0, 0}, api.ErrTour},
		{"a way of four without its end", 4, wayOfFour, nums{1, 0, 3, 2, 3, 0, 2, 0, 1, 0, 0}, api.ErrTour},
		{"a circle, one way around", 4, circleOfFour, nums{1, 0, 4, 2, 0, 3, 0, 4, 0, 1, 4, 1, 0, 0}, api.ErrTour},
		{"a circle, both ways around", 4, circleOfFour, nums{1, 0, 4, 2, 0, 3, 0, 4, 0, 1, 4, 3, 2, 1, 0, 0}, api.ErrTour},
		{"a circle as a tree", 4, circleOfFour, nums{1, 0, 4, 2, 3, 4, 0, 3, 0, 2, 0, 1, 0, 0}, api.ErrTour},
		{"a circle as two trees", 4, circleOfFour, nums{2, 0, 2, 2, 0, 1, 2, 2, 4, 0, 3, 0, 0}, api.ErrTour},
		{"a circle at a level where it is none", 4, nums{4, 0, 1, 1, 0, 3, 3, 1, 2, 1, 2, 3, 1}, nums{1, 0, 4, 2, 3, 4, 0, 3, 0, 2, 0, 1, 1, 0, 2, 4, 0, 1, 0}, api.ErrTour},
	} {
		s := bytesOf([3][]int{{c.n}, c.edges, c.tours})
		judged(t, c.what, s, c.want)
		if got := verdict(s); got != c.want {
			t.Errorf("%s: the verdict is %d, want %d", c.what, got, c.want)
		}
	}
	for what, content := range map[string]string{
		"a number of too many bytes": "\x01\x00\x03\x02\x03\x80\x00\x02\x00\x01\x00",
		"the last of too many bytes": "\x01\x00\x03\x02\x03\x00\x02\x00\x01\x80\x00",
		"a number that breaks off":   "\x01\x00\x03\x02\x03\x00\x02\x00\x01\x80",
		"a number that is not below": "\x01\x00\x03\x02\x83\x80\x80\x80\x10\x00\x02\x00\x01\x00",
	} {
		judged(t, what, "HDT1"+framed(circle[0])+framed(circle[1])+rawFrame(content), api.ErrTour)
	}
}

// Of all rows of items just the tours are accepted: at a vertex of d edges
// there are d times ... times 1 of them.
func TestP9EveryRowOfItems(t *testing.T) {
	for _, c := range []struct {
		what  string
		edges []int
		want  int
	}{
		{"a way 0 1 2", nums{2, 0, 1, 1, 1, 2, 1}, 2},
		{"a way 1 0 2", nums{2, 0, 1, 1, 0, 2, 1}, 2},
		{"a way 0 2 1, and an edge beside", nums{3, 0, 1, 0, 0, 2, 1, 1, 2, 1}, 2},
		{"a circle", nums{3, 0, 1, 1, 0, 2, 1, 1, 2, 1}, 0},
		{"an edge", nums{1, 0, 1, 1}, 0},
		{"no edge", nums{0}, 0},
	} {
		accepted := 0
		for row := 0; row < 1<<12; row++ {
			tours := nums{1, 0, 3}
			for k := 0; k < 6; k++ {
				tours = append(tours, row>>(2*k)&3)
			}
			s := bytesOf([3][]int{{3}, c.edges, append(tours, 0)})
			judged(t, c.what, s, verdict(s))
			if verdict(s) == api.OK {
				accepted++
			}
		}
		if accepted != c.want {
			t.Errorf("%s: %d rows are accepted, want %d", c.what, accepted, c.want)
		}
	}
}

// The same of four vertices, of which each row has the right items.
func TestP9EveryOrderOfItems(t *testing.T) {
	for _, c := range []struct {
		what         string
		edges, items []int
		want         int
	}{
		{"a star around 0", nums{3, 0, 1, 1, 0, 2, 1, 0, 3, 1}, nums{0, 0, 0, 1, 1, 1, 2, 3, 4}, 6},
		{"a star around 2", nums{3, 0, 2, 1, 1, 2, 1, 2, 3, 1}, nums{0, 0, 0, 1, 2, 3, 3, 3, 4}, 6},
		{"a way", nums{3, 0, 1, 1, 1, 2, 1, 2, 3, 1}, nums{0, 0, 0, 1, 2, 2, 3, 3, 4}, 4},
	} {
		accepted := 0
		for more := true; more; more = nextOrder(c.items) {
			tours := append(nums{1, 0, 4}, c.items...)
			_, e := index.Load(bytesOf([3][]int{{4}, c.edges, append(tours, 0, 0)}), 7)
			if e == api.OK {
				accepted++
			} else if e != api.ErrTour {
				t.Fatalf("%s: %v: %d", c.what, c.items, e)
			}
		}
		if accepted != c.want {
			t.Errorf("%s: %d orders are accepted, want %d", c.what, accepted, c.want)
		}
	}
}

// nextOrder: the list's next order in the row of all that are different; false behind the last.
func nextOrder(list []int) bool {
	k := len(list) - 2
	for k >= 0 && list[k] >= list[k+1] {
		k--
	}
	if k < 0 {
		return false
	}
	j := len(list) - 1
	for list[j] <= list[k] {
		j--
	}
	list[k], list[j] = list[j], list[k]
	slices.Reverse(list[k+1:])
	return true
}

// A way of as many vertices as a tree of the level may have, and of one more.
func TestP9GreatTrees(t *testing.T) {
	for n := 2; n <= api.MaxN; n++ {
		for level := range newLayers(n).next {
			most := n >> level
			for _, c := range []struct {
				size int
				want api.Errno
			}{{most, api.OK}, {most + 1, api.ErrLevel}, {n, api.ErrLevel}} {
				if c.size > n || c.size < 2 || level == 0 {
					continue
				}
				judged(t, fmt.Sprintf("%d of %d at level %d", c.size, n, level), wayAt(n, c.size, level).save(), c.want)
			}
		}
	}
}

// wayAt: the last vertices of n are a way whose edges have the level.
func wayAt(n, size, level int) *layers {
	s := newLayers(n)
	for v := n - size + 1; v < n; v++ {
		s.edges[key(v-1, v)] = layered{true, level}
		for k := 0; k <= level; k++ {
			s.link(k, v-1, v)
		}
	}
	return s
}

// The ends of an edge beside the forest are in one tree of its level, not only of one below it.
func TestP9BesideTheForest(t *testing.T) {
	for _, n := range []int{8, 16, 31, 32, api.MaxN} {
		top := len(newLayers(n).next) - 1
		for level := 0; level < top; level++ {
			for beside := 0; beside <= top; beside++ {
				// A way of three vertices, where a tree may have as many.
				if n>>level < 3 {
					continue
				}
				want := api.ErrLevel
				if beside <= level {
					want = api.OK
				}
				s := wayAt(n, 3, level)
				s.edges[key(n-3, n-1)] = layered{level: beside}
				judged(t, fmt.Sprintf("of %d, level %d beside level %d", n, beside, level), s.save(), want)
				s.edges[key(0, n-1)] = layered{level: 0}
				judged(t, fmt.Sprintf("of %d, level %d beside level %d, and from 0", n, beside, level), s.save(), api.ErrLevel)
			}
		}
		s := newLayers(n)
		s.edges[key(0, 1)] = layered{}
		judged(t, "beside no forest", s.save(), api.ErrLevel)
	}
}

// Where several errors apply the answer is the one named first.
func TestP9FirstErrorHolds(t *testing.T) {
	noFrame := bytesOf(circle)[:20]
	judged(t, "ErrLong ahead of ErrMagic", strings.Repeat("x", api.MaxBytes+1), api.ErrLong)
	judged(t, "ErrMagic ahead of ErrFrame", "HDT2"+noFrame[4:], api.ErrMagic)
	record, tours := nums{1, 2, 1, 1}, nums{5}
	a, b, c := framed(nums{0}), framed(record), framed(tours)
	for k := 1; k <= len(c); k++ {
		judged(t, "ErrFrame ahead of ErrRecord", "HDT1"+a+b+c[:len(c)-k], api.ErrFrame)
	}
	judged(t, "ErrFrame ahead of ErrRecord", "HDT1"+a+b+c+"\x00", api.ErrFrame)
	judged(t, "ErrRecord of frame 1 ahead of ErrTour", "HDT1"+a+framed(nums{0})+c, api.ErrRecord)
	judged(t, "ErrRecord of frame 2 ahead of ErrTour", "HDT1"+framed(nums{3})+b+c, api.ErrRecord)
	// The level of 0 - 1 is too great for its tree, and the tours leave that level out.
	high := nums{3, 0, 1, 3, 0, 2, 0, 1, 2, 1}
	judged(t, "ErrTour ahead of ErrLevel of a tree", bytesOf([3][]int{{3}, high, circle[2]}), api.ErrTour)
	judged(t, "ErrTour ahead of ErrLevel beside", bytesOf([3][]int{{3}, {3, 0, 1, 1, 0, 2, 2, 1, 2, 1}, {1, 0, 3, 2, 3, 0, 2, 0, 1}}), api.ErrTour)
	judged(t, "ErrTour ahead of ErrLevel of no tree", bytesOf([3][]int{{2}, {1, 0, 1, 0}, {0, 0, 0}}), api.ErrTour)
}

// changes lists the numbers with one of them left out, doubled, changed, or
// changed for its neighbour.
func changes(list []int, values int) [][]int {
	var all [][]int
	for k := range list {
		all = append(all, slices.Delete(slices.Clone(list), k, k+1))
		all = append(all, slices.Insert(slices.Clone(list), k, list[k]))
		for x := 0; x < values; x++ {
			other := slices.Clone(list)
			other[k] = x
			all = append(all, other)
		}
		if k > 0 {
			other := slices.Clone(list)
			other[k-1], other[k] = other[k], other[k-1]
			all = append(all, other)
		}
	}
	return append(all, append(slices.Clone(list), 0))
}

// Snapshots of all kinds, with numbers changed and the sums right, against the verdict.
func TestP9ChangedNumbers(t *testing.T) {
	c := chance{31}
	count := map[api.Errno]int{}
	for n := 1; n <= 12; n++ {
		for k := 0; k < 4; k++ {
			frames := makeLayers(n, &c).frames()
			judged(t, "as it was", bytesOf(frames), api.OK)
			for part := range frames {
				for _, other := range changes(frames[part], n+3) {
					changed := frames
					changed[part] = other
					s := bytesOf(changed)
					e := verdict(s)
					judged(t, fmt.Sprintf("%v", changed), s, e)
					count[e]++
				}
			}
		}
	}
	for _, e := range []api.Errno{api.OK, api.ErrRecord, api.ErrTour, api.ErrLevel} {
		if count[e] < 100 {
			t.Errorf("only %d are answered with %d", count[e], e)
		}
	}
}
