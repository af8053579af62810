package frame

import (
	"encoding/binary"
	"slices"
	"strings"
	"testing"
)

func TestRead(t *testing.T) {
	for _, c := range []struct {
		s         string
		x, digits int
	}{
		{"", 0, 0},
		{"\x00", 0, 1},
		{"\x00\x05", 0, 1},
		{"\x7f\x80", 127, 1},
		{"\x80", 0, 0},
		{"\x80\x01", 128, 2},
		{"\xff\x7f", 1<<14 - 1, 2},
		{"\x80\x80", 0, 0},
		{"\x80\x80\x01", 1 << 14, 3},
		{"\x80\x80\x80\x01\x09", 1 << 21, 4},
		{"\xff\xff\xff\x7f", 1<<28 - 1, 4},
		// More bytes than it needs.
		{"\x80\x00", 0, 0},
		{"\x83\x00", 0, 0},
		{"\x83\x80\x00", 0, 0},
		{"\xff\xff\xff\x00", 0, 0},
		// Not below 2^28.
		{"\x80\x80\x80\x80", 0, 0},
		{"\x80\x80\x80\x80\x01", 0, 0},
		{"\xff\xff\xff\xff\x7f", 0, 0},
		{"\xff\xff\xff\xff\x00", 0, 0},
		{strings.Repeat("\xff", 20) + "\x01", 0, 0},
	} {
		if x, digits := read(c.s); x != c.x || digits != c.digits {
			t.Errorf("%x: %d, of %d bytes, want %d, %d", c.s, x, digits, c.x, c.digits)
		}
	}
}

func TestReadWhatWasWritten(t *testing.T) {
	for x := 0; x < 1<<28; x += 1 + x/50 {
		s := string(written(x))
		for _, behind := range []string{"", "\x00", "\xff\xff"} {
			if got, digits := read(s + behind); got != x || digits != len(s) {
				t.Fatalf("%x: %d, of %d bytes, want %d", s+behind, got, digits, x)
			}
		}
		for k := range s {
			if _, digits := read(s[:k]); digits != 0 {
				t.Fatalf("%x is no number", s[:k])
			}
		}
	}
}

func TestNumbers(t *testing.T) {
	for _, c := range []struct {
		s    string
		want []int
		ok   bool
	}{
		{"", []int{}, true},
		{"\x00", []int{0}, true},
		{"\x05\x80\x01\x00", []int{5, 128, 0}, true},
		{"\x05\x80", nil, false},
		{"\x05\x80\x00", nil, false},
		{"\x80\x80\x80\x80\x01\x05", nil, false},
	} {
		got, ok := Numbers(c.s)
		if ok != c.ok || !slices.Equal(got, c.want) || !ok && got != nil {
			t.Errorf("%x: %v, %v, want %v", c.s, got, ok, c.want)
		}
	}
}

func TestSplitWhatWasMade(t *testing.T) {
	for _, numbers := range [][]int{{}, {0}, {300, 0, 1<<28 - 1}, make([]int, 127), make([]int, 128), make([]int, 20000)} {
		s := Of(numbers)
		for _, behind := range []string{"", "\x00", Of([]int{7})} {
			content, rest, ok := Split(s + behind)
			if !ok || rest != behind {
				t.Fatalf("%d numbers: %v, behind it %x, want %x", len(numbers), ok, rest, behind)
			}
			if got, ok := Numbers(content); !ok || !slices.Equal(got, numbers) {
				t.Fatalf("%v, %v, want %v", got, ok, numbers)
			}
		}
	}
}

func TestSplitWhatIsNoFrame(t *testing.T) {
	s := Of([]int{3, 300, 0})
	var wrong []string
	for k := range s {
		wrong = append(wrong, s[:k])
		for bit := 0; bit < 8; bit++ {
			other := []byte(s)
			other[k] ^= 1 << bit
			wrong = append(wrong, string(other))
		}
	}
	// A length that is right, but is not written as numbers are.
	wrong = append(wrong, string([]byte{s[0] + 128, 0})+s[1:])
	wrong = append(wrong, string([]byte{s[0] + 128, 128, 128, 128, 0})+s[1:])
	// Lengths of more bytes than there are, up to the greatest number and beyond.
	for x := uint64(5); x < 1<<40; x *= 3 {
		wrong = append(wrong, string(binary.AppendUvarint(nil, x))+s[1:])
	}
	for _, w := range wrong {
		if content, rest, ok := Split(w); ok || content != "" || rest != "" {
			t.Errorf("%x: %x, %x, %v", w, content, rest, ok)
		}
	}
}
