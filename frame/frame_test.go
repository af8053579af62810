package frame

import (
	"encoding/binary"
	"hash/crc32"
	"testing"
)

func TestWritten(t *testing.T) {
	for _, c := range []struct {
		x    int
		want string
	}{
		{0, "\x00"},
		{1, "\x01"},
		{127, "\x7f"},
		{128, "\x80\x01"},
		{129, "\x81\x01"},
		{255, "\xff\x01"},
		{256, "\x80\x02"},
		{1<<14 - 1, "\xff\x7f"},
		{1 << 14, "\x80\x80\x01"},
		{1<<21 - 1, "\xff\xff\x7f"},
		{1 << 21, "\x80\x80\x80\x01"},
		{1<<28 - 1, "\xff\xff\xff\x7f"},
	} {
		if got := string(written(c.x)); got != c.want {
			t.Errorf("%d: %x, want %x", c.x, got, c.want)
		}
	}
	for x := 0; x < 1<<28; x += 1 + x/50 {
		if got, want := string(written(x)), string(binary.AppendUvarint(nil, uint64(x))); got != want {
			t.Fatalf("%d: %x, want %x", x, got, want)
		}
	}
}

func TestSum(t *testing.T) {
	if got := sum([]byte("123456789")); got != 0xcbf43926 {
		t.Errorf("of 123456789: %x", got)
	}
	var content []byte
	for k := 0; k < 600; k++ {
		if got, want := sum(content), crc32.ChecksumIEEE(content); got != want {
			t.Fatalf("of %x: %x, want %x", content, got, want)
		}
		content = append(content, byte(k*k+k/7))
	}
}

func TestOf(t *testing.T) {
	for _, c := range []struct {
		numbers []int
		want    string
	}{
		{nil, "\x00\x00\x00\x00\x00"},
		{[]int{1}, "\x01\x01\x1b\xdf\x05\xa5"},
		{[]int{0}, "\x01\x00\x8d\xef\x02\xd2"},
		{[]int{'1', '2', '3', '4', '5', '6', '7', '8', '9'}, "\x09123456789\x26\x39\xf4\xcb"},
	} {
		if got := Of(c.numbers); got != c.want {
			t.Errorf("%v: %x, want %x", c.numbers, got, c.want)
		}
	}
}

// The length counts bytes, not numbers, and is a number itself.
func TestOfLengths(t *testing.T) {
	for _, x := range []int{5, 200, 20000, 1<<28 - 1} {
		var numbers []int
		var content []byte
		for len(content) < 17000 {
			numbers = append(numbers, x)
			content = binary.AppendUvarint(content, uint64(x))
			if k := len(content); k > 140 && k < 16370 || k > 16400 {
				continue
			}
			want := binary.AppendUvarint(nil, uint64(len(content)))
			want = append(want, content...)
			want = binary.LittleEndian.AppendUint32(want, crc32.ChecksumIEEE(content))
			if Of(numbers) != string(want) {
				t.Fatalf("%d times %d: %x, want %x", len(numbers), x, Of(numbers), want)
			}
		}
	}
}

func TestOfChangesNothing(t *testing.T) {
	numbers := make([]int, 3, 8)
	numbers[0] = 300
	Of(numbers)
	numbers = numbers[:8]
	for k, x := range []int{300, 0, 0, 0, 0, 0, 0, 0} {
		if numbers[k] != x {
			t.Fatalf("%v", numbers)
		}
	}
}
