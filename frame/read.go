package frame

// maxDigits: a number is below 2^28, so it has at most so many bytes.
const maxDigits = 4

// Split: the bytes that the frame at the beginning of s holds, and what lies
// behind that frame; false if s does not begin with a frame.
func Split(s string) (string, string, bool) {
	length, digits := read(s)
	if digits == 0 || length > len(s)-digits-sumBytes {
		return "", "", false
	}
	end := digits + length
	content := s[digits:end]
	seal := sealOf([]byte(content))
	if s[end:end+sumBytes] != string(seal) {
		return "", "", false
	}
	return content, s[end+sumBytes:], true
}

// Numbers: those of which the bytes of a frame are made, in a fresh list;
// false if they are not made of numbers alone.
func Numbers(content string) ([]int, bool) {
	list := []int{}
	for len(content) > 0 {
		x, digits := read(content)
		if digits == 0 {
			return nil, false
		}
		list = append(list, x)
		content = content[digits:]
	}
	return list, true
}

// read: the number at the beginning of s, and how many bytes it has; they are
// 0 if s does not begin with a number as it is written.
func read(s string) (int, int) {
	x := 0
	unit := 1
	for k := 0; k < len(s) && k < maxDigits; k++ {
		digit := int(s[k])
		if digit >= 128 {
			x += (digit - 128) * unit
			unit *= 128
			continue
		}
		// The number would do without a last byte that adds nothing.
		if k > 0 && digit == 0 {
			return 0, 0
		}
		return x + digit*unit, k + 1
	}
	return 0, 0
}
