// Package frame: the numbers and frames of which a snapshot is made: see DOC.md, P8.
package frame

// ones: a sum begins with all bits set, and all are turned in its end.
const ones uint32 = 1<<32 - 1

// sumBytes: how many a sum has.
const sumBytes = 4

// Of: the frame that holds the numbers, each of them from 0 to 2^28 - 1.
func Of(numbers []int) string {
	content := []byte{}
	for _, x := range numbers {
		digits := written(x)
		content = append(content, digits...)
	}
	list := written(len(content))
	list = append(list, content...)
	seal := sealOf(content)
	list = append(list, seal...)
	return string(list)
}

// written: a number with seven bits to a byte, the lowest first, in a fresh list.
func written(x int) []byte {
	list := []byte{}
	for x >= 128 {
		// The 128 says that more bytes follow.
		list = append(list, byte(128+x%128))
		x /= 128
	}
	list = append(list, byte(x))
	return list
}

// sealOf: the sum of the bytes as it stands behind them, in a fresh list.
func sealOf(content []byte) []byte {
	list := []byte{}
	crc := sum(content)
	for k := 0; k < sumBytes; k++ {
		list = append(list, byte(crc))
		crc >>= 8
	}
	return list
}

// sum: the CRC-32 of the bytes.
func sum(content []byte) uint32 {
	crc := ones
	for _, b := range content {
		crc ^= uint32(b)
		for bit := 0; bit < 8; bit++ {
			fell := crc & 1
			crc >>= 1
			if fell == 1 {
				crc ^= 0xedb88320
			}
		}
	}
	return crc ^ ones
}
