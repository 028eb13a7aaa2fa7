// Package crcs sums bytes, so that a frame that was cut off or changed is told from a whole one: see DOC.md.
package crcs

// turned is the sum's polynomial with its bits turned round, for the lowest bit of a byte is summed first.
const turned = 0xEDB88320

// Sum tells b's sum. It is the usual CRC-32, so other programs can check what fettle wrote.
func Sum(b []byte) uint32 {
	// Ones at the beginning make noughts ahead of the bytes count.
	sum := ^uint32(0)
	for _, c := range b {
		sum = shift(sum ^ uint32(c))
	}
	return ^sum
}

// shift takes a byte's eight bits through the sum.
func shift(sum uint32) uint32 {
	for range 8 {
		odd := sum & 1
		sum >>= 1
		if odd == 1 {
			sum ^= turned
		}
	}
	return sum
}
