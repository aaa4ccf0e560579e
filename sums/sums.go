// Package sums has the sum of bytes, CRC-32C, as DOC.md's section 'Words' tells it.
package sums

const polynomial = 0x82f63b78 // with its bits turned about, so that the sum goes to the right

// table has for each byte what the eight steps of its bits do to a sum.
var table [256]uint32

func init() {
	for i := range table {
		table[i] = eightSteps(uint32(i))
	}
}

func eightSteps(sum uint32) uint32 {
	for range 8 {
		lowest := sum & 1
		sum = sum>>1 ^ lowest*polynomial
	}
	return sum
}

// Of is the sum of bytes.
func Of(b []byte) uint32 {
	sum := ^uint32(0)
	for _, x := range b {
		sum = sum>>8 ^ table[byte(sum)^x]
	}
	return ^sum
}
