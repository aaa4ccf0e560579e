// Package numbers writes numbers as bytes and reads them again, as DOC.md's section 'Words' tells them: of a fixed width, as varints and as zigzags.
package numbers

const (
	groupBits = 7              // bits of a number that a byte of a varint has
	goesOn    = 1 << groupBits // set in each byte of a varint but the last one
	mostBytes = 10             // bytes of a varint, at the most
)

// PutFixed writes numbers one behind the other, each of them in width bytes, the highest one first.
func PutFixed(out []byte, width int, list ...uint64) []byte {
	for _, n := range list {
		for i := range width {
			out = append(out, byte(n>>(8*(width-1-i))))
		}
	}
	return out
}

// PutVarints writes numbers one behind the other, each of them as a varint.
func PutVarints(out []byte, list ...uint64) []byte {
	for _, n := range list {
		for n >= goesOn {
			out = append(out, byte(n)|goesOn)
			n >>= groupBits
		}
		out = append(out, byte(n))
	}
	return out
}

// Zigzag is the number that stands for n in a varint.
func Zigzag(n int64) uint64 { return uint64(n<<1) ^ uint64(n>>63) }

// unzigzag is the number that a varint's one stands for.
func unzigzag(z uint64) int64 { return int64(z>>1) ^ -int64(z&1) }
