package frames

import (
	"iter"

	"segments/numbers"
)

// Each goes through the frames that b begins with: the offset behind the records of each, and its bytes. It ends where one is not all there. Sums are not worked out: it is for frames that were found right already.
func Each(b []byte) iter.Seq2[int64, []byte] {
	return func(yield func(int64, []byte) bool) {
		for {
			next, size, ok := outline(b)
			if !ok || !yield(next, b[:size:size]) {
				return
			}
			b = b[size:]
		}
	}
}

// outline tells the offset behind a frame's records, and how many bytes it has.
func outline(b []byte) (next int64, size int, ok bool) {
	r := numbers.NewReader(b)
	follow := r.Fixed(sizeWidth)
	r = numbers.NewReader(r.Bytes(follow))
	r.Bytes(sumWidth)
	base := r.Fixed(baseWidth)
	r.Bytes(formWidth)
	count := r.Varint()
	return int64(base + count), sizeWidth + int(follow), !r.Bad()
}
