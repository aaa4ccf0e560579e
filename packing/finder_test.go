package packing

import "testing"

// TestFinderStaysSmall: what no copy reaches any more is not kept, however much data there is.
func TestFinderStaysSmall(t *testing.T) {
	data := make([]byte, 3*window)
	chance := uint32(1)
	for i := range data {
		chance = chance*1664525 + 1013904223
		data[i] = byte(chance >> 24)
	}
	f := newFinder(data)
	for at := range data[:len(data)-leastCopy+1] {
		f.note(at, at+1)
		if at%1000 > 0 && at != window-1 {
			continue
		}
		for _, last := range f.last {
			if at+1-last > mostDistance {
				t.Fatalf("behind the place %d the finder has the place %d still", at, last)
			}
		}
	}
	if n := len(f.last); n > window {
		t.Errorf("the finder has %d words, want at most %d", n, window)
	}
}
