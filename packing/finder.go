package packing

const (
	// mostTries is how many places are tried for a copy. All that stand at most 100 ahead must be among them, for one of them is a whole repeat of data that repeats in up to 100 bytes (P4); more would cost time.
	mostTries = 128

	hashBits = 12
	window   = mostDistance + 1
)

// finder finds bytes that stood ahead in data. Places whose next bytes have the same hash are a chain, from the last one back.
type finder struct {
	data []byte
	last [1 << hashBits]int // of each hash: the last place noted and 1; 0 is none
	back []uint16           // of each place within the window: how far back the next one of its chain stands; 0 is none
}

func newFinder(data []byte) *finder {
	return &finder{data: data, back: make([]uint16, min(len(data), window))}
}

// hash is of the leastCopy bytes that stand there.
func (f *finder) hash(at int) uint32 {
	b := f.data[at : at+leastCopy]
	word := uint32(b[0])<<24 | uint32(b[1])<<16 | uint32(b[2])<<8 | uint32(b[3])
	return word * 2654435761 >> (32 - hashBits)
}

// hashed tells whether there are bytes enough for a hash, and so for a copy.
func (f *finder) hashed(at int) bool { return at+leastCopy <= len(f.data) }

// note takes the places from one up to another into their chains.
func (f *finder) note(from, to int) {
	for at := from; at < to && f.hashed(at); at++ {
		h := f.hash(at)
		f.back[at%window] = f.reach(at, f.last[h])
		f.last[h] = at + 1
	}
}

// reach is the distance to a place that is told with 1 added; 0, if there is none or it is too far.
func (f *finder) reach(at, mark int) uint16 {
	distance := at - (mark - 1)
	if mark == 0 || distance > mostDistance {
		return 0
	}
	return uint16(distance)
}

// longest finds the longest copy for the bytes from at on, the nearest one of several; its count is 0 if there is none.
func (f *finder) longest(at int) (distance, count int) {
	if !f.hashed(at) {
		return 0, 0
	}
	most := min(len(f.data)-at, mostCopy)
	far := 0
	next := f.reach(at, f.last[f.hash(at)])
	for range mostTries {
		far += int(next)
		if next == 0 || far > mostDistance {
			break
		}
		if n := f.alike(at, at-far, count, most); n > count {
			distance, count = far, n
		}
		if count == most {
			break
		}
		next = f.back[(at-far)%window]
	}
	return distance, count
}

// alike counts the bytes that are the same from both places on, up to most. If they are not more than count it may tell fewer.
func (f *finder) alike(a, b, count, most int) int {
	// Most places are told apart by the one byte that would make them better.
	if f.data[a+count] != f.data[b+count] {
		return 0
	}
	n := 0
	for n < most && f.data[a+n] == f.data[b+n] {
		n++
	}
	return n
}
