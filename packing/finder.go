package packing

const (
	// mostTries is how many places are tried for a copy. All that stand at most 100 ahead must be among them, for one of them is a whole repeat of data that repeats in up to 100 bytes (P4); more would cost time.
	mostTries = 128

	window = mostDistance + 1
)

// word is the bytes that a copy has at the least.
type word [leastCopy]byte

// finder finds bytes that stood ahead in data. Places at which the same word stands are a chain, from the last one back.
type finder struct {
	data []byte
	last map[word]int // of each word: the last place noted, if a copy reaches it from the next place
	back []uint16     // of each place within the window: how far back the next one of its chain stands; 0 is none
}

func newFinder(data []byte) *finder {
	return &finder{data: data, last: map[word]int{}, back: make([]uint16, min(len(data), window))}
}

// word is the one that stands there; ok is false if bytes of it are missing.
func (f *finder) word(at int) (w word, ok bool) {
	if at+leastCopy > len(f.data) {
		return word{}, false
	}
	return word(f.data[at:]), true
}

// note takes the places from one up to another into their chains.
func (f *finder) note(from, to int) {
	for at := from; at < to; at++ {
		w, ok := f.word(at)
		if !ok {
			break
		}
		f.back[at%window] = f.reach(at, w)
		f.last[w] = at
		f.forget(at + 1 - window)
	}
}

// forget takes a place out that no copy reaches from the next one on. So there are never more words than places in the window.
func (f *finder) forget(at int) {
	if at < 0 {
		return
	}
	w, _ := f.word(at)
	if f.last[w] == at {
		delete(f.last, w)
	}
}

// reach is the distance from a place to the last one noted at which the word stands; 0, if there is none.
func (f *finder) reach(at int, w word) uint16 {
	last, ok := f.last[w]
	if !ok {
		return 0
	}
	return uint16(at - last)
}

// longest finds the longest copy for the bytes from at on, the nearest one of several; its count is 0 if there is none.
func (f *finder) longest(at int) (distance, count int) {
	w, ok := f.word(at)
	if !ok {
		return 0, 0
	}
	most := min(len(f.data)-at, mostCopy)
	far := 0
	next := f.reach(at, w)
	for range mostTries {
		far += int(next)
		if next == 0 || far > mostDistance {
			break
		}
		if n := f.alike(at, at-far, count, most); n > count {
			distance, count = far, n
		}
		if count == most {
			break
		}
		next = f.back[(at-far)%window]
	}
	return distance, count
}

// alike counts the bytes that are the same from both places on, up to most. If they are not more than count it may tell fewer.
func (f *finder) alike(a, b, count, most int) int {
	// Most places are told apart by the one byte that would make them better.
	if f.data[a+count] != f.data[b+count] {
		return 0
	}
	n := 0
	for n < most && f.data[a+n] == f.data[b+n] {
		n++
	}
	return n
}
