package packing

import "segments/api"

// step is one step of packed bytes, taken apart.
type step struct {
	size     int    // bytes that the step itself has
	count    int    // bytes that it puts out
	plain    []byte // these, if it is a plain step
	distance int    // how far back they stand, if it is a copy
}

// Unpack puts out what was packed, at most most bytes (P3).
func Unpack(packed []byte, most int) ([]byte, error) {
	most = max(most, 0)
	var out []byte
	for len(packed) > 0 {
		s, whole := readStep(packed)
		if !whole || s.distance > len(out) {
			return nil, api.ErrPacked
		}
		if s.count > most-len(out) {
			return nil, api.ErrSize
		}
		out = s.putOut(out)
		packed = packed[s.size:]
	}
	return out, nil
}

// readStep reads the first step; false, if bytes of it are missing or its distance is 0.
func readStep(packed []byte) (step, bool) {
	first := int(packed[0])
	if first < firstCopy {
		return readPlain(packed[1:], first+1)
	}
	return readCopy(packed[1:], first-copyShift)
}

func readPlain(rest []byte, count int) (step, bool) {
	if len(rest) < count {
		return step{}, false
	}
	return step{size: 1 + count, count: count, plain: rest[:count]}, true
}

func readCopy(rest []byte, count int) (step, bool) {
	if len(rest) < distSize {
		return step{}, false
	}
	distance := int(rest[0])<<8 | int(rest[1])
	return step{size: copySize, count: count, distance: distance}, distance > 0
}

// putOut puts the step's bytes behind those put out so far.
func (s step) putOut(out []byte) []byte {
	if s.distance == 0 {
		return append(out, s.plain...)
	}
	// One by one, as a copy may reach into what it puts out itself.
	for range s.count {
		out = append(out, out[len(out)-s.distance])
	}
	return out
}
