package packing

// leastCopy is how many bytes a copy must stand for. A copy has 3 bytes, and it may part a plain step in two, for one byte more: from 4 on it never costs more than it spares, so that the bound of P4 for all data holds.
const leastCopy = 4

// Pack packs bytes, so that Unpack gives them again (P4).
func Pack(data []byte) []byte {
	f := newFinder(data)
	var out []byte
	plain := 0 // the bytes from here on stand in no step yet
	for at := 0; at < len(data); {
		distance, count := f.longest(at)
		if count < leastCopy {
			f.note(at, at+1)
			at++
			continue
		}
		out = putPlain(out, data[plain:at])
		out = putCopy(out, distance, count)
		f.note(at, at+count)
		at += count
		plain = at
	}
	return putPlain(out, data[plain:])
}

// putPlain writes bytes as they are, in as many steps as they need.
func putPlain(out, plain []byte) []byte {
	for len(plain) > 0 {
		count := min(len(plain), mostPlain)
		out = append(out, byte(count-1))
		out = append(out, plain[:count]...)
		plain = plain[count:]
	}
	return out
}

func putCopy(out []byte, distance, count int) []byte {
	return append(out, byte(count+copyShift), byte(distance>>8), byte(distance))
}
