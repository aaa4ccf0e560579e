package numbers

// Reader reads numbers and bytes from the left on. Once something is not there, or is not as it must be, the reader is bad and stays so: then all it reads is worth nothing, so that it is enough to ask for that in the end.
type Reader struct {
	rest []byte
	bad  bool
}

// NewReader makes a reader of bytes, which it does not change.
func NewReader(b []byte) *Reader { return &Reader{rest: b} }

// Spoil makes the reader bad, for what its user finds wrong.
func (r *Reader) Spoil() { r.rest, r.bad = nil, true }

// Bad tells whether something was wrong.
func (r *Reader) Bad() bool { return r.bad }

// Ended tells whether nothing was wrong and nothing is left.
func (r *Reader) Ended() bool { return !r.bad && len(r.rest) == 0 }

// Bytes reads n bytes. They are those that the reader was made of: who keeps them copies them.
func (r *Reader) Bytes(n uint64) []byte {
	if n > uint64(len(r.rest)) {
		r.Spoil()
		return nil
	}
	b := r.rest[:n:n]
	r.rest = r.rest[n:]
	return b
}

// Rest reads all that is left.
func (r *Reader) Rest() []byte { return r.Bytes(uint64(len(r.rest))) }

// Fixed reads a number of width bytes.
func (r *Reader) Fixed(width int) uint64 {
	var n uint64
	for _, b := range r.Bytes(uint64(width)) {
		n = n<<8 | uint64(b)
	}
	return n
}

// Varint reads a varint, which must be as short as can be.
func (r *Reader) Varint() uint64 {
	var n uint64
	for i := range mostBytes {
		b := r.Fixed(1)
		n |= (b &^ goesOn) << (groupBits * i)
		if b < goesOn {
			r.checkLast(i, b)
			return n
		}
	}
	r.Spoil()
	return 0
}

// checkLast looks at the last byte of a varint, the one at i.
func (r *Reader) checkLast(i int, b uint64) {
	longer := b == 0 && i > 0
	tooGreat := b > 1 && i == mostBytes-1 // one bit alone is left of 64
	if longer || tooGreat {
		r.Spoil()
	}
}

// Zigzag reads a zigzag.
func (r *Reader) Zigzag() int64 { return unzigzag(r.Varint()) }
