// Package requests reads what is asked of a log in bytes, and writes what is answered: promise P16 of DOC.md.
package requests

import (
	"math"

	"segments/api"
	"segments/frames"
	"segments/numbers"
)

// Kind is what a request asks for: its first byte.
type Kind uint64

const (
	Append Kind = iota + 1
	Fetch
	At
	Flush
	Trim
	Bounds
)

const (
	byteWidth   = 1       // bytes of a kind, of a mark and of an error
	numberWidth = 8       // bytes of an offset and of a time
	maxRecords  = 1000    // of a request: more than of a batch, for which Append has an error of its own
	maxMost     = 1 << 40 // bytes that Fetch may be asked for
)

// Request is what was asked. What its kind does not speak of is zero.
type Request struct {
	Kind    Kind
	Packed  bool
	Records []api.Record
	Offset  int64
	Most    int
	Time    int64
}

// Read reads a request, which must have all of b. Nothing of b is kept.
func Read(b []byte) (Request, error) {
	r := numbers.NewReader(b)
	asked := Request{Kind: Kind(r.Fixed(byteWidth))}
	switch asked.Kind {
	case Append:
		asked.Packed = readMark(r)
		asked.Records = readRecords(r)
	case Fetch:
		asked.Offset = readNumber(r)
		asked.Most = readMost(r)
	case At:
		asked.Time = readNumber(r)
	case Trim:
		asked.Offset = readNumber(r)
	case Flush, Bounds:
	default:
		r.Spoil()
	}
	if !r.Ended() {
		return Request{}, api.ErrRequest
	}
	return asked, nil
}

func readNumber(r *numbers.Reader) int64 { return int64(r.Fixed(numberWidth)) }

// readMark reads whether something is so: 0 or 1.
func readMark(r *numbers.Reader) bool {
	mark := r.Fixed(byteWidth)
	if mark > 1 {
		r.Spoil()
	}
	return mark == 1
}

func readRecords(r *numbers.Reader) []api.Record {
	count := r.Varint()
	if count > maxRecords {
		r.Spoil()
		return nil
	}
	return frames.ReadRecords(r, int(count))
}

func readMost(r *numbers.Reader) int {
	most := r.Varint()
	if most > maxMost {
		r.Spoil()
	}
	// Where an int has 32 bits no log has as many bytes as the greatest one.
	return int(min(most, math.MaxInt))
}

// Answer writes an answer: the number of the error, and more only if there is none.
func Answer(more []byte, err error) []byte {
	out := numbers.PutFixed(nil, byteWidth, uint64(api.Tell(err)))
	if err != nil {
		return out
	}
	return append(out, more...)
}

// Numbers writes offsets, as answers have them.
func Numbers(list ...int64) []byte {
	var out []byte
	for _, n := range list {
		out = numbers.PutFixed(out, numberWidth, uint64(n))
	}
	return out
}
