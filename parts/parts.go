// Package parts tells what stands in a segment: which offsets, and where in its bytes an offset or a time is to be looked for.
package parts

import (
	"segments/api"
	"segments/frames"
	"segments/index"
)

// The keys of the two indexes have types of their own, so that a time is never taken for an offset.
type (
	offset int64
	moment int64
)

// Part is a segment: frames, one behind the other.
type Part struct {
	Base  int64 // the offset of its first record, or of the next one if it is empty
	Next  int64 // the offset behind its last record
	Size  int   // so many bytes its frames have
	Dirty bool  // some of these may not be safe on the disk

	offsets index.Index[offset]
	times   index.Index[moment]
}

// New makes an empty part, whose indexes have a mark once in gap bytes.
func New(base int64, gap int) *Part {
	return &Part{Base: base, Next: base, offsets: index.New[offset](gap), times: index.New[moment](gap)}
}

// Read makes the part that data begins with: frames, as long as each is whole and has the next offset. The part's size tells where these end.
func Read(base int64, data []byte, gap int) *Part {
	p := New(base, gap)
	for {
		batch, size, err := frames.Decode(data[p.Size:])
		if err != nil || batch.Base != p.Next {
			return p
		}
		p.Add(batch, size)
	}
}

// Add tells that the frame of a batch, which has so many bytes, stands at the end now.
func (p *Part) Add(batch api.Batch, size int) {
	next := batch.Base + int64(len(batch.Records))
	p.offsets.Note(offset(next-1), p.Size)
	p.times.Note(moment(latest(batch.Records)), p.Size)
	p.Next = next
	p.Size += size
}

// latest is the greatest time of records, of which there is at least one.
func latest(records []api.Record) int64 {
	most := records[0].Time
	for _, r := range records {
		most = max(most, r.Time)
	}
	return most
}

// Offset tells between which bytes the frame stands that has the record of an offset; ok is false if there is none.
func (p *Part) Offset(n int64) (from, to int, ok bool) { return p.offsets.Span(offset(n), p.Size) }

// Time tells between which bytes the first record stands whose time is at least this; ok is false if there is none.
func (p *Part) Time(n int64) (from, to int, ok bool) { return p.times.Span(moment(n), p.Size) }
