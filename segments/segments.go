// Package segments: a log of records in segments on a disk: see DOC.md.
package segments

import (
	"segments/api"
	"segments/frames"
	"segments/packing"
	"segments/parts"
	"segments/requests"
	"segments/store"
)

// Pack packs bytes (P4).
func Pack(data []byte) []byte { return packing.Pack(data) }

// Unpack gives what was packed, at most most bytes (P3).
func Unpack(packed []byte, most int) ([]byte, error) { return packing.Unpack(packed, most) }

// Encode makes a frame of a batch (P5).
func Encode(b api.Batch) ([]byte, error) { return frames.Encode(b) }

// Decode reads a frame; how many bytes it has (P6).
func Decode(b []byte) (api.Batch, int, error) { return frames.Decode(b) }

// Log is records by their offsets.
type Log struct {
	files   store.Store
	options api.Options
	parts   []*parts.Part // the segments, the first one first
}

// Open opens a log (P7, P13).
func Open(d *api.Disk, o api.Options) (*Log, error) {
	if !fits(o) {
		return nil, api.ErrOptions
	}
	l := &Log{files: store.New(d), options: o}
	if err := l.restore(); err != nil {
		return nil, err
	}
	return l, nil
}

// Append writes records (P8).
func (l *Log) Append(records []api.Record, packed bool) (int64, error) {
	if l.closed() {
		return 0, api.ErrClosed
	}
	batch := api.Batch{Base: l.next(), Packed: packed, Records: records}
	frame, err := frames.Encode(batch)
	if err != nil {
		return 0, err
	}
	if err := l.write(frame); err != nil {
		return 0, err
	}
	l.add(batch, len(frame))
	return batch.Base, nil
}

// Fetch reads frames from an offset on (P9).
func (l *Log) Fetch(offset int64, most int) ([]byte, error) {
	switch {
	case l.closed():
		return nil, api.ErrClosed
	case offset < l.first() || offset > l.next():
		return nil, api.ErrRange
	case offset == l.next():
		return nil, nil
	}
	return l.collect(offset, max(most, 0))
}

// At tells from which offset on there are records of a time (P10).
func (l *Log) At(time int64) (int64, error) {
	if l.closed() {
		return 0, api.ErrClosed
	}
	for _, p := range l.parts {
		from, to, ok := p.Time(time)
		if !ok {
			continue
		}
		b, err := l.files.Read(p.Base, from, to-from)
		if err != nil {
			return 0, err
		}
		if offset, ok := earliest(b, time); ok {
			return offset, nil
		}
	}
	return -1, nil
}

// Trim forgets segments (P11).
func (l *Log) Trim(offset int64) error {
	if l.closed() {
		return api.ErrClosed
	}
	if offset < 0 || offset > l.next() {
		return api.ErrRange
	}
	return l.drop(offset)
}

// Bounds tells the first offset, and the one behind the last (P7).
func (l *Log) Bounds() (int64, int64, error) {
	if l.closed() {
		return 0, 0, api.ErrClosed
	}
	return l.first(), l.next(), nil
}

// Flush makes all that was written safe (P12).
func (l *Log) Flush() error {
	if l.closed() {
		return api.ErrClosed
	}
	return l.save()
}

// Close ends it (P12).
func (l *Log) Close() error {
	if l.closed() {
		return api.ErrClosed
	}
	err := l.save()
	*l = Log{}
	return err
}

// Serve answers a request (P16).
func (l *Log) Serve(request []byte) []byte {
	asked, err := requests.Read(request)
	if err != nil {
		return requests.Answer(nil, err)
	}
	return requests.Answer(l.answer(asked))
}
