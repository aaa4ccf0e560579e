package segments

import (
	"slices"

	"segments/api"
	"segments/parts"
)

// closed tells whether the log is closed. An open one has a segment at the least (P8).
func (l *Log) closed() bool { return len(l.parts) == 0 }

// first is the offset of the first record that is there. (An empty segment is the last one: its number is the next offset.)
func (l *Log) first() int64 { return l.parts[0].Base }

func (l *Log) last() *parts.Part { return l.parts[len(l.parts)-1] }

// next is the offset that the next record will get.
func (l *Log) next() int64 { return l.last().Next }

// grow makes a new last segment.
func (l *Log) grow(number int64) error {
	if err := l.files.Make(number); err != nil {
		return err
	}
	l.parts = append(l.parts, parts.New(number, l.options.Index))
	return nil
}

// shrink takes the last segment back, which is empty. If the disk does not let it go it stays, and is written into next: that is right too.
func (l *Log) shrink() {
	if l.files.Remove(l.last().Base) == nil {
		l.parts = slices.Delete(l.parts, len(l.parts)-1, len(l.parts))
	}
}

// write writes a frame at the end of the last segment, or of a new one.
func (l *Log) write(frame []byte) error {
	size := l.last().Size
	full := size > 0 && size+len(frame) > l.options.Segment
	if full {
		if err := l.grow(l.next()); err != nil {
			return err
		}
	}
	err := l.files.Write(l.last().Base, frame)
	if err != nil && full {
		l.shrink()
	}
	return err
}

// save makes all safe: the segments first that were written into.
func (l *Log) save() error {
	for _, p := range l.parts {
		if !p.Dirty {
			continue
		}
		if err := l.files.Save(p.Base); err != nil {
			return err
		}
		p.Dirty = false
	}
	return l.files.SaveNames()
}

// drop removes the segments of which all offsets are below offset, but not the last one: from the first on, so that what is left never has a gap.
func (l *Log) drop(offset int64) error {
	gone := 0
	defer func() { l.parts = slices.Delete(l.parts, 0, gone) }()
	for _, p := range l.parts[:len(l.parts)-1] {
		if p.Next > offset {
			break
		}
		if err := l.files.Remove(p.Base); err != nil {
			return err
		}
		gone++
	}
	return nil
}

// add notes a batch, whose frame was written.
func (l *Log) add(batch api.Batch, size int) {
	l.last().Add(batch, size)
	l.last().Dirty = true
}
