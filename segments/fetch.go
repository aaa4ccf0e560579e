package segments

import (
	"sort"

	"segments/frames"
	"segments/parts"
)

// collect reads the frames of Fetch, as few bytes as the indexes allow (P14): of the segments behind the first one no more than may still be answered.
func (l *Log) collect(offset int64, most int) ([]byte, error) {
	begin := sort.Search(len(l.parts), func(i int) bool { return l.parts[i].Next > offset })
	var out []byte
	for i, p := range l.parts[begin:] {
		from, n := 0, min(p.Size, most-len(out))
		if i == 0 {
			from, n = reach(p, offset, most, l.options.Index)
		}
		if n <= 0 {
			break
		}
		b, err := l.files.Read(p.Base, from, n)
		if err != nil {
			return nil, err
		}
		var used int
		out, used = take(out, b, offset, most)
		if from+used < p.Size {
			break
		}
	}
	return out, nil
}

// reach tells which bytes of a segment to read for the frame that has a record, and for those behind it that have most bytes together with it.
func reach(p *parts.Part, offset int64, most, gap int) (from, n int) {
	from, to, _ := p.Offset(offset)
	n = p.Size - from
	if most < n {
		// That frame begins less than gap bytes behind from, and ends ahead of to.
		n = min(n, max(to-from, gap+most))
	}
	return from, n
}

// take adds the frames that b begins with, from the one on that has the record of an offset, while all have at most most bytes together, but at least one. It tells how many bytes of b are done with.
func take(out, b []byte, offset int64, most int) ([]byte, int) {
	used := 0
	for next, frame := range frames.Each(b) {
		if next > offset {
			if len(out) > 0 && len(out)+len(frame) > most {
				break
			}
			out = append(out, frame...)
		}
		used += len(frame)
	}
	return out, used
}

// earliest finds the first record in frames whose time is at least this; ok is false if there is none.
func earliest(b []byte, time int64) (offset int64, ok bool) {
	for {
		batch, size, err := frames.Decode(b)
		if err != nil {
			return 0, false
		}
		for i, r := range batch.Records {
			if r.Time >= time {
				return batch.Base + int64(i), true
			}
		}
		b = b[size:]
	}
}
