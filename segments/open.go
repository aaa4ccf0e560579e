package segments

import (
	"slices"
	"sync"

	"segments/api"
	"segments/parts"
	"segments/store"
)

// found is a segment as Open finds it: its bytes, and the part that is right of them.
type found struct {
	number int64
	data   []byte
	part   *parts.Part
}

// torn tells whether bytes stand behind the part.
func (f found) torn() bool { return f.part.Size < len(f.data) }

func fits(o api.Options) bool {
	return o.Segment >= api.MinSegment && o.Segment <= api.MaxSegment &&
		o.Index >= api.MinIndex && o.Index <= api.MaxIndex
}

// load reads all segments' files, one after the other: a disk does one thing at a time.
func load(files store.Store) ([]found, error) {
	var list []found
	for _, number := range files.Numbers() {
		data, err := files.Load(number)
		if err != nil {
			return nil, err
		}
		list = append(list, found{number: number, data: data})
	}
	return list, nil
}

// examine finds out what is right of each, all at once, for the sums take the time.
func examine(list []found, gap int) {
	var all sync.WaitGroup
	for i := range list {
		all.Add(1)
		go func() {
			defer all.Done()
			f := &list[i]
			f.part = parts.Read(f.number, f.data, gap)
		}()
	}
	all.Wait()
}

// whole counts the segments up to the first thing that is not as P8 says: the last one of them may be torn.
func whole(list []found) int {
	for i, f := range list {
		if i > 0 && f.number != list[i-1].part.Next {
			return i
		}
		if f.torn() {
			return i + 1
		}
	}
	return len(list)
}

// mend makes the disk as P8 says, and all of it safe.
//
// A crash on the way must leave a disk that is read in the same way. So the last file is removed first, and the torn segment is cut when the files behind it are gone for good: else one of them might follow what is left.
func mend(files store.Store, kept, rest []found) error {
	for _, f := range slices.Backward(rest) {
		if err := files.Remove(f.number); err != nil {
			return err
		}
	}
	if err := files.SaveNames(); err != nil {
		return err
	}
	for _, f := range kept {
		if err := secure(files, f); err != nil {
			return err
		}
	}
	return nil
}

// secure leaves what is right of a segment, and makes it safe.
func secure(files store.Store, f found) error {
	if f.torn() {
		if err := files.Cut(f.number, f.part.Size); err != nil {
			return err
		}
	}
	return files.Save(f.number)
}

// restore gives the log the segments that are on its disk, as far as they are right, and leaves no others there.
func (l *Log) restore() error {
	list, err := load(l.files)
	if err != nil {
		return err
	}
	examine(list, l.options.Index)
	n := whole(list)
	if err := mend(l.files, list[:n], list[n:]); err != nil {
		return err
	}
	for _, f := range list[:n] {
		l.parts = append(l.parts, f.part)
	}
	if n > 0 {
		return nil
	}
	return l.begin()
}

// begin makes the first segment of a log that has none.
func (l *Log) begin() error {
	if err := l.grow(0); err != nil {
		return err
	}
	return l.files.SaveNames()
}
