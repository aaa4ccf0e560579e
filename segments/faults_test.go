package segments

import (
	"bytes"
	"testing"

	"segments/api"
)

// fate is a log on a disk that fails, is full and crashes, and what must be true of it.
type fate struct {
	t      *testing.T
	s      *source
	d      *api.Disk
	l      *Log
	frames []modelFrame // all that Append wrote, from the offset 0 on
	first  int64        // of the records that are there
	safe   struct{ first, next int64 }
}

func (f *fate) next() int64 {
	if len(f.frames) == 0 {
		return 0
	}
	return f.frames[len(f.frames)-1].next()
}

// fails tells whether a call failed, which it may by the disk alone.
func (f *fate) fails(what string, err error) bool {
	f.t.Helper()
	n := api.Tell(err)
	if n != api.OK && n != api.ErrDisk && n != api.ErrRoom {
		f.t.Fatalf("P15: %s over a bad disk: %v", what, err)
	}
	return err != nil
}

// checkBounds holds that no record came or went.
func (f *fate) checkBounds(what string) {
	f.t.Helper()
	a, b, err := f.l.Bounds()
	if a != f.first || b != f.next() || err != nil {
		f.t.Fatalf("P15: behind %s Bounds is %d, %d, %v, want %d, %d", what, a, b, err, f.first, f.next())
	}
}

// from are the frames' bytes from the one on that has the record of an offset.
func (f *fate) from(offset int64) []byte {
	var b []byte
	for _, x := range f.frames {
		if x.next() > offset {
			b = append(b, x.bytes...)
		}
	}
	return b
}

func (f *fate) checkFetch() {
	f.t.Helper()
	offset := f.first + int64(f.s.below(int(f.next()-f.first)+1))
	b, err := f.l.Fetch(offset, 1<<30)
	if !f.fails("Fetch", err) && !bytes.Equal(b, f.from(offset)) {
		f.t.Fatalf("P15: Fetch(%d) is %x, want %x", offset, b, f.from(offset))
	}
	if err != nil && b != nil {
		f.t.Fatal("P1: Fetch answers bytes beside an error")
	}
}

func (f *fate) append() {
	f.t.Helper()
	batch := api.Batch{Base: f.next(), Packed: f.s.below(2) == 0, Records: f.s.someRecords()}
	k, err := f.l.Append(batch.Records, batch.Packed)
	switch {
	case f.fails("Append", err) && k != 0 || err == nil && k != batch.Base:
		f.t.Fatalf("P8: Append is %d, %v, want %d", k, err, batch.Base)
	case err == nil:
		f.frames = append(f.frames, modelFrame{batch, frameOf(batch)})
	}
	f.checkBounds("Append")
}

func (f *fate) trim() {
	f.t.Helper()
	offset := f.first + int64(f.s.below(int(f.next()-f.first)+1))
	f.fails("Trim", f.l.Trim(offset))
	a, _, _ := f.l.Bounds()
	if a < f.first || a > max(f.first, offset) {
		f.t.Fatalf("P15: Trim(%d) of what begins at %d lets it begin at %d", offset, f.first, a)
	}
	f.first = a
	f.checkBounds("Trim")
}

func (f *fate) saved() { f.safe.first, f.safe.next = f.first, f.next() }

func (f *fate) flush() {
	f.t.Helper()
	if !f.fails("Flush", f.l.Flush()) {
		f.saved()
	}
	f.checkBounds("Flush")
}

func (f *fate) closeAndOpen() {
	f.t.Helper()
	if !f.fails("Close", f.l.Close()) {
		f.saved()
	}
	if err := f.l.Flush(); err != api.ErrClosed {
		f.t.Fatalf("P12: Flush on a closed log: %v", err)
	}
	l, err := Open(f.d, f.s.someOptions())
	if f.fails("Open", err) {
		if l != nil {
			f.t.Fatal("P1: Open gives a log beside an error")
		}
		f.crash()
		return
	}
	f.l = l
	f.checkBounds("Open")
	f.saved()
}

// crash lets the disk crash: what is there behind that is what P15 says, up to where a batch ends.
func (f *fate) crash() {
	f.t.Helper()
	f.d.Crash(uint(f.s.below(1000)), uint(f.s.below(100000)))
	l, err := Open(f.d, f.s.someOptions())
	if err != nil {
		f.t.Fatalf("P15: Open behind a crash: %v", err)
	}
	a, b, err := l.Bounds()
	if a < f.safe.first || a > f.first || b < f.safe.next || b > f.next() || a > b || err != nil {
		f.t.Fatalf("P15: behind a crash Bounds is %d, %d, %v; there was %d, %d, and safe was %v", a, b, err, f.first, f.next(), f.safe)
	}
	for f.next() > b {
		f.frames = f.frames[:len(f.frames)-1]
	}
	f.l, f.first = l, a
	f.checkBounds("a crash")
	f.saved()
	f.checkFetch()
}

func (f *fate) step() {
	f.t.Helper()
	if f.s.below(12) == 0 {
		times := []int{1, 1, 2, 3, 1000}[f.s.below(5)]
		f.d.Fail(f.s.below(6), times)
	}
	switch k := f.s.below(100); {
	case k < 50:
		f.append()
	case k < 65:
		f.checkFetch()
	case k < 75:
		f.trim()
	case k < 88:
		f.flush()
	case k < 94:
		f.closeAndOpen()
	default:
		f.crash()
	}
}

// TestFate plays by chance over disks that fail, are full and crash.
func TestFate(t *testing.T) {
	s := source(5)
	for range 400 {
		f := &fate{t: t, s: &s, d: api.NewDisk(500 + s.below(1+s.below(100000)))}
		l, err := Open(f.d, s.someOptions())
		if err != nil {
			t.Fatal(err)
		}
		f.l = l
		for range 120 {
			f.step()
		}
		f.d.Fail(0, 0)
		f.checkFetch()
	}
}

// TestFullDisk: what a disk has no room for leaves nothing behind, a segment neither.
func TestFullDisk(t *testing.T) {
	w := newWorld(t, least)
	w.d = api.NewDisk(150)
	w.open(least)
	w.append(valued(1, 60), false)
	for _, size := range []int{91, 221} {
		k, err := w.l.Append(valued(2, size), false)
		if k != 0 || api.Tell(err) != api.ErrRoom {
			t.Fatalf("P15: Append to a full disk: %d, %v", k, err)
		}
		w.checkAll()
	}
	w.append(valued(3, 40), false)
	w.append(valued(3, 50), false)
	w.checkAll()
	k, err := w.l.Append(valued(4, 21), false)
	if k != 0 || api.Tell(err) != api.ErrRoom {
		t.Fatalf("P15: Append to a full disk: %d, %v", k, err)
	}
	w.trim(2)
	w.append(valued(4, 21), false)
	w.checkAll()
}
