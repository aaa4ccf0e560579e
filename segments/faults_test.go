package segments

import (
	"bytes"
	"errors"
	"strings"
	"testing"

	"segments/api"
)

// fate is a log on a disk that fails, is full and crashes, and what must be true of it.
type fate struct {
	t      *testing.T
	s      *source
	d      *api.Disk
	l      *Log
	frames []modelFrame // all that Append wrote, from the offset 0 on
	first  int64        // of the records that are there
	safe   struct{ first, next int64 }
}

func (f *fate) next() int64 {
	if len(f.frames) == 0 {
		return 0
	}
	return f.frames[len(f.frames)-1].next()
}

// fails tells whether a call failed, which it may by the disk alone.
func (f *fate) fails(what string, err error) bool {
	f.t.Helper()
	n := api.Tell(err)
	if n != api.OK && n != api.ErrDisk && n != api.ErrRoom {
		f.t.Fatalf("P15: %s over a bad disk: %v", what, err)
	}
	return err != nil
}

// checkBounds holds that no record came or went.
func (f *fate) checkBounds(what string) {
	f.t.Helper()
	a, b, err := f.l.Bounds()
	if a != f.first || b != f.next() || err != nil {
		f.t.Fatalf("P15: behind %s Bounds is %d, %d, %v, want %d, %d", what, a, b, err, f.first, f.next())
	}
}

// from are the frames' bytes from the one on that has the record of an offset.
func (f *fate) from(offset int64) []byte {
	var b []byte
	for _, x := range f.frames {
		if x.next() > offset {
			b = append(b, x.bytes...)
		}
	}
	return b
}

func (f *fate) checkFetch() {
	f.t.Helper()
	offset := f.first + int64(f.s.below(int(f.next()-f.first)+1))
	b, err := f.l.Fetch(offset, 1<<30)
	if !f.fails("Fetch", err) && !bytes.Equal(b, f.from(offset)) {
		f.t.Fatalf("P15: Fetch(%d) is %x, want %x", offset, b, f.from(offset))
	}
	if err != nil && b != nil {
		f.t.Fatal("P1: Fetch answers bytes beside an error")
	}
}

func (f *fate) append() {
	f.t.Helper()
	batch := api.Batch{Base: f.next(), Packed: f.s.below(2) == 0, Records: f.s.someRecords()}
	k, err := f.l.Append(batch.Records, batch.Packed)
	switch {
	case f.fails("Append", err) && k != 0 || err == nil && k != batch.Base:
		f.t.Fatalf("P8: Append is %d, %v, want %d", k, err, batch.Base)
	case err == nil:
		f.frames = append(f.frames, modelFrame{batch, frameOf(batch)})
	}
	f.checkBounds("Append")
}

func (f *fate) trim() {
	f.t.Helper()
	offset := f.first + int64(f.s.below(int(f.next()-f.first)+1))
	f.fails("Trim", f.l.Trim(offset))
	a, _, _ := f.l.Bounds()
	if a < f.first || a > max(f.first, offset) {
		f.t.Fatalf("P15: Trim(%d) of what begins at %d lets it begin at %d", offset, f.first, a)
	}
	f.first = a
	f.checkBounds("Trim")
}

func (f *fate) saved() { f.safe.first, f.safe.next = f.first, f.next() }

func (f *fate) flush() {
	f.t.Helper()
	if !f.fails("Flush", f.l.Flush()) {
		f.saved()
	}
	f.checkBounds("Flush")
}

func (f *fate) closeAndOpen() {
	f.t.Helper()
	if !f.fails("Close", f.l.Close()) {
		f.saved()
	}
	if err := f.l.Flush(); err != api.ErrClosed {
		f.t.Fatalf("P12: Flush on a closed log: %v", err)
	}
	l, err := Open(f.d, f.s.someOptions())
	if f.fails("Open", err) {
		if l != nil {
			f.t.Fatal("P1: Open gives a log beside an error")
		}
		f.crash()
		return
	}
	f.l = l
	f.checkBounds("Open")
	f.saved()
}

// crash lets the disk crash: what is there behind that is what P15 says, up to where a batch ends.
func (f *fate) crash() {
	f.t.Helper()
	f.d.Crash(uint(f.s.below(1000)), uint(f.s.below(100000)))
	l, err := Open(f.d, f.s.someOptions())
	if err != nil {
		f.t.Fatalf("P15: Open behind a crash: %v", err)
	}
	a, b, err := l.Bounds()
	if a < f.safe.first || a > f.first || b < f.safe.next || b > f.next() || a > b || err != nil {
		f.t.Fatalf("P15: behind a crash Bounds is %d, %d, %v; there was %d, %d, and safe was %v", a, b, err, f.first, f.next(), f.safe)
	}
	for f.next() > b {
		f.frames = f.frames[:len(f.frames)-1]
	}
	f.l, f.first = l, a
	f.checkBounds("a crash")
	f.saved()
	f.checkFetch()
}

func (f *fate) step() {
	f.t.Helper()
	if f.s.below(12) == 0 {
		times := []int{1, 1, 2, 3, 1000}[f.s.below(5)]
		f.d.Fail(f.s.below(6), times)
	}
	switch k := f.s.below(100); {
	case k < 50:
		f.append()
	case k < 65:
		f.checkFetch()
	case k < 75:
		f.trim()
	case k < 88:
		f.flush()
	case k < 94:
		f.closeAndOpen()
	default:
		f.crash()
	}
}

// TestFate plays by chance over disks that fail, are full and crash.
func TestFate(t *testing.T) {
	s := source(5)
	for range 400 {
		f := &fate{t: t, s: &s, d: api.NewDisk(500 + s.below(1+s.below(100000)))}
		l, err := Open(f.d, s.someOptions())
		if err != nil {
			t.Fatal(err)
		}
		f.l = l
		for range 120 {
			f.step()
		}
		f.d.Fail(0, 0)
		f.checkFetch()
	}
}

// TestFateOfEachOperation plays the same calls again and again: each time the disk begins to fail at another operation, and crashes in another way.
func TestFateOfEachOperation(t *testing.T) {
	for after := range 90 {
		for way := range 12 {
			s := source(7)
			f := &fate{t: t, s: &s, d: api.NewDisk(1 << 20)}
			l, err := Open(f.d, least)
			if err != nil {
				t.Fatal(err)
			}
			f.l = l
			s = source(way)
			f.d.Fail(after, []int{1, 2, 3, 1 << 20}[way%4])
			for range 4 {
				f.append()
				f.append()
				f.flush()
				f.append()
				f.trim()
				f.append()
				f.closeAndOpen()
			}
			f.crash()
			f.append()
			f.crash()
		}
	}
}

// pending tells whether a fault is still to come, at the next operation. (That takes it away.)
func pending(d *api.Disk) bool {
	_, err := d.Size("no such file")
	return api.Tell(err) == api.ErrDisk
}

// checkFault holds that a call answers a fault just if it met one.
func checkFault(t *testing.T, what string, met bool, err error) {
	t.Helper()
	var at *api.FileError
	switch {
	case !met && err != nil:
		t.Fatalf("P1: %s met no fault, and answers %v", what, err)
	case met && api.Tell(err) != api.ErrDisk:
		t.Fatalf("P15: %s met a fault, and answers %v", what, err)
	case met && !errors.As(err, &at):
		t.Fatalf("P15: %s met a fault, and the file is not told: %v", what, err)
	}
}

// deed is a call on a log, and what it does to the model.
type deed struct {
	what  string
	call  func(w *world) error
	model func(m *model)
}

func nothing(*model) {}

// deeds are all calls that use the disk, in the ways in which they use it.
func deeds() []deed {
	appended := func(what string, records []api.Record) deed {
		return deed{what,
			func(w *world) error { _, err := w.l.Append(records, false); return err },
			func(m *model) { m.append(records, false) },
		}
	}
	return []deed{
		appended("Append", valued(1, 21)),
		appended("Append to a new segment", valued(1, 90)),
		{"Fetch", func(w *world) error { _, err := w.l.Fetch(7, 1<<20); return err }, nothing},
		{"At", func(w *world) error { _, err := w.l.At(4); return err }, nothing},
		{"Trim", func(w *world) error { return w.l.Trim(9) }, func(m *model) { m.trim(9) }},
		{"Flush", func(w *world) error { return w.l.Flush() }, nothing},
	}
}

// TestFaultAtEachOperation: a call answers a fault at whichever of its operations, has changed nothing then, and does its work if it is made again.
func TestFaultAtEachOperation(t *testing.T) {
	for _, c := range deeds() {
		c.checkFaults(t)
	}
}

// checkFaults makes a call again and again, with a fault at another one of its operations each time.
func (c deed) checkFaults(t *testing.T) {
	t.Helper()
	met := true
	for after := 0; met; after++ {
		w := newWorld(t, least)
		w.fill()
		w.d.Fail(after, 1)
		err := c.call(w)
		met = !pending(w.d)
		checkFault(t, c.what, met, err)
		if !met && after == 0 {
			t.Fatalf("%s does not use the disk", c.what)
		}
		if met {
			if strings.HasPrefix(c.what, "Trim") { // some segments may be gone
				first, _, _ := w.l.Bounds()
				w.m.trim(first)
			}
			w.checkAll()
			checkTold(t, "P15: "+c.what+" made again", c.call(w), api.OK)
		}
		c.model(w.m)
		w.checkAll()
		checkTold(t, "P15: Flush behind a fault", w.l.Flush(), api.OK)
		w.checkSafe(c.what)
	}
}

// TestFaultWithinClose: the log is closed with an error too, and nothing is gone.
func TestFaultWithinClose(t *testing.T) {
	met := true
	for after := 0; met; after++ {
		w := newWorld(t, least)
		w.fill()
		w.d.Fail(after, 1)
		err := w.l.Close()
		met = !pending(w.d)
		checkFault(t, "Close", met, err)
		w.checkClosed()
		w.open(least)
		w.checkAll()
	}
}

// TestSegmentThatStays: a new segment, whose frame the disk refused, and which it does not let go either, is the last one then.
func TestSegmentThatStays(t *testing.T) {
	for _, again := range []bool{false, true} {
		w := newWorld(t, least)
		w.append(valued(1, 60), false)
		w.d.Fail(1, 2)
		_, err := w.l.Append(valued(2, 60), false)
		checkTold(t, "P15: Append", err, api.ErrDisk)
		w.m.list = append(w.m.list, modelSegment{number: 1})
		if again {
			checkTold(t, "P12: Close", w.l.Close(), api.OK)
			w.open(least)
		}
		w.checkAll()
		w.append(valued(3, 21), false)
		w.checkAll()
		w.append(valued(4, 90), false)
		w.trim(1)
		w.checkAll()
	}
}

// TestRoom: Append is refused just where the disk has no room for its frame, and changes nothing then.
func TestRoom(t *testing.T) {
	for room := range 400 {
		w := &world{t, api.NewDisk(room), nil, newModel(least)}
		w.open(least)
		used := 0
		for i := range 12 {
			size := 21 + i*i%40
			if used+size <= room {
				w.append(valued(int64(i), size), false)
				used += size
				continue
			}
			k, err := w.l.Append(valued(int64(i), size), false)
			checkTold(t, "P15: Append to a full disk", err, api.ErrRoom)
			if k != 0 {
				t.Fatalf("P1: Append answers %d beside an error", k)
			}
		}
		w.checkFiles()
		w.open(least)
		w.checkFiles()
		checkTold(t, "P12: Close", w.l.Close(), api.OK)
	}
}

// TestFullDisk: what a disk has no room for leaves nothing behind, a segment neither.
func TestFullDisk(t *testing.T) {
	w := newWorld(t, least)
	w.d = api.NewDisk(150)
	w.open(least)
	w.append(valued(1, 60), false)
	for _, size := range []int{91, 221} {
		k, err := w.l.Append(valued(2, size), false)
		if k != 0 || api.Tell(err) != api.ErrRoom {
			t.Fatalf("P15: Append to a full disk: %d, %v", k, err)
		}
		w.checkAll()
	}
	w.append(valued(3, 40), false)
	w.append(valued(3, 50), false)
	w.checkAll()
	k, err := w.l.Append(valued(4, 21), false)
	if k != 0 || api.Tell(err) != api.ErrRoom {
		t.Fatalf("P15: Append to a full disk: %d, %v", k, err)
	}
	w.trim(2)
	w.append(valued(4, 21), false)
	w.checkAll()
}
