package segments

import (
	"bytes"
	"fmt"
	"math"
	"reflect"
	"strings"
	"testing"

	"segments/api"
)

var least = api.Options{Segment: api.MinSegment, Index: api.MinIndex}

// checkTold holds that an error is the one that is wanted.
func checkTold(t *testing.T, what string, got error, want api.Errno) {
	t.Helper()
	if api.Tell(got) != want {
		t.Errorf("%s: %v, want %d", what, got, want)
	}
}

func TestOptions(t *testing.T) {
	for _, o := range []api.Options{
		{}, {Segment: 100}, {Index: 100}, {Segment: 99, Index: 100}, {Segment: 100, Index: 99}, {Segment: 100001, Index: 100}, {Segment: 100, Index: 10001},
		{Segment: -100, Index: 100}, {Segment: 100, Index: -100}, {Segment: math.MaxInt, Index: math.MaxInt}, {Segment: math.MinInt, Index: math.MinInt},
	} {
		d := api.NewDisk(1000)
		l, err := Open(d, o)
		checkTold(t, fmt.Sprintf("P7: Open with %v", o), err, api.ErrOptions)
		if l != nil || len(d.List()) > 0 {
			t.Errorf("P7: Open with %v gives a log, or makes files: %v", o, d.List())
		}
	}
	for _, o := range []api.Options{{Segment: 100, Index: 100}, {Segment: 100000, Index: 10000}, {Segment: 100, Index: 10000}, {Segment: 100000, Index: 100}} {
		newWorld(t, o).checkAll()
	}
}

// TestExamples: the table of one log in the document.
func TestExamples(t *testing.T) {
	w := newWorld(t, least)
	for i, r := range []api.Record{
		record(1, strings.Repeat("a", 30), strings.Repeat("b", 30)), record(2, "a", "b"), record(3, "a", "b"),
		record(4, strings.Repeat("a", 100), strings.Repeat("b", 100)), record(5, "a", "b"),
	} {
		if k, err := w.l.Append([]api.Record{r}, false); k != int64(i) || err != nil {
			t.Fatalf("P8: Append is %d, %v, want %d", k, err, i)
		}
	}
	sizes := func() string {
		s := ""
		for _, name := range w.d.List() {
			s += fmt.Sprint(strings.TrimLeft(name, "0"), " ", len(fileOf(t, w.d, name)), "; ")
		}
		return s
	}
	bounds := func() string {
		a, b, err := w.l.Bounds()
		return fmt.Sprint(a, ", ", b, ", ", int(api.Tell(err)))
	}
	fetched := func(offset int64, most int) string {
		b, err := w.l.Fetch(offset, most)
		s := ""
		for len(b) > 0 {
			batch, n, _ := Decode(b)
			s += fmt.Sprint(batch.Base, " ")
			b = b[max(n, 1):]
		}
		return s + fmt.Sprint(int(api.Tell(err)))
	}
	trimmed := func(offset int64) string { return fmt.Sprint(int(api.Tell(w.l.Trim(offset)))) }
	for _, c := range []struct{ call, got, want string }{
		{"the files", sizes(), ".log 81; 1.log 46; 3.log 221; 4.log 23; "},
		{"Bounds", bounds(), "0, 5, 0"},
		{"Fetch(0, 0)", fetched(0, 0), "0 0"},
		{"Fetch(0, 100)", fetched(0, 100), "0 0"},
		{"Fetch(0, 103)", fetched(0, 103), "0 0"},
		{"Fetch(0, 104)", fetched(0, 104), "0 1 0"},
		{"Fetch(0, 109)", fetched(0, 109), "0 1 0"},
		{"Fetch(0, 1000)", fetched(0, 1000), "0 1 2 3 4 0"},
		{"Trim(-1)", trimmed(-1), "8"},
		{"Trim(6)", trimmed(6), "8"},
		{"Trim(2)", trimmed(2), "0"},
		{"the files", sizes(), "1.log 46; 3.log 221; 4.log 23; "},
		{"Bounds", bounds(), "1, 5, 0"},
		{"Fetch(1, 0)", fetched(1, 0), "1 0"},
		{"Fetch(2, 0)", fetched(2, 0), "2 0"},
		{"Fetch(0, 0)", fetched(0, 0), "8"},
	} {
		if c.got != c.want {
			t.Errorf("%s: %q, want %q", c.call, c.got, c.want)
		}
	}
}

// TestWhenSegmentsAreMade: a segment has up to o.Segment bytes, and more than that if one frame alone has more.
func TestWhenSegmentsAreMade(t *testing.T) {
	for _, c := range []struct {
		sizes []int
		files int
	}{
		{[]int{50, 50}, 1}, {[]int{50, 51}, 2}, {[]int{49, 51}, 1}, {[]int{100, 21}, 2}, {[]int{101, 21}, 2}, {[]int{21, 221}, 2},
		{[]int{221, 221, 221}, 3}, {[]int{25, 25, 25, 25, 25}, 2}, {[]int{25, 25, 25, 26, 74}, 2}, {[]int{60, 60, 40, 60}, 3},
	} {
		w := newWorld(t, least)
		for i, size := range c.sizes {
			w.append(valued(int64(i), size), false)
			w.checkAll()
		}
		if n := len(w.d.List()); n != c.files {
			t.Errorf("P8: frames of %v bytes stand in %d files, want %d", c.sizes, n, c.files)
		}
	}
}

func TestAppendRefuses(t *testing.T) {
	w := newWorld(t, api.Options{Segment: 100000, Index: 100})
	long := strings.Repeat("k", api.MaxBytes+1)
	check := func() {
		t.Helper()
		for _, packed := range []bool{false, true} {
			for _, c := range []struct {
				records []api.Record
				want    api.Errno
			}{
				{nil, api.ErrEmpty},
				{[]api.Record{}, api.ErrEmpty},
				{many(41, 1), api.ErrMany},
				{many(41, 201), api.ErrMany},
				{many(40, 201), api.ErrSize},
				{[]api.Record{record(1, long, "-")}, api.ErrSize},
				{[]api.Record{record(1, "a", "b"), record(1, "-", long)}, api.ErrSize},
			} {
				k, err := w.l.Append(c.records, packed)
				checkTold(t, fmt.Sprintf("P8: Append of %d records", len(c.records)), err, c.want)
				if k != 0 {
					t.Errorf("P1: Append answers %d beside an error", k)
				}
			}
		}
		w.checkAll()
	}
	check()
	w.append(many(40, 200), false)
	w.append(many(40, 200), true)
	check()
}

// TestLastOffsets: offsets are below MaxOffset, and a segment may have that number itself.
func TestLastOffsets(t *testing.T) {
	w := newWorldFrom(t, api.MaxOffset-3)
	refuse := func(n int, want api.Errno) {
		t.Helper()
		k, err := w.l.Append(many(n, 10), false)
		checkTold(t, "P8: Append at the last offsets", err, want)
		if k != 0 {
			t.Errorf("P1: Append answers %d beside an error", k)
		}
		w.checkAll()
	}
	refuse(4, api.ErrOffset)
	w.append(many(2, 50), false)
	refuse(2, api.ErrOffset)
	w.append(many(1, 50), false)
	refuse(1, api.ErrOffset)
	refuse(0, api.ErrEmpty)
	refuse(41, api.ErrMany)
	w.checkFetch(api.MaxOffset, 1000)
	w.checkFetch(api.MaxOffset+1, 1000)
	w.checkFetch(math.MaxInt64, 1000)
	w.open(least)
	w.checkAll()
	checkTold(t, "P11: Trim above all offsets", w.l.Trim(math.MaxInt64), api.ErrRange)
	w.trim(api.MaxOffset)
	w.checkAll()
}

func TestFetchAtTheEdges(t *testing.T) {
	w := newWorld(t, api.Options{Segment: 300, Index: 100})
	numbers := []int{math.MinInt, -1, 0, 1, 20, 21, 22, 299, 300, 301, math.MaxInt - 1, math.MaxInt}
	check := func() {
		t.Helper()
		for _, most := range numbers {
			for _, offset := range []int64{math.MinInt64, -1, 0, 1, 2, 29, 30, 31, 59, 60, 61, math.MaxInt64} {
				w.checkFetch(offset, most)
			}
		}
	}
	check()
	for i := range 30 {
		w.append(append(valued(int64(i), 21+i*6), record(3, "-", "-")), false)
		// What all frames up to one have together, and one byte less or more.
		numbers = append(numbers, len(w.m.last().bytes()), len(w.m.last().bytes())-1, len(w.m.last().bytes())+1)
	}
	check()
	w.checkAll()
}

// TestTimes: the times of records need not rise.
func TestTimes(t *testing.T) {
	for _, times := range [][]int64{
		{0, 0, 0, 0, 0, 0, 0, 0}, {1, 2, 3, 4, 5, 6, 7, 8}, {8, 7, 6, 5, 4, 3, 2, 1}, {-5, 5, -5, 6, -6, 6, 7, 0},
		{math.MinInt64, math.MinInt64, math.MinInt64 + 1}, {math.MaxInt64, math.MinInt64, math.MaxInt64}, {math.MinInt64, 0, math.MaxInt64, -1},
	} {
		for _, o := range []api.Options{least, {Segment: 250, Index: 100}, {Segment: 100000, Index: 100}, {Segment: 100000, Index: 10000}} {
			w := newWorld(t, o)
			for _, time := range times {
				w.append([]api.Record{record(time, "-", "-"), record(time/2, "-", "-"), record(time, "key", strings.Repeat("v", 60))}, false)
				w.checkAll()
			}
			for _, f := range w.m.all() {
				w.trim(f.next())
				w.checkAll()
			}
		}
	}
}

func TestTrim(t *testing.T) {
	w := newWorld(t, least)
	w.trim(0)
	w.checkAll()
	for i := range 8 {
		w.append(append(valued(int64(i), 60), record(1, "-", "-"), record(2, "-", "-")), false)
	}
	for _, offset := range []int64{0, 1, 2, 3, 2, 0, 4, 5, 6, 6, 13, 3, 20, 21, 23, 24, 24, 0} {
		w.trim(offset)
		w.checkAll()
	}
	for _, offset := range []int64{math.MinInt64, -1, 25, math.MaxInt64} {
		checkTold(t, fmt.Sprintf("P11: Trim(%d)", offset), w.l.Trim(offset), api.ErrRange)
		w.checkAll()
	}
	w.append(valued(1, 21), false)
	w.append(valued(1, 60), false)
	w.trim(25)
	w.checkAll()
}

// greatFrames makes frames one behind the other: now and then one as great as may be, and small ones between.
func greatFrames(t *testing.T) modelSegment {
	records := many(40, 200)
	data := recordBytes(records)
	front := len(sealed(head(0, 1, 40, uint64(len(data)))))
	packed := inSteps(t, data, api.MaxFrame-front)
	var s modelSegment
	for i := range 24 {
		b := api.Batch{Base: s.next(), Records: valued(1, 33)}
		f := modelFrame{b, frameOf(b)}
		if i%8 == 7 {
			b = api.Batch{Base: s.next(), Packed: true, Records: records}
			f = modelFrame{b, sealed(append(head(b.Base, 1, 40, uint64(len(data))), packed...))}
		}
		s.frames = append(s.frames, f)
	}
	return s
}

// TestReads: frames as great as they may be, behind a mark of the index as far as may be (P14).
func TestReads(t *testing.T) {
	s := greatFrames(t)
	for _, index := range []int{100, 133, 10000} {
		w := newWorld(t, api.Options{Segment: 100000, Index: index})
		w.d, w.m.list = api.NewDisk(1<<20), []modelSegment{s}
		writeFile(t, w.d, fmt.Sprintf("%020d.log", 0), s.bytes())
		w.open(w.m.options)
		w.checkFiles()
		for range 50 {
			w.append(valued(1, 90), false)
		}
		for _, f := range w.m.all() {
			for _, most := range []int{0, 1, 33, 20999, 21000, 21001, 50000, 1 << 20, math.MaxInt} {
				w.checkFetch(f.batch.Base, most)
				w.checkFetch(f.next()-1, most)
			}
		}
	}
}

func writeFile(t *testing.T, d *api.Disk, name string, b []byte) {
	t.Helper()
	if err := d.Create(name); err != nil {
		t.Fatal(err)
	}
	if err := d.Append(name, b); err != nil {
		t.Fatal(err)
	}
}

// TestReadsOverManySegments: what is asked for of each segment counts, not what there is (P14).
func TestReadsOverManySegments(t *testing.T) {
	w := newWorld(t, least)
	for i := range 1200 {
		w.append(valued(int64(i%50), 21+i%50), i%2 == 0)
	}
	for _, most := range []int{0, 100, 5000, 40000, 1 << 30} {
		for offset := int64(0); offset < 1200; offset += 37 {
			w.checkFetch(offset, most)
		}
	}
}

// fill writes into a log so that there are segments that were written into, trimmed, and made anew since the last Flush.
func (w *world) fill() {
	w.t.Helper()
	for i := range 6 {
		w.append(valued(int64(i), 45), i%2 == 0)
	}
	w.trim(3)
	for i := range 5 {
		w.append(valued(int64(i), 60), false)
	}
	w.trim(5)
}

// checkSafe holds that a crash takes nothing from the disk.
func (w *world) checkSafe(what string) {
	w.t.Helper()
	w.d.Crash(0, 0)
	if got, want := filesOf(w.t, w.d), w.m.files(); got != want {
		w.t.Fatalf("P12: behind %s and a crash the files are\n%swant\n%s", what, got, want)
	}
	w.open(w.m.options)
	w.checkAll()
}

func TestFlushIsSafe(t *testing.T) {
	w := newWorld(t, least)
	w.checkSafe("Open")
	for range 3 {
		w.fill()
		checkTold(t, "P12: Flush", w.l.Flush(), api.OK)
		w.checkAll()
		w.checkSafe("Flush")
		w.fill()
		checkTold(t, "P12: Flush", w.l.Flush(), api.OK)
		w.append(valued(1, 21), false) // into a segment that was safe
		checkTold(t, "P12: Flush again", w.l.Flush(), api.OK)
		w.checkSafe("Flush again")
		w.trim(w.m.last().number)
		checkTold(t, "P12: Flush of a trim", w.l.Flush(), api.OK)
		w.checkSafe("Flush of a trim")
		w.fill()
		checkTold(t, "P12: Close", w.l.Close(), api.OK)
		w.checkSafe("Close")
		w.fill()
		w.open(least)
		w.checkSafe("Open")
	}
}

// checkClosed holds that every call answers ErrClosed, whatever else is wrong with it.
func (w *world) checkClosed() {
	w.t.Helper()
	t, files := w.t, filesOf(w.t, w.d)
	for _, records := range [][]api.Record{nil, many(1, 1), many(41, 201)} {
		k, err := w.l.Append(records, true)
		checkTold(t, "P12: Append on a closed log", err, api.ErrClosed)
		if k != 0 {
			t.Errorf("P1: Append answers %d beside an error", k)
		}
	}
	for _, n := range []int64{math.MinInt64, -1, 0, 1, math.MaxInt64} {
		b, err := w.l.Fetch(n, 100)
		checkTold(t, "P12: Fetch on a closed log", err, api.ErrClosed)
		k, err := w.l.At(n)
		checkTold(t, "P12: At on a closed log", err, api.ErrClosed)
		checkTold(t, "P12: Trim on a closed log", w.l.Trim(n), api.ErrClosed)
		if len(b) > 0 || k != 0 {
			t.Errorf("P1: Fetch and At answer %x and %d beside an error", b, k)
		}
	}
	a, b, err := w.l.Bounds()
	checkTold(t, "P12: Bounds on a closed log", err, api.ErrClosed)
	if a != 0 || b != 0 {
		t.Errorf("P1: Bounds answers %d, %d beside an error", a, b)
	}
	checkTold(t, "P12: Flush on a closed log", w.l.Flush(), api.ErrClosed)
	checkTold(t, "P12: Close on a closed log", w.l.Close(), api.ErrClosed)
	w.checkServeClosed()
	if filesOf(t, w.d) != files {
		t.Error("P12: a closed log changed its disk")
	}
}

func TestClose(t *testing.T) {
	w := newWorld(t, least)
	w.fill()
	checkTold(t, "P12: Close", w.l.Close(), api.OK)
	w.checkClosed()
	w.open(api.Options{Segment: 5000, Index: 300})
	w.checkAll()
	w.append(valued(1, 50), false)
	w.d.Fail(0, 1000)
	checkTold(t, "P12: Close over a disk that fails", w.l.Close(), api.ErrDisk)
	w.d.Fail(0, 0)
	w.checkClosed()
	w.open(least)
	w.checkAll()
}

// TestLogIsFresh: what is handed to Append is neither changed nor kept, and what Fetch answers is its caller's.
func TestLogIsFresh(t *testing.T) {
	w := newWorld(t, api.Options{Segment: 2000, Index: 100})
	for i := range 40 {
		b := api.Batch{Records: many(1+i%5, i), Packed: i%2 == 0}
		handed, texts := batchWithRoom(b)
		was := cloneAll(texts)
		w.append(handed.Records, handed.Packed)
		if !reflect.DeepEqual(texts, was) || !reflect.DeepEqual(handed, b) {
			t.Fatal("P2: Append wrote into its argument")
		}
		if spare := handed.Records[:cap(handed.Records)][len(b.Records):]; !reflect.DeepEqual(spare, make([]api.Record, 5)) {
			t.Fatal("P2: Append wrote behind its records")
		}
		for _, text := range texts {
			spoil(text)
		}
		for k := range handed.Records {
			handed.Records[k] = api.Record{Time: 77}
		}
		w.m.last().frames[len(w.m.last().frames)-1].batch.Records = b.Records
	}
	w.checkAll()
	for offset := range w.m.last().next() {
		first, _ := w.l.Fetch(offset, 5000)
		second, _ := w.l.Fetch(offset, 5000)
		want := bytes.Clone(second)
		spoil(first)
		if !bytes.Equal(second, want) {
			t.Fatalf("P2: Fetch(%d) answers the same memory twice", offset)
		}
	}
	w.checkAll()
}
