package segments

import (
	"bytes"
	"fmt"
	"math"
	"strings"
	"testing"

	"segments/api"
)

// model is a log told in the plainest way, as P7 to P11 say it: all is in memory, and everything is looked for from the first record on.
type model struct {
	options api.Options
	list    []modelSegment
}

type modelSegment struct {
	number int64
	frames []modelFrame
}

type modelFrame struct {
	batch api.Batch
	bytes []byte
}

func newModel(o api.Options) *model { return &model{o, []modelSegment{{}}} }

func (s *modelSegment) bytes() []byte {
	var b []byte
	for _, f := range s.frames {
		b = append(b, f.bytes...)
	}
	return b
}

func (f modelFrame) next() int64 { return f.batch.Base + int64(len(f.batch.Records)) }

func (s *modelSegment) next() int64 {
	if len(s.frames) == 0 {
		return s.number
	}
	return s.frames[len(s.frames)-1].next()
}

func (m *model) last() *modelSegment { return &m.list[len(m.list)-1] }

func (m *model) bounds() (first, next int64) { return m.list[0].number, m.last().next() }

func (m *model) all() []modelFrame {
	var all []modelFrame
	for _, s := range m.list {
		all = append(all, s.frames...)
	}
	return all
}

// append adds a batch of which there is a frame.
func (m *model) append(records []api.Record, packed bool) int64 {
	_, base := m.bounds()
	batch := api.Batch{Base: base, Packed: packed, Records: records}
	f := modelFrame{batch, frameOf(batch)}
	if n := len(m.last().bytes()); n > 0 && n+len(f.bytes) > m.options.Segment {
		m.list = append(m.list, modelSegment{number: base})
	}
	m.last().frames = append(m.last().frames, f)
	return base
}

func (m *model) fetch(offset int64, most int) ([]byte, error) {
	first, next := m.bounds()
	if offset < first || offset > next {
		return nil, api.ErrRange
	}
	var out []byte
	for _, f := range m.all() {
		if f.next() <= offset {
			continue
		}
		if len(out) > 0 && len(out)+len(f.bytes) > most {
			break
		}
		out = append(out, f.bytes...)
	}
	return out, nil
}

func (m *model) at(time int64) int64 {
	for _, f := range m.all() {
		for i, r := range f.batch.Records {
			if r.Time >= time {
				return f.batch.Base + int64(i)
			}
		}
	}
	return -1
}

func (m *model) trim(offset int64) {
	for len(m.list) > 1 && m.list[0].next() <= offset {
		m.list = m.list[1:]
	}
}

// files are the segments' files: their names and bytes.
func (m *model) files() string {
	s := ""
	for _, g := range m.list {
		s += fmt.Sprintf("%020d.log %x\n", g.number, g.bytes())
	}
	return s
}

// filesOf are the segments' files of a disk.
func filesOf(t *testing.T, d *api.Disk) string {
	t.Helper()
	s := ""
	for _, name := range d.List() {
		if strings.HasSuffix(name, ".log") {
			s += fmt.Sprintf("%s %x\n", name, fileOf(t, d, name))
		}
	}
	return s
}

func fileOf(t *testing.T, d *api.Disk, name string) []byte {
	t.Helper()
	size, err := d.Size(name)
	if err != nil {
		t.Fatal(err)
	}
	b, err := d.ReadAt(name, 0, size)
	if err != nil {
		t.Fatal(err)
	}
	return b
}

// world is a log and its disk, with a model of them.
type world struct {
	t *testing.T
	d *api.Disk
	l *Log
	m *model
}

func newWorld(t *testing.T, o api.Options) *world {
	t.Helper()
	w := &world{t, api.NewDisk(1 << 30), nil, newModel(o)}
	w.open(o)
	return w
}

// newWorldFrom makes one whose first record gets another offset than 0.
func newWorldFrom(t *testing.T, first int64) *world {
	t.Helper()
	w := newWorld(t, least)
	w.d, w.m.list[0].number = api.NewDisk(1<<20), first
	writeFile(t, w.d, fmt.Sprintf("%020d.log", first), nil)
	w.open(least)
	return w
}

func (w *world) open(o api.Options) {
	w.t.Helper()
	l, err := Open(w.d, o)
	if l == nil || err != nil {
		w.t.Fatalf("P7: Open(%v): %v", o, err)
	}
	w.l, w.m.options = l, o
}

func (w *world) append(records []api.Record, packed bool) {
	w.t.Helper()
	want := w.m.append(records, packed)
	if got, err := w.l.Append(records, packed); got != want || err != nil {
		w.t.Fatalf("P8: Append: %d, %v, want %d", got, err, want)
	}
}

func (w *world) trim(offset int64) {
	w.t.Helper()
	w.m.trim(offset)
	if err := w.l.Trim(offset); err != nil {
		w.t.Fatalf("P11: Trim(%d): %v", offset, err)
	}
}

// checkFetch holds P9, and that no more is read than P14 says.
func (w *world) checkFetch(offset int64, most int) {
	w.t.Helper()
	want, no := w.m.fetch(offset, most)
	w.d.Counts()
	got, err := w.l.Fetch(offset, most)
	read := w.d.Counts()
	if err != no || !bytes.Equal(got, want) {
		w.t.Fatalf("P9: Fetch(%d, %d): %x, %v, want %x, %v", offset, most, got, err, want, no)
	}
	if bound := float64(w.m.options.Index) + float64(max(most, 0)) + api.MaxSpare; float64(read) > bound {
		w.t.Fatalf("P14: Fetch(%d, %d) with %v read %d bytes", offset, most, w.m.options, read)
	}
}

func (w *world) checkAt(time int64) {
	w.t.Helper()
	want := w.m.at(time)
	if got, err := w.l.At(time); got != want || err != nil {
		w.t.Fatalf("P10: At(%d): %d, %v, want %d", time, got, err, want)
	}
}

// checkFiles holds P8, and the bounds of P7.
func (w *world) checkFiles() {
	w.t.Helper()
	if got, want := filesOf(w.t, w.d), w.m.files(); got != want {
		w.t.Fatalf("P8: the files are\n%swant\n%s", got, want)
	}
	first, next := w.m.bounds()
	a, b, err := w.l.Bounds()
	if a != first || b != next || err != nil {
		w.t.Fatalf("P7: Bounds: %d, %d, %v, want %d, %d", a, b, err, first, next)
	}
}

// checkAll holds everything that a log answers.
func (w *world) checkAll() {
	w.t.Helper()
	w.checkFiles()
	first, next := w.m.bounds()
	for offset := max(first-2, -1); offset <= next+2; offset++ {
		for _, most := range []int{0, 1, 150, 1000, 30000} {
			w.checkFetch(offset, most)
		}
	}
	w.checkAt(math.MinInt64)
	w.checkAt(math.MaxInt64)
	for _, f := range w.m.all() {
		for _, r := range f.batch.Records {
			w.checkAt(r.Time)
			w.checkAt(r.Time + 1)
			w.checkAt(r.Time - 1)
		}
	}
}

// valued is a record whose frame, if it stands in it alone, has so many bytes.
func valued(time int64, size int) []api.Record {
	empty := len(frameOf(api.Batch{Records: []api.Record{record(time, "-", "")}}))
	return []api.Record{record(time, "-", strings.Repeat("v", size-empty))}
}

// someRecords makes records of all kinds.
func (s *source) someRecords() []api.Record {
	list := make([]api.Record, 1+s.below(1+s.below(api.MaxRecords)))
	for i := range list {
		list[i] = api.Record{Time: s.someTime(), Key: s.someText(), Value: s.someText()}
	}
	return list
}

func (s *source) someTime() int64 {
	switch s.below(40) {
	case 0:
		return math.MaxInt64 - int64(s.below(3))
	case 1:
		return math.MinInt64 + int64(s.below(3))
	}
	return int64(s.below(200) - 100)
}

func (s *source) someText() []byte {
	if s.below(3) == 0 {
		return nil
	}
	return s.chance(s.below(1+s.below(api.MaxBytes+1)), 4)
}

func (s *source) someOptions() api.Options {
	return api.Options{
		Segment: api.MinSegment + s.below(1+s.below(api.MaxSegment-api.MinSegment+1)),
		Index:   api.MinIndex + s.below(1+s.below(api.MaxIndex-api.MinIndex+1)),
	}
}

// step does one thing to the log, or asks it something.
func (w *world) step(s *source) {
	w.t.Helper()
	first, next := w.m.bounds()
	some := first + int64(s.below(int(next-first)+1))
	switch k := s.below(100); {
	case k < 50:
		w.append(s.someRecords(), s.below(2) == 0)
	case k < 70:
		w.checkFetch(some, s.below(1+s.below(50000)))
	case k < 90:
		w.checkAt(s.someTime())
	case k < 94:
		w.trim(first + int64(s.below(int(some-first)+1)))
	case k < 97:
		if err := w.l.Flush(); err != nil {
			w.t.Fatalf("P12: Flush: %v", err)
		}
	default:
		if err := w.l.Close(); err != nil {
			w.t.Fatalf("P12: Close: %v", err)
		}
		w.open(s.someOptions())
	}
}

// TestLogByModel plays by chance, with options of all kinds.
func TestLogByModel(t *testing.T) {
	s := source(11)
	for range 60 {
		w := newWorld(t, s.someOptions())
		for range 150 {
			w.step(&s)
		}
		w.checkFiles()
		first, next := w.m.bounds()
		for offset := first; offset <= next; offset++ {
			w.checkFetch(offset, s.below(3000))
		}
	}
}
