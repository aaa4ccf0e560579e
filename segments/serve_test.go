package segments

import (
	"bytes"
	"encoding/binary"
	"encoding/hex"
	"fmt"
	"math"
	"testing"

	"segments/api"
)

// asking is a request, told apart.
type asking struct {
	kind, mark byte
	records    []api.Record
	number     int64 // the offset or the time
	most       uint64
}

// The requests of P16, by the calls that they ask for.
func askAppend(mark byte, records []api.Record) asking {
	return asking{kind: 1, mark: mark, records: records}
}
func askFetch(offset int64, most uint64) asking { return asking{kind: 2, number: offset, most: most} }
func askAt(time int64) asking                   { return asking{kind: 3, number: time} }
func askFlush() asking                          { return asking{kind: 4} }
func askTrim(offset int64) asking               { return asking{kind: 5, number: offset} }
func askBounds() asking                         { return asking{kind: 6} }

// bytes writes a request as P16 says, by the library's means.
func (a asking) bytes() []byte {
	b := []byte{a.kind}
	switch a.kind {
	case 1:
		b = binary.AppendUvarint(append(b, a.mark), uint64(len(a.records)))
		return append(b, recordBytes(a.records)...)
	case 2:
		return binary.AppendUvarint(binary.BigEndian.AppendUint64(b, uint64(a.number)), a.most)
	case 3, 5:
		return binary.BigEndian.AppendUint64(b, uint64(a.number))
	}
	return b
}

// fits tells whether a request has nothing that is too great.
func (a asking) fits() bool {
	for _, r := range a.records {
		if len(r.Key) > api.MaxBytes || len(r.Value) > api.MaxBytes {
			return false
		}
	}
	return a.kind >= 1 && a.kind <= 6 && a.mark <= 1 && len(a.records) <= 1000 && a.most <= 1<<40
}

// good is an answer without an error.
func good(numbers ...int64) []byte {
	b := []byte{0}
	for _, n := range numbers {
		b = binary.BigEndian.AppendUint64(b, uint64(n))
	}
	return b
}

// bad is the answer of an error.
func bad(err api.Errno) []byte { return []byte{byte(err)} }

// answer does what a request asks for, and tells its answer.
func (m *model) answer(a asking) []byte {
	first, next := m.bounds()
	switch a.kind {
	case 1:
		return m.answerAppend(a, next)
	case 2:
		b, err := m.fetch(a.number, int(min(a.most, math.MaxInt)))
		if err != nil {
			return bad(api.Tell(err))
		}
		return append(good(), b...)
	case 3:
		return good(m.at(a.number))
	case 5:
		if a.number < 0 || a.number > next {
			return bad(api.ErrRange)
		}
		m.trim(a.number)
	case 6:
		return good(first, next)
	}
	return good()
}

func (m *model) answerAppend(a asking, next int64) []byte {
	switch n := len(a.records); {
	case n == 0:
		return bad(api.ErrEmpty)
	case n > api.MaxRecords:
		return bad(api.ErrMany)
	case next > api.MaxOffset-int64(n):
		return bad(api.ErrOffset)
	}
	return good(m.append(a.records, a.mark == 1))
}

// checkAnswer holds what Serve answers.
func checkAnswer(t *testing.T, what string, l *Log, request, want []byte) {
	t.Helper()
	if got := l.Serve(request); !bytes.Equal(got, want) {
		short := func(b []byte) []byte { return b[:min(len(b), 60)] }
		t.Fatalf("P16: %s: Serve(%x): %x (%d bytes), want %x (%d)", what, short(request), short(got), len(got), short(want), len(want))
	}
}

// ask holds that Serve answers as the model does, and reads no more for it than P14 says.
func (w *world) ask(a asking) {
	w.t.Helper()
	w.d.Counts()
	checkAnswer(w.t, "a request", w.l, a.bytes(), w.m.answer(a))
	read := uint64(w.d.Counts())
	if bound := uint64(w.m.options.Index) + a.most + api.MaxSpare; a.kind == 2 && read > bound {
		w.t.Fatalf("P14: the Fetch of %x read %d bytes", a.bytes(), read)
	}
}

// TestServeExamples: the table of another log in the document.
func TestServeExamples(t *testing.T) {
	w := newWorld(t, least)
	for _, c := range []struct{ request, want string }{
		{"06", "0000000000000000000000000000000000"},
		{"0300000000000000ff", "00ffffffffffffffff"},
		{"0100010a0262036364", "000000000000000000"},
		{"02000000000000000000", "0000000014da36f0da000000000000000000010a0262036364"},
		{"05ffffffffffffffff", "08"},
		{"0600", "0a"},
	} {
		if got := hex.EncodeToString(w.l.Serve(fromHex(t, c.request))); got != c.want {
			t.Errorf("P16: Serve(%s): %s, want %s", c.request, got, c.want)
		}
	}
}

func TestServeAppend(t *testing.T) {
	w := newWorld(t, least)
	for _, b := range batches() {
		w.ask(askAppend(0, b.Records))
		w.ask(askAppend(1, b.Records))
	}
	w.checkFiles()
	_, next := w.m.bounds()
	w.ask(askFetch(0, 1<<40))
	w.ask(askFetch(next, 1<<40))
}

// TestServeManyRecords: a batch has at most MaxRecords, a request 1000.
func TestServeManyRecords(t *testing.T) {
	w := newWorld(t, least)
	for _, mark := range []byte{0, 1} {
		for _, c := range []struct {
			count int
			want  []byte
		}{
			{0, bad(api.ErrEmpty)}, {41, bad(api.ErrMany)}, {42, bad(api.ErrMany)}, {127, bad(api.ErrMany)}, {128, bad(api.ErrMany)},
			{999, bad(api.ErrMany)}, {1000, bad(api.ErrMany)}, {1001, bad(api.ErrRequest)}, {1002, bad(api.ErrRequest)}, {20000, bad(api.ErrRequest)},
		} {
			for _, size := range []int{0, 1, 200} {
				checkAnswer(t, fmt.Sprint(c.count, " records"), w.l, askAppend(mark, many(c.count, size)).bytes(), c.want)
			}
			w.checkAll()
		}
		w.ask(askAppend(mark, many(1, 1)))
		w.ask(askAppend(mark, many(39, 1)))
		w.ask(askAppend(mark, many(40, 1)))
		w.checkAll()
	}
}

// TestServeLongTexts: a key or a value of more than MaxBytes bytes makes a request none, whichever record has it.
func TestServeLongTexts(t *testing.T) {
	w := newWorld(t, least)
	for _, count := range []int{1, 2, 40, 41, 1000} {
		for _, size := range []int{199, 200, 201, 202, 5000} {
			for _, place := range []int{0, count / 2, count - 1} {
				key, value := many(count, 1), many(count, 1)
				key[place].Key = make([]byte, size)
				value[place].Value = make([]byte, size)
				for _, a := range []asking{askAppend(0, key), askAppend(1, value)} {
					if size > api.MaxBytes {
						checkAnswer(t, fmt.Sprint("a text of ", size), w.l, a.bytes(), bad(api.ErrRequest))
						continue
					}
					w.ask(a)
				}
			}
		}
	}
	w.checkFiles()
}

func TestServeFetch(t *testing.T) {
	w := newWorld(t, api.Options{Segment: 300, Index: 100})
	w.ask(askFetch(0, 0))
	w.ask(askFetch(1, 0))
	for i := range 30 {
		w.append(append(valued(int64(i), 21+i*6), record(3, "-", "-")), i%2 == 0)
	}
	w.trim(20)
	for _, most := range []uint64{0, 1, 21, 127, 128, 300, 5000, 1 << 32, 1<<32 + 1, 1<<40 - 1, 1 << 40} {
		for _, offset := range []int64{math.MinInt64, -1, 0, 1, 19, 20, 21, 59, 60, 61, 1 << 32, math.MaxInt64} {
			w.ask(askFetch(offset, most))
		}
	}
	for _, most := range []uint64{1<<40 + 1, 1 << 41, 1 << 46, 1 << 47, 1<<63 - 1, 1 << 63, 1<<63 + 1, math.MaxUint64} {
		for _, offset := range []int64{-1, 0, 30, 60, 61} {
			checkAnswer(t, "too great a Fetch", w.l, askFetch(offset, most).bytes(), bad(api.ErrRequest))
		}
	}
}

func TestServeAt(t *testing.T) {
	for _, times := range [][]int64{{}, {5, 7, 6, -3}, {math.MinInt64}, {math.MinInt64, -1, 0, 1 << 33, math.MaxInt64}, {math.MaxInt64, 3}} {
		w := newWorld(t, least)
		for _, time := range times {
			w.append([]api.Record{record(time, "-", "-"), record(time, "k", "v")}, false)
		}
		for _, time := range []int64{math.MinInt64, math.MinInt64 + 1, -4, -3, -1, 0, 1, 5, 6, 7, 8, 255, 256, 1 << 33, 1<<33 + 1, math.MaxInt64 - 1, math.MaxInt64} {
			w.ask(askAt(time))
		}
	}
}

func TestServeFlush(t *testing.T) {
	w := newWorld(t, least)
	for range 3 {
		w.fill()
		w.ask(askFlush())
		w.checkAll()
		w.checkSafe("a Flush that was asked for")
	}
}

func TestServeTrim(t *testing.T) {
	w := newWorld(t, least)
	for i := range 8 {
		w.append(append(valued(int64(i), 60), record(1, "-", "-"), record(2, "-", "-")), false)
	}
	for _, offset := range []int64{math.MinInt64, -1, 0, 2, 3, 2, 25, 7, 1 << 32, 1<<32 + 9, math.MaxInt64, 24, 0} {
		w.ask(askTrim(offset))
		w.ask(askBounds())
		w.checkAll()
	}
}

// TestServeLastOffsets: offsets have all of their 8 bytes.
func TestServeLastOffsets(t *testing.T) {
	for _, first := range []int64{255, 1 << 32, 0x0102030405060708, api.MaxOffset - 3} {
		w := newWorldFrom(t, first)
		for _, records := range [][]api.Record{nil, many(4, 10), many(2, 50), many(2, 10), many(1, 50), many(1, 1), many(41, 1)} {
			w.ask(askBounds())
			w.ask(askAppend(0, records))
			w.ask(askAt(math.MinInt64))
			w.ask(askFetch(first, 100))
			w.ask(askFetch(first-1, 100))
			w.ask(askTrim(first + 2))
			w.checkFiles()
		}
	}
}

// someAsking makes requests of all kinds, of which most are answered without an error.
func (s *source) someAsking(m *model) asking {
	first, next := m.bounds()
	some := first - 1 + int64(s.below(int(next-first)+3))
	switch k := s.below(100); {
	case k < 40:
		return askAppend(byte(s.below(2)), s.someRecords())
	case k < 42:
		return askAppend(byte(s.below(2)), many([]int{0, 41, 1000}[s.below(3)], 3))
	case k < 65:
		return askFetch(some, uint64(s.below(1+s.below(50000))))
	case k < 85:
		return askAt(s.someTime())
	case k < 90:
		return askFlush()
	case k < 94:
		return askTrim(min(some, first+int64(s.below(20))))
	}
	return askBounds()
}

// TestServeByModel plays by chance, in requests alone.
func TestServeByModel(t *testing.T) {
	s := source(21)
	for range 40 {
		w := newWorld(t, s.someOptions())
		for range 150 {
			w.ask(s.someAsking(w.m))
		}
		w.checkFiles()
	}
}

// TestServeIsFresh: a request is neither changed nor kept, and an answer is its caller's.
func TestServeIsFresh(t *testing.T) {
	w := newWorld(t, api.Options{Segment: 2000, Index: 100})
	for _, a := range requestsOfAll() {
		if a.kind != 1 {
			continue
		}
		handed, array := withRoom(a.bytes())
		was := bytes.Clone(array)
		want := w.m.answer(a)
		got := w.l.Serve(handed)
		if !bytes.Equal(array, was) || !bytes.Equal(got, want) {
			t.Fatalf("P2: Serve of an Append wrote into its argument, or answers %x, want %x", got, want)
		}
		spoil(array)
		spoil(got)
	}
	w.checkFiles()
	w.ask(askFetch(0, 1<<40))
	serve := func(b []byte) []byte { return w.l.Serve(b) }
	for _, x := range wrongs() {
		checkFresh(t, "Serve", x.b, serve)
	}
	for _, a := range requestsOfAll() {
		if a.kind != 1 {
			checkFresh(t, "Serve", a.bytes(), serve)
			w.m.answer(a)
		}
	}
	w.checkFiles()
}

// TestServeOnFullDisk: the disk's want of room is told by its number.
func TestServeOnFullDisk(t *testing.T) {
	w := newWorld(t, least)
	w.d = api.NewDisk(150)
	w.open(least)
	w.ask(askAppend(0, valued(1, 60)))
	for _, size := range []int{91, 221} {
		checkAnswer(t, "a full disk", w.l, askAppend(0, valued(2, size)).bytes(), bad(api.ErrRoom))
		w.checkAll()
	}
	w.ask(askAppend(0, valued(3, 90)))
	checkAnswer(t, "a full disk", w.l, askAppend(1, valued(3, 25)).bytes(), bad(api.ErrRoom))
	w.ask(askFlush())
	w.ask(askTrim(1))
	w.ask(askAppend(1, valued(3, 25)))
	w.checkAll()
}

// served is the deed of a request. The answer has the number of a fault alone, so no file is told.
func served(what string, a asking) deed {
	call := func(w *world) error {
		got := w.l.Serve(a.bytes())
		if len(got) == 0 || len(got) > 1 && got[0] != 0 {
			w.t.Fatalf("P16: %s over a bad disk is answered by %x", what, got)
		}
		if got[0] != 0 {
			return &api.FileError{Err: api.Errno(got[0])}
		}
		return nil
	}
	return deed{what, call, func(m *model) { m.answer(a) }}
}

// TestServeOverBadDisk: a fault at whichever operation is told by its number, and the request may be made again.
func TestServeOverBadDisk(t *testing.T) {
	for _, c := range []deed{
		served("Append by a request", askAppend(0, valued(1, 21))), served("Append to a new segment by a request", askAppend(1, valued(1, 90))),
		served("Fetch by a request", askFetch(7, 1<<20)), served("At by a request", askAt(4)), served("Trim by a request", askTrim(9)), served("Flush by a request", askFlush()),
	} {
		c.checkFaults(t)
	}
	w := newWorld(t, least)
	w.fill()
	w.d.Fail(0, 1<<20)
	w.ask(askBounds())
	checkAnswer(t, "no request", w.l, []byte{4, 0}, bad(api.ErrRequest))
	checkAnswer(t, "what is not there", w.l, askFetch(-1, 5).bytes(), bad(api.ErrRange))
	checkAnswer(t, "what is not there", w.l, askTrim(-1).bytes(), bad(api.ErrRange))
	checkAnswer(t, "no record", w.l, askAppend(0, nil).bytes(), bad(api.ErrEmpty))
	for _, a := range []asking{askAppend(0, many(1, 1)), askFetch(7, 100), askAt(4), askTrim(9), askFlush()} {
		checkAnswer(t, "a disk that fails", w.l, a.bytes(), bad(api.ErrDisk))
	}
	w.d.Fail(0, 0)
	w.checkAll()
}
