package segments

import (
	"bytes"
	"encoding/binary"
	"math"
	"slices"
	"testing"

	"segments/api"
)

// requestsOfAll are requests of all kinds, for which a call has different answers.
func requestsOfAll() []asking {
	list := []asking{askFlush(), askBounds(), askAppend(0, nil), askAppend(1, nil), askAppend(0, many(41, 1)), askAppend(1, many(1000, 0))}
	for _, n := range []int64{math.MinInt64, -1, 0, 1, 7, 1 << 40, math.MaxInt64} {
		list = append(list, askAt(n), askTrim(n), askFetch(n, 0), askFetch(n, 127), askFetch(n, 128), askFetch(n, 1<<40))
	}
	for i, b := range batches() {
		if b.Base == 0 {
			list = append(list, askAppend(byte(i%2), b.Records))
		}
	}
	return list
}

// wrong is bytes that are no request.
type wrong struct {
	what string
	b    []byte
}

// behindNumber lays more behind a kind and an offset or a time.
func behindNumber(kind byte, more ...byte) []byte {
	return append([]byte{kind, 0, 0, 0, 0, 0, 0, 0, 5}, more...)
}

// nine are bytes of a varint that goes on behind them.
func nine() []byte { return bytes.Repeat([]byte{0xff}, 9) }

// wrongAppends are what is no Append, though it begins like one.
func wrongAppends() []wrong {
	long := make([]byte, 201)
	return []wrong{
		{"nothing more", []byte{1}},
		{"no number of records", []byte{1, 0}},
		{"no number of packed records", []byte{1, 1}},
		{"the mark 2", []byte{1, 2, 1, 0, 0, 0}},
		{"the mark 2, without records", []byte{1, 2, 0}},
		{"the mark 255", []byte{1, 255, 1, 0, 0, 0}},
		{"a long varint of records", []byte{1, 0, 0x81, 0, 0, 0, 0}},
		{"a long varint of no records", []byte{1, 0, 0x80, 0}},
		{"a record missing", []byte{1, 0, 2, 0, 0, 0}},
		{"a record too many", []byte{1, 0, 1, 0, 0, 0, 0, 0, 0}},
		{"a record where there is none", []byte{1, 0, 0, 0, 0, 0}},
		{"1000 records that are missing", []byte{1, 0, 0xe8, 7}},
		{"1001 records that are missing", []byte{1, 0, 0xe9, 7}},
		{"records by their low bits", []byte{1, 0, 0x81, 0x80, 0x80, 0x80, 0x10, 0, 0, 0}},
		{"as many records as can be", slices.Concat([]byte{1, 0}, nine(), []byte{1, 0, 0, 0})},
		{"a number of records that does not end", slices.Concat([]byte{1, 0}, nine())},
		{"a long varint of a time", []byte{1, 0, 1, 0x82, 0, 0, 0}},
		{"a time of too many bits", slices.Concat([]byte{1, 0, 1}, nine(), []byte{2, 0, 0})},
		{"a long varint of a key that is none", []byte{1, 0, 1, 0, 0x80, 0, 0}},
		{"a long varint of a key", []byte{1, 0, 1, 0, 0x82, 0, 'a', 0}},
		{"a long varint of a value", []byte{1, 0, 1, 0, 0, 0x82, 0, 'a'}},
		{"a key of one byte too many", slices.Concat([]byte{1, 0, 1, 0, 0xca, 1}, long, []byte{0})},
		{"a value of one byte too many", slices.Concat([]byte{1, 0, 1, 0, 0, 0xca, 1}, long)},
		{"a key longer than all", []byte{1, 0, 1, 0, 4, 'a', 'b'}},
		{"a value longer than all", []byte{1, 0, 1, 0, 0, 4, 'a', 'b'}},
		{"a key of the greatest length", slices.Concat([]byte{1, 0, 1, 0}, nine(), []byte{1, 0})},
		{"records that are packed", []byte{1, 1, 1, 3, 2, 2, 0, 0}},
	}
}

// wrongs are all ways in which bytes are no request.
func wrongs() []wrong {
	list := append(wrongAppends(), []wrong{
		{"nil", nil},
		{"nothing", []byte{}},
		{"a frame", frameOf(api.Batch{Records: many(2, 3)})},
		{"Fetch without an offset", []byte{2}},
		{"Fetch without a varint", behindNumber(2)},
		{"Fetch with two varints", behindNumber(2, 1, 1)},
		{"Fetch with a long varint", behindNumber(2, 0x85, 0)},
		{"Fetch with a long varint of 0", behindNumber(2, 0x80, 0)},
		{"Fetch with a varint that does not end", behindNumber(2, nine()...)},
		{"Fetch with a varint of too many bits", behindNumber(2, append(nine(), 2)...)},
		{"Fetch with a varint of 11 bytes", behindNumber(2, append(nine(), 0x81, 0)...)},
		{"Fetch with a varint above 1 << 40", behindNumber(2, 0x81, 0x80, 0x80, 0x80, 0x80, 0x20)},
		{"At without a time", []byte{3}},
		{"At with a varint", behindNumber(3, 0)},
		{"At with two times", behindNumber(3, 0, 0, 0, 0, 0, 0, 0, 5)},
		{"Flush with more", []byte{4, 0}},
		{"Flush twice", []byte{4, 4}},
		{"Trim without an offset", []byte{5}},
		{"Trim with a varint", behindNumber(5, 0)},
		{"Bounds with more", []byte{6, 0}},
		{"Bounds with an offset", behindNumber(6)},
	}...)
	for kind := range 256 {
		if kind == 0 || kind > 6 {
			list = append(list, wrong{"another kind", []byte{byte(kind)}}, wrong{"another kind", behindNumber(byte(kind))})
		}
	}
	return list
}

// TestServeRefuses: what is no request is answered by ErrRequest, of a closed log too, and nothing comes of it.
func TestServeRefuses(t *testing.T) {
	w := newWorld(t, least)
	w.fill()
	for _, x := range wrongs() {
		checkAnswer(t, x.what, w.l, x.b, bad(api.ErrRequest))
	}
	w.checkAll()
	checkTold(t, "P12: Close", w.l.Close(), api.OK)
	for _, x := range wrongs() {
		checkAnswer(t, x.what+", on a closed log", w.l, x.b, bad(api.ErrRequest))
	}
}

// TestServeOfParts: a request that is too short, by a byte or more, is none, nor is one that is too long.
func TestServeOfParts(t *testing.T) {
	w := newWorld(t, least)
	w.fill()
	for _, a := range requestsOfAll() {
		b := a.bytes()
		for n := max(0, len(b)-300); n < len(b); n++ {
			checkAnswer(t, "a part", w.l, b[:n], bad(api.ErrRequest))
		}
		for _, more := range []byte{0, 1, 0x7f, 0x80, 0xff} {
			checkAnswer(t, "a byte too many", w.l, append(bytes.Clone(b), more), bad(api.ErrRequest))
		}
		checkAnswer(t, "a request twice", w.l, slices.Concat(b, b), bad(api.ErrRequest))
	}
	w.checkAll()
}

// checkServeClosed holds that every request is answered by ErrClosed, whatever its call would answer.
func (w *world) checkServeClosed() {
	w.t.Helper()
	for _, a := range requestsOfAll() {
		checkAnswer(w.t, "a closed log", w.l, a.bytes(), bad(api.ErrClosed))
	}
	for _, b := range [][]byte{nil, {0}, {7}, {4, 0}, {6, 0}, {1, 0, 0xe9, 7}, askFetch(0, 1<<40+1).bytes(), askAppend(0, many(1, 201)).bytes()} {
		checkAnswer(w.t, "a closed log", w.l, b, bad(api.ErrRequest))
	}
}

// guess reads a request as far as it can. What it gets wrong is told by writing the request again.
func guess(b []byte) asking {
	var a asking
	next := func(n int) []byte {
		n = min(n, len(b))
		head := b[:n]
		b = b[n:]
		return head
	}
	number := func() int64 { return int64(binary.BigEndian.Uint64(append(bytes.Clone(next(8)), make([]byte, 8)...))) }
	varint := func() uint64 {
		n, size := binary.Uvarint(b)
		next(max(size, 0))
		return n
	}
	text := func() []byte {
		if n := varint(); n > 0 {
			return append([]byte{}, next(int(min(n-1, 1<<20)))...)
		}
		return nil
	}
	a.kind = append(bytes.Clone(next(1)), 0)[0]
	switch a.kind {
	case 1:
		a.mark = append(bytes.Clone(next(1)), 0)[0]
		time := int64(0)
		for range min(varint(), 2000) {
			delta, size := binary.Varint(b)
			next(max(size, 0))
			time += delta
			a.records = append(a.records, api.Record{Time: time, Key: text(), Value: text()})
		}
	case 2:
		a.number, a.most = number(), varint()
	case 3, 5:
		a.number = number()
	}
	return a
}

// closedLog gives a log that is closed.
func closedLog(t *testing.T) *Log {
	t.Helper()
	w := newWorld(t, least)
	checkTold(t, "P12: Close", w.l.Close(), api.OK)
	return w.l
}

// checkAny holds what Serve answers for any bytes, on the log and on a closed one.
func (w *world) checkAny(closed *Log, b []byte) {
	w.t.Helper()
	a := guess(b)
	if !bytes.Equal(a.bytes(), b) || !a.fits() {
		checkAnswer(w.t, "no request", w.l, b, bad(api.ErrRequest))
		checkAnswer(w.t, "no request, on a closed log", closed, b, bad(api.ErrRequest))
		return
	}
	checkAnswer(w.t, "a closed log", closed, b, bad(api.ErrClosed))
	w.ask(a)
}

// spoilt changes bytes a little.
func (s *source) spoilt(b []byte) []byte {
	b = bytes.Clone(b)
	at := s.below(len(b) + 1)
	switch s.below(5) {
	case 0:
		return b[:at]
	case 1:
		return slices.Insert(b, at, byte(s.below(256)))
	case 2:
		return slices.Insert(b, at, []byte{0, 1, 0x80, 0xff}[s.below(4)])
	case 3:
		return slices.Delete(b, at, min(at+1, len(b)))
	}
	if at < len(b) {
		b[at] ^= 1 << s.below(8)
	}
	return b
}

// TestServeSpoiltRequests asks by chance what was a request once.
func TestServeSpoiltRequests(t *testing.T) {
	s := source(31)
	closed := closedLog(t)
	for range 20 {
		w := newWorld(t, s.someOptions())
		for range 1500 {
			b := s.someAsking(w.m).bytes()
			if len(b) > 60 && s.below(10) > 0 {
				b = askAppend(byte(s.below(2)), many(s.below(3), s.below(3))).bytes()
			}
			for range 1 + s.below(2) {
				b = s.spoilt(b)
			}
			w.checkAny(closed, b)
		}
		w.checkFiles()
	}
}

func FuzzServe(f *testing.F) {
	for _, a := range requestsOfAll() {
		if b := a.bytes(); len(b) < 200 {
			f.Add(b)
		}
	}
	for _, x := range wrongs() {
		f.Add(x.b)
	}
	f.Fuzz(func(t *testing.T, b []byte) {
		w := newWorld(t, least)
		w.fill()
		w.checkAny(closedLog(t), b)
		w.checkFiles()
	})
}
