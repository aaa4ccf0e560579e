package segments

import (
	"bytes"
	"math"
	"reflect"
	"slices"
	"testing"

	"segments/api"
)

// checkNoFrame holds what Decode answers for bytes that begin with no frame.
func checkNoFrame(t *testing.T, what string, b []byte) {
	t.Helper()
	batch, n, err := Decode(b)
	if err != error(api.ErrFrame) || n != 0 || !reflect.DeepEqual(batch, api.Batch{}) {
		t.Errorf("P6: %s: Decode(%x): %v, %d, %v; want ErrFrame alone", what, b[:min(len(b), 60)], batch, n, err)
	}
}

// checkFrame holds that Decode reads the batch out of a frame.
func checkFrame(t *testing.T, what string, frame []byte, want api.Batch) {
	t.Helper()
	got, n, err := Decode(frame)
	// DeepEqual tells none from an empty one.
	if err != nil || n != len(frame) || !reflect.DeepEqual(got, want) {
		t.Errorf("P6: %s: Decode(%x): %v, %d, %v; want %v", what, frame[:min(len(frame), 60)], got, n, err, want)
	}
}

func TestDecodeReadsFrames(t *testing.T) {
	for _, b := range batches() {
		frame := frameOf(b)
		checkFrame(t, "a frame", frame, b)
		more, n, err := Decode(slices.Concat(frame, frame))
		if err != nil || n != len(frame) || !reflect.DeepEqual(more, b) {
			t.Errorf("P6: a frame with more behind it: %v, %d, %v", more, n, err)
		}
	}
}

func TestDecodeExamples(t *testing.T) {
	one := []api.Record{record(1, "-", "-")}
	more := fromHex(t, "0000001173b4013f00000000000000050001020000ff")
	if b, n, err := Decode(more); err != nil || n != 21 || !reflect.DeepEqual(b, api.Batch{Base: 5, Records: one}) {
		t.Errorf("P6: a frame with a byte behind it: %v, %d, %v", b, n, err)
	}
	checkNoFrame(t, "a long varint", fromHex(t, "00000012a25436150000000000000005008100020000"))
	checkFrame(t, "packed", fromHex(t, "000000130427adf3000000000000000501010302020000"), api.Batch{Base: 5, Packed: true, Records: one})
}

// TestDecodeOfParts: no part of a frame, and none with a bit turned, begins with a frame.
func TestDecodeOfParts(t *testing.T) {
	for _, packed := range []bool{false, true} {
		frame := frameOf(api.Batch{Base: 9, Packed: packed, Records: many(3, 5)})
		for n := range frame {
			checkNoFrame(t, "a part", frame[:n])
			checkNoFrame(t, "a part behind the first bytes", frame[n+1:])
		}
		for bit := range 8 * len(frame) {
			turned := bytes.Clone(frame)
			turned[bit/8] ^= 1 << (bit % 8)
			checkNoFrame(t, "a bit turned", append(turned, frame...))
		}
	}
}

// bodyOf is a body with bytes behind its head.
func bodyOf(head []byte, rest ...byte) []byte { return append(head, rest...) }

// TestDecodeRefuses: frames whose size and sum are right, but not what is within.
func TestDecodeRefuses(t *testing.T) {
	long := make([]byte, 201)
	bare := bytes.Repeat([]byte{0, 0, 0}, 41)
	ten := []byte{0xff, 0xff, 0xff, 0xff, 0xff, 0xff, 0xff, 0xff, 0xff}
	for _, c := range []struct {
		name string
		body []byte
	}{
		{"nothing", nil},
		{"half a base", make([]byte, 4)},
		{"a base alone", head(5, 0)[:8]},
		{"a form alone", head(5, 0)},
		{"no record", head(5, 0, 0)},
		{"no record, packed", head(5, 1, 0, 0)},
		{"no record, packed, with bytes", bodyOf(head(5, 1, 0, 3), 2, 2, 0, 0)},
		{"a record missing", bodyOf(head(5, 0, 2), 2, 0, 0)},
		{"a record too many", bodyOf(head(5, 0, 1), 2, 0, 0, 2, 0, 0)},
		{"a byte too many", bodyOf(head(5, 0, 1), 2, 0, 0, 0)},
		{"too many records", bodyOf(head(5, 0, 41), bare...)},
		{"far too many records", bodyOf(head(5, 0, math.MaxUint64), bare...)},
		{"records by their low bits", bodyOf(head(5, 0, 1<<32+1), 2, 0, 0)},
		{"another form", bodyOf(head(5, 2, 1), 2, 0, 0)},
		{"the last form", bodyOf(head(5, 255, 1), 2, 0, 0)},
		{"a base below 0", bodyOf(head(-1, 0, 1), 2, 0, 0)},
		{"the least base", bodyOf(head(math.MinInt64, 0, 1), 2, 0, 0)},
		{"a base without room", bodyOf(head(api.MaxOffset, 0, 1), 2, 0, 0)},
		{"a base without room for the second one", bodyOf(head(api.MaxOffset-1, 0, 2), 2, 0, 0, 2, 0, 0)},
		{"the greatest base", bodyOf(head(math.MaxInt64, 0, 1), 2, 0, 0)},
		{"a long varint of the records", bodyOf(head(5, 0), 0x81, 0, 2, 0, 0)},
		{"a long varint of the time", bodyOf(head(5, 0, 1), 0x82, 0, 0, 0)},
		{"a long varint of a key that is none", bodyOf(head(5, 0, 1), 2, 0x80, 0, 0)},
		{"a long varint of a key", bodyOf(head(5, 0, 1), 2, 0x82, 0, 'a', 0)},
		{"a long varint of a value", bodyOf(head(5, 0, 1), 2, 0, 0x82, 0, 'a')},
		{"a time of too many bits", bodyOf(head(5, 0, 1), append(bytes.Clone(ten), 2, 0, 0)...)},
		{"a time of eleven bytes", bodyOf(head(5, 0, 1), append(bytes.Clone(ten), 0x81, 0, 0, 0)...)},
		{"a time that does not end", bodyOf(head(5, 0, 1), ten...)},
		{"a key of one byte too many", bodyOf(head(5, 0, 1), slices.Concat([]byte{2, 0xca, 1}, long, []byte{0})...)},
		{"a value of one byte too many", bodyOf(head(5, 0, 1), slices.Concat([]byte{2, 0, 0xca, 1}, long)...)},
		{"a key longer than all", bodyOf(head(5, 0, 1), 2, 4, 'a', 'b')},
		{"a key of the greatest length", bodyOf(head(5, 0, 1), slices.Concat([]byte{2}, ten, []byte{1, 0})...)},
		{"a value missing", bodyOf(head(5, 0, 1), 2, 0)},
		{"a value longer than all", bodyOf(head(5, 0, 1), 2, 0, 3, 'a')},
		{"packed, without a number of bytes", head(5, 1, 1)},
		{"packed, without bytes", head(5, 1, 1, 0)},
		{"packed, with bytes missing", bodyOf(head(5, 1, 1, 3), 2, 2, 0)},
		{"packed, with fewer bytes than there are", bodyOf(head(5, 1, 1, 2), 2, 2, 0, 0)},
		{"packed, with more bytes than there are", bodyOf(head(5, 1, 1, 4), 2, 2, 0, 0)},
		{"packed, with far more bytes than there are", bodyOf(head(5, 1, 1, math.MaxUint64), 2, 2, 0, 0)},
		{"packed, with bytes by their low bits", bodyOf(head(5, 1, 1, 1<<32+3), 2, 2, 0, 0)},
		{"packed, with a long varint of the bytes", bodyOf(head(5, 1, 1), 0x83, 0, 2, 2, 0, 0)},
		{"packed, with a long varint of the records", bodyOf(head(5, 1), 0x81, 0, 3, 2, 2, 0, 0)},
		{"packed, with a long varint within", bodyOf(head(5, 1, 1, 4), 3, 0x82, 0, 0, 0)},
		{"packed, with a distance of 0", bodyOf(head(5, 1, 1, 6), 2, 2, 0, 0, 128, 0, 0)},
		{"packed, with a record missing", bodyOf(head(5, 1, 2, 3), 2, 2, 0, 0)},
		{"packed, with a record too many", bodyOf(head(5, 1, 1, 6), 2, 2, 0, 0, 128, 0, 3)},
		{"packed, with a byte too many within", bodyOf(head(5, 1, 1, 4), 3, 2, 0, 0, 0)},
		{"packed, without room for its base", bodyOf(head(api.MaxOffset, 1, 1, 3), 2, 2, 0, 0)},
		{"records as they are, said to be packed", bodyOf(head(5, 1, 1, 3), 2, 0, 0)},
		{"packed records, said to be as they are", bodyOf(head(5, 0, 1, 3), 2, 2, 0, 0)},
	} {
		checkNoFrame(t, c.name, sealed(c.body))
		checkNoFrame(t, c.name+", with more behind it", append(sealed(c.body), make([]byte, 500)...))
	}
}

// TestDecodeOfOtherPacking: any packing of the records will do, not just that of Pack.
func TestDecodeOfOtherPacking(t *testing.T) {
	one := api.Batch{Base: 5, Packed: true, Records: []api.Record{record(1, "-", "-")}}
	checkFrame(t, "two steps", sealed(bodyOf(head(5, 1, 1, 3), 0, 2, 1, 0, 0)), one)
	two := api.Batch{Base: 5, Packed: true, Records: []api.Record{record(1, "-", "-"), record(2, "-", "-")}}
	checkFrame(t, "a copy", sealed(bodyOf(head(5, 1, 2, 6), 2, 2, 0, 0, 128, 0, 3)), two)
}

// inSteps packs bytes so that there are so many of them: the first ones each in a step of its own.
func inSteps(t *testing.T, data []byte, size int) []byte {
	for singles := range len(data) {
		var packed []byte
		for _, b := range data[:singles] {
			packed = append(packed, 0, b)
		}
		for rest := data[singles:]; len(rest) > 0; rest = rest[min(len(rest), 128):] {
			n := min(len(rest), 128)
			packed = append(append(packed, byte(n-1)), rest[:n]...)
		}
		if len(packed) == size {
			return packed
		}
	}
	t.Fatalf("%d bytes cannot be packed into %d", len(data), size)
	return nil
}

// TestDecodeOfTheGreatest: a frame has at most MaxFrame bytes, and those of its size are among them.
func TestDecodeOfTheGreatest(t *testing.T) {
	b := api.Batch{Base: 5, Packed: true, Records: many(40, 200)}
	data := recordBytes(b.Records)
	front := head(5, 1, 40, uint64(len(data)))
	for size := api.MaxFrame - 5; size <= api.MaxFrame+5; size++ {
		packed := inSteps(t, data, size-8-len(front))
		frame := sealed(append(bytes.Clone(front), packed...))
		if size <= api.MaxFrame {
			checkFrame(t, "a great frame", frame, b)
			continue
		}
		checkNoFrame(t, "too great a frame", frame)
	}
	checkNoFrame(t, "the greatest size", bytes.Repeat([]byte{0xff}, 30000))
	checkNoFrame(t, "a size by its sign", append([]byte{0x80, 0, 0, 0x11}, frameOf(batches()[0])[4:]...))
}

// TestDecodeOfMuch: what a packed frame holds is bounded, however little it is.
func TestDecodeOfMuch(t *testing.T) {
	for _, n := range []int{19999, 20000, 20001, 600000} {
		packed := Pack(make([]byte, n))
		checkNoFrame(t, "much within", sealed(append(head(5, 1, 40, uint64(n)), packed...)))
	}
}

func TestDecodeOfNothing(t *testing.T) {
	checkNoFrame(t, "nil", nil)
	for n := range 40 {
		checkNoFrame(t, "noughts", make([]byte, n))
		checkNoFrame(t, "a size alone", append([]byte{0, 0, 0, byte(n)}, make([]byte, n)...))
	}
}

func FuzzDecode(f *testing.F) {
	for _, b := range batches()[:24] {
		f.Add(frameOf(b)[8:])
	}
	f.Fuzz(func(t *testing.T, body []byte) {
		Decode(body)
		frame := sealed(body)
		b, n, err := Decode(frame)
		if err != nil {
			checkNoFrame(t, "fuzz", frame)
			return
		}
		again, err := Encode(b)
		if err != nil || n != len(frame) {
			t.Fatalf("P6: Decode(%x): %v, %d; Encode of it: %v", frame, b, n, err)
		}
		if !b.Packed && !bytes.Equal(again, frame) {
			t.Fatalf("P6: Decode(%x): %v, of which the frame is %x", frame, b, again)
		}
		checkFrame(t, "fuzz", again, b)
	})
}
