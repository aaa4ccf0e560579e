package segments

import (
	"bytes"
	"encoding/binary"
	"encoding/hex"
	"hash/crc32"
	"math"
	"testing"

	"segments/api"
)

// record makes a record; - is none, of the key and of the value.
func record(time int64, key, value string) api.Record {
	text := func(s string) []byte {
		if s == "-" {
			return nil
		}
		return []byte(s)
	}
	return api.Record{Time: time, Key: text(key), Value: text(value)}
}

// sealed sets the size and the sum ahead of a body, as P5 says, by the library's means.
func sealed(body []byte) []byte {
	b := binary.BigEndian.AppendUint32(nil, uint32(4+len(body)))
	b = binary.BigEndian.AppendUint32(b, crc32.Checksum(body, crc32.MakeTable(crc32.Castagnoli)))
	return append(b, body...)
}

// head is the base, the form and the numbers that stand ahead of the records.
func head(base int64, form byte, counts ...uint64) []byte {
	b := append(binary.BigEndian.AppendUint64(nil, uint64(base)), form)
	for _, n := range counts {
		b = binary.AppendUvarint(b, n)
	}
	return b
}

// recordBytes writes records as P5 says, by the library's means.
func recordBytes(records []api.Record) []byte {
	var b []byte
	text := func(s []byte) {
		if s == nil {
			b = append(b, 0)
			return
		}
		b = append(binary.AppendUvarint(b, uint64(len(s)+1)), s...)
	}
	ahead := int64(0)
	for _, r := range records {
		b = binary.AppendVarint(b, r.Time-ahead)
		text(r.Key)
		text(r.Value)
		ahead = r.Time
	}
	return b
}

// frameOf writes the frame of a batch as P5 says.
func frameOf(b api.Batch) []byte {
	data := recordBytes(b.Records)
	n := uint64(len(b.Records))
	if b.Packed {
		return sealed(append(head(b.Base, 1, n, uint64(len(data))), Pack(data)...))
	}
	return sealed(append(head(b.Base, 0, n), data...))
}

// many makes n records of a key and a value of so many bytes, with times that are far apart.
func many(n, size int) []api.Record {
	list := make([]api.Record, n)
	for i := range list {
		time := int64(math.MaxInt64) / 2
		if i%2 == 1 {
			time = math.MinInt64 / 2
		}
		list[i] = api.Record{Time: time, Key: bytes.Repeat([]byte{byte(i)}, size), Value: bytes.Repeat([]byte{'v'}, size)}
	}
	return list
}

// batches are batches of which there are frames.
func batches() []api.Batch {
	lists := [][]api.Record{
		{record(0, "-", "-")},
		{record(0, "", "")},
		{record(-1, "-", "")},
		{record(63, "k", "-"), record(-1, "", "v"), record(0, "-", "-"), record(0, "-", "-")},
		{record(math.MaxInt64, "-", "-"), record(math.MinInt64, "-", "-"), record(math.MaxInt64, "-", "-")},
		{record(math.MinInt64, "a", "b"), record(0, "a", "b"), record(math.MinInt64, "a", "b"), record(-1, "a", "b")},
		{record(5, "key", "value"), record(3, "", "-"), record(3, "-", "x")},
	}
	for _, size := range []int{0, 1, 126, 127, 128, 199, 200} {
		lists = append(lists, many(1, size), many(7, size), many(39, size), many(40, size))
	}
	var all []api.Batch
	for _, l := range lists {
		for _, base := range []int64{0, 1, 255, 256, 1 << 40, api.MaxOffset - int64(len(l))} {
			all = append(all, api.Batch{Base: base, Records: l}, api.Batch{Base: base, Packed: true, Records: l})
		}
	}
	return all
}

func TestEncodeExamples(t *testing.T) {
	for _, c := range []struct {
		base    int64
		records []api.Record
		want    string
	}{
		{0, []api.Record{record(1, "-", "-")}, "000000112e715d5100000000000000000001020000"},
		{7, []api.Record{record(1, "a", "-")}, "0000001230a924290000000000000007000102026100"},
		{1000, []api.Record{record(5, "key", "value"), record(3, "", "-"), record(3, "-", "x")},
			"0000002010ed5e0300000000000003e800030a046b65790676616c756503010000000278"},
	} {
		got, err := Encode(api.Batch{Base: c.base, Records: c.records})
		if err != nil || hex.EncodeToString(got) != c.want {
			t.Errorf("P5: Encode of %v from %d on: %x, %v; want %s", c.records, c.base, got, err, c.want)
		}
	}
}

func TestEncodeMakesFrames(t *testing.T) {
	for _, b := range batches() {
		got, err := Encode(b)
		if want := frameOf(b); err != nil || !bytes.Equal(got, want) {
			t.Fatalf("P5: Encode(%v): %x, %v; want %x", b, got, err, want)
		}
		if len(got) > api.MaxFrame {
			t.Fatalf("P6: Encode makes a frame of %d bytes", len(got))
		}
	}
}

func TestEncodePacks(t *testing.T) {
	b := api.Batch{Records: many(40, 200)}
	plain, _ := Encode(b)
	b.Packed = true
	packed, err := Encode(b)
	if err != nil || len(packed) > len(plain)/10 {
		t.Errorf("P5: a frame of %d bytes has %d when it is packed, %v", len(plain), len(packed), err)
	}
}

func TestEncodeRefuses(t *testing.T) {
	long := string(make([]byte, api.MaxBytes+1))
	one := []api.Record{record(1, "-", "-")}
	lastKey := append(many(39, 200), record(1, long, "-"))
	lastValue := append(many(39, 200), record(1, "-", long))
	for _, c := range []struct {
		name    string
		base    int64
		records []api.Record
		want    api.Errno
	}{
		{"no list", 0, nil, api.ErrEmpty},
		{"no record", 0, []api.Record{}, api.ErrEmpty},
		{"no record goes ahead of the base", -1, nil, api.ErrEmpty},
		{"one too many", 0, many(41, 1), api.ErrMany},
		{"far too many", 0, many(5000, 0), api.ErrMany},
		{"too many go ahead of a long key", 0, append(many(40, 200), record(1, long, "-")), api.ErrMany},
		{"too many go ahead of the base", -1, many(41, 1), api.ErrMany},
		{"a long key", 0, []api.Record{record(1, long, "-")}, api.ErrSize},
		{"a long value", 0, []api.Record{record(1, "-", long)}, api.ErrSize},
		{"a long key at the end", 0, lastKey, api.ErrSize},
		{"a long value at the end", 0, lastValue, api.ErrSize},
		{"a long key goes ahead of the base", -1, lastKey, api.ErrSize},
		{"a long value goes ahead of the base", math.MaxInt64, lastValue, api.ErrSize},
		{"a base below 0", -1, one, api.ErrOffset},
		{"the least base", math.MinInt64, one, api.ErrOffset},
		{"a base without room", api.MaxOffset, one, api.ErrOffset},
		{"a base without room for the last one", api.MaxOffset - 39, many(40, 1), api.ErrOffset},
		{"the greatest base", math.MaxInt64, many(40, 1), api.ErrOffset},
	} {
		for _, packed := range []bool{false, true} {
			got, err := Encode(api.Batch{Base: c.base, Packed: packed, Records: c.records})
			if err != error(c.want) || got != nil {
				t.Errorf("P5: %s: %x, %v; want %v", c.name, got, err, c.want)
			}
		}
	}
}
