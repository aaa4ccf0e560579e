package segments

import (
	"bytes"
	"encoding/hex"
	"math"
	"strings"
	"testing"

	"segments/api"
)

// fromHex reads bytes as the document writes them.
func fromHex(t *testing.T, s string) []byte {
	t.Helper()
	b, err := hex.DecodeString(s)
	if err != nil {
		t.Fatal(err)
	}
	return b
}

// repeated writes bytes again and again, as hexadecimal numbers.
func repeated(s string, n int) string { return strings.Repeat(s, n) }

func TestUnpackPutsOut(t *testing.T) {
	for _, c := range []struct {
		name, packed string
		most         int
		want         string
	}{
		{"nothing", "", 1000, ""},
		{"nothing, for no bytes", "", 0, ""},
		{"nothing, for fewer than none", "", -1, ""},
		{"one byte", "0061", 1000, "61"},
		{"one byte that just fits", "0061", 1, "61"},
		{"bytes that look like steps", "02800000", 1000, "800000"},
		{"the longest plain step", "7f" + repeated("ab", 128), 128, repeated("ab", 128)},
		{"two plain steps", "0161620063", 3, "616263"},
		{"the shortest copy", "0061800001", 1000, "61616161"},
		{"the longest copy", "0061ff0001", 131, repeated("61", 131)},
		{"the longest plain step but one", "7e" + repeated("ab", 127), 1000, repeated("ab", 127)},
		{"a copy into itself", "0161628100020063", 1000, "61626162616263"},
		{"a copy of a part", "03616263648000030065", 1000, "6162636462636465"},
		{"a copy from the first byte", "02616263800003", 1000, "616263616263"},
		{"a copy of a copy", "02616263820003820006", 1000, "61626361626361626361626361"},
		{"a distance with its high byte first", "7f" + repeated("61", 128) + "7f" + repeated("62", 128) + "800100", 1000,
			repeated("61", 128) + repeated("62", 128) + "616161"},
	} {
		got, err := Unpack(fromHex(t, c.packed), c.most)
		if err != nil || hex.EncodeToString(got) != c.want {
			t.Errorf("P3: %s: Unpack(%s, %d): %x, %v; want %s", c.name, c.packed, c.most, got, err, c.want)
		}
	}
}

func TestUnpackRefuses(t *testing.T) {
	for _, c := range []struct {
		name, packed string
		most         int
		want         api.Errno
	}{
		{"a plain step without bytes", "00", 1000, api.ErrPacked},
		{"a plain step with a byte missing", "026162", 1000, api.ErrPacked},
		{"the longest plain step with a byte missing", "7f" + repeated("ab", 127), 1000, api.ErrPacked},
		{"a copy without a distance", "006180", 1000, api.ErrPacked},
		{"a copy with half a distance", "00618000", 1000, api.ErrPacked},
		{"a distance of 0", "0061800000", 1000, api.ErrPacked},
		{"a distance of 0 ahead of all", "800000", 1000, api.ErrPacked},
		{"a distance ahead of the first byte", "0061800002", 1000, api.ErrPacked},
		{"a copy ahead of all", "800001", 1000, api.ErrPacked},
		{"the greatest distance", "0061ffffff", 1000, api.ErrPacked},
		{"a distance by its high byte alone", "0061800101", 1000, api.ErrPacked},
		{"a plain step of one too many", "0161", 0, api.ErrPacked},
		{"one byte too many", "0061", 0, api.ErrSize},
		{"below 0 counts as 0", "0061", -1, api.ErrSize},
		{"far below 0", "0061", math.MinInt, api.ErrSize},
		{"a copy of one too many", "0061ff0001", 130, api.ErrSize},
		{"a second step of one too many", "0161620063", 2, api.ErrSize},
		{"missing bytes go ahead of too many", "0161620163", 2, api.ErrPacked},
		{"missing bytes where there is room", "0161620163", 3, api.ErrPacked},
		{"a distance of 0 goes ahead of too many", "0061800000", 1, api.ErrPacked},
		{"a distance too far goes ahead of too many", "0061800002", 1, api.ErrPacked},
		{"half a distance goes ahead of too many", "00618000", 1, api.ErrPacked},
		{"too many in a step ahead of missing bytes", "00610261", 0, api.ErrSize},
		{"too many in a copy ahead of a distance of 0", "0061800001800000", 2, api.ErrSize},
		{"too many in a step ahead of a copy", "00618000010061", -1, api.ErrSize},
	} {
		got, err := Unpack(fromHex(t, c.packed), c.most)
		if err != error(c.want) || got != nil {
			t.Errorf("P3: %s: Unpack(%s, %d): %x, %v; want %v", c.name, c.packed, c.most, got, err, c.want)
		}
	}
}

// TestUnpackReachesFarBack: copies at the farthest distance there is, and at one that is just too far.
func TestUnpackReachesFarBack(t *testing.T) {
	numbers := source(5)
	data := numbers.chance(65536, 256)
	var packed []byte
	for from := 0; from < len(data); from += 128 {
		packed = append(append(packed, 127), data[from:from+128]...)
	}
	want := append(bytes.Clone(data), data[1:4]...)
	if got, err := Unpack(append(packed, 128, 255, 255), len(want)); err != nil || !bytes.Equal(got, want) {
		t.Errorf("P3: a copy from the farthest place: %d bytes, %v", len(got), err)
	}
	// Without the last two plain steps that place is ahead of the first byte.
	short := append(packed[:len(packed)-2*129:len(packed)-2*129], 128, 255, 255)
	if got, err := Unpack(short, len(want)); err != error(api.ErrPacked) || got != nil {
		t.Errorf("P3: a copy from too far: %d bytes, %v", len(got), err)
	}
}

// TestUnpackOfAllShortLists holds what every answer must be, at all lists of up to five bytes out of some.
func TestUnpackOfAllShortLists(t *testing.T) {
	some := []byte{0, 1, 2, 127, 128, 129, 255}
	lists := [][]byte{{}}
	for from := 0; len(lists[from]) < 5; from++ {
		for _, b := range some {
			lists = append(lists, append(bytes.Clone(lists[from]), b))
		}
	}
	for _, packed := range lists {
		checkMost(t, packed)
	}
}

// checkMost holds the answers for one list against each other, as most grows.
func checkMost(t *testing.T, packed []byte) {
	t.Helper()
	whole, err := Unpack(packed, math.MaxInt)
	if err != nil && (err != error(api.ErrPacked) || whole != nil) {
		t.Fatalf("P3: Unpack(%x) for all bytes: %x, %v", packed, whole, err)
	}
	bare := err == nil
	for _, most := range []int{-1, 0, 1, 2, 3, len(whole) - 1, len(whole), len(whole) + 1} {
		got, err := Unpack(packed, most)
		fits := len(whole) <= max(most, 0)
		switch {
		case err != nil && got != nil:
			t.Fatalf("P1: Unpack(%x, %d): bytes beside an error: %x", packed, most, got)
		case bare && fits && (err != nil || !bytes.Equal(got, whole)):
			t.Fatalf("P3: Unpack(%x, %d): %x, %v; want %x", packed, most, got, err, whole)
		case bare && !fits && err != error(api.ErrSize):
			t.Fatalf("P3: Unpack(%x, %d): %x, %v; want ErrSize", packed, most, got, err)
		case !bare && err != error(api.ErrPacked) && err != error(api.ErrSize):
			t.Fatalf("P3: Unpack(%x, %d): %x, %v; want an error", packed, most, got, err)
		}
	}
}

func FuzzUnpack(f *testing.F) {
	f.Add([]byte{})
	f.Add([]byte{1, 'a', 'b', 129, 0, 2, 0, 'c'})
	f.Add([]byte{0, 'a', 255, 0, 1, 128, 0, 0})
	f.Fuzz(checkMost)
}
