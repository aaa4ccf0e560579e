package segments

import (
	"bytes"
	"reflect"
	"testing"

	"segments/api"
)

// withRoom lays bytes into a longer array: what is handed in has spare room behind it, whose bytes are told too.
func withRoom(b []byte) (handed, array []byte) {
	array = append(bytes.Clone(b), bytes.Repeat([]byte{0x5a}, 400)...)
	return array[:len(b)], array
}

// checkFresh holds that a call neither writes into its argument nor answers memory that it or an earlier answer has.
func checkFresh(t *testing.T, what string, argument []byte, call func([]byte) []byte) {
	t.Helper()
	handed, array := withRoom(argument)
	was := bytes.Clone(array)
	first := call(handed)
	want := bytes.Clone(first)
	second := call(handed)
	if !bytes.Equal(array, was) {
		t.Errorf("P2: %s wrote into its argument or behind it", what)
	}
	if !bytes.Equal(second, want) {
		t.Errorf("P2: %s answers otherwise when it is asked again", what)
	}
	spoil(first)
	if !bytes.Equal(array, was) {
		t.Errorf("P2: %s answers memory of its argument", what)
	}
	if !bytes.Equal(second, want) {
		t.Errorf("P2: %s answers the same memory twice", what)
	}
	spoil(array)
	if !bytes.Equal(second, want) {
		t.Errorf("P2: %s answers memory of its argument", what)
	}
	if again, _ := withRoom(argument); !bytes.Equal(call(again), want) {
		t.Errorf("P2: %s answers otherwise behind what its caller wrote", what)
	}
}

// spoil turns all bytes about, those of the spare room too.
func spoil(b []byte) {
	b = b[:cap(b)]
	for i := range b {
		b[i] ^= 0xff
	}
}

func TestPackingIsFresh(t *testing.T) {
	s := source(4)
	for _, data := range [][]byte{nil, {7}, s.chance(300, 256), s.chance(300, 2), make([]byte, 300), s.chance(70000, 3)} {
		checkFresh(t, "Pack", data, Pack)
		checkFresh(t, "Unpack", Pack(data), func(packed []byte) []byte {
			out, err := Unpack(packed, len(data))
			if err != nil {
				t.Errorf("P4: Unpack of what was packed: %v", err)
			}
			return out
		})
	}
}

// batchWithRoom lays a batch's lists into longer ones; the arrays of all keys and values are told too.
func batchWithRoom(b api.Batch) (handed api.Batch, texts [][]byte) {
	lay := func(text []byte) []byte {
		if text == nil {
			return nil
		}
		text, array := withRoom(text)
		texts = append(texts, array)
		return text
	}
	list := make([]api.Record, len(b.Records), len(b.Records)+5)
	for i, r := range b.Records {
		list[i] = api.Record{Time: r.Time, Key: lay(r.Key), Value: lay(r.Value)}
	}
	return api.Batch{Base: b.Base, Packed: b.Packed, Records: list}, texts
}

// textsOf are the keys and values of a batch that are not none.
func textsOf(b api.Batch) [][]byte {
	var texts [][]byte
	for _, r := range b.Records {
		for _, text := range [][]byte{r.Key, r.Value} {
			if text != nil {
				texts = append(texts, text)
			}
		}
	}
	return texts
}

func cloneAll(lists [][]byte) [][]byte {
	var clones [][]byte
	for _, l := range lists {
		clones = append(clones, bytes.Clone(l))
	}
	return clones
}

func TestEncodeIsFresh(t *testing.T) {
	for _, b := range batches() {
		handed, texts := batchWithRoom(b)
		was := cloneAll(texts)
		first, err := Encode(handed)
		want := bytes.Clone(first)
		second, _ := Encode(handed)
		spoil(first)
		if err != nil || !reflect.DeepEqual(texts, was) || !reflect.DeepEqual(handed, b) {
			t.Fatalf("P2: Encode(%v) wrote into its argument or answers memory of it, %v", b, err)
		}
		if spare := handed.Records[:cap(handed.Records)][len(b.Records):]; !reflect.DeepEqual(spare, make([]api.Record, 5)) {
			t.Fatalf("P2: Encode(%v) wrote behind its records", b)
		}
		for _, text := range texts {
			spoil(text)
		}
		if !bytes.Equal(second, want) {
			t.Fatalf("P2: Encode(%v) answers memory that is not its own", b)
		}
	}
}

func TestDecodeIsFresh(t *testing.T) {
	for _, b := range batches() {
		handed, array := withRoom(frameOf(b))
		was := bytes.Clone(array)
		first, _, err := Decode(handed)
		second, _, _ := Decode(handed)
		if err != nil || !bytes.Equal(array, was) {
			t.Fatalf("P2: Decode of %v wrote into its argument, %v", b, err)
		}
		// Spoilt one by one, with their spare room: each must leave those behind it as they are.
		for texts := textsOf(first); len(texts) > 0; texts = texts[1:] {
			rest := cloneAll(texts[1:])
			spoil(texts[0])
			if len(rest) > 0 && !reflect.DeepEqual(texts[1:], rest) {
				t.Fatalf("P2: Decode of %v answers lists that share memory", b)
			}
		}
		if !bytes.Equal(array, was) {
			t.Fatalf("P2: Decode of %v answers memory of its argument", b)
		}
		spoil(array)
		if !reflect.DeepEqual(second, b) {
			t.Fatalf("P2: Decode of %v answers memory that is not its own", b)
		}
	}
}
