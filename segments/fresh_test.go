package segments

import (
	"bytes"
	"testing"
)

// withRoom lays bytes into a longer array: what is handed in has spare room behind it, whose bytes are told too.
func withRoom(b []byte) (handed, array []byte) {
	array = append(bytes.Clone(b), bytes.Repeat([]byte{0x5a}, 400)...)
	return array[:len(b)], array
}

// checkFresh holds that a call neither writes into its argument nor answers memory that it or an earlier answer has.
func checkFresh(t *testing.T, what string, argument []byte, call func([]byte) []byte) {
	t.Helper()
	handed, array := withRoom(argument)
	was := bytes.Clone(array)
	first := call(handed)
	want := bytes.Clone(first)
	second := call(handed)
	if !bytes.Equal(array, was) {
		t.Errorf("P2: %s wrote into its argument or behind it", what)
	}
	if !bytes.Equal(second, want) {
		t.Errorf("P2: %s answers otherwise when it is asked again", what)
	}
	spoil(first)
	if !bytes.Equal(array, was) {
		t.Errorf("P2: %s answers memory of its argument", what)
	}
	if !bytes.Equal(second, want) {
		t.Errorf("P2: %s answers the same memory twice", what)
	}
	spoil(array)
	if !bytes.Equal(second, want) {
		t.Errorf("P2: %s answers memory of its argument", what)
	}
	if again, _ := withRoom(argument); !bytes.Equal(call(again), want) {
		t.Errorf("P2: %s answers otherwise behind what its caller wrote", what)
	}
}

// spoil turns all bytes about, those of the spare room too.
func spoil(b []byte) {
	b = b[:cap(b)]
	for i := range b {
		b[i] ^= 0xff
	}
}

func TestPackingIsFresh(t *testing.T) {
	s := source(4)
	for _, data := range [][]byte{nil, {7}, s.chance(300, 256), s.chance(300, 2), make([]byte, 300), s.chance(70000, 3)} {
		checkFresh(t, "Pack", data, Pack)
		checkFresh(t, "Unpack", Pack(data), func(packed []byte) []byte {
			out, err := Unpack(packed, len(data))
			if err != nil {
				t.Errorf("P4: Unpack of what was packed: %v", err)
			}
			return out
		})
	}
}
