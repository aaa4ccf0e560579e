package numbers

import (
	"bytes"
	"encoding/binary"
	"encoding/hex"
	"math"
	"testing"
)

// edges are numbers at which a varint gets longer, or a bit more is needed.
func edges() []uint64 {
	list := []uint64{0, 1, 2, math.MaxUint64}
	for bit := range 64 {
		n := uint64(1) << bit
		list = append(list, n-1, n, n+1)
	}
	return list
}

func TestVarints(t *testing.T) {
	for _, n := range edges() {
		b := PutVarints(nil, n)
		if want := binary.AppendUvarint(nil, n); !bytes.Equal(b, want) {
			t.Errorf("the varint of %d is %x, want %x", n, b, want)
		}
		r := NewReader(append(b, 0xff))
		if got := r.Varint(); got != n || r.Bad() || !bytes.Equal(r.Rest(), []byte{0xff}) {
			t.Errorf("the varint of %d is read as %d", n, got)
		}
	}
	if b := PutVarints([]byte{9}, 1, 300, 0); !bytes.Equal(b, []byte{9, 1, 0xac, 2, 0}) {
		t.Errorf("numbers one behind the other are %x", b)
	}
}

func TestWrongVarints(t *testing.T) {
	for _, s := range []string{
		"", "80", "ffff", "8000", "818000", "ff00", "ffffffffffffffffff", "ffffffffffffffffff00",
		"ffffffffffffffffff02", "80808080808080808003", "ffffffffffffffffff7f", "ffffffffffffffffff8100", "ffffffffffffffffff80", "ffffffffffffffffffff01",
	} {
		b, _ := hex.DecodeString(s)
		r := NewReader(b)
		r.Varint()
		if !r.Bad() || r.Ended() || len(r.Rest()) > 0 {
			t.Errorf("%s is read as a varint", s)
		}
	}
}

func TestZigzags(t *testing.T) {
	for _, e := range edges() {
		for _, n := range []int64{int64(e), -int64(e), ^int64(e)} {
			b := PutVarints(nil, Zigzag(n))
			if want := binary.AppendVarint(nil, n); !bytes.Equal(b, want) {
				t.Errorf("the zigzag of %d is %x, want %x", n, b, want)
			}
			r := NewReader(b)
			if got := r.Zigzag(); got != n || !r.Ended() {
				t.Errorf("the zigzag of %d is read as %d", n, got)
			}
		}
	}
}

func TestFixed(t *testing.T) {
	b := PutFixed([]byte{9}, 8, 0x0102030405060708, math.MaxUint64)
	b = PutFixed(b, 4, 0xfffefdfc)
	b = PutFixed(b, 1, 7)
	want := "09" + "0102030405060708" + "ffffffffffffffff" + "fffefdfc" + "07"
	if hex.EncodeToString(b) != want {
		t.Errorf("numbers of fixed widths are %x, want %s", b, want)
	}
	r := NewReader(b[1:])
	one, two, three, four := r.Fixed(8), r.Fixed(8), r.Fixed(4), r.Fixed(1)
	if one != 0x0102030405060708 || two != math.MaxUint64 || three != 0xfffefdfc || four != 7 || !r.Ended() {
		t.Errorf("they are read as %x, %x, %x, %x", one, two, three, four)
	}
	if r.Fixed(1); !r.Bad() {
		t.Error("a byte is read where there is none")
	}
}

// TestReaderStaysBad: behind something wrong nothing is right, not even what asks for no bytes.
func TestReaderStaysBad(t *testing.T) {
	r := NewReader([]byte{1, 2, 3})
	if b := r.Bytes(4); b != nil || !r.Bad() {
		t.Errorf("4 bytes of 3 are read: %x", b)
	}
	r.Bytes(0)
	if n := r.Fixed(1); n != 0 || !r.Bad() || r.Ended() {
		t.Errorf("a bad reader reads on: %d", n)
	}
	if b := NewReader([]byte{1, 2}).Bytes(math.MaxUint64); b != nil {
		t.Errorf("more bytes than there can be are read: %x", b)
	}
}

// TestReaderLendsNoMore: what is read must not reach into what follows.
func TestReaderLendsNoMore(t *testing.T) {
	all := []byte{1, 2, 3}
	_ = append(NewReader(all).Bytes(2), 9)
	if all[2] != 3 {
		t.Error("what is read has room in what follows it")
	}
}
