package segments

import (
	"bytes"
	"testing"
)

// source makes numbers that look like chance, the same ones each time.
type source uint32

func (s *source) below(n int) int {
	*s = *s*1664525 + 1013904223
	return int(uint32(*s)>>8) % n
}

// chance makes n bytes, out of so many kinds.
func (s *source) chance(n, kinds int) []byte {
	b := make([]byte, n)
	for i := range b {
		b[i] = byte(s.below(kinds))
	}
	return b
}

// checkPacked holds what P4 says of all data, and answers how many bytes it is packed into.
func checkPacked(t *testing.T, what string, data []byte) int {
	t.Helper()
	was := bytes.Clone(data)
	packed := Pack(data)
	if !bytes.Equal(data, was) {
		t.Fatalf("P2: %s: Pack wrote into its argument", what)
	}
	if most := len(data) + len(data)/128 + 1; len(packed) > most {
		t.Fatalf("P4: %s: %d bytes are packed into %d, want at most %d", what, len(data), len(packed), most)
	}
	if got, err := Unpack(packed, len(data)); err != nil || !bytes.Equal(got, data) {
		t.Fatalf("P4: %s: %d bytes do not come out again: %d, %v", what, len(data), len(got), err)
	}
	return len(packed)
}

func TestPackOfNothing(t *testing.T) {
	if p := Pack(nil); len(p) > 1 {
		t.Errorf("P4: nil is packed into %x", p)
	}
	checkPacked(t, "nil", nil)
	checkPacked(t, "an empty list", []byte{})
}

func TestPackOfChance(t *testing.T) {
	s := source(1)
	for _, kinds := range []int{1, 2, 3, 4, 16, 256} {
		for n := range 600 {
			checkPacked(t, "chance", s.chance(n, kinds))
		}
		for _, n := range []int{20000, 65535, 65536, 65537, 200000} {
			checkPacked(t, "much chance", s.chance(n, kinds))
		}
	}
}

// TestPackOfShortRepeats: lists whose repeats are as short as can be, between bytes that are plain; copies of these could cost more than they spare.
func TestPackOfShortRepeats(t *testing.T) {
	s := source(2)
	for repeat := 1; repeat <= 8; repeat++ {
		for gap := 1; gap <= 130; gap++ {
			again := s.chance(repeat, 256)
			var data []byte
			for range 40 {
				data = append(append(data, again...), s.chance(gap, 256)...)
			}
			checkPacked(t, "short repeats", data)
		}
	}
}

// TestPackOfFarRepeats: what is there again may stand farther ahead than a distance can tell.
func TestPackOfFarRepeats(t *testing.T) {
	s := source(3)
	for apart := 65530; apart <= 65542; apart++ {
		data := s.chance(apart, 256)
		data = append(data, data[:500]...)
		n := checkPacked(t, "far repeats", data)
		if apart <= 65535 && n > apart+apart/128+100 {
			t.Errorf("P4: what stands %d ahead is not told by copies: %d bytes", apart, n)
		}
		copy(data[1000:], data[:10]) // a shorter repeat, which is nearer
		checkPacked(t, "near and far repeats", data)
	}
}

func TestPackOfTheSame(t *testing.T) {
	for n := range 4000 {
		if p := checkPacked(t, "the same", bytes.Repeat([]byte{byte(n)}, n)); p > n/40+8 {
			t.Fatalf("P4: %d bytes that are the same are packed into %d", n, p)
		}
	}
	for _, n := range []int{20000, 65536, 65537, 1000000} {
		if p := checkPacked(t, "much the same", make([]byte, n)); p > n/40+8 {
			t.Fatalf("P4: %d bytes that are the same are packed into %d", n, p)
		}
	}
}

// blocks are lists of k bytes in which parts are alike in several ways, so that the nearest repeat is not the longest one.
func blocks(k int) [][]byte {
	s := source(uint32(k))
	alike := bytes.Repeat([]byte("abcde"), k/5+1)[:k]
	for i := 4; i < k; i += 5 {
		alike[i] = byte(i)
	}
	rising := make([]byte, k)
	for i := range rising {
		rising[i] = byte(i)
	}
	nearly := make([]byte, k)
	nearly[k-1] = 1
	return [][]byte{alike, rising, nearly, s.chance(k, 2), s.chance(k, 3), s.chance(k, 256)}
}

func TestPackOfBlocks(t *testing.T) {
	for k := 1; k <= 100; k++ {
		for kind, block := range blocks(k) {
			all := bytes.Repeat(block, 70000/k+1)
			sizes := []int{1000, 20000, 70000}
			for n := 200; n < 500; n += 1 + k%3 {
				sizes = append(sizes, n)
			}
			for _, n := range sizes {
				if p := checkPacked(t, "blocks", all[:n]); p > 110+n/30 {
					t.Fatalf("P4: %d bytes of a block of %d (kind %d) are packed into %d", n, k, kind, p)
				}
			}
		}
	}
}

// pieces makes k bytes, most of them pieces of those ahead: copies then stand within a block too, and a whole repeat may begin in the midst of one.
func (s *source) pieces(k int) []byte {
	var b []byte
	for len(b) < k {
		if len(b) < 8 || s.below(3) == 0 {
			b = append(b, byte(s.below(256)))
			continue
		}
		n := 4 + s.below(4)
		from := s.below(len(b) - n + 1)
		b = append(b, b[from:from+n]...)
	}
	return b[:k]
}

func TestPackOfBlocksOfPieces(t *testing.T) {
	s := source(6)
	for range 20000 {
		k := 80 + s.below(21)
		n := 200 + s.below(1800)
		block := s.pieces(k)
		if p := checkPacked(t, "pieces", bytes.Repeat(block, n/k+1)[:n]); p > 110+n/30 {
			t.Fatalf("P4: %d bytes of the block %x are packed into %d", n, block, p)
		}
	}
	block := fromHex(t, "785af15c43478ce85c478ce85cf15c43475c43478ce85c785af15cf55cf15c43475c435cf55cf15c434779f6475c43478c4779f6475c79f6475c43478ce85cf15c435c435cf55cf12ff15c435c435c4347797a5c785af15cf55c785af1")
	if p := len(Pack(bytes.Repeat(block, 20)[:1617])); p > 110+1617/30 {
		t.Errorf("P4: 1617 bytes of a block of pieces are packed into %d", p)
	}
}

func FuzzPack(f *testing.F) {
	f.Add([]byte{})
	f.Add([]byte("abcabcabcabc"))
	f.Add(make([]byte, 300))
	f.Fuzz(func(t *testing.T, data []byte) {
		checkPacked(t, "fuzz", data)
		block := append(bytes.Clone(data[:min(len(data), 99)]), 1)
		n := max(200, len(data))
		if p := checkPacked(t, "fuzzed blocks", bytes.Repeat(block, n)[:n]); p > 110+n/30 {
			t.Fatalf("P4: %d bytes of a block of %d are packed into %d", n, len(block), p)
		}
	})
}
