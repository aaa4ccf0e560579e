package sums

import (
	"hash/crc32"
	"testing"
)

func TestOfTheDocumentsBytes(t *testing.T) {
	if sum := Of([]byte("123456789")); sum != 0xe3069283 {
		t.Errorf("the sum of 123456789 is %#x", sum)
	}
	if sum := Of(nil); sum != 0 {
		t.Errorf("the sum of nothing is %#x", sum)
	}
}

func TestOfAllBytes(t *testing.T) {
	known := crc32.MakeTable(crc32.Castagnoli)
	var list []byte
	for n := range 1000 {
		if got, want := Of(list), crc32.Checksum(list, known); got != want {
			t.Fatalf("the sum of %x is %#x, want %#x", list, got, want)
		}
		list = append(list, byte(n*n>>3))
	}
	for b := range 256 {
		one := []byte{byte(b)}
		if got, want := Of(one), crc32.Checksum(one, known); got != want {
			t.Errorf("the sum of %x is %#x, want %#x", one, got, want)
		}
	}
}
