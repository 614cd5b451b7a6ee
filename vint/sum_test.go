package vint

import (
	"hash/crc32"
	"math/rand"
	"testing"
)

func TestP1_3(t *testing.T) {
	if s := Sum([]byte("123456789")); s != 0xe3069283 {
		t.Errorf("Sum = %x", s)
	}
	if s := Sum(nil); s != 0 {
		t.Errorf("Sum of none = %x", s)
	}
	if s := Sum([]byte("a")); s != 0xc1d04330 {
		t.Errorf("Sum of a = %x", s)
	}
	table := crc32.MakeTable(crc32.Castagnoli)
	for c := range 256 {
		if b := []byte{byte(c)}; Sum(b) != crc32.Checksum(b, table) {
			t.Errorf("Sum(% x) = %x", b, Sum(b))
		}
	}
	r := rand.New(rand.NewSource(4))
	for range 500 {
		b := make([]byte, r.Intn(300))
		r.Read(b)
		if Sum(b) != crc32.Checksum(b, table) {
			t.Errorf("Sum(% x) = %x", b, Sum(b))
		}
		sum := r.Uint32()
		if On(sum, b) != crc32.Update(sum, table, b) {
			t.Errorf("On(%x, % x) = %x", sum, b, On(sum, b))
		}
		if On(sum, nil) != sum {
			t.Errorf("On(%x, nil) = %x", sum, On(sum, nil))
		}
	}
}

// The sum of a text in two pieces, cut anywhere, is that of the whole.
func TestP1_9_Sums(t *testing.T) {
	b := []byte("The bell is rung once, and once again.\x00\xff")
	for at := range len(b) + 1 {
		if On(Sum(b[:at]), b[at:]) != Sum(b) {
			t.Error("cut at", at)
		}
	}
}
