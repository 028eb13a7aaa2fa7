package crcs_test

import (
	"bytes"
	"hash/crc32"
	"testing"

	"fettle/crcs"
)

// row makes n bytes that look like nothing in particular, the same ones each time.
func row(n int) []byte {
	b := make([]byte, n)
	x := uint32(2463534242)
	for i := range b {
		x ^= x << 13
		x ^= x >> 17
		x ^= x << 5
		b[i] = byte(x >> 11)
	}
	return b
}

// asTold follows the words of promise 1.1 one by one.
func asTold(b []byte) uint32 {
	var n uint32 = 0xFFFFFFFF
	for _, c := range b {
		n ^= uint32(c)
		for range 8 {
			if n%2 == 1 {
				n = n/2 ^ 0xEDB88320
			} else {
				n /= 2
			}
		}
	}
	return n ^ 0xFFFFFFFF
}

// Promise 1.1: sums that are known from elsewhere.
func TestKnownSums(t *testing.T) {
	for _, c := range []struct {
		b    string
		want uint32
	}{
		{"123456789", 0xCBF43926},
		{"", 0},
		{"a", 0xE8B7BE43},
		{"abc", 0x352441C2},
		{"\x00", 0xD202EF8D},
		{"\x00\x00\x00\x00", 0x2144DF1C},
		{"\xff", 0xFF000000},
		{"\xff\xff\xff\xff", 0xFFFFFFFF},
		{"The quick brown fox jumps over the lazy dog", 0x414FA339},
	} {
		if got := crcs.Sum([]byte(c.b)); got != c.want {
			t.Errorf("Sum(%q) = %#08x, want %#08x", c.b, got, c.want)
		}
	}
}

// Promise 1.1: each byte alone, behind another, and ahead of another.
func TestEachByte(t *testing.T) {
	for i := range 256 {
		c := byte(i)
		for _, b := range [][]byte{{c}, {0, c}, {c, 0}, {255, c}, {c, c, c}} {
			if got, want := crcs.Sum(b), asTold(b); got != want {
				t.Errorf("Sum(% x) = %#08x, want %#08x", b, got, want)
			}
		}
	}
}

// Promise 1.1: each length up to some hundreds, and a long row, against the words and the library.
func TestLengths(t *testing.T) {
	long := row(1 << 20)
	for n := range 600 {
		b := long[n : 2*n]
		if got, want := crcs.Sum(b), asTold(b); got != want || got != crc32.ChecksumIEEE(b) {
			t.Errorf("%d bytes: %#08x, want %#08x", n, got, want)
		}
	}
	if got, want := crcs.Sum(long), crc32.ChecksumIEEE(long); got != want {
		t.Errorf("%d bytes: %#08x, want %#08x", len(long), got, want)
	}
}

// Promise 1.1: nothing is kept from one call to the next.
func TestAgain(t *testing.T) {
	b := row(100)
	was := crcs.Sum(b)
	crcs.Sum(row(7))
	crcs.Sum(nil)
	if got := crcs.Sum(b); got != was {
		t.Errorf("%#08x, then %#08x", was, got)
	}
}

// Promise 1.2 (W3): bytes that were changed have another sum: each run of changed bits that is no longer than the sum.
func TestChangedBitsAreTold(t *testing.T) {
	b := row(40)
	was := crcs.Sum(b)
	for _, run := range []uint32{1, 3, 5, 0x8001, 0xFFFF, 0x80000001, 0xEDB88321, 0xFFFFFFFF} {
		for at := 0; at+32 <= 8*len(b); at++ {
			flip(b, at, run)
			if crcs.Sum(b) == was {
				t.Errorf("bits %#x changed at %d: the same sum", run, at)
			}
			flip(b, at, run)
		}
	}
}

// flip turns those bits of b over that run has, from bit at on.
func flip(b []byte, at int, run uint32) {
	for i := range 32 {
		if run>>i&1 == 1 {
			b[(at+i)/8] ^= 1 << ((at + i) % 8)
		}
	}
}

// Promise 1.2 (W3): what was cut off, or filled with noughts, has another sum.
func TestCutOffIsTold(t *testing.T) {
	for _, whole := range [][]byte{row(300), make([]byte, 300), bytes.Repeat([]byte{255}, 300)} {
		was := crcs.Sum(whole)
		for n := range whole {
			if crcs.Sum(whole[:n]) == was {
				t.Errorf("cut off at %d: the same sum", n)
			}
		}
		if crcs.Sum(append([]byte{0}, whole...)) == was || crcs.Sum(append(whole[:300:300], 0)) == was {
			t.Error("a nought more: the same sum")
		}
	}
}

// Promise 1.3: no call panics; and nil and an empty list are the same (rule 1).
func TestNone(t *testing.T) {
	if got := crcs.Sum(nil); got != 0 {
		t.Errorf("Sum(nil) = %#08x", got)
	}
	if got := crcs.Sum([]byte{}); got != 0 {
		t.Errorf("Sum of an empty list = %#08x", got)
	}
	if got := crcs.Sum(make([]byte, 0, 9)); got != 0 {
		t.Errorf("Sum of an empty list with spare room = %#08x", got)
	}
}

// Rule 3: neither what is handed in, nor the spare room behind it, is changed, and the spare room does not count.
func TestHandedInIsLeft(t *testing.T) {
	all := row(64)
	was := bytes.Clone(all)
	got := crcs.Sum(all[:20])
	if !bytes.Equal(all, was) {
		t.Error("what was handed in is changed")
	}
	if want := crcs.Sum(bytes.Clone(was[:20])); got != want {
		t.Errorf("%#08x with spare room, %#08x without", got, want)
	}
}
