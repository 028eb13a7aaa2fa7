package code_test

import (
	"bytes"
	"math"
	"testing"

	"fettle/code"
)

const top = 1 << 40

// numbers are those at which something changes: a byte more, a bound, a sign.
func numbers() []int {
	ns := []int{0, 1, 5, 6, 7, 255, 256, 258, 300, 1<<31 - 1, 1 << 31, top - 1, top}
	for i := range 40 {
		ns = append(ns, 1<<i-1, 1<<i, 1<<i+1)
	}
	return ns
}

// six follows the words of promise 2.1: n in six bytes, the highest first.
func six(n int) []byte {
	b := make([]byte, 6)
	for i := 5; i >= 0; i-- {
		b[i] = byte(n % 256)
		n /= 256
	}
	return b
}

// join lays rows of bytes one behind the other.
func join(rows ...[]byte) []byte {
	return bytes.Join(rows, nil)
}

// mustBeBad holds a reader to what the document says of one that met a fault.
func mustBeBad(t *testing.T, what string, r *code.Reader) {
	t.Helper()
	if r.Ok() || r.End() {
		t.Errorf("%s: Ok %v, End %v", what, r.Ok(), r.End())
	}
	for _, most := range []int{math.MaxInt, top, 0} {
		if n, x := r.Num(most), r.Bytes(most); n != 0 || len(x) != 0 {
			t.Errorf("%s: read %d and % x behind the fault", what, n, x)
		}
	}
	if r.Ok() || r.End() {
		t.Errorf("%s: the fault is forgotten", what)
	}
}

// Promise 2.1: a number is six bytes, the highest first, behind what was there.
func TestNum(t *testing.T) {
	if got := code.Num(nil, 258); !bytes.Equal(got, []byte{0, 0, 0, 0, 1, 2}) {
		t.Errorf("258: % x", got)
	}
	if got := code.Num(nil, 0x0102030405); !bytes.Equal(got, []byte{0, 1, 2, 3, 4, 5}) {
		t.Errorf("0x0102030405: % x", got)
	}
	for _, n := range numbers() {
		for _, b := range []string{"", "x", "what was there"} {
			if got, want := code.Num([]byte(b), n), join([]byte(b), six(n)); !bytes.Equal(got, want) {
				t.Errorf("Num(%q, %d) = % x, want % x", b, n, got, want)
			}
		}
	}
}

// Promise 2.1: a number is held to 0 to 2^40.
func TestNumIsHeld(t *testing.T) {
	for n, want := range map[int]int{
		-1: 0, -256: 0, -top: 0, math.MinInt: 0,
		top: top, top + 1: top, 2 * top: top, 1<<48 - 1: top, 1 << 48: top, math.MaxInt: top,
	} {
		if got := code.Num(nil, n); !bytes.Equal(got, six(want)) {
			t.Errorf("Num(nil, %d) = % x, want % x", n, got, six(want))
		}
	}
}

// Promise 2.1: bytes have their length ahead of them.
func TestBytes(t *testing.T) {
	for _, n := range []int{0, 1, 2, 6, 255, 256, 70000} {
		x := bytes.Repeat([]byte{0xA7}, n)
		for _, b := range []string{"", "x", "what was there"} {
			if got, want := code.Bytes([]byte(b), x), join([]byte(b), six(n), x); !bytes.Equal(got, want) {
				t.Errorf("%d bytes behind %q: %d bytes, want %d", n, b, len(got), len(want))
			}
		}
	}
}

// Rule 1: nil and an empty list are the same to each call.
func TestNone(t *testing.T) {
	empty := []byte{}
	for _, got := range [][]byte{code.Num(nil, 0), code.Num(empty, 0), code.Bytes(nil, nil), code.Bytes(empty, empty), code.Bytes(nil, empty)} {
		if !bytes.Equal(got, make([]byte, 6)) {
			t.Errorf("% x", got)
		}
	}
	for _, b := range [][]byte{nil, empty, make([]byte, 0, 20)} {
		if r := code.Read(b); !r.Ok() || !r.End() {
			t.Error("nothing to read: not Ok, or no End")
		}
		r := code.Read(b)
		r.Num(top)
		mustBeBad(t, "a number of nothing", r)
		r = code.Read(b)
		r.Bytes(top)
		mustBeBad(t, "bytes of nothing", r)
	}
}

// Promise 2.1: what was written is read, in its order, and End comes just behind the last.
func TestReadBack(t *testing.T) {
	var b []byte
	texts := []string{"", "a", "two\x00words", "\xff\xfe", "\x00\x00\x00\x00\x00\x05"}
	for _, n := range numbers() {
		b = code.Num(b, n)
		for _, x := range texts {
			b = code.Bytes(b, []byte(x))
		}
	}
	r := code.Read(b)
	for _, n := range numbers() {
		if got := r.Num(top); got != n || !r.Ok() || r.End() {
			t.Fatalf("%d, want %d; Ok %v, End %v", got, n, r.Ok(), r.End())
		}
		for _, x := range texts {
			if r.End() {
				t.Fatal("End ahead of the end")
			}
			if got := r.Bytes(top); string(got) != x || !r.Ok() {
				t.Fatalf("%q, want %q; Ok %v", got, x, r.Ok())
			}
		}
	}
	if !r.Ok() || !r.End() || !r.End() {
		t.Error("all is read: not Ok, or no End")
	}
}

// Promise 2.1: a number may be most, and not one more.
func TestNumAtMost(t *testing.T) {
	for _, n := range numbers() {
		for _, most := range []int{n, n + 1, top, math.MaxInt} {
			if r := code.Read(code.Num(nil, n)); r.Num(most) != n || !r.Ok() || !r.End() {
				t.Errorf("%d, at most %d, isn't read", n, most)
			}
		}
		for _, most := range []int{n - 1, -1, math.MinInt} {
			r := code.Read(join(six(n), six(1), []byte("12345678")))
			if got := r.Num(most); got != 0 {
				t.Errorf("%d, at most %d: %d", n, most, got)
			}
			mustBeBad(t, "a number above most", r)
		}
	}
}

// Promise 2.1: there may be most bytes, and not one more.
func TestBytesAtMost(t *testing.T) {
	for _, n := range []int{0, 1, 2, 255, 256, 1000} {
		x := bytes.Repeat([]byte{'x'}, n)
		b := code.Bytes(nil, x)
		for _, most := range []int{n, n + 1, top, math.MaxInt} {
			if r := code.Read(b); !bytes.Equal(r.Bytes(most), x) || !r.Ok() || !r.End() {
				t.Errorf("%d bytes, at most %d, aren't read", n, most)
			}
		}
		for _, most := range []int{n - 1, -1, math.MinInt} {
			r := code.Read(join(b, six(1), []byte("12345678")))
			if got := r.Bytes(most); len(got) != 0 {
				t.Errorf("%d bytes, at most %d: %d bytes", n, most, len(got))
			}
			mustBeBad(t, "more bytes than most", r)
		}
	}
}

// Promise 2.1: what is cut off anywhere can't be read, and what stands ahead of the cut can.
func TestCutOff(t *testing.T) {
	b := join(six(7), code.Bytes(nil, []byte("hello")))
	for n := range b {
		r := code.Read(b[:n])
		first := r.Num(top)
		if n < 6 {
			if first != 0 {
				t.Errorf("cut off at %d: %d", n, first)
			}
			mustBeBad(t, "a number that is cut off", r)
			continue
		}
		if first != 7 || !r.Ok() || r.End() != (n == 6) {
			t.Errorf("cut off at %d: %d, Ok %v, End %v", n, first, r.Ok(), r.End())
		}
		if x := r.Bytes(top); len(x) != 0 {
			t.Errorf("cut off at %d: %q", n, x)
		}
		mustBeBad(t, "bytes that are cut off", r)
	}
}

// Promise 2.3: lengths that no bytes stand behind are a fault, however great they are and whatever most is.
func TestGreatLengths(t *testing.T) {
	for _, n := range []int{10, 1<<31 - 1, 1 << 31, 1<<32 + 3, top, top + 1, 1<<47 + 2, 1<<48 - 1} {
		for _, most := range []int{n, math.MaxInt} {
			r := code.Read(join(six(n), []byte("too short")))
			if x := r.Bytes(most); len(x) != 0 {
				t.Errorf("length %d: %q", n, x)
			}
			mustBeBad(t, "a length with too little behind it", r)
		}
	}
}

// Promise 2.1: all of the six bytes are the number, though Num writes none above 2^40: most alone bounds it.
func TestAllSixBytesCount(t *testing.T) {
	for i := range 48 {
		n := 1 << i
		if r := code.Read(six(n)); r.Num(math.MaxInt) != n || !r.End() {
			t.Errorf("%d isn't read", n)
		}
	}
	r := code.Read(six(top + 1))
	if got := r.Num(top); got != 0 {
		t.Errorf("2^40 + 1, at most 2^40: %d", got)
	}
	mustBeBad(t, "2^40 + 1, at most 2^40", r)
}

// Promise 2.2 (W5): no two rows of bytes read the same: what is read to its end is what writing it again gives.
func TestOneForm(t *testing.T) {
	x := uint32(88172645)
	whole := 0
	for range 20000 {
		b := make([]byte, 0, 40)
		for range 1 + x%4 {
			x ^= x << 13
			x ^= x >> 17
			x ^= x << 5
			b = append(b, 0, byte(x>>3)&1, 0, 0, 0, byte(x>>9)%4)
			b = append(b, "abc"[:x>>20%4]...)
		}
		r := code.Read(b)
		var again []byte
		for i := uint32(0); r.Ok() && !r.End(); i++ {
			if x>>i&1 == 0 {
				again = code.Num(again, r.Num(top))
			} else {
				again = code.Bytes(again, r.Bytes(top))
			}
		}
		if !r.End() {
			continue
		}
		whole++
		if !bytes.Equal(again, b) {
			t.Fatalf("% x reads as % x", b, again)
		}
	}
	if whole < 100 {
		t.Errorf("only %d rows were read to their end", whole)
	}
}

// Promise 2.2 (W3): what follows is no part of what is read: bytes that look like a number stay bytes.
func TestPiecesStayApart(t *testing.T) {
	ab, ba := code.Bytes(code.Bytes(nil, []byte("a")), []byte("bc")), code.Bytes(code.Bytes(nil, []byte("ab")), []byte("c"))
	if bytes.Equal(ab, ba) {
		t.Error("a, bc and ab, c have one form")
	}
	inner := code.Bytes(nil, []byte("inner"))
	r := code.Read(join(code.Bytes(nil, inner), six(3)))
	if got := r.Bytes(top); !bytes.Equal(got, inner) {
		t.Errorf("% x, want % x", got, inner)
	}
	if r.End() || r.Num(3) != 3 || !r.End() {
		t.Error("what follows isn't read")
	}
}

// Rule 3: what is handed in, and the room behind it, is left as it is.
func TestHandedInIsLeft(t *testing.T) {
	all := []byte("abcdefghijklmnopqrstuvwxyz")
	was := bytes.Clone(all)
	code.Num(all[:3], 1<<40)
	code.Bytes(all[:3], []byte("ABC"))
	code.Bytes(nil, all[:3])
	r := code.Read(all[:3])
	r.Num(top)
	r.Bytes(top)
	if !bytes.Equal(all, was) {
		t.Errorf("%q", all)
	}
	if got := code.Bytes(all[:3], all[1:4]); !bytes.Equal(got, join([]byte("abc"), six(3), []byte("bcd"))) {
		t.Errorf("bytes of a part of b: % x", got)
	}
}

// Rule 3: a reader keeps nothing that was handed in, and reads nothing of the room behind it.
func TestReaderHasItsOwn(t *testing.T) {
	all := code.Bytes(code.Num(nil, 300), []byte("abc"))
	b := bytes.Clone(all)
	r, s := code.Read(b), code.Read(b[:6])
	for i := range b {
		b[i] = 99
	}
	if r.Num(top) != 300 || string(r.Bytes(top)) != "abc" || !r.End() {
		t.Error("what was handed in is kept")
	}
	if s.Num(top) != 300 || !s.End() || len(s.Bytes(top)) != 0 || s.Ok() {
		t.Error("the room behind what was handed in is read")
	}
}

// Rule 3: what is answered is new memory, its spare room too.
func TestAnsweredIsNew(t *testing.T) {
	scrawl := func(b []byte) {
		b = b[:cap(b)]
		for i := range b {
			b[i] = 'z'
		}
	}
	b, x := []byte("one"), []byte("two")
	scrawl(code.Num(b, 5))
	scrawl(code.Bytes(b, x))
	scrawl(code.Bytes(nil, x))
	if string(b) != "one" || string(x) != "two" {
		t.Errorf("%q, %q", b, x)
	}
	r := code.Read(code.Bytes(code.Bytes(code.Bytes(nil, x), nil), []byte("three")))
	got := r.Bytes(top)
	_ = append(got, "over what follows"...)
	scrawl(got)
	scrawl(r.Bytes(top))
	if got := r.Bytes(top); string(got) != "three" || !r.End() {
		t.Errorf("%q: what is answered is lent", got)
	}
}

// Promise 2.1: two readers of one row know nothing of each other.
func TestReadersApart(t *testing.T) {
	b := join(six(1), six(2))
	r, s := code.Read(b), code.Read(b)
	r.Num(0)
	if s.Num(1) != 1 || s.Num(2) != 2 || !s.End() || r.Ok() {
		t.Error("one reader's fault is the other's")
	}
}

// Promise 2.3: no call panics and each ends, on any bytes in any order of calls.
func FuzzRead(f *testing.F) {
	f.Add([]byte(nil), uint64(0), 0)
	f.Add(join(six(3), code.Bytes(nil, []byte("abc"))), uint64(2), top)
	f.Add(join(six(1<<48-1), []byte("abc")), uint64(1), math.MaxInt)
	f.Add(six(5), uint64(0), math.MinInt)
	f.Fuzz(func(t *testing.T, b []byte, calls uint64, most int) {
		r := code.Read(b)
		for i := range 64 {
			was := r.Ok()
			n, x := 0, []byte(nil)
			if calls>>i&1 == 0 {
				n = r.Num(most)
			} else {
				x = r.Bytes(most)
			}
			if n < 0 || n > max(most, 0) || len(x) > max(most, 0) || len(x) > len(b) {
				t.Fatalf("%d, %d bytes, at most %d", n, len(x), most)
			}
			if r.Ok() && !was || r.End() && !r.Ok() || !r.Ok() && (n != 0 || len(x) != 0) {
				t.Fatalf("%d, %d bytes, Ok %v then %v, End %v", n, len(x), was, r.Ok(), r.End())
			}
		}
	})
}
