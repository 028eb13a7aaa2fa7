package fram_test

import (
	"bytes"
	"hash/crc32"
	"iter"
	"slices"
	"testing"

	"fettle/fram"
)

const (
	// around is how many bytes of a frame stand around what it holds.
	around = 10
	// most is how many bytes a frame that is read may hold.
	most = 10000
)

// six tells n in six bytes, the highest first.
func six(n int) []byte {
	b := make([]byte, 6)
	for i := range b {
		b[i] = byte(n >> (40 - 8*i))
	}
	return b
}

// summed tells f and, behind it, its sum (as the library knows it) in four bytes, the highest first.
func summed(f []byte) []byte {
	s := crc32.ChecksumIEEE(f)
	return append(bytes.Clone(f), byte(s>>24), byte(s>>16), byte(s>>8), byte(s))
}

// framed follows the words of promise 3.1: the frame that holds x.
func framed(x []byte) []byte {
	return summed(append(six(len(x)), x...))
}

// rowOf lays a frame for each text one behind the other.
func rowOf(texts ...string) []byte {
	var b []byte
	for _, x := range texts {
		b = append(b, framed([]byte(x))...)
	}
	return b
}

// texts are things to hold that may be taken for something else: none, lengths, sums, frames, a frame without its end.
func texts() []string {
	inner := string(rowOf("inner"))
	return []string{"one", "", "\x00", "\x00\x00\x00\x00\x00\x00", "two\nlines", inner, inner[:len(inner)-1], "\xff\xfe\xfd\xfc", string(bytes.Repeat([]byte("long "), 500))}
}

// mustHold holds Scan and All of b to what b's frames hold; the frames stand one behind the other from b's beginning on.
func mustHold(t *testing.T, what string, b []byte, want []string) {
	t.Helper()
	held, end := fram.Scan(b)
	if len(held) != len(want) {
		t.Errorf("%s: Scan tells %d frames, want %d", what, len(held), len(want))
		return
	}
	at := 0
	places := []int{}
	for i, x := range want {
		if string(held[i]) != x {
			t.Errorf("%s: frame %d holds %q, want %q", what, i, held[i], x)
		}
		places = append(places, at)
		at += len(x) + around
	}
	if end != at {
		t.Errorf("%s: Scan tells the end %d, want %d", what, end, at)
	}
	mustPass(t, what, fram.All(b), places, want)
}

// mustPass holds one way through all to the places and what is held there.
func mustPass(t *testing.T, what string, all iter.Seq2[int, []byte], places []int, want []string) {
	t.Helper()
	n := 0
	for at, x := range all {
		if n == len(want) {
			t.Errorf("%s: All goes on behind %d frames", what, n)
			return
		}
		if at != places[n] || string(x) != want[n] {
			t.Errorf("%s: All tells %q at %d, want %q at %d", what, x, at, want[n], places[n])
		}
		n++
	}
	if n != len(want) {
		t.Errorf("%s: All tells %d frames, want %d", what, n, len(want))
	}
}

// Promise 3.1: a frame is the length in six bytes, what it holds, and the sum of both in four, the highest first, behind what was there.
func TestPut(t *testing.T) {
	if got, want := fram.Put([]byte("x"), []byte("abc")), "x\x00\x00\x00\x00\x00\x03abc\x3e\xd9\x23\x90"; string(got) != want {
		t.Errorf("% x, want % x", got, want)
	}
	for _, x := range texts() {
		for _, b := range []string{"", "x", "what was there", string(rowOf("one"))} {
			if got, want := fram.Put([]byte(b), []byte(x)), string(framed([]byte(x))); string(got) != b+want {
				t.Errorf("Put(%q, %q) = % x, want % x behind it", b, x, got, want)
			}
		}
	}
}

// Promise 3.1: Put writes also what Scan does not read: more than 10,000 bytes.
func TestPutOfMuch(t *testing.T) {
	for _, n := range []int{255, 256, most - 1, most, most + 1, 70000} {
		x := bytes.Repeat([]byte{0xA7}, n)
		if got := fram.Put(nil, x); !bytes.Equal(got, framed(x)) {
			t.Errorf("%d bytes: % x and so on", n, got[:6])
		}
	}
}

// Promise 3.1: what was put is told, in its order, whatever it is.
func TestPutIsRead(t *testing.T) {
	var b []byte
	l := []string{}
	mustHold(t, "none", b, l)
	for _, x := range append(texts(), texts()...) {
		b = fram.Put(b, []byte(x))
		l = append(l, x)
		mustHold(t, "what was put", b, l)
	}
}

// Promise 3.1: the frames end where one begins that is not whole.
func TestCutOff(t *testing.T) {
	l := []string{"one", "", "three", string(rowOf("inner")), ""}
	b := rowOf(l...)
	for n := range len(b) + 1 {
		whole, at := 0, 0
		for whole < len(l) && at+len(l[whole])+around <= n {
			at += len(l[whole]) + around
			whole++
		}
		mustHold(t, "cut off", b[:n], l[:whole])
		mustHold(t, "cut off and copied", bytes.Clone(b[:n]), l[:whole])
	}
}

// Promise 3.1: the frames end where one stands that is not right: each bit counts, of the length, of what is held, of the sum.
func TestChanged(t *testing.T) {
	l := []string{"one", "", "three", "four"}
	b := rowOf(l...)
	ends := []int{13, 23, 38, 52}
	for i := range 8 * len(b) {
		c := bytes.Clone(b)
		c[i/8] ^= 1 << (i % 8)
		whole := 0
		for i/8 >= ends[whole] {
			whole++
		}
		mustHold(t, "changed", c, l[:whole])
	}
}

// Promise 3.1: a sum that is none of this frame's length and bytes together, or stands the other way round, is not right.
func TestWrongSums(t *testing.T) {
	whole := framed([]byte("abc"))
	at := len(whole) - 4
	backward := bytes.Clone(whole)
	slices.Reverse(backward[at:])
	held := summed([]byte("abc"))[3:]
	for what, sum := range map[string][]byte{
		"backward": backward[at:], "of what it holds": held, "of the length": summed(six(3))[6:],
		"of another": framed([]byte("abd"))[at:], "noughts": make([]byte, 4), "ones": {255, 255, 255, 255},
	} {
		mustHold(t, "the sum "+what, slices.Concat(rowOf("one"), whole[:at], sum, rowOf("two")), []string{"one"})
	}
}

// Promise 3.1: nothing is told of what stands behind the first wrong place, right though it is.
func TestNothingBehind(t *testing.T) {
	good := rowOf("good")
	for _, between := range []string{"x", "\x00", "\x00\x00\x00\x00\x00\x00", string(good[:len(good)-1]), string(good[1:]), "ten bytes.", string(make([]byte, 40))} {
		mustHold(t, "behind one", slices.Concat(good, []byte(between), good, good), []string{"good"})
		mustHold(t, "at the beginning", slices.Concat([]byte(between), good), nil)
	}
}

// Promise 3.1: a frame holds at most 10,000 bytes; a right one that holds more ends the row.
func TestMost(t *testing.T) {
	for _, n := range []int{most - 1, most} {
		x := string(bytes.Repeat([]byte{'m'}, n))
		mustHold(t, "at most 10,000 bytes", rowOf(x), []string{x})
		mustHold(t, "at most 10,000 bytes amid", rowOf("one", x, "", x), []string{"one", x, "", x})
	}
	for _, n := range []int{most + 1, most + around, 1 << 14, 1 << 16, 70000} {
		x := string(make([]byte, n))
		mustHold(t, "above 10,000 bytes", rowOf(x), nil)
		mustHold(t, "above 10,000 bytes amid", rowOf("one", "", x, "two"), []string{"one", ""})
	}
}

// Promise 3.3: lengths that no bytes stand behind are no frame, however great they are, though the sum be right for what is there.
func TestGreatLengths(t *testing.T) {
	for _, n := range []int{4, most, most + 1, 1<<31 - 1, 1 << 31, 1<<32 + 3, 1 << 40, 1<<40 + 3, 1<<47 + 3, 1<<48 - 1} {
		for _, x := range []string{"", "abc"} {
			b := summed(append(six(n), x...))
			mustHold(t, "a length with too little behind it", b, nil)
			mustHold(t, "a length with too little behind it, amid", slices.Concat(rowOf("one"), b, rowOf("two")), []string{"one"})
		}
	}
}

// Rule 1: nil and an empty list are the same to each call.
func TestNone(t *testing.T) {
	for _, b := range [][]byte{nil, {}, make([]byte, 0, 40), rowOf("room")[:0]} {
		mustHold(t, "none", b, nil)
		for _, x := range [][]byte{nil, {}, make([]byte, 0, 40)} {
			if got := fram.Put(b, x); string(got) != "\x00\x00\x00\x00\x00\x00\xb1\xc2\xa1\xa3" {
				t.Errorf("none behind none: % x", got)
			}
		}
	}
	mustHold(t, "frames of none", rowOf("", "", ""), []string{"", "", ""})
}

// Promise 3.1: All may be left at any frame, at once or by a false, and gone through again from the beginning.
func TestAllIsLeft(t *testing.T) {
	l := []string{"one", "", "three", "four"}
	places := []int{0, 13, 23, 38}
	all := fram.All(append(rowOf(l...), "cut off"...))
	for stop := range l {
		n := 0
		for at, x := range all {
			if at != places[n] || string(x) != l[n] {
				t.Errorf("%q at %d, want %q at %d", x, at, l[n], places[n])
			}
			if n == stop {
				break
			}
			n++
		}
		calls := 0
		all(func(int, []byte) bool {
			calls++
			return calls <= stop
		})
		if n != stop || calls != stop+1 {
			t.Errorf("left at %d: %d, and %d calls", stop, n, calls)
		}
		mustPass(t, "again behind a break", all, places, l)
	}
}

// Promise 3.1: ways through the same frames know nothing of each other.
func TestAllWithinAll(t *testing.T) {
	l := []string{"a", "bb", ""}
	places := []int{0, 11, 23}
	all := fram.All(rowOf(l...))
	n := 0
	for at := range all {
		if at != places[n] {
			t.Errorf("at %d, want %d", at, places[n])
		}
		mustPass(t, "within", all, places, l)
		n++
	}
	if n != len(l) {
		t.Errorf("%d frames outside", n)
	}
}

// Rule 3: All keeps nothing that was handed in, though it is gone through later, and changed meanwhile.
func TestAllHasItsOwn(t *testing.T) {
	l := []string{"one", "", "three"}
	places := []int{0, 13, 23}
	b := rowOf(l...)
	was := bytes.Clone(b)
	all := fram.All(b)
	clear(b)
	mustPass(t, "changed ahead", all, places, l)
	copy(b, was)
	all = fram.All(b)
	n := 0
	for range all {
		clear(b)
		n++
	}
	if n != len(l) {
		t.Errorf("changed meanwhile: %d frames", n)
	}
	mustPass(t, "changed meanwhile", all, places, l)
	room := slices.Concat(was, was)[:len(was)]
	all = fram.All(room)
	_ = append(room, "over the spare room"...)
	mustPass(t, "spare room", all, places, l)
}

// Rule 3: what is handed in, and the room behind it, is left as it is, and the room doesn't count.
func TestHandedInIsLeft(t *testing.T) {
	b := rowOf("one", "two", "three")
	was := bytes.Clone(b)
	cut := b[:26]
	mustHold(t, "with spare room", cut, []string{"one", "two"})
	if got := fram.Put(cut, []byte("THREE")); !bytes.Equal(got, rowOf("one", "two", "THREE")) {
		t.Errorf("put behind what has spare room: % x", got)
	}
	if got := fram.Put(cut, cut[6:9]); !bytes.Equal(got, rowOf("one", "two", "one")) {
		t.Errorf("a part of b put behind it: % x", got)
	}
	fram.Put(nil, cut)
	fram.Put(cut[:0], cut)
	if !bytes.Equal(b, was) {
		t.Errorf("what was handed in is changed: % x", b)
	}
}

// scrawl writes over x and the room behind it.
func scrawl(x []byte) {
	x = x[:cap(x)]
	for i := range x {
		x[i] = 'z'
	}
}

// Rule 3: what is answered is new memory, its spare room too; no two lists of one answer share any.
func TestAnsweredIsNew(t *testing.T) {
	l := []string{"one", "", "three", "four"}
	b := rowOf(l...)
	was := bytes.Clone(b)
	x := []byte("five")
	scrawl(fram.Put(b, x))
	scrawl(fram.Put(nil, x))
	if !bytes.Equal(b, was) || string(x) != "five" {
		t.Error("what Put answers is lent")
	}
	for i := range l {
		held, _ := fram.Scan(b)
		scrawl(held[i])
		_ = append(held[i], "over what follows"...)
		for k := range l {
			if k != i && string(held[k]) != l[k] {
				t.Errorf("frame %d is %q behind a scrawl on %d", k, held[k], i)
			}
		}
	}
	mustHold(t, "Scan's were scrawled on", b, l)
	all := fram.All(b)
	for range 2 {
		n := 0
		for _, x := range all {
			if string(x) != l[n] {
				t.Errorf("%q, want %q: what All tells is lent", x, l[n])
			}
			scrawl(x)
			n++
		}
	}
	mustHold(t, "All's were scrawled on", b, l)
}

// Promise 3.2 (W3): where the frames end, a row that was cut off anywhere can be taken up again: what is whole stays, each once, in its order.
func TestTakenUpAgain(t *testing.T) {
	l := []string{"one", "", "three", "four"}
	b := rowOf(l...)
	for n := range b {
		held, end := fram.Scan(b[:n])
		if end > n || len(held) == len(l) {
			t.Fatalf("cut off at %d: %d frames, end %d", n, len(held), end)
		}
		if !bytes.Equal(b[:end], rowOf(l[:len(held)]...)) {
			t.Errorf("cut off at %d: the end %d is no frame's", n, end)
		}
		mustHold(t, "taken up again", fram.Put(b[:end], []byte("more")), append(slices.Clone(l[:len(held)]), "more"))
		if end < n {
			mustHold(t, "put behind what was cut off", fram.Put(b[:n], []byte("more")), l[:len(held)])
		}
	}
}

// Promise 3.2 (W3): a row of very many frames is told whole, in a time that grows as the row does.
func TestManyFrames(t *testing.T) {
	const n = 200000
	one := slices.Concat(framed(nil), framed([]byte("x")))
	b := bytes.Repeat(one, n/2)
	held, end := fram.Scan(append(b, one[:9]...))
	if len(held) != n || end != len(b) {
		t.Fatalf("%d frames, end %d", len(held), end)
	}
	for i, x := range held {
		if string(x) != "x"[:i%2] {
			t.Fatalf("frame %d holds %q", i, x)
		}
	}
}

// Promise 3.3: no call panics and each ends, on any bytes; and what Scan tells is what writing it again gives.
func FuzzScan(f *testing.F) {
	f.Add([]byte(nil))
	f.Add(rowOf("one", "", "three"))
	f.Add(append(rowOf("one"), six(1<<48-1)...))
	f.Add(rowOf(string(make([]byte, most)), string(make([]byte, most+1))))
	f.Add(rowOf(string(rowOf("inner")))[7:])
	f.Fuzz(func(t *testing.T, b []byte) {
		was := bytes.Clone(b)
		held, end := fram.Scan(b)
		l := make([]string, len(held))
		var again []byte
		for i, x := range held {
			l[i] = string(x)
			again = fram.Put(again, x)
		}
		if end > len(b) || !bytes.Equal(again, b[:max(end, 0)]) || !bytes.Equal(b, was) {
			t.Fatalf("% x: %q, end %d", was, l, end)
		}
		mustHold(t, "any bytes", b, l)
		mustHold(t, "from the end on", b[end:], nil)
		mustHold(t, "held", fram.Put(nil, b[:min(most, len(b))]), []string{string(b[:min(most, len(b))])})
		mustHold(t, "behind what is whole", fram.Put(b[:end], []byte("more")), append(l, "more"))
	})
}
