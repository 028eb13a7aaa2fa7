package arti_test

import (
	"bytes"
	"encoding/binary"
	"encoding/hex"
	"hash/crc32"
	"slices"
	"testing"

	"fettle/acts"
	"fettle/api"
	"fettle/arti"
	"fettle/prnt"
	"fettle/simf"
)

// x tells so many bytes.
func x(n int) []byte {
	return bytes.Repeat([]byte{'x'}, n)
}

// number follows promise 2.1: n in six bytes, the highest first.
func number(n int) []byte {
	return binary.BigEndian.AppendUint64(nil, uint64(n))[2:]
}

// sized tells b with its length ahead.
func sized(b []byte) []byte {
	return append(number(len(b)), b...)
}

// framed follows promise 3.1: the frame that holds b, its sum as the library knows it.
func framed(b []byte) []byte {
	f := sized(b)
	return binary.BigEndian.AppendUint32(f, crc32.ChecksumIEEE(f))
}

// written follows the words of promise 11.1.
func written(print, value []byte) []byte {
	return framed(append(sized(print), sized(value)...))
}

// good tells whether promise 11.1 has an artifact of these be opened.
func good(print, value []byte) bool {
	return len(print) <= 4000 && len(value) <= 256
}

// read follows promise 11.1 in another form: both lengths are taken from where they would stand, a panic is what is too short, and whether b is what is written of what stands there is asked behind.
func read(b []byte) (print, value []byte, ok bool) {
	defer func() {
		if recover() != nil {
			print, value, ok = nil, nil, false
		}
	}()
	num := func(at int) int { return int(binary.BigEndian.Uint64(append([]byte{0, 0}, b[at:at+6]...))) }
	behind := 12 + num(6)
	print = bytes.Clone(b[12:behind])
	value = bytes.Clone(b[behind+6 : behind+6+num(behind)])
	if !good(print, value) || !bytes.Equal(written(print, value), b) {
		return nil, nil, false
	}
	return print, value, true
}

// mustAgree holds Open of any bytes to the other form, and to what makes the same bytes again.
func mustAgree(t *testing.T, b []byte) {
	t.Helper()
	kept := bytes.Clone(b)
	wantPrint, wantValue, want := read(b)
	print, value, ok := arti.Open(b)
	if ok != want || !bytes.Equal(print, wantPrint) || !bytes.Equal(value, wantValue) {
		t.Errorf("Open(% x) = %q, %q, %v, want %q, %q, %v", b, print, value, ok, wantPrint, wantValue, want)
	}
	if ok && !bytes.Equal(arti.Make(print, value), b) {
		t.Errorf("% x opens as what is made otherwise", b)
	}
	if !bytes.Equal(b, kept) {
		t.Errorf("% x is changed to % x", kept, b)
	}
}

// mustMake holds Make to its words, and Open to what was made.
func mustMake(t *testing.T, print, value []byte) {
	t.Helper()
	b := arti.Make(print, value)
	if want := written(print, value); !bytes.Equal(b, want) {
		t.Errorf("Make(%q, %q) = % x, want % x", print, value, b, want)
	}
	if !good(print, value) {
		mustRefuse(t, "too long", b)
		return
	}
	mustAgree(t, b)
	mustTell(t, b, print, value)
}

// mustTell holds Open of b to both.
func mustTell(t *testing.T, b, print, value []byte) {
	t.Helper()
	if p, v, ok := arti.Open(b); !ok || !bytes.Equal(p, print) || !bytes.Equal(v, value) {
		t.Errorf("Open(% x) = %q, %q, %v, want %q, %q", b, p, v, ok, print, value)
	}
}

// mustRefuse holds Open to false, and nothing beside it.
func mustRefuse(t *testing.T, what string, b []byte) {
	t.Helper()
	if print, value, ok := arti.Open(b); ok || len(print) != 0 || len(value) != 0 {
		t.Errorf("%s: Open(% x) tells %q, %q, %v", what, b[:min(len(b), 100)], print, value, ok)
	}
}

// parts are prints, or values, that may be taken for something else: none, lengths, frames, artifacts, one without its end.
func parts() [][]byte {
	one := written([]byte("print"), []byte("value"))
	return [][]byte{nil, {}, {0}, {255}, []byte("pp"), []byte("vvv"), number(0), number(1), number(255), sized(nil), sized([]byte("in")), framed(nil), one, one[:len(one)-1], one[1:], x(64), x(255), x(256)}
}

// Promise 11.1: an artifact is one frame of the print and the value, each with its length ahead, in this order.
func TestMake(t *testing.T) {
	got := arti.Make([]byte("pp"), []byte("vvv"))
	want := "000000000011" + "0000000000027070" + "000000000003767676" + hex.EncodeToString(binary.BigEndian.AppendUint32(nil, crc32.ChecksumIEEE(got[:23])))
	if hex.EncodeToString(got) != want {
		t.Errorf("%x, want %s", got, want)
	}
	for _, print := range parts() {
		for _, value := range parts() {
			mustMake(t, print, value)
		}
	}
}

// Promise 11.1: a print is of at most 4,000 bytes, a value of at most 256, each whatever the other is; what is above is made by the same words, and is refused.
func TestBounds(t *testing.T) {
	for _, p := range []int{0, 1, 255, 256, 257, 3744, 3999, 4000, 4001, 4256, 4257, 8000, 9988, 9989, 10000, 70000} {
		for _, v := range []int{0, 1, 255, 256, 257, 258, 512, 4000, 4001, 9988, 9989, 70000} {
			mustMake(t, x(p), x(v))
			mustMake(t, make([]byte, p), make([]byte, v))
			if _, _, ok := arti.Open(arti.Make(x(p), x(v))); ok != (p <= 4000 && v <= 256) {
				t.Errorf("a print of %d bytes, a value of %d: %v", p, v, ok)
			}
		}
	}
}

// Promise 11.1: any bytes may be a print, and any a value: that they belong together Open does not ask.
func TestAnyPrintAndValue(t *testing.T) {
	for c := range 256 {
		mustMake(t, []byte{byte(c)}, nil)
		mustMake(t, nil, []byte{byte(c)})
		mustMake(t, []byte{byte(c), 0}, []byte{0, byte(c)})
	}
	upper := []api.Do{{Kind: api.AAll}, {Kind: api.AUpper}}
	mustTell(t, arti.Make(prnt.Print(upper, [][]byte{[]byte("ab")}), []byte("no")), prnt.Print(upper, [][]byte{[]byte("ab")}), []byte("no"))
	mustTell(t, arti.Make([]byte("no print"), []byte("AB")), []byte("no print"), []byte("AB"))
	mustTell(t, arti.Make(prnt.Print(nil, nil), nil), prnt.Print(nil, nil), nil)
}

// Promise 11.1: nothing that is cut off, or has more around it, is an artifact.
func TestNotAlone(t *testing.T) {
	mustRefuse(t, "none", nil)
	mustRefuse(t, "none", []byte{})
	for _, l := range [][2]string{{"", ""}, {"pp", "vvv"}, {"", "v"}, {"p", ""}} {
		b := arti.Make([]byte(l[0]), []byte(l[1]))
		for n := range b {
			mustRefuse(t, "cut off", b[:n])
			mustRefuse(t, "cut off and copied", bytes.Clone(b[:n]))
			mustRefuse(t, "cut off ahead", b[n+1:])
		}
		for _, more := range [][]byte{{0}, {'\n'}, number(0), framed(nil), framed([]byte("more")), b, b[:len(b)-1], arti.Make(nil, nil), arti.Make([]byte("other"), nil)} {
			mustRefuse(t, "more behind it", slices.Concat(b, more))
			mustRefuse(t, "more ahead of it", slices.Concat(more, b))
			mustRefuse(t, "more within it", slices.Concat(b[:6], more, b[6:]))
		}
		mustRefuse(t, "an artifact of one, bare", b[6:len(b)-4])
		mustRefuse(t, "a frame around it", framed(b))
	}
}

// Promise 11.1: each bit counts, of the frame's length, of both, of the sum.
func TestChanged(t *testing.T) {
	for _, b := range [][]byte{arti.Make(nil, nil), arti.Make([]byte("pp"), []byte("vvv")), arti.Make(x(300), x(256))} {
		for k := range 8 * len(b) {
			c := bytes.Clone(b)
			c[k/8] ^= 1 << (k % 8)
			mustRefuse(t, "changed", c)
		}
		for at := range len(b) - 1 {
			c := bytes.Clone(b)
			c[at], c[at+1] = c[at+1], c[at]
			mustAgree(t, c)
		}
	}
}

// Promise 11.1: a right frame that holds something else than two Bytes is no artifact.
func TestFrameOfOthers(t *testing.T) {
	p, v := sized([]byte("pp")), sized([]byte("vvv"))
	mustTell(t, framed(slices.Concat(p, v)), []byte("pp"), []byte("vvv"))
	for _, held := range [][]byte{nil, {0}, []byte("abc"), number(0), number(2), p, v, slices.Concat(p, []byte("vvv")), slices.Concat([]byte("pp"), v), []byte("ppvvv")} {
		mustRefuse(t, "less than both", framed(held))
		mustRefuse(t, "less than both, twice", slices.Concat(framed(held), framed(held)))
	}
	for _, more := range [][]byte{{0}, {0, 0, 0, 0, 0}, number(0), number(1), p, framed(nil)} {
		mustRefuse(t, "more behind both", framed(slices.Concat(p, v, more)))
		mustRefuse(t, "more behind none and none", framed(slices.Concat(number(0), number(0), more)))
	}
	for n := range len(p) + len(v) {
		mustRefuse(t, "both, cut off", framed(slices.Concat(p, v)[:n]))
		mustRefuse(t, "both, cut off ahead", framed(slices.Concat(p, v)[n+1:]))
	}
	mustRefuse(t, "a frame each", slices.Concat(framed(p), framed(v)))
	mustRefuse(t, "each without a length", slices.Concat(framed([]byte("pp")), framed([]byte("vvv"))))
}

// Promise 11.1: a length must be that of what stands there, however great it is, and whatever it is in fewer bits.
func TestLengthsThatDoNotFit(t *testing.T) {
	for _, n := range []int{0, 1, 3, 4, 5, 256, 257, 4000, 4001, 1<<8 + 2, 1<<16 + 2, 1<<31 - 1, 1 << 31, 1<<32 + 2, 1 << 40, 1<<40 + 2, 1<<47 + 2, 1<<48 - 1} {
		for _, behind := range [][]byte{nil, sized([]byte("vvv")), x(4001), make([]byte, 5000)} {
			mustAgree(t, framed(slices.Concat(number(n), []byte("pp"), behind)))
			mustAgree(t, framed(slices.Concat(sized([]byte("pp")), number(n), behind)))
		}
		mustRefuse(t, "a print's length", framed(slices.Concat(number(n), []byte("pp"), sized([]byte("vvv")))))
		if n != 3 {
			mustRefuse(t, "a value's length", framed(slices.Concat(sized([]byte("pp")), number(n), []byte("vvv"))))
		}
		body := slices.Concat(sized([]byte("pp")), sized([]byte("vvv")))
		f := append(number(n), body...)
		mustRefuse(t, "the frame's length", binary.BigEndian.AppendUint32(f, crc32.ChecksumIEEE(f)))
	}
}

// Promise 11.1: a sum of something else, or the other way round, is none.
func TestWrongSums(t *testing.T) {
	b := arti.Make([]byte("pp"), []byte("vvv"))
	at := len(b) - 4
	backward := bytes.Clone(b[at:])
	slices.Reverse(backward)
	other := arti.Make([]byte("pp"), []byte("vvw"))
	for what, sum := range map[string][]byte{
		"noughts": make([]byte, 4), "ones": {255, 255, 255, 255}, "backward": backward, "of another": other[at:],
		"of what is held": binary.BigEndian.AppendUint32(nil, crc32.ChecksumIEEE(b[6:at])), "none": nil,
	} {
		mustRefuse(t, "the sum "+what, slices.Concat(b[:at], sum))
	}
}

// Promise 11.1: what is made of others is other, wherever the one ends and the other begins.
func TestOneForm(t *testing.T) {
	type both struct{ print, value string }
	known := map[string]both{}
	for _, print := range parts() {
		for _, value := range parts() {
			b := string(arti.Make(print, value))
			if old, there := known[b]; there && old != (both{string(print), string(value)}) {
				t.Errorf("%q and %q, %q have one form", old, print, value)
			}
			known[b] = both{string(print), string(value)}
		}
	}
	all := []byte("aaaaaaaa")
	for n := range all {
		mustTell(t, arti.Make(all[:n], all[n:]), all[:n], all[n:])
	}
	for b, l := range known {
		mustTell(t, []byte(b), []byte(l.print), []byte(l.value))
	}
}

// greatest tells the longest print that prnt.Parse takes: 8 Dos with the longest texts, 8 of the longest inputs.
func greatest() []byte {
	l := append([]api.Do{{Kind: api.AText, Text: string(x(64))}}, slices.Repeat([]api.Do{{Kind: api.AJoin, Text: string(x(64))}}, 7)...)
	return prnt.Print(l, slices.Repeat([][]byte{x(256)}, 8))
}

// honest tells whether b is what its print says.
func honest(b []byte) bool {
	print, value, ok := arti.Open(b)
	said, is := prnt.Value(print)
	return ok && is && bytes.Equal(said, value)
}

// Promise 11.2 (W2): who reads a target knows what it was made of, and so whether it is what its print says.
func TestHonest(t *testing.T) {
	all := api.Do{Kind: api.AAll}
	made := 0
	for _, l := range [][]api.Do{{all}, {all, {Kind: api.AUpper}}, {{Kind: api.AIn, N: 1}, {Kind: api.ARev}}, {{Kind: api.AText, Text: "hi"}}, {all, {Kind: api.ATwice}}, {all, {Kind: api.AJoin, Text: ", "}}, {all, {Kind: api.AFail}}} {
		for _, in := range [][][]byte{nil, {nil}, {[]byte("ab"), []byte("c")}, {x(128), {0, 255}}, {x(256)}, slices.Repeat([][]byte{x(32)}, 8)} {
			value, ok := acts.Run(l, in)
			if !ok {
				continue
			}
			made++
			b := arti.Make(prnt.Print(l, in), value)
			mustTell(t, b, prnt.Print(l, in), value)
			if !honest(b) {
				t.Errorf("%v of %q: % x is not what its print says", l, in, b)
			}
			other := append(bytes.Clone(value[min(1, len(value)):]), '!')
			if honest(arti.Make(prnt.Print(l, in), other)) {
				t.Errorf("%v of %q: %q passes for what its print says", l, in, other)
			}
		}
	}
	if made < 20 {
		t.Errorf("only %d were made", made)
	}
}

// Promise 11.2 (W2): whatever may be a print, with whatever may come of it, can be opened.
func TestGreatestPrint(t *testing.T) {
	print := greatest()
	if _, _, ok := prnt.Parse(print); !ok {
		t.Fatal("no print")
	}
	mustMake(t, print, nil)
	mustMake(t, print, x(256))
	full := prnt.Print([]api.Do{{Kind: api.AAll}}, [][]byte{x(256)})
	value, ok := prnt.Value(full)
	if !ok || len(value) != 256 {
		t.Fatal("no value of 256 bytes")
	}
	mustMake(t, full, value)
}

// Promise 11.2 (W1): wherever the writing of an artifact is cut, by a kill or for want of room, what is there is none; what was moved to a target is read whole.
func TestReadWhole(t *testing.T) {
	old, b := arti.Make([]byte("old print"), []byte("old")), arti.Make([]byte("pp"), []byte("vvv"))
	for n := range b {
		for _, byRoom := range []bool{false, true} {
			f := simf.New(1000)
			f.Put("a", old)
			if byRoom {
				f.Room(f.Used() + n)
			} else {
				f.Cut(n)
			}
			if _, e := f.Append("tmp/1.1.0", b, nil); e == api.OK {
				t.Fatalf("cut at %d: all is written", n)
			}
			part, _, _ := f.Read("tmp/1.1.0")
			mustRefuse(t, "a part", part)
			target, _, _ := f.Read("a")
			mustTell(t, target, []byte("old print"), []byte("old"))
			f.Room(1000)
			f.Put("tmp/1.1.0", b)
			f.Move("tmp/1.1.0", "a", nil)
			target, _, _ = f.Read("a")
			mustTell(t, target, []byte("pp"), []byte("vvv"))
			f.Append("a", b, nil)
			target, _, _ = f.Read("a")
			mustRefuse(t, "two", target)
		}
	}
}

// Promise 11.2 (W1): parts of two artifacts are none, wherever they are put together.
func TestPartsOfTwo(t *testing.T) {
	for _, l := range [][4]string{{"pp", "vvv", "pp", "vvw"}, {"pp", "vvv", "pq", "vvv"}, {"one", "a", "a", "one"}, {"", "", "p", ""}, {"print", "", "", "print"}} {
		one, two := arti.Make([]byte(l[0]), []byte(l[1])), arti.Make([]byte(l[2]), []byte(l[3]))
		for n := range one {
			for m := range two {
				c := slices.Concat(one[:n], two[m:])
				if bytes.Equal(c, one) || bytes.Equal(c, two) {
					continue
				}
				mustRefuse(t, "parts of two", c)
			}
		}
	}
}

// Rule 1: nil and an empty list are the same to each call.
func TestNone(t *testing.T) {
	for _, print := range [][]byte{nil, {}, make([]byte, 0, 9), []byte("room")[:0]} {
		for _, value := range [][]byte{nil, {}, make([]byte, 0, 9), []byte("room")[:0]} {
			b := arti.Make(print, value)
			if !bytes.Equal(b, framed(make([]byte, 12))) {
				t.Errorf("% x", b)
			}
			mustTell(t, b, nil, nil)
		}
		mustRefuse(t, "none", print)
	}
}

// Rule 3: what is handed in, and the room behind it, is left as it is, and the room doesn't count.
func TestHandedInIsLeft(t *testing.T) {
	room := []byte("ppvvv and more")
	print, value := room[:2], room[2:5]
	b := arti.Make(print, value)
	if !bytes.Equal(b, written([]byte("pp"), []byte("vvv"))) {
		t.Errorf("% x", b)
	}
	mustTell(t, arti.Make(room, room), room, room)
	if string(room) != "ppvvv and more" {
		t.Errorf("what was made of is changed: %q", room)
	}
	all := append(bytes.Clone(b), "what is behind"...)
	mustAgree(t, all[:len(b)])
	mustTell(t, all[:len(b)], []byte("pp"), []byte("vvv"))
	if string(all[len(b):]) != "what is behind" {
		t.Error("the room behind an artifact is changed")
	}
	mustRefuse(t, "cut off ahead of its end", all[:len(b)-1])
}

// scrawl writes over b and the room behind it.
func scrawl(b []byte) {
	b = b[:cap(b)]
	for i := range b {
		b[i] = '!'
	}
}

// Rule 3: what is answered is new memory, its spare room too, the two of one answer share none, and nothing is kept.
func TestAnsweredIsNew(t *testing.T) {
	for _, l := range [][2]string{{"pp", "vvv"}, {"", "value"}, {"print", ""}, {string(x(4000)), string(x(256))}} {
		print, value := []byte(l[0]), []byte(l[1])
		b := arti.Make(print, value)
		kept := bytes.Clone(b)
		scrawl(arti.Make(print, value))
		if string(print) != l[0] || string(value) != l[1] || !bytes.Equal(b, kept) {
			t.Error("what is made shares memory with what it was made of, or with another")
		}
		scrawl(print)
		scrawl(value)
		mustTell(t, b, []byte(l[0]), []byte(l[1]))
		p, v, _ := arti.Open(b)
		scrawl(p)
		if string(v) != l[1] || !bytes.Equal(b, kept) {
			t.Errorf("the print is lent: %q, % x", v, b)
		}
		p, v, _ = arti.Open(b)
		scrawl(v)
		if string(p) != l[0] || !bytes.Equal(b, kept) {
			t.Errorf("the value is lent: %q, % x", p, b)
		}
		p, v, ok := arti.Open(b)
		scrawl(b)
		if !ok || string(p) != l[0] || string(v) != l[1] {
			t.Errorf("what was opened is kept: %q, %q", p, v)
		}
		mustTell(t, arti.Make([]byte("other"), nil), []byte("other"), nil)
		mustTell(t, kept, []byte(l[0]), []byte(l[1]))
	}
}

// Promise 11.3: no call panics and each ends, on very much too.
func TestMany(t *testing.T) {
	great := make([]byte, 1<<25)
	for _, l := range [][2][]byte{{great, nil}, {nil, great}, {great[:1<<20], great[:1<<20]}} {
		b := arti.Make(l[0], l[1])
		if len(b) != 22+len(l[0])+len(l[1]) {
			t.Errorf("%d bytes of %d and %d", len(b), len(l[0]), len(l[1]))
		}
		mustRefuse(t, "very much", b)
	}
	mustRefuse(t, "noughts", great)
	mustRefuse(t, "ones", bytes.Repeat([]byte{255}, 1<<20))
	mustRefuse(t, "very many", bytes.Repeat(arti.Make([]byte("pp"), []byte("vvv")), 100000))
	mustRefuse(t, "very many frames of none", bytes.Repeat(framed(nil), 100000))
}

// mustHold holds both calls to each other, of any bytes: as an artifact, as what a frame holds, as print and value, and as an artifact that is changed at a place.
func mustHold(t *testing.T, one, two []byte, at int) {
	t.Helper()
	mustAgree(t, one)
	mustAgree(t, framed(one))
	mustAgree(t, slices.Concat(framed(one), framed(two)))
	mustAgree(t, framed(slices.Concat(sized(one), two)))
	mustAgree(t, framed(slices.Concat(sized(one), sized(two))))
	mustMake(t, one, two)
	b := arti.Make(one, two)
	at = int(uint(at) % uint(len(b)))
	mustAgree(t, b[:at])
	held := bytes.Clone(b[6 : len(b)-4])
	for _, c := range two[:min(len(two), 8)] {
		b[at] = c
		mustAgree(t, b)
		held[at%len(held)] = c
		mustAgree(t, framed(held))
	}
}

// Promises 11.1 to 11.3: of any bytes.
func TestAny(t *testing.T) {
	state := uint32(1)
	next := func() uint32 {
		state = state*1664525 + 1013904223
		return state >> 16
	}
	for range 5000 {
		var parts [2][]byte
		for i := range parts {
			parts[i] = make([]byte, next()%(4<<(next()%8)))
			for j := range parts[i] {
				parts[i][j] = byte(next()) >> (next() % 9)
			}
		}
		mustHold(t, parts[0], parts[1], int(next()))
	}
}

// Promise 11.3: any bytes are an artifact or none, and no call panics.
func FuzzAll(f *testing.F) {
	f.Add([]byte(nil), []byte(nil), 0)
	f.Add(written([]byte("pp"), []byte("vvv")), []byte{0, 1, 255}, 7)
	f.Add(number(1<<48-1), number(1<<40), -1)
	f.Add(make([]byte, 4001), make([]byte, 257), 3)
	f.Fuzz(mustHold)
}
