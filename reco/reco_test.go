package reco_test

import (
	"bytes"
	"encoding/binary"
	"encoding/hex"
	"hash/crc32"
	"math"
	"slices"
	"strings"
	"testing"

	"fettle/api"
	"fettle/reco"
)

// far is the greatest number of a record.
const far = 1 << 40

// x tells so many bytes.
func x(n int) []byte {
	return bytes.Repeat([]byte{'x'}, n)
}

// number follows promise 2.1: n in six bytes, the highest first.
func number(n int) []byte {
	return binary.BigEndian.AppendUint64(nil, uint64(n))[2:]
}

// numbers tells such of each.
func numbers(l ...int) []byte {
	var b []byte
	for _, n := range l {
		b = append(b, number(n)...)
	}
	return b
}

// sized tells b with its length ahead.
func sized(b []byte) []byte {
	return append(number(len(b)), b...)
}

// framed follows promise 3.1: the frame that holds b, its sum as the library knows it.
func framed(b []byte) []byte {
	f := sized(b)
	return binary.BigEndian.AppendUint32(f, crc32.ChecksumIEEE(f))
}

// rowOf lays a frame for each of held one behind the other.
func rowOf(held ...[]byte) []byte {
	var b []byte
	for _, h := range held {
		b = append(b, framed(h)...)
	}
	return b
}

// plain tells whether s is a name, as promise 4.1 says it.
func plain(s string) bool {
	return len(s) >= 1 && len(s) <= 16 && strings.Trim(s, "abcdefghijklmnopqrstuvwxyz0123456789.-_") == ""
}

// good tells whether promise 12.1 has d be a commit.
func good(d api.Done) bool {
	return plain(d.Target) && len(d.Print) <= 4000 && d.Who >= 0 && d.Who <= far && d.Inc >= 0 && d.Inc <= far
}

// lockOf follows the words of promise 12.1: a frame of the numbers, each held to its bounds.
func lockOf(l api.Lock) []byte {
	var b []byte
	for _, n := range []int{l.Who, l.Inc, l.Epoch, l.Until} {
		switch {
		case n < 0:
			n = 0
		case n > far:
			n = far
		}
		b = append(b, number(n)...)
	}
	return framed(b)
}

// fit tells whether six bytes tell n.
func fit(n int) bool {
	return n >= 0 && n < 1<<48
}

// doneOf follows the words of promise 12.1, of one that is no commit too.
func doneOf(d api.Done) []byte {
	return slices.Concat(sized([]byte(d.Target)), sized(d.Print), number(d.Who), number(d.Inc))
}

// numberAt tells the number that stands in b at a place.
func numberAt(b []byte, at int) int {
	return int(binary.BigEndian.Uint64(append([]byte{0, 0}, b[at:at+6]...)))
}

// readLock follows promise 12.1 in another form: the numbers are taken from where they would stand, and whether b is what is written of them is asked behind.
func readLock(b []byte) (api.Lock, bool) {
	if len(b) != 34 {
		return api.Lock{}, false
	}
	l := api.Lock{Who: numberAt(b, 6), Inc: numberAt(b, 12), Epoch: numberAt(b, 18), Until: numberAt(b, 24)}
	if !bytes.Equal(lockOf(l), b) {
		return api.Lock{}, false
	}
	return l, true
}

// readDone does likewise; a panic is what is too short.
func readDone(b []byte) (d api.Done, ok bool) {
	defer func() {
		if recover() != nil {
			d, ok = api.Done{}, false
		}
	}()
	behind := 6 + numberAt(b, 0)
	at := len(b) - 12
	d = api.Done{Target: string(b[6:behind]), Print: bytes.Clone(b[behind+6 : at]), Who: numberAt(b, at), Inc: numberAt(b, at+6)}
	if !good(d) || !bytes.Equal(doneOf(d), b) {
		return api.Done{}, false
	}
	return d, true
}

// readTrace does likewise, frame for frame, from where the one before ends.
func readTrace(b []byte) ([]api.Done, int) {
	var l []api.Done
	at := 0
	for len(b)-at >= 10 {
		n := numberAt(b, at)
		if n > len(b)-at-10 || n > 10000 || !bytes.Equal(framed(b[at+6:at+6+n]), b[at:at+10+n]) {
			break
		}
		d, ok := readDone(b[at+6 : at+6+n])
		if !ok {
			break
		}
		l = append(l, d)
		at += 10 + n
	}
	return l, at
}

// same tells whether two commits are one.
func same(a, b api.Done) bool {
	return a.Target == b.Target && a.Who == b.Who && a.Inc == b.Inc && bytes.Equal(a.Print, b.Print)
}

// mustAgree holds all that reads to the other form, of any bytes, and to what writes the same bytes again.
func mustAgree(t *testing.T, b []byte) {
	t.Helper()
	kept := bytes.Clone(b)
	wantLock, want := readLock(b)
	l, ok := reco.OpenLock(b)
	if ok != want || l != wantLock {
		t.Errorf("OpenLock(% x) = %v, %v, want %v, %v", b, l, ok, wantLock, want)
	}
	if ok && !bytes.Equal(reco.Lock(l), b) {
		t.Errorf("% x opens as a lock that is written otherwise", b)
	}
	wantDone, want := readDone(b)
	d, ok := reco.OpenDone(b)
	if ok != want || !same(d, wantDone) {
		t.Errorf("OpenDone(% x) = %#v, %v, want %#v, %v", b, d, ok, wantDone, want)
	}
	if ok && !bytes.Equal(reco.Done(d), b) {
		t.Errorf("% x opens as a commit that is written otherwise", b)
	}
	wantTrace, end := readTrace(b)
	mustTrace(t, "any bytes", b, wantTrace, end)
	if !bytes.Equal(b, kept) {
		t.Errorf("% x is changed to % x", kept, b)
	}
}

// mustTrace holds Trace to the commits, and to where they end.
func mustTrace(t *testing.T, what string, b []byte, want []api.Done, wantEnd int) {
	t.Helper()
	l, end := reco.Trace(b)
	if !slices.EqualFunc(l, want, same) || end != wantEnd {
		t.Errorf("%s: Trace(% x) = %v, %d, want %v, %d", what, b[:min(len(b), 200)], l, end, want, wantEnd)
	}
}

// mustLock holds Lock to its words, and OpenLock to what was written.
func mustLock(t *testing.T, l api.Lock) {
	t.Helper()
	b := reco.Lock(l)
	if want := lockOf(l); !bytes.Equal(b, want) {
		t.Errorf("Lock(%v) = % x, want % x", l, b, want)
	}
	held := api.Lock{Who: min(max(l.Who, 0), far), Inc: min(max(l.Inc, 0), far), Epoch: min(max(l.Epoch, 0), far), Until: min(max(l.Until, 0), far)}
	if got, ok := reco.OpenLock(b); !ok || got != held {
		t.Errorf("OpenLock of %v = %v, %v", l, got, ok)
	}
	mustAgree(t, b)
}

// mustDone holds Done to its words, and OpenDone to what was written, or both to nothing.
func mustDone(t *testing.T, d api.Done) {
	t.Helper()
	b := reco.Done(d)
	if !good(d) {
		if len(b) != 0 {
			t.Errorf("Done(%#v) = % x", d, b)
		}
		if fit(d.Who) && fit(d.Inc) {
			mustNoDone(t, "what is no commit", doneOf(d))
		}
		return
	}
	if want := doneOf(d); !bytes.Equal(b, want) {
		t.Errorf("Done(%#v) = % x, want % x", d, b, want)
	}
	if got, ok := reco.OpenDone(b); !ok || !same(got, d) {
		t.Errorf("OpenDone of %#v = %#v, %v", d, got, ok)
	}
	mustAgree(t, b)
	mustTrace(t, "one commit", framed(b), []api.Done{d}, len(b)+10)
}

// mustNoLock holds OpenLock to false, and nothing beside it.
func mustNoLock(t *testing.T, what string, b []byte) {
	t.Helper()
	if l, ok := reco.OpenLock(b); ok || l != (api.Lock{}) {
		t.Errorf("%s: OpenLock(% x) = %v, %v", what, b[:min(len(b), 100)], l, ok)
	}
}

// mustNoDone holds OpenDone to false, and nothing beside it, and Trace to none.
func mustNoDone(t *testing.T, what string, b []byte) {
	t.Helper()
	if d, ok := reco.OpenDone(b); ok || !same(d, api.Done{}) {
		t.Errorf("%s: OpenDone(% x) = %#v, %v", what, b[:min(len(b), 100)], d, ok)
	}
	mustTrace(t, what, framed(b), nil, 0)
}

// bounds are numbers about the least and the greatest of a record, and some between.
func bounds() []int {
	return []int{math.MinInt, -far - 1, -far, -1 << 32, -2, -1, 0, 1, 255, 256, 1<<31 - 1, 1 << 31, 1 << 32, far - 1, far, far + 1, far + 256, 1<<47 + 1, 1<<48 - 1, 1 << 48, math.MaxInt}
}

// some are commits that are so: the shortest, the longest, such as may be taken for something else.
func some() []api.Done {
	inner := framed(doneOf(api.Done{Target: "inner"}))
	return []api.Done{
		{Target: "a.o", Who: 1, Inc: 2, Print: []byte("pp")}, {Target: "a"}, {Target: "-._az09-._az09-.", Who: far, Inc: far, Print: x(4000)},
		{Target: "b", Print: inner}, {Target: "b", Print: inner[:len(inner)-1]}, {Target: "0", Who: 0, Inc: far, Print: number(1)}, {Target: "..", Who: far, Inc: 0, Print: []byte{0, 255}},
		{Target: "c", Who: 1, Inc: 2}, {Target: "c", Who: 2, Inc: 1}, {Target: "d", Print: numbers(0, 0, 0)}, {Target: "a", Print: make([]byte, 30)},
	}
}

// Promise 12.1: a lock is one frame of Who, Inc, Epoch and Until, each in six bytes, in this order.
func TestLock(t *testing.T) {
	got := reco.Lock(api.Lock{Who: 1, Inc: 2, Epoch: 3, Until: 258})
	want := "000000000018" + "000000000001" + "000000000002" + "000000000003" + "000000000102" + hex.EncodeToString(binary.BigEndian.AppendUint32(nil, crc32.ChecksumIEEE(got[:min(30, len(got))])))
	if hex.EncodeToString(got) != want {
		t.Errorf("%x, want %s", got, want)
	}
	for _, l := range []api.Lock{{}, {Who: 1}, {Inc: 1}, {Epoch: 1}, {Until: 1}, {Who: 1, Inc: 2, Epoch: 3, Until: 4}, {Who: 4, Inc: 3, Epoch: 2, Until: 1}, {Who: far, Inc: far, Epoch: far, Until: far}} {
		mustLock(t, l)
	}
}

// Promise 12.1: each number of a lock is held to 0 to 2^40, whatever the others are.
func TestLockIsHeld(t *testing.T) {
	for _, n := range bounds() {
		for _, m := range []int{0, 7, far, n} {
			for _, l := range []api.Lock{{Who: n, Inc: m, Epoch: m, Until: m}, {Who: m, Inc: n, Epoch: m, Until: m}, {Who: m, Inc: m, Epoch: n, Until: m}, {Who: m, Inc: m, Epoch: m, Until: n}} {
				mustLock(t, l)
			}
		}
	}
}

// Promise 12.1: a right frame of greater numbers is no lock: it would be a second form of one.
func TestLockBeyondBounds(t *testing.T) {
	for at := range 4 {
		for _, n := range []int{far + 1, far + 256, 1 << 41, 1<<47 + 1, 1<<48 - 1} {
			l := []int{1, 2, 3, 4}
			l[at] = n
			mustNoLock(t, "beyond its bounds", framed(numbers(l...)))
			mustAgree(t, framed(numbers(l...)))
		}
	}
}

// Promise 12.1: nothing that is cut off, or has more around it, is a lock.
func TestLockNotAlone(t *testing.T) {
	mustNoLock(t, "none", nil)
	for _, l := range []api.Lock{{}, {Who: 1, Inc: 2, Epoch: 3, Until: 4}, {Who: far, Inc: far, Epoch: far, Until: far}} {
		b := reco.Lock(l)
		for n := range b {
			mustNoLock(t, "cut off", b[:n])
			mustNoLock(t, "cut off and copied", bytes.Clone(b[:n]))
			mustNoLock(t, "cut off ahead", b[n+1:])
		}
		for _, more := range [][]byte{{0}, {'\n'}, number(0), framed(nil), framed([]byte("more")), b, b[:len(b)-1], lockOf(api.Lock{Who: 9})} {
			mustNoLock(t, "more behind it", slices.Concat(b, more))
			mustNoLock(t, "more ahead of it", slices.Concat(more, b))
			mustNoLock(t, "more within it", slices.Concat(b[:6], more, b[6:]))
		}
		mustNoLock(t, "the numbers, bare", b[6:len(b)-4])
		mustNoLock(t, "a frame around it", framed(b))
	}
}

// Promise 12.1: each bit of a lock counts.
func TestLockChanged(t *testing.T) {
	for _, l := range []api.Lock{{}, {Who: 1, Inc: 2, Epoch: 3, Until: 4}, {Who: far, Inc: far, Epoch: far, Until: far}} {
		b := lockOf(l)
		for k := range 8 * len(b) {
			c := bytes.Clone(b)
			c[k/8] ^= 1 << (k % 8)
			mustNoLock(t, "changed", c)
		}
	}
}

// Promise 12.1: a right frame that holds something else than four numbers is no lock.
func TestLockOfOthers(t *testing.T) {
	four := numbers(1, 2, 3, 4)
	for n := range four {
		mustNoLock(t, "less than four numbers", framed(four[:n]))
	}
	for _, more := range [][]byte{{0}, number(0), number(5), x(5), four} {
		mustNoLock(t, "more than four numbers", framed(slices.Concat(four, more)))
		mustNoLock(t, "more than four noughts", framed(slices.Concat(make([]byte, 24), more)))
	}
	for _, held := range [][]byte{nil, sized(four), framed(four), x(24), bytes.Repeat([]byte{255}, 24), doneOf(api.Done{Target: "a"}), []byte("no lock")} {
		mustNoLock(t, "something else", framed(held))
	}
	mustNoLock(t, "a frame each", rowOf(number(1), number(2), number(3), number(4)))
	mustNoLock(t, "an empty frame ahead", slices.Concat(framed(nil), framed(four)))
}

// Promise 12.1: a commit is Target and Print, each with its length ahead, and Who and Inc.
func TestDone(t *testing.T) {
	got := hex.EncodeToString(reco.Done(api.Done{Target: "a.o", Who: 258, Inc: 1, Print: []byte("pp")}))
	if want := "000000000003612e6f" + "0000000000027070" + "000000000102" + "000000000001"; got != want {
		t.Errorf("%s, want %s", got, want)
	}
	for _, d := range some() {
		mustDone(t, d)
	}
}

// Promise 12.1: nothing is a commit to a target that is no name.
func TestDoneTargets(t *testing.T) {
	for n := range 40 {
		mustDone(t, api.Done{Target: strings.Repeat("a", n), Who: 1, Inc: 1, Print: []byte("p")})
	}
	for c := range 256 {
		mustDone(t, api.Done{Target: string([]byte{byte(c)})})
		mustDone(t, api.Done{Target: string([]byte{'a', byte(c)}), Who: 1, Inc: 1, Print: []byte("p")})
		mustDone(t, api.Done{Target: string([]byte{byte(c), 'z'}), Print: x(4000)})
		mustDone(t, api.Done{Target: strings.Repeat("a", 15) + string([]byte{byte(c)})})
	}
	for _, s := range []string{"a/b", "claim/a", "lock/log", "tmp/1.2.3", "/", "a/", "/a", "\u00e4", "a\x00"} {
		if b := reco.Done(api.Done{Target: s}); len(b) != 0 {
			t.Errorf("%q: % x", s, b)
		}
	}
	if b := reco.Done(api.Done{}); len(b) != 0 {
		t.Errorf("no target: % x", b)
	}
}

// Promise 12.1: a print is of at most 4,000 bytes, and is any bytes.
func TestDonePrints(t *testing.T) {
	for _, n := range []int{0, 1, 16, 17, 255, 256, 257, 3999, 4000, 4001, 4002, 8192, 9950, 10000, 70000} {
		mustDone(t, api.Done{Target: "a", Print: x(n)})
		mustDone(t, api.Done{Target: "-._az09-._az09-.", Who: far, Inc: far, Print: make([]byte, n)})
		if b := reco.Done(api.Done{Target: "a", Print: x(n)}); (len(b) != 0) != (n <= 4000) {
			t.Errorf("a print of %d bytes: %d", n, len(b))
		}
	}
	for c := range 256 {
		mustDone(t, api.Done{Target: "a", Print: []byte{byte(c)}})
		mustDone(t, api.Done{Target: "a", Who: 1, Inc: 1, Print: []byte{byte(c), 0, byte(c)}})
	}
}

// Promise 12.1: a commit with a number that is not 0 to 2^40 is none; it is not held to that.
func TestDoneNumbers(t *testing.T) {
	for _, n := range bounds() {
		for _, m := range []int{0, 7, far, n} {
			for _, d := range []api.Done{{Target: "a", Who: n, Inc: m}, {Target: "a", Who: m, Inc: n, Print: []byte("p")}} {
				mustDone(t, d)
				if b := reco.Done(d); (len(b) != 0) != (n >= 0 && n <= far) {
					t.Errorf("%v: % x", d, b)
				}
			}
		}
	}
}

// Promise 12.1: nothing that is cut off, or has more around it, is a commit.
func TestDoneNotAlone(t *testing.T) {
	mustNoDone(t, "none", nil)
	for _, d := range some() {
		b := doneOf(d)
		for n := range b {
			if n > 60 && n < len(b)-20 {
				continue
			}
			mustNoDone(t, "cut off", b[:n])
			mustNoDone(t, "cut off and copied", bytes.Clone(b[:n]))
			mustAgree(t, b[n+1:])
		}
		for _, more := range [][]byte{{0}, {'\n'}, number(0), number(1), b, doneOf(api.Done{Target: "z"})} {
			mustNoDone(t, "more behind it", slices.Concat(b, more))
			mustAgree(t, slices.Concat(more, b))
			mustAgree(t, slices.Concat(b[:6], more, b[6:]))
		}
		mustNoDone(t, "framed", framed(b))
		mustNoDone(t, "its length ahead", sized(b))
	}
}

// Promise 12.1: each byte of a commit counts: it is another's, or none.
func TestDoneChanged(t *testing.T) {
	for _, d := range []api.Done{{Target: "a"}, {Target: "a.o", Who: 1, Inc: 2, Print: []byte("pp")}, {Target: "ab", Who: far, Inc: far, Print: make([]byte, 40)}} {
		b := doneOf(d)
		for k := range 8 * len(b) {
			c := bytes.Clone(b)
			c[k/8] ^= 1 << (k % 8)
			mustAgree(t, c)
			if got, ok := reco.OpenDone(c); ok && same(got, d) {
				t.Errorf("% x and % x are one commit", b, c)
			}
		}
	}
}

// Promise 12.1: what is laid otherwise is no commit.
func TestDoneOfOthers(t *testing.T) {
	target, print := sized([]byte("a.o")), sized([]byte("pp"))
	for _, b := range [][]byte{
		slices.Concat(numbers(1, 2), target, print), slices.Concat(target, numbers(1, 2), print), slices.Concat(target, print, number(1)),
		slices.Concat(target, print), slices.Concat(target, numbers(1, 2)), slices.Concat([]byte("a.o"), print, numbers(1, 2)), slices.Concat(target, []byte("pp"), numbers(1, 2)),
		reco.Lock(api.Lock{Who: 1}), []byte("no commit"), make([]byte, 12), make([]byte, 24), make([]byte, 25), bytes.Repeat([]byte{255}, 24),
	} {
		mustNoDone(t, "laid otherwise", b)
	}
	mustNoDone(t, "the print ahead", slices.Concat(sized([]byte("P")), target, numbers(1, 2)))
}

// Promise 12.1: a length must be that of what stands there, a number within its bounds, however great it is, and whatever it is in fewer bits.
func TestDoneGreatNumbers(t *testing.T) {
	for _, n := range []int{0, 1, 2, 3, 4, 15, 16, 17, 256, 4000, 4001, 1<<8 + 2, 1<<16 + 2, 1<<31 - 1, 1 << 31, 1<<32 + 2, far, far + 1, far + 2, 1<<47 + 2, 1<<48 - 1} {
		for _, behind := range [][]byte{nil, numbers(1, 2), slices.Concat(sized([]byte("pp")), numbers(1, 2)), make([]byte, 4100), x(4100)} {
			mustAgree(t, slices.Concat(number(n), []byte("ab"), behind))
			mustAgree(t, slices.Concat(sized([]byte("ab")), number(n), behind))
		}
		mustAgree(t, slices.Concat(sized([]byte("ab")), sized([]byte("pp")), numbers(n, 2)))
		mustAgree(t, slices.Concat(sized([]byte("ab")), sized([]byte("pp")), numbers(1, n)))
	}
	for _, l := range [][2]int{{far + 1, 0}, {0, far + 1}, {1<<48 - 1, 1<<48 - 1}} {
		mustNoDone(t, "a number beyond its bounds", slices.Concat(sized([]byte("ab")), sized(nil), numbers(l[0], l[1])))
	}
}

// Promise 12.1: what is written of others is other.
func TestOneForm(t *testing.T) {
	known := map[string]api.Done{}
	for _, target := range []string{"a", "b", "aa", "ab", "0", "a0"} {
		for _, print := range [][]byte{nil, {0}, []byte("a"), []byte("aa"), number(0), number(1), numbers(1, 1)} {
			for _, l := range [][2]int{{0, 0}, {0, 1}, {1, 0}, {1, 1}, {1, far}, {far, 1}, {256, 1}, {1, 256}} {
				d := api.Done{Target: target, Who: l[0], Inc: l[1], Print: print}
				b := string(reco.Done(d))
				if old, there := known[b]; there {
					t.Errorf("%v and %v have one form", old, d)
				}
				known[b] = d
			}
		}
	}
	for b, d := range known {
		if got, ok := reco.OpenDone([]byte(b)); !ok || !same(got, d) {
			t.Errorf("% x is %v, want %v", b, got, d)
		}
	}
}

// laid tells the trace of l, and where each of its frames ends.
func laid(l []api.Done) ([]byte, []int) {
	var b []byte
	var ends []int
	for _, d := range l {
		b = append(b, framed(doneOf(d))...)
		ends = append(ends, len(b))
	}
	return b, ends
}

// mustBeFirst holds Trace to those of l whose frames end at or ahead of n.
func mustBeFirst(t *testing.T, what string, b []byte, l []api.Done, ends []int, n int) {
	t.Helper()
	whole, end := 0, 0
	for whole < len(l) && ends[whole] <= n {
		end = ends[whole]
		whole++
	}
	mustTrace(t, what, b, l[:whole], end)
}

// Promise 12.1: a trace is told from its beginning on, in its order, each commit as often as it stands there.
func TestTrace(t *testing.T) {
	mustTrace(t, "none", nil, nil, 0)
	l := append(some(), some()...)
	slices.Reverse(l[:5])
	b, ends := laid(l)
	for i := range l {
		mustTrace(t, "whole", b[:ends[i]], l[:i+1], ends[i])
	}
	d := api.Done{Target: "a", Who: 1, Inc: 1}
	again, ends := laid(slices.Repeat([]api.Done{d}, 50))
	mustTrace(t, "one, over and over", again, slices.Repeat([]api.Done{d}, 50), ends[49])
}

// Promise 12.1, 12.2 (W3): the commits end ahead of a frame that is cut off, wherever that is.
func TestTraceCutOff(t *testing.T) {
	l := []api.Done{{Target: "a", Who: 1, Inc: 1, Print: []byte("p")}, {Target: "b"}, {Target: "c", Print: framed(doneOf(api.Done{Target: "inner"}))}, {Target: "a", Who: 1, Inc: 1, Print: []byte("p")}}
	b, ends := laid(l)
	for n := range len(b) + 1 {
		mustBeFirst(t, "cut off", b[:n], l, ends, n)
		mustBeFirst(t, "cut off and copied", bytes.Clone(b[:n]), l, ends, n)
		mustBeFirst(t, "cut off, and more behind", slices.Concat(b[:n], []byte{255}, b), l, ends, n)
		if n > 0 && !slices.Contains(ends, n) {
			mustBeFirst(t, "cut off, and whole ones behind", slices.Concat(b[:n], b), l, ends, n)
		}
	}
}

// Promise 12.1, 12.2 (W3): the commits end ahead of a frame that is changed, whichever bit that is.
func TestTraceChanged(t *testing.T) {
	l := []api.Done{{Target: "a", Who: 1, Inc: 1, Print: []byte("p")}, {Target: "b"}, {Target: "c", Who: 3, Inc: 2, Print: []byte("pp")}}
	b, ends := laid(l)
	for k := range 8 * len(b) {
		c := bytes.Clone(b)
		c[k/8] ^= 1 << (k % 8)
		mustBeFirst(t, "changed", c, l, ends, k/8)
	}
}

// Promise 12.1: the commits end ahead of the first frame that is right but holds no commit, whatever is behind it.
func TestTraceOfOthers(t *testing.T) {
	l := some()
	b, ends := laid(l)
	one := doneOf(l[0])
	for _, held := range [][]byte{nil, {0}, []byte("no commit"), one[:len(one)-1], one[1:], slices.Concat(one, []byte{0}), slices.Concat(one, one), framed(one), doneOf(api.Done{Target: "A"}), doneOf(api.Done{}), doneOf(api.Done{Target: "a", Print: x(4001)}), doneOf(api.Done{Target: "a", Who: far + 1}), doneOf(api.Done{Target: "a", Inc: far + 1}), numbers(1, 2, 3, 4), x(10000), x(10001)} {
		at := 0
		for i := range len(l) + 1 {
			mustTrace(t, "one that is none", slices.Concat(b[:at], framed(held), b[at:]), l[:i], at)
			mustTrace(t, "two that are none", slices.Concat(b[:at], framed(held), framed(held), b), l[:i], at)
			if i < len(l) {
				at = ends[i]
			}
		}
	}
}

// Promise 12.1: a commit that is in no frame of its own is none of the trace's.
func TestTraceFrames(t *testing.T) {
	l := []api.Done{{Target: "a", Who: 1, Inc: 1, Print: []byte("p")}, {Target: "b"}}
	b, ends := laid(l)
	mustTrace(t, "no frame", doneOf(l[0]), nil, 0)
	mustTrace(t, "no frame, behind", slices.Concat(b, doneOf(l[0]), b), l, ends[1])
	mustTrace(t, "a frame around all", framed(b), nil, 0)
	mustTrace(t, "both in one frame", framed(slices.Concat(doneOf(l[0]), doneOf(l[1]))), nil, 0)
	mustTrace(t, "a lock", reco.Lock(api.Lock{Who: 1}), nil, 0)
	mustTrace(t, "a lock behind", slices.Concat(b, reco.Lock(api.Lock{Who: 1})), l, ends[1])
}

// Rule 1: nil and an empty list are the same to each call.
func TestNone(t *testing.T) {
	for _, b := range [][]byte{nil, {}, make([]byte, 0, 9), lockOf(api.Lock{})[:0], doneOf(api.Done{Target: "a"})[:0]} {
		mustNoLock(t, "none", b)
		mustNoDone(t, "none", b)
		mustTrace(t, "none", b, nil, 0)
		d := api.Done{Target: "a", Who: 1, Inc: 2, Print: b}
		mustDone(t, d)
		if got, want := reco.Done(d), slices.Concat(sized([]byte("a")), numbers(0, 1, 2)); !bytes.Equal(got, want) {
			t.Errorf("no print: % x, want % x", got, want)
		}
	}
}

// Promise 12.3: no call panics and each ends, on very much too.
func TestMany(t *testing.T) {
	great := make([]byte, 1<<25)
	if b := reco.Done(api.Done{Target: "a", Print: great}); len(b) != 0 {
		t.Errorf("a very long print: %d bytes", len(b))
	}
	if b := reco.Done(api.Done{Target: strings.Repeat("a", 1<<25)}); len(b) != 0 {
		t.Errorf("a very long target: %d bytes", len(b))
	}
	lock := lockOf(api.Lock{Who: 1})
	for _, b := range [][]byte{great, bytes.Repeat([]byte{255}, 1<<20), framed(great), bytes.Repeat(framed(nil), 100000), bytes.Repeat(lock, 100000)} {
		mustNoLock(t, "very much", b)
		mustNoDone(t, "very much", b)
		mustTrace(t, "very much", b, nil, 0)
	}
	d := api.Done{Target: "a", Who: 1, Inc: 1, Print: []byte("p")}
	one := framed(doneOf(d))
	many := bytes.Repeat(one, 100000)
	mustTrace(t, "very many", many, slices.Repeat([]api.Done{d}, 100000), len(many))
	mustTrace(t, "very many, and one that is none", slices.Concat(many, framed(nil), many), slices.Repeat([]api.Done{d}, 100000), len(many))
}

// mustHold holds all calls to each other, of any bytes and numbers.
func mustHold(t *testing.T, one, two []byte, n, m int) {
	t.Helper()
	mustAgree(t, one)
	mustAgree(t, framed(one))
	mustAgree(t, slices.Concat(framed(one), framed(two)))
	for _, l := range []api.Lock{{Who: n, Inc: m, Epoch: n ^ m, Until: -n}, {Who: m % 1000, Inc: n % 9, Epoch: n & far, Until: m}} {
		mustLock(t, l)
	}
	for _, d := range []api.Done{{Target: string(one), Who: n, Inc: m, Print: two}, {Target: "a", Who: n, Inc: m & (far - 1), Print: two}, {Target: string(one), Who: 1, Inc: 1, Print: two}} {
		mustDone(t, d)
	}
	b := doneOf(api.Done{Target: "a.o", Who: n & (far - 1), Inc: 1, Print: two})
	at := int(uint(m) % uint(len(b)))
	mustAgree(t, b[:at])
	mustAgree(t, slices.Concat(framed(b), framed(b[:at]), framed(b)))
	mustAgree(t, slices.Concat(framed(b), framed(b)[:at], one))
	for _, c := range one[:min(len(one), 8)] {
		b[at] = c
		mustAgree(t, b)
		mustAgree(t, framed(b))
	}
}

// Promises 12.1 to 12.3 (W5): of any bytes.
func TestAny(t *testing.T) {
	state := uint32(1)
	next := func() uint32 {
		state = state*1664525 + 1013904223
		return state >> 16
	}
	for range 3000 {
		var parts [2][]byte
		for i := range parts {
			parts[i] = make([]byte, next()%(4<<(next()%7)))
			for j := range parts[i] {
				parts[i][j] = byte(next()) >> (next() % 9)
			}
		}
		if next()%2 == 0 {
			for j := range parts[0] {
				parts[0][j] = 'a' + parts[0][j]%26
			}
		}
		n, m := int(next())<<(next()%48), int(next())<<(next()%48)
		mustHold(t, parts[0], parts[1], n-int(next()%4), m-int(next()%4))
	}
}

// Promise 12.3: any bytes are a record or none, and no call panics.
func FuzzAll(f *testing.F) {
	f.Add([]byte(nil), []byte(nil), 0, 0)
	f.Add([]byte("a.o"), []byte("pp"), 1, 2)
	f.Add(lockOf(api.Lock{Who: 1, Inc: 2, Epoch: 3, Until: 4}), framed(doneOf(api.Done{Target: "a"})), far, far+1)
	f.Add(doneOf(api.Done{Target: "a.o", Who: 1, Inc: 2, Print: []byte("pp")}), number(1<<48-1), -1, math.MaxInt)
	f.Add(numbers(1, 2, 3, far+1), make([]byte, 4001), math.MinInt, 7)
	f.Fuzz(mustHold)
}
