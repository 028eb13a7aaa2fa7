package simf_test

import (
	"math"
	"slices"
	"strconv"
	"strings"
	"testing"

	"fettle/api"
	"fettle/simf"
)

// guard tells one guard.
func guard(s string, stamp int) []api.Guard {
	return []api.Guard{{Name: s, Stamp: stamp}}
}

// Promise 9.1: of New no file is there.
func TestNew(t *testing.T) {
	mustTell(t, 10, `
		read a -> ErrNone
		stamp a -> 0
		list '' ->
		list tmp ->
		used -> 0
		drop a -> ErrNone
		move a b -> ErrNone
		make a x -> 1`)
}

// Promise 9.1: Make is of a new file alone, Put of any; what is read is what was written last, whole.
func TestMakeAndPut(t *testing.T) {
	mustTell(t, 100, `
		make a abc -> 1
		read a -> 1 abc
		make a x -> ErrThere
		read a -> 1 abc
		make b '' -> 2
		read b -> 2
		make b x -> ErrThere
		put a defg -> 3
		read a -> 3 defg
		put a '' -> 4
		read a -> 4
		put c hi -> 5
		read c -> 5 hi
		put c hi -> 6
		read c -> 6 hi
		make d/a x -> 7
		make a/d y -> 8
		read d/a -> 7 x
		read a/d -> 8 y
		read d -> ErrNone
		make d z -> 9
		read d/a -> 7 x
		used -> 5`)
}

// Promise 9.1: any bytes are a file's, many too.
func TestAnyBytes(t *testing.T) {
	var all []byte
	for i := range 256 {
		all = append(all, byte(i), 255-byte(i))
	}
	for _, b := range [][]byte{all, make([]byte, 5000), []byte("\n"), slices.Repeat(all, 100)} {
		f := simf.New(1 << 20)
		mustWrite(t, f, "a", b, func() (int, api.Errno) { return f.Make("a", b) })
		mustWrite(t, f, "b", b, func() (int, api.Errno) { return f.Put("b", b) })
		mustWrite(t, f, "c", b, func() (int, api.Errno) { return f.Append("c", b, nil) })
		mustWrite(t, f, "c", slices.Concat(b, b), func() (int, api.Errno) { return f.Append("c", b, nil) })
		mustWrite(t, f, "a", slices.Concat(b, b), func() (int, api.Errno) { return f.Move("c", "a", nil) })
		if f.Used() != 3*len(b) {
			t.Errorf("used %d of %d bytes three times", f.Used(), len(b))
		}
	}
}

// mustWrite holds a call that writes s to the bytes that are to be there, and to its stamp.
func mustWrite(t *testing.T, f *simf.FS, s string, want []byte, write func() (int, api.Errno)) {
	t.Helper()
	stamp, e := write()
	b, read, also := f.Read(s)
	if !slices.Equal(b, want) || stamp == 0 || stamp != read || stamp != f.Stamp(s) || e != api.OK || also != api.OK {
		t.Errorf("%s: %v, %d bytes, stamps %d, %d, %d, %v, %v", s, slices.Equal(b, want), len(b), stamp, read, f.Stamp(s), e, also)
	}
}

// Promise 9.1: each call that writes gives the next number, from 1 on, and no other call gives one: not with an error, not of a reading, not Drop, Room or Cut.
func TestStamps(t *testing.T) {
	mustTell(t, 9, `
		put a 1 -> 1
		put a 1 -> 2
		make a 1 -> ErrThere
		make b '' -> 3
		read a -> 2 1
		stamp b -> 3
		append a 2 -> 4
		append a '' -> 5
		move a c -> 6
		stamp a -> 0
		stamp c -> 6
		move a c -> ErrNone
		drop c -> OK
		stamp c -> 0
		drop c -> ErrNone
		room 9 -> OK
		cut 0 -> OK
		append b x -> ErrDead
		stamp b -> 3
		put b 0123456789 -> ErrSpace
		make c 0123456789 -> ErrSpace
		put A x -> ErrName
		append b x b@2 -> ErrGuard
		list '' -> b
		make c 12 -> 7
		append c 345 b@3 c@7 -> 8
		move b c -> 9
		stamp c -> 9`)
}

// Promise 9.1: a stamp that a file had is never a file's again, not of that name, nor of another, though the bytes be the same.
func TestStampsAreNew(t *testing.T) {
	f := simf.New(1000)
	want := 0
	for i := range 2000 {
		a, b := "f"+strconv.Itoa(i%7), "f"+strconv.Itoa(i%11)
		var stamp int
		switch i % 4 {
		case 0:
			stamp, _ = f.Put(a, []byte("same"))
		case 1:
			stamp, _ = f.Append(a, nil, nil)
		case 2:
			f.Drop(b, nil)
			stamp, _ = f.Make(b, []byte("same"))
		case 3:
			f.Put("from", []byte("same"))
			want++
			stamp, _ = f.Move("from", a, nil)
		}
		want++
		if stamp != want {
			t.Fatalf("stamp %d, want %d", stamp, want)
		}
	}
}

// goods and wrongs are files' names, and what is none.
var (
	goods  = []string{"a", "0", ".", "..", "-", "_", "manifest", "0123456789abcdef", "d/e", "./..", "0123456789abcdef/0123456789abcdef", "tmp/999.99999.99999"}
	wrongs = []string{"", "A", "a b", "/", "a/", "/a", "a//b", "a/b/c", "0123456789abcdefg", "a/0123456789abcdefg", "0123456789abcdefg/a", "a\x00", "\u00e9", "a\n", "\xff", strings.Repeat("a", 1<<16)}
)

// Promise 9.1: each call takes each name, and refuses each that is none, ahead of all else, and does nothing then.
func TestNames(t *testing.T) {
	for _, s := range goods {
		f := simf.New(100)
		f.Make("from", []byte("x"))
		mustBe(t, "Make", s, f.Make, api.OK)
		mustBe(t, "Put", s, f.Put, api.OK)
		mustBe(t, "Append", s, func(s string, b []byte) (int, api.Errno) { return f.Append(s, b, guard(s, 3)) }, api.OK)
		mustBe(t, "Move", s, func(s string, b []byte) (int, api.Errno) { return f.Move("from", s, guard(s, 4)) }, api.OK)
		mustBe(t, "Move", s, func(s string, b []byte) (int, api.Errno) { return f.Move(s, "to", guard(s, 5)) }, api.OK)
		f.Move("to", s, nil)
		if b, _, e := f.Read(s); string(b) != "x" || e != api.OK || f.Stamp(s) != 7 || f.Drop(s, nil) != api.OK {
			t.Errorf("%q: %q, %v", s, b, e)
		}
	}
	for _, s := range wrongs {
		f := simf.New(2)
		f.Make("a", []byte("xy"))
		b := guard("a", 0)
		mustBe(t, "Make", s, f.Make, api.ErrName)
		mustBe(t, "Put", s, f.Put, api.ErrName)
		mustBe(t, "Append", s, func(s string, x []byte) (int, api.Errno) { return f.Append(s, x, b) }, api.ErrName)
		mustBe(t, "Move", s, func(s string, x []byte) (int, api.Errno) { return f.Move("a", s, b) }, api.ErrName)
		mustBe(t, "Move", s, func(s string, x []byte) (int, api.Errno) { return f.Move(s, "a", b) }, api.ErrName)
		mustBe(t, "Move", s, func(s string, x []byte) (int, api.Errno) { return f.Move(s, s, b) }, api.ErrName)
		if x, n, e := f.Read(s); len(x) != 0 || n != 0 || e != api.ErrName {
			t.Errorf("Read(%q) = %q, %d, %v", s, x, n, e)
		}
		if e := f.Drop(s, b); e != api.ErrName {
			t.Errorf("Drop(%q) = %v", s, e)
		}
		if f.Stamp(s) != 0 || s != "" && len(f.List(s)) != 0 {
			t.Errorf("%q is told", s)
		}
		if got := look(f, "a", "d"); got != "a@1=1 xy\n2" {
			t.Errorf("%q: %s", s, got)
		}
	}
}

// mustBe holds a call that writes s to its error, and to a stamp where there is none.
func mustBe(t *testing.T, what, s string, write func(string, []byte) (int, api.Errno), want api.Errno) {
	t.Helper()
	if stamp, e := write(s, []byte("x")); e != want || (stamp != 0) != (e == api.OK) {
		t.Errorf("%s of %q = %d, %v, want %v", what, s, stamp, e, want)
	}
}

// Promise 9.1: the files have at most room in all; a call that takes no more than there is goes through where there is too little.
func TestSpace(t *testing.T) {
	mustTell(t, 6, `
		make a abcd -> 1
		make b xyz -> ErrSpace
		make b xy -> 2
		used -> 6
		make c 1 -> ErrSpace
		read c -> ErrNone
		put c 1 -> ErrSpace
		make c '' -> 3
		put a abcde -> ErrSpace
		read a -> 1 abcd
		put a efgh -> 4
		put a e -> 5
		used -> 3
		put b uvwxyz -> ErrSpace
		put b uvwxy -> 6
		used -> 6
		move a c -> 7
		used -> 6
		move c b -> 8
		used -> 1
		put b 123456 -> 9
		put b 1234567 -> ErrSpace
		drop b -> OK
		used -> 0
		put b 123456 -> 10`)
}

// Promise 9.1: Room makes it another one; what is there stays, and may be read, moved, dropped, made as long or shorter, but not longer.
func TestRoom(t *testing.T) {
	mustTell(t, 10, `
		make a 12345 -> 1
		make b 1234 -> 2
		room 3 -> OK
		used -> 9
		read a -> 1 12345
		put a 123456 -> ErrSpace
		put a abcde -> 3
		put b 12 -> 4
		used -> 7
		make c x -> ErrSpace
		make c '' -> 5
		append c x -> ErrSpace
		append c '' -> 6
		append e '' -> 7
		move a d/a -> 8
		move d/a c -> 9
		drop c -> OK
		used -> 2
		put c xy -> ErrSpace
		put c x -> 10
		room 0 -> OK
		put c y -> 11
		put c yy -> ErrSpace
		room 4 -> OK
		put c yy -> 12
		room -7 -> OK
		put c yyy -> ErrSpace
		drop c -> OK
		drop b -> OK
		put c y -> ErrSpace
		put c '' -> 13`)
}

// Promise 9.1: room is held to 0 to 2^30.
func TestRoomIsHeld(t *testing.T) {
	over := make([]byte, 1<<30+1)
	for _, n := range []int{1<<30 + 1, 1 << 31, 1 << 32, 1 << 40, math.MaxInt} {
		byRoom := simf.New(0)
		byRoom.Room(n)
		for _, f := range []*simf.FS{simf.New(n), byRoom} {
			if _, e := f.Make("a", over); e != api.ErrSpace {
				t.Errorf("room %d: %v", n, e)
			}
			if _, e := f.Make("a", over[:1<<20]); e != api.OK {
				t.Errorf("room %d: %v", n, e)
			}
			if _, e := f.Make("b", over[:1<<30-1<<20+1]); e != api.ErrSpace {
				t.Errorf("room %d: %v", n, e)
			}
		}
	}
	for _, n := range []int{0, -1, -1 << 31, -1 << 40, math.MinInt} {
		byRoom := simf.New(100)
		byRoom.Room(n)
		for _, f := range []*simf.FS{simf.New(n), byRoom} {
			mustGoOn(t, f, `
				make a x -> ErrSpace
				append a x -> ErrSpace
				make a '' -> 1`)
		}
	}
}

// Promise 9.1: what from was is to's, whatever to was, with a new stamp; from is gone.
func TestMove(t *testing.T) {
	mustTell(t, 10, `
		make a abc -> 1
		make b defgh -> 2
		move a c -> 3
		read a -> ErrNone
		stamp a -> 0
		read c -> 3 abc
		used -> 8
		move c b -> 4
		read c -> ErrNone
		read b -> 4 abc
		used -> 3
		move b tmp/b -> 5
		move tmp/b b -> 6
		read b -> 6 abc
		list tmp ->
		move b b -> ErrName
		read b -> 6 abc
		move c c -> ErrName
		move c b -> ErrNone
		read b -> 6 abc
		make a 1234567 -> 7
		move a b a@7 b@6 -> 8
		read b -> 8 1234567
		make c '' -> 9
		move c b -> 10
		read b -> 10
		used -> 0`)
}

// Promise 9.1: what was moved away and what is made anew under its name are two files.
func TestMovedIsApart(t *testing.T) {
	mustTell(t, 100, `
		make a 12 -> 1
		append a 34 -> 2
		move a b -> 3
		make a xy -> 4
		append a z -> 5
		append b 56 -> 6
		append a w -> 7
		read b -> 6 123456
		read a -> 7 xyzw
		move a b -> 8
		append b v -> 9
		read b -> 9 xyzwv
		read a -> ErrNone`)
}

// Promise 9.1: Drop takes a file away, whole, and no other.
func TestDrop(t *testing.T) {
	mustTell(t, 10, `
		make a abc -> 1
		make d/a de -> 2
		make d f -> 3
		drop d -> OK
		read d/a -> 2 de
		used -> 5
		drop d/a d/a@2 a@1 -> OK
		drop d/a -> ErrNone
		used -> 3
		append d/a x -> 4
		read d/a -> 4 x
		drop a -> OK
		list '' ->
		list d -> d/a`)
}

// Promise 9.1: a guard holds where its file is there with that stamp, whatever else is so; all must hold.
func TestGuards(t *testing.T) {
	mustTell(t, 100, `
		make a 1 -> 1
		make d/b 2 -> 2
		append c x a@2 -> ErrGuard
		append c x a@0 -> ErrGuard
		append c x a@-1 -> ErrGuard
		append c x d/b@1 -> ErrGuard
		append c x c@0 -> ErrGuard
		append c x c@3 -> ErrGuard
		append c x @0 -> ErrGuard
		append c x A@0 -> ErrGuard
		append c x A@1 -> ErrGuard
		append c x a/b/c@0 -> ErrGuard
		append c x a@1 d/b@1 -> ErrGuard
		append c x a@2 d/b@2 -> ErrGuard
		append c x a@1 a@2 -> ErrGuard
		append c x a@1 d/b@2 c@0 -> ErrGuard
		read c -> ErrNone
		append c x a@1 d/b@2 a@1 -> 3
		append c y c@3 -> 4
		append c z c@3 -> ErrGuard
		read c -> 4 xy
		move c a c@4 a@2 -> ErrGuard
		move c a c@3 a@1 -> ErrGuard
		move c a c@4 a@1 -> 5
		move a c a@1 -> ErrGuard
		drop a a@1 -> ErrGuard
		drop a a@4 -> ErrGuard
		drop a a@5 d/b@2 -> OK
		drop d/b a@5 -> ErrGuard
		drop d/b d/b@2 -> OK
		drop d/b d/b@2 -> ErrGuard
		drop d/b d/b@0 -> ErrGuard
		drop d/b -> ErrNone
		used -> 0`)
}

// Promise 9.1: of several errors the first is told: ErrName, ErrGuard, ErrThere or ErrNone, ErrSpace.
func TestErrorsInOrder(t *testing.T) {
	mustTell(t, 3, `
		make a abc -> 1
		make A abcd -> ErrName
		make a abcd -> ErrThere
		make b abcd -> ErrSpace
		put A abcd -> ErrName
		put b abcd -> ErrSpace
		read A -> ErrName
		read b -> ErrNone
		append A abcd a@2 -> ErrName
		append A abcd -> ErrName
		append a abcd a@2 -> ErrGuard
		append a abcd a@1 -> ErrSpace
		move A A a@2 -> ErrName
		move a A a@2 -> ErrName
		move A a a@2 -> ErrName
		move b A -> ErrName
		move a a a@2 -> ErrName
		move b b a@2 -> ErrName
		move b a a@2 -> ErrGuard
		move b a a@1 -> ErrNone
		drop A a@2 -> ErrName
		drop A -> ErrName
		drop b a@2 -> ErrGuard
		drop b a@1 -> ErrNone
		read a -> 1 abc
		cut 1 -> OK
		append A xy -> ErrName
		append a xy a@2 -> ErrGuard
		append a xy a@1 -> ErrDead
		read a -> 2 abcx`)
}

// Promise 9.1: bytes go behind the file's, or make a new one; also none give it a new stamp.
func TestAppend(t *testing.T) {
	mustTell(t, 10, `
		append a '' -> 1
		read a -> 1
		append a ab -> 2
		append a '' -> 3
		append a c a@3 -> 4
		read a -> 4 abc
		append b xy -> 5
		read b -> 5 xy
		append a defgh -> 6
		read a -> 6 abcdefgh
		used -> 10
		append b '' -> 7
		append c '' -> 8
		list '' -> a b c`)
}

// Promise 9.1: where not all goes in, as many bytes as go in are put behind, with a new stamp, if there is one at least; a new file is there then, else not.
func TestAppendIsShort(t *testing.T) {
	mustTell(t, 5, `
		append a abcdefg -> ErrSpace
		read a -> 1 abcde
		append a f -> ErrSpace
		stamp a -> 1
		append b f -> ErrSpace
		read b -> ErrNone
		put a ab -> 2
		append b wxyz b@0 -> ErrGuard
		append b wxyz -> ErrSpace
		read b -> 3 wxy
		append b z -> ErrSpace
		stamp b -> 3
		room 6 -> OK
		append b z b@3 -> 4
		read b -> 4 wxyz
		room 7 -> OK
		append a cd a@2 -> ErrSpace
		read a -> 5 abc
		room 2 -> OK
		append a d -> ErrSpace
		append a '' -> 6
		read a -> 6 abc
		used -> 7`)
}

// Promise 9.1: how many bytes go in, of each many, in each room.
func TestAppendOfEachLength(t *testing.T) {
	for room := range 12 {
		for there := range 12 {
			for n := range 12 {
				lines := []string{"room 99", "append a " + strings.Repeat("x", there), "room " + strconv.Itoa(room), "append a " + strings.Repeat("y", n), "read a", "append b " + strings.Repeat("z", n), "read b"}
				mustSayTheSame(t, 0, lines)
			}
		}
	}
}

// Promise 9.1: behind Cut the next Append whose guards hold ends behind n bytes, whatever the room, and is told that it is dead; the one behind that is not.
func TestCut(t *testing.T) {
	mustTell(t, 8, `
		append a ab -> 1
		cut 3 -> OK
		append a cdefg -> ErrDead
		read a -> 2 abcde
		append a f -> 3
		read a -> 3 abcdef
		cut 4 -> OK
		append b uvwxyz -> ErrDead
		read b -> 4 uvwx
		used -> 10
		append b y -> ErrSpace
		stamp b -> 4
		append b '' -> 5
		cut 0 -> OK
		append c x -> ErrDead
		read c -> ErrNone
		cut 0 -> OK
		append b x b@5 -> ErrDead
		stamp b -> 5
		cut -9 -> OK
		append b x -> ErrDead
		read b -> 5 uvwx
		cut 5 -> OK
		append b '' -> ErrDead
		stamp b -> 5
		append c '' -> 6
		cut 5 -> OK
		append d '' -> ErrDead
		read d -> ErrNone
		cut 99 -> OK
		append b yz -> ErrDead
		read b -> 7 uvwxyz
		room 99 -> OK
		append b 1 -> 8`)
}

// Promise 9.1: a cut waits for an Append that is not refused, and for no other call; a later Cut is in the earlier one's place.
func TestCutWaits(t *testing.T) {
	mustTell(t, 8, `
		make a ab -> 1
		cut 2 -> OK
		make b cdef -> 2
		put a gh -> 3
		read a -> 3 gh
		move a c -> 4
		drop b -> OK
		room 9 -> OK
		list '' -> c
		append c ijk c@3 -> ErrGuard
		append c ijk a@0 -> ErrGuard
		append C ijk -> ErrName
		read c -> 4 gh
		append c ijk c@4 -> ErrDead
		read c -> 5 ghij
		append c k -> 6
		cut 0 -> OK
		cut 2 -> OK
		append c lmn -> ErrDead
		read c -> 7 ghijklm
		cut 2 -> OK
		cut 0 -> OK
		append c n -> ErrDead
		stamp c -> 7
		append c n -> 8`)
}

// Promise 9.1: names in a folder, or in none, rising by bytes, whatever the order in which they came.
func TestList(t *testing.T) {
	f := mustTell(t, 10, `
		list '' ->
		put tmp/z x -> 1
		put b '' -> 2
		put tmp '' -> 3
		put a.o '' -> 4
		put tmp/a '' -> 5
		put tmpx '' -> 6
		put tm/p '' -> 7
		put a '' -> 8
		put tmp/10 '' -> 9
		put a_o '' -> 10
		put tmp/9 '' -> 11
		put a-o '' -> 12
		put lock/tmp '' -> 13
		put a0 '' -> 14
		put ../. '' -> 15
		list '' -> a a-o a.o a0 a_o b tmp tmpx
		list tmp -> tmp/10 tmp/9 tmp/a tmp/z
		list tm -> tm/p
		list lock -> lock/tmp
		list .. -> ../.
		list a ->
		list tmpx ->
		list tmp/ ->
		list tmp/a ->
		list / ->
		list t ->
		list mp ->
		list . ->
		drop tmp/9 -> OK
		move tmp/z b -> 16
		move a.o tmp/9.o -> 17
		list tmp -> tmp/10 tmp/9.o tmp/a
		list '' -> a a-o a0 a_o b tmp tmpx`)
	for _, dir := range []string{"\x00", "tmp\x00", " ", "TMP", strings.Repeat("tmp/", 1<<16), "\xff"} {
		if l := f.List(dir); len(l) != 0 {
			t.Errorf("List(%q) = %q", dir, l)
		}
	}
}

// Promise 9.1: files of two FS, or of two names, know nothing of each other; the same calls do the same.
func TestApart(t *testing.T) {
	lines := []string{"make a 12", "append b 34", "move a d/a", "cut 1", "append b 567 b@2", "room 3", "append b 8"}
	f, second := simf.New(10), simf.New(10)
	was := look(second, "d")
	for _, line := range lines {
		say(f, line)
	}
	if got := look(second, "d"); got != was {
		t.Errorf("another has %s", got)
	}
	for _, line := range lines {
		say(second, line)
	}
	if got, want := look(second, "d"), look(f, "d"); got != want {
		t.Errorf("%s, and then %s", want, got)
	}
}

// Rule 1: nil and an empty list are the same to each call.
func TestNone(t *testing.T) {
	for _, b := range [][]byte{nil, {}, make([]byte, 0, 9)} {
		for _, g := range [][]api.Guard{nil, {}, make([]api.Guard, 0, 9)} {
			f := simf.New(0)
			f.Make("a", b)
			f.Put("b", b)
			f.Append("b", b, g)
			f.Append("c", b, g)
			f.Move("b", "d/b", g)
			f.Drop("a", g)
			if got := look(f, "d"); got != "d/b@5=5\nc@4=4\n0" {
				t.Error(got)
			}
		}
	}
}

// scrawl writes over x and the room behind it.
func scrawl(x []byte) {
	x = x[:cap(x)]
	for i := range x {
		x[i] = 'z'
	}
}

// Rule 3: nothing that was handed in is kept, nor the room behind it, and all of it is left as it is.
func TestHandedInIsLeft(t *testing.T) {
	f := simf.New(1000)
	b := []byte("abcdefgh")
	g := make([]api.Guard, 1, 9)
	for i, write := range []func() (int, api.Errno){
		func() (int, api.Errno) { return f.Make("a", b[:3]) },
		func() (int, api.Errno) { return f.Put("b", b[:3]) },
		func() (int, api.Errno) { return f.Append("c", b[:3], nil) },
		func() (int, api.Errno) { return f.Append("a", b[3:5], nil) },
		func() (int, api.Errno) { return f.Append("b", b[3:5], g[:0]) },
		func() (int, api.Errno) { f.Cut(2); return f.Append("c", b[3:8], g[:0]) },
		func() (int, api.Errno) { g[0] = api.Guard{Name: "a", Stamp: 4}; return f.Append("b", nil, g) },
		func() (int, api.Errno) { return f.Move("b", "d", g) },
	} {
		write()
		if string(b) != "abcdefgh" {
			t.Errorf("%d changes what it is given to %q", i, b)
		}
		scrawl(b)
		f.Append("a", []byte("+"), nil)
		if string(b) != "zzzzzzzz" {
			t.Errorf("%d keeps what it is given", i)
		}
		copy(b, "abcdefgh")
		f.Put("a", []byte("abc"))
	}
	if (g[0] != api.Guard{Name: "a", Stamp: 4}) || (g[:2][1] != api.Guard{}) {
		t.Errorf("guards are changed to %v", g[:2])
	}
	for s, want := range map[string]string{"b": "abcde", "c": "abcde"} {
		if x, _, _ := f.Read(s); string(x) != want {
			t.Errorf("%s is %q, want %q: what was handed in is kept", s, x, want)
		}
	}
}

// Rule 3: what is answered is new memory, its spare room too.
func TestAnsweredIsNew(t *testing.T) {
	f := simf.New(1000)
	f.Make("a", []byte("abc"))
	f.Append("a", []byte("d"), nil)
	for _, s := range []string{"b", "c", "e"} {
		f.Put(s, nil)
	}
	for range 3 {
		b, _, _ := f.Read("a")
		scrawl(b)
		again, _, _ := f.Read("a")
		_ = append(again, "over the room"...)
		l := f.List("")
		if len(l) != 4 {
			t.Fatalf("%q", l)
		}
		clear(l[:cap(l)])
		_ = append(f.List("")[:1], "x", "y", "z")
		f.Append("a", nil, nil)
		if b, _, _ := f.Read("a"); string(b) != "abcd" {
			t.Errorf("%q: what Read answers is lent", b)
		}
		if l := f.List(""); !slices.Equal(l, []string{"a", "b", "c", "e"}) {
			t.Errorf("%q: what List answers is lent", l)
		}
	}
	b, _, _ := f.Read("a")
	f.Append("a", []byte("efgh"), nil)
	if string(b) != "abcd" || strings.Trim(string(b[:cap(b)][4:]), "\x00") != "" {
		t.Errorf("%q changes behind its back", b[:cap(b)])
	}
}

// Promise 9.3: each call ends soon, of many files and many writings too.
func TestMany(t *testing.T) {
	const n = 100000
	f := simf.New(1 << 30)
	for i := range n {
		f.Put("d/"+strconv.Itoa(i), []byte("xy"))
		f.Append("trace", []byte("0123456789"), nil)
		f.Put(strconv.Itoa(i), nil)
	}
	if l := f.List("d"); len(l) != n || !slices.IsSorted(l) || f.Used() != 12*n {
		t.Errorf("%d names, %d bytes", len(l), f.Used())
	}
	g := slices.Repeat(guard("trace", 3*n-1), n)
	if _, e := f.Move("trace", "d/trace", g); e != api.OK {
		t.Error(e)
	}
	for i := range n {
		f.Drop("d/"+strconv.Itoa(i), nil)
	}
	if l := f.List("d"); !slices.Equal(l, []string{"d/trace"}) || f.Used() != 10*n {
		t.Errorf("%d names, %d bytes", len(l), f.Used())
	}
}
