package sour_test

import (
	"bytes"
	"fmt"
	"slices"
	"strings"
	"testing"

	"fettle/api"
	"fettle/arti"
	"fettle/fram"
	"fettle/simf"
	"fettle/sour"
)

// wide is room enough.
const wide = 1 << 20

// made tells whether s is made: those that end in `.o` are.
func made(s string) bool { return strings.HasSuffix(s, ".o") }

// artifact tells one of value.
func artifact(value string) []byte {
	return arti.Make([]byte("print of "+value), []byte(value))
}

// bytesOf tells what the file s is of, to have that value.
func bytesOf(s, value string) []byte {
	if made(s) {
		return artifact(value)
	}
	return []byte(value)
}

// under tells files of those names, each with a value of its own.
func under(names ...string) *simf.FS {
	f := simf.New(wide)
	for _, s := range names {
		f.Put(s, bytesOf(s, "value of "+s))
	}
	return f
}

// file is a file as it stands.
type file struct {
	name, bytes string
	stamp       int
}

// all tells all files of the folders that these tests know.
func all(f *simf.FS) []file {
	var l []file
	for _, dir := range []string{"", "lock", "tmp", "claim"} {
		for _, s := range f.List(dir) {
			b, stamp, _ := f.Read(s)
			l = append(l, file{s, string(b), stamp})
		}
	}
	return l
}

// steps does r's Steps, each of which is to tell the next of want, and to write nothing. Only behind one that tells RAll there are values and stamps.
func steps(t *testing.T, r *sour.Read, f *simf.FS, want ...int) {
	t.Helper()
	for i, w := range want {
		was := all(f)
		if got := r.Step(f); got != w {
			t.Fatalf("Step %d tells %d, not %d", i+1, got, w)
		}
		if !slices.Equal(all(f), was) {
			t.Fatalf("Step %d wrote", i+1)
		}
		l, ok := r.Values()
		if s := r.Stamps(); ok != (w == api.RAll) || !ok && len(l)+len(s) != 0 {
			t.Fatalf("behind Step %d: %q, %v, %v", i+1, l, ok, s)
		}
	}
}

// work tells n times RWork, then end.
func work(n int, end ...int) []int {
	return append(make([]int, n), end...)
}

// stays asks that r tells want again, with the same values and stamps, whatever becomes of the files.
func stays(t *testing.T, r *sour.Read, f *simf.FS, want int, names []string) {
	t.Helper()
	l, _ := r.Values()
	s := r.Stamps()
	for i := range 3 {
		for _, x := range names {
			if i == 1 {
				f.Drop(x, nil)
			} else {
				f.Put(x, bytesOf(x, fmt.Sprint("later", i)))
			}
		}
		steps(t, r, f, want)
		l2, _ := r.Values()
		if !slices.EqualFunc(l, l2, bytes.Equal) || !slices.Equal(s, r.Stamps()) {
			t.Error("what is told is another one behind the end")
		}
	}
}

// holds asks that r tells those values, and those stamps.
func holds(t *testing.T, r *sour.Read, values []string, stamps []int) {
	t.Helper()
	l, ok := r.Values()
	var got []string
	for _, b := range l {
		got = append(got, string(b))
	}
	if !ok || !slices.Equal(got, values) || !slices.Equal(r.Stamps(), stamps) {
		t.Errorf("told %q, %v, %v; there are %q, %v", got, ok, r.Stamps(), values, stamps)
	}
}

// Promise 15.1 and the chapter's example: a new one has nothing to tell.
func TestNew(t *testing.T) {
	for _, names := range [][]string{nil, {}, {"a"}, {"a", "b.o"}, {"No name"}} {
		r := sour.New(names, made)
		if l, ok := r.Values(); ok || len(l) != 0 || len(r.Stamps()) != 0 {
			t.Error(l, ok, r.Stamps())
		}
	}
}

// Promise 15.1: each name is read, in order, by a Step, then each one's stamp asked, by a Step: all are told behind the last.
func TestReads(t *testing.T) {
	names := []string{"c", "a.o", "b", "lock/log", "tmp/1.1.1", "b.o", "a", "z", "claim/a.o", "y"}
	f := under("y", "a", "b", "claim/a.o", "c", "z", "b.o", "a.o", "tmp/1.1.1", "lock/log", "other")
	stampsOf := []int{5, 8, 3, 10, 9, 7, 2, 6, 4, 1}
	var values []string
	for _, s := range names {
		values = append(values, "value of "+s)
	}
	for n := 1; n <= len(names); n++ {
		r := sour.New(names[:n], made)
		steps(t, r, f, work(2*n-1, api.RAll)...)
		holds(t, r, values[:n], stampsOf[:n])
		steps(t, r, f, api.RAll, api.RAll)
		holds(t, r, values[:n], stampsOf[:n])
	}
}

// Promise 15.1: of no names all are read at the first Step, and not ahead of it.
func TestReadsNone(t *testing.T) {
	for _, names := range [][]string{nil, {}} {
		f := simf.New(0)
		r := sour.New(names, made)
		steps(t, r, f, api.RAll)
		holds(t, r, nil, nil)
		stays(t, r, f, api.RAll, []string{"a"})
		holds(t, r, nil, nil)
	}
}

// Promise 15.1: a name that is there twice is read twice, and asked twice.
func TestReadsTwice(t *testing.T) {
	f := under("a", "b.o")
	r := sour.New([]string{"a", "b.o", "a", "a", "b.o"}, made)
	steps(t, r, f, work(9, api.RAll)...)
	holds(t, r, []string{"value of a", "value of b.o", "value of a", "value of a", "value of b.o"}, []int{1, 2, 1, 1, 2})

	r = sour.New([]string{"a", "a"}, made)
	steps(t, r, f, api.RWork)
	f.Put("a", []byte("two"))
	steps(t, r, f, work(5, api.RAll)...)
	holds(t, r, []string{"two", "two"}, []int{3, 3})
}

// Promise 15.1: one that is not there ends it, at its Read: what is behind it is not read.
func TestNone(t *testing.T) {
	names := []string{"a", "b.o", "c", "d.o"}
	for _, none := range []string{"n", "n.o", "", "No name", "lock/", "/n", "a/b/c", "\xff", strings.Repeat("x", 17), strings.Repeat("x", 1000)} {
		for at := range len(names) + 1 {
			for _, behind := range []string{"c", "n", "bad.o"} {
				f := under(names...)
				f.Put("bad.o", []byte("no artifact"))
				r := sour.New(append(slices.Insert(slices.Clone(names), at, none), behind), made)
				steps(t, r, f, work(at, api.RNone)...)
				stays(t, r, f, api.RNone, []string{"a", "n", "n.o", "bad.o"})
			}
		}
	}
}

// Promise 15.1: one that is made and is no artifact ends it, at its Read, as does a value that is too long.
func TestBad(t *testing.T) {
	whole := artifact("value")
	torn := slices.Clone(whole)
	torn[9] ^= 1
	names := []string{"a", "b.o", "c", "d.o"}
	for what, x := range map[string]file{
		"nothing":                  {name: "x.o"},
		"text":                     {name: "x.o", bytes: "no artifact"},
		"cut off":                  {name: "x.o", bytes: string(whole[:len(whole)-1])},
		"a byte more":              {name: "x.o", bytes: string(whole) + "x"},
		"two":                      {name: "x.o", bytes: string(whole) + string(whole)},
		"a changed bit":            {name: "x.o", bytes: string(torn)},
		"a frame of something":     {name: "x.o", bytes: string(fram.Put(nil, []byte("something")))},
		"an artifact of a long":    {name: "x.o", bytes: string(artifact(strings.Repeat("x", 257)))},
		"an artifact of long made": {name: "x.o", bytes: string(arti.Make(make([]byte, 4001), nil))},
		"a long":                   {name: "x", bytes: strings.Repeat("x", 257)},
		"a very long":              {name: "x", bytes: strings.Repeat("x", 100_000)},
	} {
		for at := range len(names) + 1 {
			for _, behind := range []string{"c", "n", "x"} {
				f := under(names...)
				f.Put(x.name, []byte(x.bytes))
				r := sour.New(append(slices.Insert(slices.Clone(names), at, x.name), behind), made)
				steps(t, r, f, work(at, api.RBad)...)
				if stays(t, r, f, api.RBad, []string{"x", "x.o", "n"}); t.Failed() {
					t.Fatal(what)
				}
			}
		}
	}
}

// Promise 15.1: what is as long as it may be is read, made or not; an artifact's own length does not count.
func TestLongest(t *testing.T) {
	long := strings.Repeat("v", 256)
	f := simf.New(wide)
	f.Put("a", []byte(long))
	f.Put("a.o", arti.Make(make([]byte, 4000), []byte(long)))
	f.Put("b", nil)
	f.Put("b.o", arti.Make(nil, nil))
	r := sour.New([]string{"a", "a.o", "b", "b.o"}, made)
	steps(t, r, f, work(7, api.RAll)...)
	holds(t, r, []string{long, long, "", ""}, []int{1, 2, 3, 4})
}

// Promise 15.1: what is not made is read as it is, also where it looks like an artifact; and each is asked about by its own name.
func TestAsItIs(t *testing.T) {
	f := simf.New(wide)
	b := artifact("value")
	for _, s := range []string{"a", "b.o", "c"} {
		f.Put(s, b)
	}
	var asked []string
	r := sour.New([]string{"c", "b.o", "a"}, func(s string) bool {
		asked = append(asked, s)
		return made(s)
	})
	steps(t, r, f, work(5, api.RAll)...)
	holds(t, r, []string{string(b), "value", string(b)}, []int{3, 2, 1})
	if slices.Sort(asked); !slices.Equal(slices.Compact(asked), []string{"a", "b.o", "c"}) {
		t.Error(asked)
	}
	for _, all := range []bool{false, true} {
		r = sour.New([]string{"a", "b.o"}, func(string) bool { return all })
		steps(t, r, f, work(3, api.RAll)...)
		want := map[bool]string{false: string(b), true: "value"}[all]
		holds(t, r, []string{want, want}, []int{1, 2})
	}
}

// edits are what may become of a file between two Steps, each of which is another stamp.
var edits = map[string]func(f *simf.FS, s string){
	"others":     func(f *simf.FS, s string) { f.Put(s, bytesOf(s, "edited")) },
	"same":       func(f *simf.FS, s string) { b, _, _ := f.Read(s); f.Put(s, b) },
	"gone":       func(f *simf.FS, s string) { f.Drop(s, nil) },
	"gone, back": func(f *simf.FS, s string) { b, _, _ := f.Read(s); f.Drop(s, nil); f.Make(s, b) },
	"moved to":   func(f *simf.FS, s string) { f.Put("tmp/1.1.9", bytesOf(s, "moved")); f.Move("tmp/1.1.9", s, nil) },
	"there and back": func(f *simf.FS, s string) {
		b, _, _ := f.Read(s)
		f.Put(s, bytesOf(s, "edited"))
		f.Put(s, b)
	},
	"longer": func(f *simf.FS, s string) { f.Append(s, []byte("x"), nil) },
}

// now tells what f has of names: their values and their stamps; and RNone or RBad, and at which of them, where one can't be read.
func now(f *simf.FS, names []string) (values []string, stamps []int, at, end int) {
	for i, s := range names {
		b, stamp, e := f.Read(s)
		if e != api.OK {
			return nil, nil, i, api.RNone
		}
		if made(s) {
			_, v, ok := arti.Open(b)
			if !ok {
				return nil, nil, i, api.RBad
			}
			b = v
		}
		values, stamps = append(values, string(b)), append(stamps, stamp)
	}
	return values, stamps, len(names), api.RAll
}

// Promise 15.1: an edit ahead of a name's Read is read; one between its Read and the asking is seen at the asking, and all are read again from the first; one behind the asking is not seen any more.
func TestTurned(t *testing.T) {
	names := []string{"a", "b.o", "c"}
	n := len(names)
	for what, edit := range edits {
		for at, s := range names {
			for behind := range 2 * n {
				f := under(names...)
				values, stamps, _, _ := now(f, names)
				r := sour.New(names, made)
				steps(t, r, f, work(behind)...)
				edit(f, s)
				later, anew, bad, end := now(f, names)
				rest := 2*n - behind
				switch {
				case behind > n+at:
					steps(t, r, f, work(rest-1, api.RAll)...)
				case behind <= at && end != api.RAll:
					steps(t, r, f, work(bad-behind, end)...)
					continue
				case behind <= at:
					steps(t, r, f, work(rest-1, api.RAll)...)
					values, stamps = later, anew
				case end != api.RAll:
					steps(t, r, f, work(n+at-behind+1+bad, end)...)
					continue
				default:
					steps(t, r, f, work(n+at-behind+1+2*n-1, api.RAll)...)
					values, stamps = later, anew
				}
				if holds(t, r, values, stamps); t.Failed() {
					t.Fatalf("%s of %s behind Step %d", what, s, behind)
				}
			}
		}
	}
}

// Promise 15.1: as often as one is turned, all are read again.
func TestTurnedAgain(t *testing.T) {
	names := []string{"a", "b.o"}
	f := under(names...)
	r := sour.New(names, made)
	for i := range 100 {
		s := names[i%2]
		steps(t, r, f, work(2)...)
		f.Put(s, bytesOf(s, fmt.Sprint(i)))
		steps(t, r, f, work(1+i%2)...)
	}
	steps(t, r, f, work(3, api.RAll)...)
	holds(t, r, []string{"98", "99"}, []int{101, 102})
	stays(t, r, f, api.RAll, names)
}

// Promise 15.1: what was turned by another is read again, too: so one that went meanwhile is seen though it had been asked ahead.
func TestTurnedForgets(t *testing.T) {
	for gone, end := range []int{api.RNone, api.RBad} {
		f := under("a.o", "b")
		r := sour.New([]string{"a.o", "b"}, made)
		steps(t, r, f, work(3)...)
		if gone == 0 {
			f.Drop("a.o", nil)
		} else {
			f.Put("a.o", []byte("no artifact"))
		}
		f.Put("b", []byte("edited"))
		steps(t, r, f, api.RWork, end)
		stays(t, r, f, end, []string{"a.o", "b"})
	}
}

// Promise 15.1: other files, the room, and a cut change nothing of it.
func TestOthersDoNothing(t *testing.T) {
	names := []string{"a", "b.o", "c"}
	f := under(names...)
	r := sour.New(names, made)
	for range 2*len(names) - 1 {
		steps(t, r, f, api.RWork)
		f.Put("other", []byte("x"))
		f.Put("a.o", []byte("x"))
		f.Drop("other", nil)
		f.Room(0)
		f.Room(wide)
		f.Cut(0)
	}
	f.Room(0)
	steps(t, r, f, api.RAll)
	holds(t, r, []string{"value of a", "value of b.o", "value of c"}, []int{1, 2, 3})
	if _, e := f.Append("trace", []byte("x"), nil); e != api.ErrDead {
		t.Error("the Cut was used up")
	}
}

// Rule 3: the names that New is handed are left, the spare room behind them too, and are not kept.
func TestNewLeaves(t *testing.T) {
	f := under("a", "b.o", "q")
	names := []string{"a", "b.o", "spare"}
	r := sour.New(names[:2], made)
	clear(names[:2])
	steps(t, r, f, work(3, api.RAll)...)
	holds(t, r, []string{"value of a", "value of b.o"}, []int{1, 2})
	if !slices.Equal(names, []string{"", "", "spare"}) {
		t.Error(names)
	}
}

// Rule 3: what is told is new each time, its spare room too, and shares none with the files.
func TestToldIsNew(t *testing.T) {
	names := []string{"a", "b.o", "a"}
	f := under(names...)
	r := sour.New(names, made)
	steps(t, r, f, work(5, api.RAll)...)
	was := all(f)
	for range 2 {
		l, _ := r.Values()
		for i := range l {
			clear(append(l[i], "and more"...))
			clear(l[i][:cap(l[i])])
		}
		clear(append(l, nil)[:1])
		clear(l[:cap(l)])
		s := r.Stamps()
		clear(append(s, 7))
		clear(s[:cap(s)])
		holds(t, r, []string{"value of a", "value of b.o", "value of a"}, []int{3, 2, 3})
	}
	if !slices.Equal(all(f), was) {
		t.Error("a file was changed")
	}
	l, _ := r.Values()
	clear(l[0])
	if string(l[2]) != "value of a" {
		t.Error("two values share memory")
	}
}

// Rule 1: no value is an empty one.
func TestNilIsEmpty(t *testing.T) {
	for _, b := range [][]byte{nil, {}} {
		f := simf.New(wide)
		f.Put("a", b)
		f.Put("a.o", arti.Make(nil, b))
		r := sour.New([]string{"a", "a.o"}, made)
		steps(t, r, f, work(3, api.RAll)...)
		holds(t, r, []string{"", ""}, []int{1, 2})
	}
}

// Rule 3: two Reads have nothing in common.
func TestReadsAreApart(t *testing.T) {
	names := []string{"a", "b.o"}
	f := under(names...)
	x, y := sour.New(names, made), sour.New(names, made)
	steps(t, x, f, work(2)...)
	f.Put("a", []byte("edited"))
	steps(t, y, f, work(3, api.RAll)...)
	steps(t, x, f, work(2)...)
	f.Put("b.o", artifact("edited"))
	steps(t, x, f, work(2, api.RAll)...)
	holds(t, x, []string{"edited", "edited"}, []int{3, 4})
	holds(t, y, []string{"edited", "value of b.o"}, []int{3, 2})
}

// Promise 15.3: where made panics that does not get out, and nothing is told for a value.
func TestMadePanics(t *testing.T) {
	f := under("a", "b.o")
	for _, bad := range []any{"mine", fmt.Errorf("an error"), 7} {
		r := sour.New([]string{"a", "b.o"}, func(s string) bool {
			if s == "b.o" {
				panic(bad)
			}
			return false
		})
		steps(t, r, f, api.RWork, api.RBad, api.RBad)
	}
	r := sour.New([]string{"none"}, func(s string) bool { panic("mine") })
	steps(t, r, f, api.RNone, api.RNone)
}

// Very much input: many names, and long files.
func TestVeryMuch(t *testing.T) {
	f := under("a", "b.o")
	var names []string
	for i := range 50_000 {
		names = append(names, []string{"a", "b.o"}[i%2])
	}
	r := sour.New(names, made)
	n := 1
	for r.Step(f) == api.RWork {
		n++
	}
	l, ok := r.Values()
	if n != 100_000 || !ok || len(l) != 50_000 || len(r.Stamps()) != 50_000 || string(l[49_999]) != "value of b.o" {
		t.Error(n, len(l), ok)
	}
	f.Room(1 << 30)
	one := arti.Make(make([]byte, 4000), make([]byte, 256))
	f.Put("b.o", bytes.Repeat(one, 500))
	f.Put("a", make([]byte, 1<<25))
	steps(t, sour.New([]string{"b.o"}, made), f, api.RBad)
	steps(t, sour.New([]string{"a"}, made), f, api.RBad)
	f.Put("b.o", make([]byte, 1<<25))
	steps(t, sour.New([]string{"b.o"}, made), f, api.RBad)
}
