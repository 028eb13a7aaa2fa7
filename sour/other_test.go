package sour_test

import (
	"fmt"
	"iter"
	"slices"
	"strings"
	"testing"

	"fettle/acts"
	"fettle/api"
	"fettle/arti"
	"fettle/line"
	"fettle/prnt"
	"fettle/simf"
	"fettle/sour"
)

// told is what a Step tells, and the values and stamps behind it.
type told struct {
	what, names    int
	values, stamps string
}

// readOf follows the words of promise 15.1 from the first one to the last, and pauses behind each file call.
func readOf(f *simf.FS, names []string, made func(string) bool) iter.Seq[told] {
	return func(yield func(told) bool) {
	beginning:
		var values, stamps []string
		var read []int
		for _, s := range names {
			b, stamp, e := f.Read(s)
			if e != api.OK {
				yield(told{what: api.RNone})
				return
			}
			ok := true
			if made(s) {
				_, b, ok = arti.Open(b)
			}
			if !ok || len(b) > 256 {
				yield(told{what: api.RBad})
				return
			}
			values, stamps = append(values, fmt.Sprintf("%q", b)), append(stamps, fmt.Sprint(stamp))
			read = append(read, stamp)
			if !yield(told{}) {
				return
			}
		}
		for i, s := range names {
			if f.Stamp(s) != read[i] {
				if !yield(told{}) {
					return
				}
				goto beginning
			}
			if i < len(names)-1 && !yield(told{}) {
				return
			}
		}
		yield(told{api.RAll, len(names), strings.Join(values, " "), strings.Join(stamps, " ")})
	}
}

// pair is a Read beside the same by the words. Both go on the same files, for neither writes.
type pair struct {
	*sour.Read
	words func() told
}

// read tells a Read beside its words.
func read(t *testing.T, f *simf.FS, names []string, made func(string) bool) pair {
	next, stop := iter.Pull(readOf(f, names, made))
	t.Cleanup(stop)
	var last told
	return pair{sour.New(names, made), func() told {
		if last.what == api.RWork {
			last, _ = next()
		}
		return last
	}}
}

// step does a Step of both, asks that they tell the same and that nothing is written, and tells it.
func (x pair) step(t *testing.T, f *simf.FS) told {
	t.Helper()
	was := all(f)
	got := told{what: x.Step(f)}
	l, ok := x.Values()
	s := x.Stamps()
	var values, stamps []string
	for i := range l {
		values, stamps = append(values, fmt.Sprintf("%q", l[i])), append(stamps, fmt.Sprint(s[i]))
	}
	got.names, got.values, got.stamps = len(s), strings.Join(values, " "), strings.Join(stamps, " ")
	if want := x.words(); got != want || ok != (want.what == api.RAll) || len(l) != len(s) {
		t.Fatalf("told %v, %v; the words say %v", got, ok, want)
	}
	if !slices.Equal(all(f), was) {
		t.Fatal("it wrote")
	}
	return got
}

// dice is a row of numbers that look like chance, the same ones for the same seed.
type dice uint64

// roll tells the next one, below n.
func (d *dice) roll(n int) int {
	*d = *d*6364136223846793005 + 1442695040888963407
	return int(uint64(*d)>>33) % n
}

// one tells one of l.
func one[T any](d *dice, l ...T) T {
	return l[d.roll(len(l))]
}

// some tells n of l.
func some(d *dice, n int, l ...string) []string {
	var got []string
	for range n {
		got = append(got, one(d, l...))
	}
	return got
}

// Promises 15.1 and 15.3: whatever happens, each Step tells what its words say.
func TestAny(t *testing.T) {
	ends := map[int]int{}
	turned := 0
	for seed := range 400 {
		f, d := under("a", "b", "c", "a.o", "b.o", "c.o"), dice(seed)
		var running []pair
		for range 500 {
			switch n := d.roll(20); {
			case n < 2:
				s := some(&d, d.roll(5), "a", "b", "c", "a.o", "b.o", "c.o")
				if d.roll(20) == 0 {
					s = append(s, one(&d, "", "No name", "none", "none.o"))
				}
				running = append(running, read(t, f, s, made))
			case n < 18 && len(running) > 0:
				i := d.roll(min(len(running), 3))
				x := running[i].step(t, f)
				if x.what != api.RWork && d.roll(3) > 0 {
					running = slices.Delete(running, i, i+1)
					ends[x.what]++
				}
			default:
				disturb(&d, f)
				turned++
			}
		}
	}
	if ends[api.RAll] < 8000 || ends[api.RNone] < 2000 || ends[api.RBad] < 1000 || turned < 10_000 {
		t.Errorf("too little happened: ends %v, %d edits", ends, turned)
	}
}

// disturb does what others may do.
func disturb(d *dice, f *simf.FS) {
	s := one(d, "a", "b", "c", "a.o", "b.o", "c.o")
	switch n := d.roll(40); {
	case n < 25:
		f.Put(s, bytesOf(s, fmt.Sprint("value ", d.roll(1000))))
	case n < 30:
		b, _, _ := f.Read(s)
		f.Put(s, b)
	case n == 30:
		f.Drop(s, nil)
	case n == 31:
		f.Append(s, []byte("x"), nil)
	case n == 32:
		f.Put(s, make([]byte, 256+d.roll(2)))
	case n == 33:
		f.Move(s, one(d, "a", "a.o", "b", "b.o"), nil)
	case n == 34:
		f.Put(s, nil)
	default:
		f.Put("other", nil)
	}
}

// moments are what names were, one behind the other.
type moments struct {
	names []string
	l     []string
}

// add adds what they are.
func (m *moments) add(f *simf.FS) {
	values, stamps, _, end := now(f, m.names)
	m.l = append(m.l, fmt.Sprintf("%d %q %v", end, values, stamps))
}

// hold asks that what r tells was so at one of the moments from the place since on.
func (m *moments) hold(t *testing.T, r *sour.Read, since int) {
	t.Helper()
	l, _ := r.Values()
	if s := fmt.Sprintf("%d %q %v", api.RAll, l, r.Stamps()); !slices.Contains(m.l[since:], s) {
		t.Fatalf("told %s; there were %v", s, m.l[since:])
	}
}

// orders tells all orders in which hands that have so many Steps left each may go.
func orders(left ...int) iter.Seq[[]int] {
	var way []int
	var from func(yield func([]int) bool) bool
	from = func(yield func([]int) bool) bool {
		end := true
		for i := range left {
			if left[i] == 0 {
				continue
			}
			end = false
			left[i]--
			way = append(way, i)
			more := from(yield)
			way = way[:len(way)-1]
			left[i]++
			if !more {
				return false
			}
		}
		return !end || yield(way)
	}
	return func(yield func([]int) bool) { from(yield) }
}

// Promise 15.2: in all orders of a reader's Steps and others' edits, what is told was so at one moment behind New; an editor who turns one to and fro, or each in turn, is not taken for one who did nothing.
func TestW2InAllOrders(t *testing.T) {
	names := []string{"a", "b.o", "c"}
	put := func(s, value string) func(*simf.FS) {
		return func(f *simf.FS) { f.Put(s, bytesOf(s, value)) }
	}
	rows := map[string][]func(*simf.FS){
		"each in turn": {put("a", "1"), put("b.o", "1"), put("c", "1"), put("a", "2"), put("b.o", "2")},
		"backwards":    {put("c", "1"), put("b.o", "1"), put("a", "1"), put("c", "2"), put("b.o", "2")},
		"to and fro":   {put("a", "1"), put("c", "1"), put("a", "value of a"), put("c", "value of c"), put("a", "1")},
		"the same":     {put("b.o", "value of b.o"), put("a", "value of a"), put("b.o", "value of b.o"), put("c", "value of c"), put("a", "value of a")},
		"gone, back":   {put("c", "1"), func(f *simf.FS) { f.Drop("a", nil) }, put("a", "1"), func(f *simf.FS) { f.Drop("c", nil) }, put("c", "1")},
	}
	for what, row := range rows {
		turned := 0
		for way := range orders(12, len(row)) {
			f := under(names...)
			m := moments{names: names}
			m.add(f)
			r, edits, told, n := sour.New(names, made), row, api.RWork, 0
			for _, who := range way {
				if who == 1 {
					edits[0](f)
					edits = edits[1:]
					m.add(f)
				} else if told == api.RWork {
					told = r.Step(f)
					n++
				}
			}
			for told == api.RWork {
				told = r.Step(f)
				n++
			}
			if n > 6 {
				turned++
			}
			if told == api.RAll {
				if m.hold(t, r, 0); t.Failed() {
					t.Fatal(what, way)
				}
			} else if what != "gone, back" || told != api.RNone {
				t.Fatal(what, way, told)
			}
		}
		if turned < 1000 {
			t.Errorf("%s: too little happened: %d turned", what, turned)
		}
	}
}

// Promise 15.2: the moment is between the last Read and the first asking: what is told is of no moment ahead of the one, nor behind the other.
func TestMoment(t *testing.T) {
	names := []string{"a", "b.o", "c"}
	n := len(names)
	for turns := range 3 {
		f := under(names...)
		m := moments{names: names}
		r := sour.New(names, made)
		for i := range turns {
			steps(t, r, f, work(n)...)
			f.Put("a", []byte(fmt.Sprint("edit ", i)))
			steps(t, r, f, api.RWork)
		}
		steps(t, r, f, work(n)...)
		m.add(f)
		for _, s := range names {
			steps(t, r, f, map[bool]int{false: api.RWork, true: api.RAll}[s == "c"])
			f.Put(s, bytesOf(s, "edited behind"))
		}
		m.hold(t, r, 0)
	}
}

// Promises 15.1 and 15.2: however many edits there were, behind the last one a Read comes to its end by less than as many Steps as twice its names, twice.
func TestEndsBehindEdits(t *testing.T) {
	names := []string{"a", "b.o", "c", "d.o"}
	for seed := range 500 {
		f, d := under(names...), dice(seed)
		r := sour.New(names, made)
		for range d.roll(200) {
			if d.roll(3) == 0 {
				s := one(&d, names...)
				f.Put(s, bytesOf(s, fmt.Sprint(d.roll(100))))
			}
			r.Step(f)
		}
		n := 0
		for r.Step(f) == api.RWork {
			n++
		}
		if n >= 4*len(names) {
			t.Errorf("%d Steps behind the last edit", n+1)
		}
		_, ok := r.Values()
		if !ok {
			t.Error("not all were read")
		}
	}
}

// maker is a hand that makes a target of inputs again and again: it reads them, and moves there what comes of them, beside the print of it.
type maker struct {
	target string
	ins    []string
	do     []api.Do
	read   *sour.Read
	since  int
}

// step does the maker's next file call, or, where all are read, puts and moves the target; it tells whether it did that.
func (k *maker) step(t *testing.T, f *simf.FS, m *moments) bool {
	if k.read == nil {
		k.read, k.since = sour.New(k.ins, made), len(m.l)-1
	}
	switch k.read.Step(f) {
	case api.RWork:
		return false
	case api.RAll:
		m.hold(t, k.read, k.since)
		l, _ := k.read.Values()
		print := prnt.Print(k.do, l)
		if value, ok := prnt.Value(print); ok && len(value) <= 256 {
			f.Put("tmp/1.1.10", arti.Make(print, value))
			f.Move("tmp/1.1.10", k.target, nil)
			k.read = nil
			return true
		}
	}
	k.read = nil
	return false
}

// actOf tells the action that s says.
func actOf(t *testing.T, s string) []api.Do {
	lines, _ := line.Split([]byte(s))
	do, ok := acts.Parse(lines[0])
	if !ok {
		t.Fatal(s)
	}
	return do
}

// Promise 15.2 and W2: each thing that is moved to a target is what its print says: its action's value of inputs that were all so at one earlier moment, however they are edited, or made anew, meanwhile.
func TestW2(t *testing.T) {
	moved, seen := 0, 0
	for seed := range 100 {
		f, d := under("a", "b", "c"), dice(seed)
		x := []*maker{
			{target: "x.o", ins: []string{"a", "b"}, do: actOf(t, "all")},
			{target: "y.o", ins: []string{"b", "x.o", "c"}, do: actOf(t, "all ; rev")},
			{target: "z.o", ins: []string{"x.o", "y.o", "a"}, do: actOf(t, "all ; upper")},
		}
		ms := map[string]*moments{}
		for _, k := range x {
			ms[k.target] = &moments{names: k.ins}
		}
		written := true
		for range 1500 {
			for _, m := range ms {
				if written {
					m.add(f)
				}
			}
			if written = d.roll(8) == 0; written {
				f.Put(one(&d, "a", "b", "c"), []byte(fmt.Sprint(d.roll(50))))
				seen++
				continue
			}
			k := one(&d, x...)
			if written = k.step(t, f, ms[k.target]); written {
				moved++
				honest(t, f, k, ms[k.target])
			}
		}
	}
	if moved < 4000 || seen < 10_000 {
		t.Errorf("too little happened: %d moved, %d edits", moved, seen)
	}
}

// honest asks that the target of k is what its print says, of inputs that were so at one moment.
func honest(t *testing.T, f *simf.FS, k *maker, m *moments) {
	t.Helper()
	b, _, _ := f.Read(k.target)
	print, value, ok := arti.Open(b)
	want, is := prnt.Value(print)
	if !ok || !is || string(want) != string(value) {
		t.Fatalf("%s is %q, not %q", k.target, value, want)
	}
	do, in, _ := prnt.Parse(print)
	were := fmt.Sprintf("%d %q ", api.RAll, in)
	so := func(s string) bool { return strings.HasPrefix(s, were) }
	if !slices.Equal(do, k.do) || !slices.ContainsFunc(m.l, so) {
		t.Fatalf("%s is of %q, which were at no moment", k.target, in)
	}
}

// Promises 15.1 to 15.3: no call panics, and each Read tells what its words say, on any bytes, of any names, with an edit at any Step.
func FuzzAll(f *testing.F) {
	f.Add("a b.o", "a", []byte("one"), []byte("two"), 3, 0)
	f.Add("a b.o a", "b.o", artifact("one"), artifact("two"), 3, 1)
	f.Add("b.o No b.o", "b.o", artifact("one"), artifact("two")[1:], 0, 2)
	f.Add("", "a", []byte(nil), make([]byte, 257), 0, 3)
	f.Add("a", "a", []byte(nil), []byte(nil), 1, 0)
	f.Fuzz(func(t *testing.T, text, edited string, b, later []byte, at, how int) {
		files := simf.New(wide)
		names := strings.Split(text, " ")
		for _, s := range names {
			files.Put(s, b)
		}
		isMade := func(s string) bool { return how&1 == 0 && made(s) || how&4 == 4 }
		x := read(t, files, names, isMade)
		var end told
		for i := range 4*len(names) + 1 {
			if i == at {
				if how&2 == 0 {
					files.Put(edited, later)
				} else {
					files.Drop(edited, nil)
				}
			}
			end = x.step(t, files)
		}
		if end.what == api.RWork || x.step(t, files) != end {
			t.Fatal("no end")
		}
	})
}
