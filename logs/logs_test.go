package logs_test

import (
	"bytes"
	"math"
	"slices"
	"strings"
	"testing"

	"fettle/api"
	"fettle/fram"
	"fettle/logs"
	"fettle/name"
	"fettle/reco"
	"fettle/simf"
)

const (
	// far is the greatest number of a record.
	far = 1 << 40
	// wide is room enough.
	wide = 1 << 20
	// temp is a temp as comm has it.
	temp = "tmp/1.2.2"
)

// done tells a commit to s.
func done(s string) api.Done {
	return api.Done{Target: s, Who: 1, Inc: 2, Print: []byte("print of " + s)}
}

// row tells a trace of commits to l.
func row(l ...string) []byte {
	var b []byte
	for _, s := range l {
		b = fram.Put(b, reco.Done(done(s)))
	}
	return b
}

// under tells files with the log's lock, whose guard it tells, and with a trace of b.
func under(b []byte) (*simf.FS, api.Guard) {
	f, g := bare()
	f.Put("trace", b)
	return f, g
}

// bare tells files with the log's lock, and without a trace.
func bare() (*simf.FS, api.Guard) {
	f := simf.New(wide)
	f.Put("a", []byte("a target"))
	s, _ := f.Make("lock/log", []byte("held"))
	return f, api.Guard{Name: "lock/log", Stamp: s}
}

// file is a file as it stands.
type file struct {
	name, bytes string
	stamp       int
}

// all tells all files of the folders that these tests know.
func all(f *simf.FS) []file {
	var l []file
	for _, dir := range []string{"", "lock", "tmp"} {
		for _, s := range f.List(dir) {
			b, stamp, _ := f.Read(s)
			l = append(l, file{s, string(b), stamp})
		}
	}
	return l
}

// steps does x's Steps, each of which is to tell the next of want. Only behind one that tells THeld there is a trace.
func steps(t *testing.T, x *logs.Fix, f *simf.FS, want ...int) {
	t.Helper()
	for i, w := range want {
		if got := x.Step(f); got != w {
			t.Errorf("Step %d tells %d, not %d", i+1, got, w)
		}
		if g, ok := x.Trace(); ok != (w == api.THeld) || !ok && g != (api.Guard{}) {
			t.Errorf("behind Step %d: %v, %v", i+1, g, ok)
		}
	}
}

// stays asks that x tells want again and leaves all files as they are.
func stays(t *testing.T, x *logs.Fix, f *simf.FS, want int) {
	t.Helper()
	was := all(f)
	g, ok := x.Trace()
	for range 3 {
		steps(t, x, f, want)
		if !slices.Equal(all(f), was) {
			t.Error("a call was made behind the end")
		}
		if g2, ok2 := x.Trace(); g2 != g || ok2 != ok {
			t.Error("the trace is another one behind the end")
		}
	}
}

// holds asks that the trace is of b, with that stamp, and is what x tells; and that no temp is left.
func holds(t *testing.T, x *logs.Fix, f *simf.FS, b []byte, stamp int) {
	t.Helper()
	got, s, e := f.Read("trace")
	if e != api.OK || !bytes.Equal(got, b) || s != stamp {
		t.Errorf("the trace is %q with stamp %d (%d), not %q with %d", got, s, e, b, stamp)
	}
	if g, ok := x.Trace(); !ok || g != (api.Guard{Name: "trace", Stamp: stamp}) {
		t.Errorf("told: %v, %v", g, ok)
	}
	if len(f.List("tmp")) != 0 {
		t.Error("a temp is left")
	}
}

// Promise 14.1 and the chapter's example: a new one has no trace.
func TestNew(t *testing.T) {
	if g, ok := logs.New(api.Guard{Name: "lock/log", Stamp: 1}, temp).Trace(); ok || g != (api.Guard{}) {
		t.Error(g, ok)
	}
}

// Promise 14.1: where there is none an empty one is put aside, then moved, each by a Step.
func TestFixOfNone(t *testing.T) {
	f, g := bare()
	was := all(f)
	x := logs.New(g, temp)
	steps(t, x, f, api.TWork)
	if !slices.Equal(all(f), was) {
		t.Error("the reading Step wrote")
	}
	steps(t, x, f, api.TWork)
	if b, s, e := f.Read(temp); e != api.OK || len(b) != 0 || s != 3 || len(all(f)) != len(was)+1 {
		t.Error(b, s, e)
	}
	steps(t, x, f, api.THeld)
	holds(t, x, f, nil, 4)
	stays(t, x, f, api.THeld)
	f.Drop("trace", nil)
	stays(t, x, f, api.THeld)
}

// Promise 14.1: a whole one is held at once, as it is: an empty one, too.
func TestFixOfWhole(t *testing.T) {
	for _, b := range [][]byte{nil, row("a"), row("a", "b", "c"), row("a", "a")} {
		f, g := under(b)
		was := all(f)
		x := logs.New(g, temp)
		steps(t, x, f, api.THeld)
		holds(t, x, f, b, 3)
		if !slices.Equal(all(f), was) {
			t.Error("it was written")
		}
		f.Append("trace", []byte("x"), nil)
		stays(t, x, f, api.THeld)
	}
}

// Promise 14.1: a whole one is held though the lock be lost by then: what was read is no less whole, and who writes is guarded.
func TestFixOfWholeWithoutLock(t *testing.T) {
	f, g := under(row("a"))
	f.Put("lock/log", []byte("another's"))
	x := logs.New(g, temp)
	steps(t, x, f, api.THeld)
	holds(t, x, f, row("a"), 3)
}

// Promises 14.1 and 14.2: wherever it is cut off, what stands ahead of the cut stays, by three Steps.
func TestFixOfCut(t *testing.T) {
	whole := row("a", "b", "c")
	ends := []int{0, len(row("a")), len(row("a", "b")), len(whole)}
	for n := range whole {
		if slices.Contains(ends, n) {
			continue
		}
		i, _ := slices.BinarySearch(ends, n)
		stands := whole[:ends[i-1]]
		f, g := under(whole[:n])
		x := logs.New(g, temp)
		was := all(f)
		steps(t, x, f, api.TWork)
		if !slices.Equal(all(f), was) {
			t.Error("the reading Step wrote")
		}
		steps(t, x, f, api.TWork)
		if b, _, e := f.Read(temp); e != api.OK || !bytes.Equal(b, stands) || f.Stamp("trace") != 3 {
			t.Errorf("cut at %d: %q aside", n, b)
		}
		steps(t, x, f, api.THeld)
		holds(t, x, f, stands, 5)
		stays(t, x, f, api.THeld)
		y := logs.New(g, temp)
		steps(t, y, f, api.THeld)
		holds(t, y, f, stands, 5)
	}
}

// Promise 14.1 and W5: of any bytes that are no commits, what stands ahead of them stays.
func TestFixOfNoTrace(t *testing.T) {
	two := row("a", "b")
	torn := row("c")
	torn[3] ^= 1
	for what, rest := range map[string][]byte{
		"text":                  []byte("told by 1"),
		"a zero":                {0},
		"a torn frame":          torn,
		"a torn one, then one":  append(slices.Clone(torn), row("d")...),
		"a frame of none":       fram.Put(nil, nil),
		"a frame of something":  fram.Put(nil, []byte("something")),
		"that, then one":        append(fram.Put(nil, []byte("something")), row("d")...),
		"a lock":                reco.Lock(api.Lock{Who: 1}),
		"a frame that is wide":  fram.Put(nil, bytes.Repeat([]byte("w"), 10_001)),
		"a commit and one byte": fram.Put(nil, append(reco.Done(done("c")), 0)),
		"a bare commit":         reco.Done(done("c")),
	} {
		for _, stands := range [][]byte{nil, two} {
			f, g := under(append(slices.Clone(stands), rest...))
			x := logs.New(g, temp)
			steps(t, x, f, api.TWork, api.TWork, api.THeld)
			if holds(t, x, f, stands, 5); t.Failed() {
				t.Fatal(what)
			}
		}
	}
}

// Promise 14.1 and W3: a changed bit ends it at the commit that has it.
func TestFixOfChanged(t *testing.T) {
	whole := row("a", "b", "c")
	ends := []int{len(row("a")), len(row("a", "b")), len(whole)}
	for i := range len(whole) * 8 {
		b := slices.Clone(whole)
		b[i/8] ^= 1 << (i % 8)
		stands := 0
		for _, end := range ends {
			if end <= i/8 {
				stands = end
			}
		}
		f, g := under(b)
		x := logs.New(g, temp)
		steps(t, x, f, api.TWork, api.TWork, api.THeld)
		holds(t, x, f, whole[:stands], 5)
	}
}

// Promise 14.1: where the lock was lost, or the trace written, or the temp swept, since the reading, the temp is dropped by a Step more, the trace stays, and somebody was ahead.
func TestFixWasLate(t *testing.T) {
	torn := append(row("a", "b"), "torn"...)
	for what, meanwhile := range map[string]func(f *simf.FS){
		"lock of others":      func(f *simf.FS) { f.Put("lock/log", []byte("another's")) },
		"lock of same bytes":  func(f *simf.FS) { f.Put("lock/log", []byte("held")) },
		"lock gone":           func(f *simf.FS) { f.Drop("lock/log", nil) },
		"lock gone and back":  func(f *simf.FS) { f.Drop("lock/log", nil); f.Make("lock/log", []byte("held")) },
		"trace longer":        func(f *simf.FS) { f.Append("trace", []byte("er"), nil) },
		"trace of same bytes": func(f *simf.FS) { f.Put("trace", torn) },
		"trace gone":          func(f *simf.FS) { f.Drop("trace", nil) },
		"temp gone":           func(f *simf.FS) { f.Drop(temp, nil) },
		"all gone":            func(f *simf.FS) { f.Drop(temp, nil); f.Drop("trace", nil); f.Drop("lock/log", nil) },
	} {
		for at := 1; at <= 2; at++ {
			if strings.HasPrefix(what, "temp") && at == 1 {
				continue
			}
			f, g := under(torn)
			x := logs.New(g, temp)
			steps(t, x, f, []int{api.TWork, api.TWork}[:at]...)
			meanwhile(f)
			steps(t, x, f, []int{api.TWork, api.TWork}[at:]...)
			was := all(f)
			steps(t, x, f, api.TWork)
			if !slices.Equal(all(f), was) {
				t.Errorf("%s: it was moved, or dropped at once", what)
			}
			f.Drop(temp, nil)
			was = all(f)
			steps(t, x, f, api.TBusy)
			if !slices.Equal(all(f), was) {
				t.Errorf("%s: more was done than the drop", what)
			}
			stays(t, x, f, api.TBusy)
		}
	}
}

// Promise 14.1: the Drop is a Step of its own, that takes the temp away.
func TestFixDrops(t *testing.T) {
	f, g := under([]byte("torn"))
	x := logs.New(api.Guard{Name: g.Name, Stamp: g.Stamp + 1}, temp)
	steps(t, x, f, api.TWork, api.TWork, api.TWork)
	if !slices.Equal(f.List("tmp"), []string{temp}) {
		t.Error(f.List("tmp"))
	}
	steps(t, x, f, api.TBusy)
	if len(f.List("tmp")) != 0 || f.Stamp("trace") != 3 {
		t.Error(all(f))
	}
}

// Promise 14.1: where there was none, the lock alone guards the move: who lost it makes none.
func TestFixOfNoneGuards(t *testing.T) {
	f, g := bare()
	x := logs.New(g, temp)
	steps(t, x, f, api.TWork, api.TWork)
	f.Put("lock/log", []byte("another's"))
	steps(t, x, f, api.TWork, api.TBusy)
	if f.Stamp("trace") != 0 || len(f.List("tmp")) != 0 {
		t.Error(all(f))
	}
	stays(t, x, f, api.TBusy)

	f, g = bare()
	x = logs.New(g, temp)
	steps(t, x, f, api.TWork, api.TWork)
	f.Put("trace", []byte("by one without the lock"))
	steps(t, x, f, api.THeld)
	holds(t, x, f, nil, 5)
}

// Promise 14.1: without room nothing is put, and the trace stays; what needs no room is done all the same.
func TestFixWithoutRoom(t *testing.T) {
	torn := append(row("a", "b"), "torn"...)
	for _, room := range []int{0, 1, len(torn)} {
		f, g := under(torn)
		f.Room(room)
		was := all(f)
		x := logs.New(g, temp)
		steps(t, x, f, api.TWork, api.TSpace)
		if !slices.Equal(all(f), was) {
			t.Error("it was written")
		}
		f.Room(wide)
		stays(t, x, f, api.TSpace)
	}
	f, g := under(torn)
	f.Room(f.Used() + len(row("a", "b")))
	steps(t, logs.New(g, temp), f, api.TWork, api.TWork, api.THeld)
	f, g = under(torn)
	f.Room(f.Used() + len(row("a", "b")) - 1)
	steps(t, logs.New(g, temp), f, api.TWork, api.TSpace)

	f, g = under(row("a"))
	f.Room(0)
	steps(t, logs.New(g, temp), f, api.THeld)
	f, g = bare()
	f.Room(0)
	steps(t, logs.New(g, temp), f, api.TWork, api.TWork, api.THeld)
	f, g = under([]byte("torn"))
	f.Room(0)
	steps(t, logs.New(g, temp), f, api.TWork, api.TWork, api.THeld)
}

// Promise 14.1: a temp that was left by a killed one is written over.
func TestFixOverTemp(t *testing.T) {
	f, g := under([]byte("torn"))
	f.Put(temp, []byte("left"))
	x := logs.New(g, temp)
	steps(t, x, f, api.TWork, api.TWork, api.THeld)
	holds(t, x, f, nil, 6)
}

// Promises 14.1 and 14.3: what is handed in may be wrong: without a lock, or with a temp that is no file's name, nothing is moved.
func TestFixOfWrong(t *testing.T) {
	for _, g := range []api.Guard{{}, {Name: "lock/log"}, {Name: "No name", Stamp: 1}, {Name: "lock/log", Stamp: math.MinInt}, {Name: "lock/log", Stamp: math.MaxInt}, {Name: "none", Stamp: 2}} {
		f, _ := under([]byte("torn"))
		was := all(f)
		x := logs.New(g, temp)
		steps(t, x, f, api.TWork, api.TWork, api.TWork, api.TBusy)
		if !slices.Equal(all(f), was) {
			t.Error(g, all(f))
		}
	}
	for _, s := range []string{"", "No name", "tmp/", "tmp/1.1.1/2", strings.Repeat("x", 17), "\xff"} {
		f, g := under([]byte("torn"))
		was := all(f)
		x := logs.New(g, s)
		steps(t, x, f, api.TWork, api.TWork, api.TWork, api.TBusy)
		if !slices.Equal(all(f), was) {
			t.Error(s, all(f))
		}
		f, g = under(row("a"))
		steps(t, logs.New(g, s), f, api.THeld)
	}
}

// Promise 14.1: a commit is told behind those that are there, and the trace's new stamp is told.
func TestTell(t *testing.T) {
	f, g := bare()
	guards := []api.Guard{g}
	var want []string
	for i, s := range []string{"a", "b.o", "a", strings.Repeat("n", 16)} {
		stamp, e := logs.Tell(f, done(s), guards)
		want = append(want, s)
		b, at, _ := f.Read("trace")
		if e != api.OK || stamp != 3+i || at != stamp || !bytes.Equal(b, row(want...)) {
			t.Errorf("%d, %d: %q", stamp, e, b)
		}
		guards = []api.Guard{g, {Name: "trace", Stamp: stamp}}
	}
	if len(all(f)) != 3 {
		t.Error("more was written than the trace")
	}
}

// Promise 14.1: Tell writes all of the commit: reco.Trace tells it again.
func TestTellWritesAll(t *testing.T) {
	f := simf.New(wide)
	var want []api.Done
	for _, d := range []api.Done{{Target: "a"}, {Target: "b", Who: far, Inc: far, Print: bytes.Repeat([]byte("p"), 4000)}, {Target: "-", Who: 1}, {Target: ".", Inc: 1, Print: []byte{0}}} {
		if _, e := logs.Tell(f, d, nil); e != api.OK {
			t.Error(d, e)
		}
		want = append(want, d)
	}
	b, _, _ := f.Read("trace")
	got, end := reco.Trace(b)
	if end != len(b) || !slices.EqualFunc(got, want, same) {
		t.Error(got)
	}
}

// same tells whether two commits are the same.
func same(a, b api.Done) bool {
	return a.Target == b.Target && a.Who == b.Who && a.Inc == b.Inc && bytes.Equal(a.Print, b.Print)
}

// Promise 14.1: of a Done that is none nothing is written, whatever else is wrong, and a Cut waits for the next one.
func TestTellOfNone(t *testing.T) {
	for _, d := range []api.Done{
		{},
		{Target: "A"},
		{Target: "lock/log"},
		{Target: strings.Repeat("n", 17)},
		{Target: "a", Who: -1},
		{Target: "a", Who: far + 1},
		{Target: "a", Inc: -1},
		{Target: "a", Inc: math.MaxInt},
		{Target: "a", Who: math.MinInt},
		{Target: "a", Print: make([]byte, 4001)},
	} {
		f, g := under(row("a"))
		was := all(f)
		for _, l := range [][]api.Guard{nil, {}, {g}, {{Name: "none", Stamp: 1}}, {{Name: "No name"}}} {
			if s, e := logs.Tell(f, d, l); s != 0 || e != api.ErrBad {
				t.Errorf("%v: %d, %d", d, s, e)
			}
		}
		f.Room(0)
		f.Cut(1)
		if s, e := logs.Tell(f, d, nil); s != 0 || e != api.ErrBad {
			t.Errorf("%v: %d, %d", d, s, e)
		}
		if !slices.Equal(all(f), was) {
			t.Error("it was written")
		}
		if _, e := logs.Tell(f, done("b"), nil); e != api.ErrDead {
			t.Error("the Cut was used up")
		}
	}
}

// Promise 14.1: all guards are to hold; else nothing is written, and a Cut waits.
func TestTellGuarded(t *testing.T) {
	f, g := under(row("a"))
	trace := api.Guard{Name: "trace", Stamp: 3}
	was := all(f)
	f.Cut(0)
	for _, l := range [][]api.Guard{
		{{Name: "lock/log", Stamp: 1}},
		{{Name: "lock/log"}},
		{g, {Name: "trace", Stamp: 2}},
		{{Name: "trace", Stamp: 4}, g},
		{g, trace, {Name: "none", Stamp: 1}},
		{{Name: "none"}, g, trace},
	} {
		if s, e := logs.Tell(f, done("b"), l); s != 0 || e != api.ErrGuard {
			t.Errorf("%v: %d, %d", l, s, e)
		}
	}
	if s, e := logs.Tell(f, done("b"), []api.Guard{{Name: "No name"}, g}); s != 0 || e != api.ErrGuard && e != api.ErrName {
		t.Error(s, e)
	}
	if !slices.Equal(all(f), was) {
		t.Error("it was written")
	}
	if _, e := logs.Tell(f, done("b"), []api.Guard{g, trace}); e != api.ErrDead {
		t.Error(e)
	}
	if s, e := logs.Tell(f, done("b"), []api.Guard{g, trace, g}); s != 4 || e != api.OK {
		t.Error(s, e)
	}
}

// Promises 14.1 and 14.2: a teller that is killed in the middle, or has no room, leaves what went in; the Fix of the next one takes just that away.
func TestTellCutOff(t *testing.T) {
	whole := row("a", "b")
	ahead := len(row("a"))
	for n := range len(whole) - ahead + 1 {
		for _, how := range []api.Errno{api.ErrDead, api.ErrSpace} {
			f, g := under(row("a"))
			if how == api.ErrDead {
				f.Cut(n)
			} else if f.Room(f.Used() + n); n == len(whole)-ahead {
				continue
			}
			if s, e := logs.Tell(f, done("b"), []api.Guard{g}); s != 0 || e != how {
				t.Errorf("%d, %d at %d", s, e, n)
			}
			f.Room(wide)
			if b, _, _ := f.Read("trace"); !bytes.Equal(b, whole[:ahead+n]) {
				t.Errorf("%d bytes at %d", len(b), n)
			}
			x := logs.New(g, temp)
			told := x.Step(f)
			for told == api.TWork {
				told = x.Step(f)
			}
			at, _ := x.Trace()
			_, e := logs.Tell(f, done("c"), []api.Guard{g, at})
			want := row("a", "c")
			if n == len(whole)-ahead {
				want = row("a", "b", "c")
			}
			if b, _, _ := f.Read("trace"); told != api.THeld || e != api.OK || !bytes.Equal(b, want) {
				t.Errorf("at %d: %d, %d, %q", n, told, e, b)
			}
		}
	}
}

// Rule 1: no Print is an empty one, and no guards are an empty list.
func TestNilIsEmpty(t *testing.T) {
	var got [4]string
	for i := range got {
		d, l := api.Done{Target: "a"}, []api.Guard(nil)
		if i&1 == 1 {
			d.Print = []byte{}
		}
		if i&2 == 2 {
			l = []api.Guard{}
		}
		f := simf.New(wide)
		if s, e := logs.Tell(f, d, l); s != 1 || e != api.OK {
			t.Error(s, e)
		}
		b, _, _ := f.Read("trace")
		got[i] = string(b)
	}
	if got[0] == "" || got[1] != got[0] || got[2] != got[0] || got[3] != got[0] {
		t.Errorf("%q", got)
	}
}

// Rule 3: what Tell is handed is left, the spare room behind it too, and is not kept: what is changed behind it changes nothing.
func TestTellLeaves(t *testing.T) {
	f, g := bare()
	print := []byte("printspare")
	guards := []api.Guard{g, {Name: "spare", Stamp: 7}}
	d := api.Done{Target: "a", Who: 1, Inc: 2, Print: print[:5]}
	if _, e := logs.Tell(f, d, guards[:1]); e != api.OK {
		t.Error(e)
	}
	if string(print) != "printspare" || !slices.Equal(guards, []api.Guard{g, {Name: "spare", Stamp: 7}}) {
		t.Error("it was changed")
	}
	was := all(f)
	clear(print)
	if !slices.Equal(all(f), was) {
		t.Error("it was kept")
	}
}

// Rule 3: two Fixes have nothing in common, and one that is copied goes on as it was.
func TestFixesAreApart(t *testing.T) {
	f, g := under(append(row("a"), "torn"...))
	x, y := logs.New(g, temp), logs.New(g, name.Temp(1, 2, 3))
	steps(t, x, f, api.TWork, api.TWork)
	was := *x
	steps(t, x, f, api.THeld)
	holds(t, x, f, row("a"), 5)
	if _, ok := was.Trace(); ok {
		t.Error("the copy is held")
	}
	steps(t, y, f, api.THeld)
	f.Put(temp, []byte("x"))
	steps(t, &was, f, api.TWork, api.TBusy)
}

// Promise 14.1: of the same trace two hands that go at once are one behind the other: one is late.
func TestTwoAtOnce(t *testing.T) {
	f, g := under(append(row("a"), "torn"...))
	x, y := logs.New(g, temp), logs.New(g, name.Temp(2, 2, 2))
	steps(t, x, f, api.TWork)
	steps(t, y, f, api.TWork, api.TWork, api.THeld)
	at := f.Stamp("trace")
	steps(t, x, f, api.TWork, api.TWork, api.TBusy)
	holds(t, y, f, row("a"), at)
}

// Very much input: a long trace is made whole, and of a long row of nothing nothing stands.
func TestVeryMuch(t *testing.T) {
	one := fram.Put(nil, reco.Done(api.Done{Target: "a", Print: bytes.Repeat([]byte("p"), 4000)}))
	long := bytes.Repeat(one, 500)
	short := bytes.Repeat(row("a"), 20_000)
	for _, x := range []struct{ stands, rest []byte }{{long, one[:100]}, {short, []byte("x")}, {nil, make([]byte, 1<<20)}, {long, fram.Put(nil, bytes.Repeat([]byte("w"), 1<<20))}} {
		f, g := bare()
		f.Room(1 << 30)
		f.Put("trace", append(slices.Clone(x.stands), x.rest...))
		fix := logs.New(g, temp)
		steps(t, fix, f, api.TWork, api.TWork, api.THeld)
		b, _, _ := f.Read("trace")
		if !bytes.Equal(b, x.stands) {
			t.Error(len(b), len(x.stands))
		}
	}
}
