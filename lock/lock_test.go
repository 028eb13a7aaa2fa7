package lock_test

import (
	"bytes"
	"math"
	"slices"
	"testing"

	"fettle/api"
	"fettle/lock"
	"fettle/name"
	"fettle/reco"
	"fettle/simf"
)

// far is the greatest number of a record.
const far = 1 << 40

// wide is room enough.
const wide = 1 << 20

// stepper is a Take or a Write, at the time that its clock tells.
type stepper interface {
	step(f *simf.FS) int
	Held() (api.Guard, api.Lock, bool)
}

// take is a Take beside the clock that it goes by.
type take struct {
	*lock.Take
	now *int
}

func (x take) step(f *simf.FS) int { return x.Step(f, *x.now) }

// write is a Write, that goes by no clock.
type write struct{ *lock.Write }

func (x write) step(f *simf.FS) int { return x.Step(f) }

// at tells a Take whose Steps are all done at now.
func at(now int, x *lock.Take) take {
	return take{x, &now}
}

// steps does x's Steps, each of which is to tell the next of want.
func steps(t *testing.T, x stepper, f *simf.FS, want ...int) {
	t.Helper()
	for i, w := range want {
		if got := x.step(f); got != w {
			t.Errorf("Step %d tells %d, not %d", i+1, got, w)
		}
	}
}

// held tells what x holds, which is to be something.
func held(t *testing.T, x stepper) (api.Guard, api.Lock) {
	t.Helper()
	g, l, ok := x.Held()
	if !ok {
		t.Error("nothing is held")
	}
	return g, l
}

// unheld asks that x holds nothing.
func unheld(t *testing.T, x stepper) {
	t.Helper()
	if g, l, ok := x.Held(); ok || g != (api.Guard{}) || l != (api.Lock{}) {
		t.Errorf("held: %v, %v, %v", g, l, ok)
	}
}

// file is a file as it stands.
type file struct {
	name, bytes string
	stamp       int
}

// all tells all files of the folders that these tests know.
func all(f *simf.FS) []file {
	var l []file
	for _, dir := range []string{"", "lock", "claim", "tmp"} {
		for _, s := range f.List(dir) {
			b, stamp, _ := f.Read(s)
			l = append(l, file{s, string(b), stamp})
		}
	}
	return l
}

// stays asks that x tells want again and leaves all files as they are.
func stays(t *testing.T, x stepper, f *simf.FS, want int) {
	t.Helper()
	was := all(f)
	g, l, ok := x.Held()
	for range 3 {
		steps(t, x, f, want)
		if !slices.Equal(all(f), was) {
			t.Error("a call was made behind the end")
		}
		if g2, l2, ok2 := x.Held(); g2 != g || l2 != l || ok2 != ok {
			t.Error("what is held is another one behind the end")
		}
	}
}

// on tells files with room enough, of which c is one of l.
func on(l api.Lock) *simf.FS {
	f := simf.New(wide)
	f.Put("c", reco.Lock(l))
	return f
}

// lockIn tells the lock that a file is.
func lockIn(t *testing.T, f *simf.FS, s string) api.Lock {
	t.Helper()
	b, _, e := f.Read(s)
	l, ok := reco.OpenLock(b)
	if e != api.OK || !ok {
		t.Errorf("%s is no lock", s)
	}
	return l
}

// Promise 13.1: what a lock is for somebody, at the edges of each case.
func TestLook(t *testing.T) {
	l := api.Lock{Who: 3, Inc: 5, Epoch: 7, Until: 20}
	for _, x := range []struct {
		what          string
		who, inc, now int
		want          int
	}{
		{"its own", 3, 5, 0, api.LMine},
		{"its own, to the last", 3, 5, 19, api.LMine},
		{"its own, over", 3, 5, 20, api.LOpen},
		{"its own, long over", 3, 5, math.MaxInt, api.LOpen},
		{"its own, long ahead", 3, 5, math.MinInt, api.LMine},
		{"that of its elder", 3, 6, 0, api.LOpen},
		{"that of its eldest", 3, math.MaxInt, 19, api.LOpen},
		{"that of its younger", 3, 4, 19, api.LBusy},
		{"that of its younger, over", 3, 4, 20, api.LOpen},
		{"another's", 2, 5, 19, api.LBusy},
		{"another's of a lower inc", 4, 9, 0, api.LBusy},
		{"another's, over", 2, 5, 20, api.LOpen},
		{"another's, long over", 4, 1, 21, api.LOpen},
		{"another's, long ahead", 4, 1, -1, api.LBusy},
	} {
		if got, what := lock.Look(reco.Lock(l), x.who, x.inc, x.now); got != l || what != x.want {
			t.Errorf("%s: %v, %d", x.what, got, what)
		}
	}
}

// Promise 13.1: a lock of the last epoch is bad, whosever it is, and told all the same; that of the one ahead is as any other.
func TestLastEpoch(t *testing.T) {
	for _, until := range []int{0, 10, 20, far} {
		l := api.Lock{Who: 1, Inc: 2, Epoch: far, Until: until}
		for who := range 3 {
			for inc := range 4 {
				if got, what := lock.Look(reco.Lock(l), who, inc, 10); got != l || what != api.LBad {
					t.Errorf("%v: %v, %d", l, got, what)
				}
			}
		}
	}
	l := api.Lock{Who: 1, Inc: 2, Epoch: far - 1, Until: 20}
	for want, x := range map[int][3]int{api.LMine: {1, 2, 19}, api.LOpen: {1, 3, 19}, api.LBusy: {2, 2, 19}} {
		if got, what := lock.Look(reco.Lock(l), x[0], x[1], x[2]); got != l || what != want {
			t.Errorf("%v: %v, %d", x, got, what)
		}
	}
}

// Promise 13.1, rule 4 and W5: of what is no lock none is told: nothing, a cut, a changed bit, more behind.
func TestLookAtNoLock(t *testing.T) {
	b := reco.Lock(api.Lock{Who: 1, Inc: 2, Epoch: 3, Until: 4})
	bad := func(what string, b []byte) {
		if l, n := lock.Look(b, 1, 2, 0); l != (api.Lock{}) || n != api.LBad {
			t.Errorf("%s: %v, %d", what, l, n)
		}
	}
	bad("nil", nil)
	bad("empty", []byte{})
	bad("text", []byte("held by 1"))
	bad("more behind", append(slices.Clone(b), 0))
	bad("two", append(slices.Clone(b), b...))
	for i := range b {
		bad("cut", b[:i])
		bad("without its first", b[i+1:])
	}
	for i := range len(b) * 8 {
		x := slices.Clone(b)
		x[i/8] ^= 1 << (i % 8)
		bad("changed", x)
	}
	bad("very much", bytes.Repeat(b, 1<<15))
}

// Rule 3: Look leaves what it is handed, the spare room behind it too.
func TestLookLeaves(t *testing.T) {
	b := append(reco.Lock(api.Lock{Who: 1, Until: 9}), "spare"...)
	was := slices.Clone(b)
	part := b[:len(b)-5]
	lock.Look(part, 1, 0, 0)
	lock.Look(b, 1, 0, 0)
	if !bytes.Equal(b, was) {
		t.Error("it was changed")
	}
}

// Promise 13.2: where there is none it is made, without a temp, by two Steps: of epoch 1, from the second Step on.
func TestTakeOfNone(t *testing.T) {
	f, now := simf.New(wide), 5
	f.Put("other", nil)
	x := take{lock.New("lock/log", 2, 6, 1, 10), &now}
	unheld(t, x)
	steps(t, x, f, api.TWork)
	unheld(t, x)
	if len(all(f)) != 1 {
		t.Error("the reading Step wrote")
	}
	now = 8
	steps(t, x, f, api.THeld)
	g, l := held(t, x)
	want := api.Lock{Who: 2, Inc: 6, Epoch: 1, Until: 18}
	if g != (api.Guard{Name: "lock/log", Stamp: 2}) || l != want || lockIn(t, f, "lock/log") != want || len(all(f)) != 2 {
		t.Error(g, l, all(f))
	}
	stays(t, x, f, api.THeld)
}

// Promise 13.2: who comes behind one that made it meanwhile has nothing, though it be the same one.
func TestTakeOfNoneAnyMore(t *testing.T) {
	for who := 1; who <= 2; who++ {
		f := simf.New(wide)
		x := at(0, lock.New("c", who, 1, 1, 10))
		steps(t, x, f, api.TWork)
		f.Make("c", reco.Lock(api.Lock{Who: 1, Inc: 1, Epoch: 1, Until: 10}))
		was := all(f)
		steps(t, x, f, api.TBusy)
		unheld(t, x)
		if !slices.Equal(all(f), was) {
			t.Error("it was written over")
		}
		f.Drop("c", nil)
		stays(t, x, f, api.TBusy)
	}
}

// Promise 13.2: one's own is held at once, as it is: neither its epoch nor its end is another one.
func TestTakeOfMine(t *testing.T) {
	l := api.Lock{Who: 1, Inc: 2, Epoch: 9, Until: 20}
	f := on(l)
	was := all(f)
	x := at(19, lock.New("c", 1, 2, 3, 500))
	steps(t, x, f, api.THeld)
	if g, got := held(t, x); g != (api.Guard{Name: "c", Stamp: 1}) || got != l || !slices.Equal(all(f), was) {
		t.Error(g, got)
	}
	stays(t, x, f, api.THeld)
}

// Promise 13.2: another's is left, however often it is asked.
func TestTakeOfBusy(t *testing.T) {
	for _, x := range []stepper{at(19, lock.New("c", 2, 2, 3, 10)), at(0, lock.New("c", 1, 1, 3, 10)), at(19, lock.New("c", 0, 9, 3, 10))} {
		f := on(api.Lock{Who: 1, Inc: 2, Epoch: 9, Until: 20})
		was := all(f)
		steps(t, x, f, api.TBusy)
		unheld(t, x)
		if !slices.Equal(all(f), was) {
			t.Error("it was written")
		}
		f.Put("c", reco.Lock(api.Lock{}))
		stays(t, x, f, api.TBusy)
	}
}

// Promise 13.2: an open one is written aside, then moved, each by a Step; its epoch is the next one, and it ends a lease behind the Step that wrote it.
func TestTakeOfOpen(t *testing.T) {
	for _, was := range []api.Lock{{}, {Who: 1, Inc: 9, Epoch: 3, Until: 30}, {Who: 2, Inc: 3, Epoch: 4, Until: far}, {Who: 2, Inc: 4, Epoch: far - 1, Until: 30}} {
		f, now := on(was), 30
		x := take{lock.New("c", 2, 4, 5, 10), &now}
		steps(t, x, f, api.TWork)
		if len(all(f)) != 1 {
			t.Error("the reading Step wrote")
		}
		now = 33
		steps(t, x, f, api.TWork)
		want := api.Lock{Who: 2, Inc: 4, Epoch: was.Epoch + 1, Until: 43}
		if lockIn(t, f, "c") != was || lockIn(t, f, "tmp/2.4.5") != want || f.Stamp("tmp/2.4.5") != 2 {
			t.Error(all(f))
		}
		unheld(t, x)
		now = 99
		steps(t, x, f, api.THeld)
		if g, l := held(t, x); g != (api.Guard{Name: "c", Stamp: 3}) || l != want || lockIn(t, f, "c") != want || len(all(f)) != 1 {
			t.Error(g, l, all(f))
		}
		stays(t, x, f, api.THeld)
	}
}

// Promise 13.2: what was read at one Step holds at the next ones, whatever the time is by then; a new reading is for a new Take.
func TestTakeReadsOnce(t *testing.T) {
	f, now := on(api.Lock{Who: 1, Inc: 1, Epoch: 1, Until: 30}), 30
	x := take{lock.New("c", 2, 1, 1, 10), &now}
	steps(t, x, f, api.TWork)
	now = 3
	steps(t, x, f, api.TWork, api.THeld)
	if _, l := held(t, x); l.Until != 13 {
		t.Error(l)
	}
	y := take{lock.New("c", 3, 1, 1, 10), &now}
	steps(t, y, f, api.TBusy)
	now = 13
	stays(t, y, f, api.TBusy)
}

// Promise 13.2: where the file was written, or went, since it was read, the temp is dropped by a Step more, and somebody was ahead.
func TestTakeWasLate(t *testing.T) {
	temp := name.Temp(2, 1, 7)
	for what, meanwhile := range map[string]func(f *simf.FS){
		"the same bytes":     func(f *simf.FS) { f.Put("c", reco.Lock(api.Lock{})) },
		"another's":          func(f *simf.FS) { f.Put("c", reco.Lock(api.Lock{Who: 1, Inc: 1, Epoch: 1, Until: 10})) },
		"gone":               func(f *simf.FS) { f.Drop("c", nil) },
		"gone and back":      func(f *simf.FS) { f.Drop("c", nil); f.Make("c", reco.Lock(api.Lock{})) },
		"the temp gone":      func(f *simf.FS) { f.Drop(temp, nil) },
		"the temp gone, too": func(f *simf.FS) { f.Drop(temp, nil); f.Drop("c", nil) },
	} {
		f := on(api.Lock{})
		x := at(5, lock.New("c", 2, 1, 7, 10))
		steps(t, x, f, api.TWork, api.TWork)
		meanwhile(f)
		was := all(f)
		steps(t, x, f, api.TWork)
		if !slices.Equal(all(f), was) {
			t.Errorf("%s: the failed move did something", what)
		}
		steps(t, x, f, api.TBusy)
		unheld(t, x)
		was = slices.DeleteFunc(was, func(a file) bool { return a.name == temp })
		if !slices.Equal(all(f), was) {
			t.Errorf("%s: %v", what, all(f))
		}
		f.Put(temp, nil)
		stays(t, x, f, api.TBusy)
	}
}

// Promise 13.2: a temp that went behind the failed move isn't asked for: it is busy all the same.
func TestDropSaysNothing(t *testing.T) {
	f := on(api.Lock{})
	x := at(5, lock.New("c", 2, 1, 7, 10))
	steps(t, x, f, api.TWork, api.TWork)
	f.Put("c", nil)
	steps(t, x, f, api.TWork)
	f.Drop(name.Temp(2, 1, 7), nil)
	steps(t, x, f, api.TBusy)
	stays(t, x, f, api.TBusy)
}

// Promise 13.2: a file that is no lock, or one of the last epoch, is bad, and stays as it is; so is one that is no file's name, of which the chapter does not speak.
func TestTakeOfBad(t *testing.T) {
	cut := reco.Lock(api.Lock{})
	for _, b := range [][]byte{nil, []byte("x"), cut[:33], append(cut, 1), reco.Lock(api.Lock{Epoch: far}), reco.Lock(api.Lock{Who: 1, Inc: 1, Epoch: far, Until: far})} {
		f := simf.New(wide)
		f.Put("c", b)
		was := all(f)
		x := at(5, lock.New("c", 1, 1, 7, 10))
		steps(t, x, f, api.TBad)
		unheld(t, x)
		if !slices.Equal(all(f), was) {
			t.Error("it was written")
		}
		f.Drop("c", nil)
		stays(t, x, f, api.TBad)
	}
	for _, s := range []string{"", "C", "a/b/c", "/", "lock/", "seventeen-letters", "a b", "\xff"} {
		f := simf.New(wide)
		x := at(5, lock.New(s, 1, 1, 7, 10))
		steps(t, x, f, api.TBad)
		unheld(t, x)
		stays(t, x, f, api.TBad)
	}
}

// Promise 13.2: where there is no room for it, nothing is held, nothing is there that was not, and the lock that was stays.
func TestTakeWithoutRoom(t *testing.T) {
	size := len(reco.Lock(api.Lock{}))
	for room := range size {
		f := simf.New(room)
		x := at(5, lock.New("c", 1, 1, 7, 10))
		steps(t, x, f, api.TWork, api.TSpace)
		unheld(t, x)
		if f.Used() != 0 || len(all(f)) != 0 {
			t.Error(all(f))
		}
		f.Room(wide)
		stays(t, x, f, api.TSpace)
	}
	f := simf.New(size)
	steps(t, at(5, lock.New("c", 1, 1, 7, 10)), f, api.TWork, api.THeld)
	for room := size; room < 2*size; room++ {
		f.Room(room)
		was := all(f)
		x := at(15, lock.New("c", 2, 1, 7, 10))
		steps(t, x, f, api.TWork, api.TSpace)
		unheld(t, x)
		if !slices.Equal(all(f), was) {
			t.Error(all(f))
		}
		f.Room(wide)
		stays(t, x, f, api.TSpace)
	}
	f.Room(2 * size)
	steps(t, at(15, lock.New("c", 2, 1, 7, 10)), f, api.TWork, api.TWork, api.THeld)
}

// Promise 13.2: a temp of that number that was left lying is written over, in the room that it has.
func TestTakeOverAnElderTemp(t *testing.T) {
	f := on(api.Lock{Who: 1, Inc: 1, Epoch: 4, Until: 3})
	f.Put(name.Temp(2, 1, 7), make([]byte, 200))
	f.Room(0)
	x := at(5, lock.New("c", 2, 1, 7, 10))
	steps(t, x, f, api.TWork, api.TWork, api.THeld)
	if want := (api.Lock{Who: 2, Inc: 1, Epoch: 5, Until: 15}); lockIn(t, f, "c") != want || len(all(f)) != 1 {
		t.Error(all(f))
	}
}

// Promise 13.2: the lease is held to 0 to 1,000,000 and now to 0 to 2^39, for the lock that is made, for the one that is moved, and for the look at it.
func TestBounds(t *testing.T) {
	const late = 1 << 39
	for _, x := range []struct{ lease, now, until int }{
		{10, 5, 15}, {0, 5, 5}, {-1, 5, 5}, {math.MinInt, 5, 5},
		{1_000_000, 5, 1_000_005}, {1_000_001, 5, 1_000_005}, {math.MaxInt, 5, 1_000_005},
		{10, 0, 10}, {10, -1, 10}, {10, math.MinInt, 10},
		{10, late, late + 10}, {10, late + 1, late + 10}, {10, math.MaxInt, late + 10},
		{math.MaxInt, math.MaxInt, late + 1_000_000}, {math.MinInt, math.MinInt, 0},
	} {
		f := on(api.Lock{Until: 0})
		a, b := at(x.now, lock.New("n", 1, 1, 7, x.lease)), at(x.now, lock.New("c", 1, 1, 7, x.lease))
		steps(t, a, f, api.TWork, api.THeld)
		steps(t, b, f, api.TWork, api.TWork, api.THeld)
		for _, y := range []stepper{a, b} {
			if g, l := held(t, y); l.Until != x.until || lockIn(t, f, g.Name) != l {
				t.Errorf("%v: %v", x, l)
			}
		}
	}
	f := on(api.Lock{Who: 1, Until: late + 1})
	steps(t, at(math.MaxInt, lock.New("c", 2, 1, 7, 1)), f, api.TBusy)
	f.Put("c", reco.Lock(api.Lock{Who: 1, Until: late}))
	steps(t, at(math.MaxInt, lock.New("c", 2, 1, 7, 1)), f, api.TWork, api.TWork, api.THeld)
	f.Put("c", reco.Lock(api.Lock{Who: 1, Until: 0}))
	steps(t, at(math.MinInt, lock.New("c", 2, 1, 7, 1)), f, api.TWork, api.TWork, api.THeld)
}

// Promise 13.3: a lock is renewed by two Steps, the file being whole at any time: it keeps all but its end.
func TestRenew(t *testing.T) {
	for _, until := range []int{0, 5, 15, 16, far} {
		f := simf.New(wide)
		a := at(5, lock.New("c", 2, 6, 1, 10))
		steps(t, a, f, api.TWork, api.THeld)
		g, l := held(t, a)
		x := write{lock.Renew(g, l, 9, until)}
		unheld(t, x)
		steps(t, x, f, api.TWork)
		unheld(t, x)
		want := l
		want.Until = until
		if lockIn(t, f, "c") != l || f.Stamp("c") != g.Stamp || lockIn(t, f, "tmp/2.6.9") != want {
			t.Error(all(f))
		}
		steps(t, x, f, api.THeld)
		if g2, l2 := held(t, x); g2 != (api.Guard{Name: "c", Stamp: g.Stamp + 2}) || l2 != want || lockIn(t, f, "c") != want || f.Stamp("c") != g2.Stamp || len(all(f)) != 1 {
			t.Error(g2, l2, all(f))
		}
		stays(t, x, f, api.THeld)
		if g3, l3 := held(t, a); g3 != g || l3 != l {
			t.Error("the Take holds another one")
		}
	}
}

// Promise 13.3: a lock is freed likewise: behind that it is no one's, its epoch stays, and the next one has the next.
func TestFree(t *testing.T) {
	f := simf.New(wide)
	a := at(5, lock.New("c", 2, 6, 1, 10))
	steps(t, a, f, api.TWork, api.THeld)
	g, l := held(t, a)
	x := write{lock.Free(g, l, 9)}
	unheld(t, x)
	steps(t, x, f, api.TWork)
	want := api.Lock{Who: 2, Inc: 6, Epoch: 1}
	if lockIn(t, f, "c") != l || lockIn(t, f, "tmp/2.6.9") != want {
		t.Error(all(f))
	}
	steps(t, x, f, api.THeld)
	unheld(t, x)
	if lockIn(t, f, "c") != want || len(all(f)) != 1 {
		t.Error(all(f))
	}
	stays(t, x, f, api.THeld)
	for i := range 3 {
		y := at(0, lock.New("c", 2, 6, 1, 0))
		steps(t, y, f, api.TWork, api.TWork, api.THeld)
		if _, l := held(t, y); l.Epoch != i+2 {
			t.Error(l)
		}
	}
}

// Promise 13.3: who lost the lock writes nothing: its temp is dropped by a Step more, and the other's stays.
func TestWriteWasLate(t *testing.T) {
	l := api.Lock{Who: 2, Inc: 6, Epoch: 1, Until: 15}
	temp := name.Temp(2, 6, 9)
	for what, meanwhile := range map[string]func(f *simf.FS){
		"another's":      func(f *simf.FS) { f.Put("c", reco.Lock(api.Lock{Who: 1, Epoch: 2, Until: 99})) },
		"the same bytes": func(f *simf.FS) { f.Put("c", reco.Lock(l)) },
		"gone":           func(f *simf.FS) { f.Drop("c", nil) },
		"the temp gone":  func(f *simf.FS) { f.Drop(temp, nil) },
	} {
		for _, make := range []func(g api.Guard) *lock.Write{
			func(g api.Guard) *lock.Write { return lock.Free(g, l, 9) },
			func(g api.Guard) *lock.Write { return lock.Renew(g, l, 9, 70) },
		} {
			f := on(l)
			x := write{make(api.Guard{Name: "c", Stamp: 1})}
			steps(t, x, f, api.TWork)
			meanwhile(f)
			was := all(f)
			steps(t, x, f, api.TWork)
			if !slices.Equal(all(f), was) {
				t.Errorf("%s: the failed move did something", what)
			}
			steps(t, x, f, api.TBusy)
			unheld(t, x)
			was = slices.DeleteFunc(was, func(a file) bool { return a.name == temp })
			if !slices.Equal(all(f), was) {
				t.Errorf("%s: %v", what, all(f))
			}
			f.Put(temp, nil)
			stays(t, x, f, api.TBusy)
		}
	}
}

// Promise 13.3: without room the lock stays as it is, and nothing is left lying; in the room that the two take it is written.
func TestWriteWithoutRoom(t *testing.T) {
	l := api.Lock{Who: 2, Inc: 6, Epoch: 1, Until: 15}
	size := len(reco.Lock(l))
	for room := range 2 * size {
		for _, x := range []*lock.Write{lock.Free(api.Guard{Name: "c", Stamp: 1}, l, 9), lock.Renew(api.Guard{Name: "c", Stamp: 1}, l, 9, 70)} {
			f := on(l)
			f.Room(room)
			was := all(f)
			steps(t, write{x}, f, api.TSpace)
			unheld(t, write{x})
			if !slices.Equal(all(f), was) {
				t.Error(all(f))
			}
			f.Room(wide)
			stays(t, write{x}, f, api.TSpace)
		}
	}
	f := on(l)
	f.Room(2 * size)
	steps(t, write{lock.Free(api.Guard{Name: "c", Stamp: 1}, l, 9)}, f, api.TWork, api.THeld)
}

// Promises 13.2 and 13.3, rule 7: what is held is what the file tells, for a record holds its numbers to 0 to 2^40.
func TestHeldIsWhatTheFileTells(t *testing.T) {
	f := simf.New(wide)
	a := at(5, lock.New("c", -1, far+1, 1, 10))
	steps(t, a, f, api.TWork, api.THeld)
	g, l := held(t, a)
	if l != (api.Lock{Who: 0, Inc: far, Epoch: 1, Until: 15}) || lockIn(t, f, "c") != l {
		t.Error(l)
	}
	for _, until := range []int{-1, math.MinInt, far + 1, math.MaxInt} {
		x := write{lock.Renew(g, l, 9, until)}
		steps(t, x, f, api.TWork, api.THeld)
		g, l = held(t, x)
		if l.Until != min(max(until, 0), far) || lockIn(t, f, "c") != l {
			t.Error(until, l)
		}
	}
}
