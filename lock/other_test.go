package lock_test

import (
	"iter"
	"math"
	"slices"
	"testing"

	"fettle/api"
	"fettle/lock"
	"fettle/name"
	"fettle/reco"
	"fettle/simf"
)

// told is what a Step tells, and what is held behind it.
type told struct {
	what int
	file api.Guard
	lock api.Lock
}

// clip holds n to bounds.
func clip(n, least, most int) int {
	return min(max(n, least), most)
}

// clipped tells the lock that a record tells of l.
func clipped(l api.Lock) api.Lock {
	return api.Lock{Who: clip(l.Who, 0, far), Inc: clip(l.Inc, 0, far), Epoch: clip(l.Epoch, 0, far), Until: clip(l.Until, 0, far)}
}

// lookOf follows the words of promise 13.1.
func lookOf(b []byte, who, inc, now int) (api.Lock, int) {
	l, ok := reco.OpenLock(b)
	over := l.Until <= now
	switch {
	case !ok:
		return api.Lock{}, api.LBad
	case l.Epoch == far:
		return l, api.LBad
	case over:
		return l, api.LOpen
	case l.Who != who || l.Inc > inc:
		return l, api.LBusy
	case l.Inc == inc:
		return l, api.LMine
	}
	return l, api.LOpen
}

// takeOf follows the words of promise 13.2 from the first one to the last, and pauses behind each file call.
func takeOf(f *simf.FS, file string, who, inc, temp, lease int, now *int) iter.Seq[told] {
	own := func(epoch int) api.Lock {
		return api.Lock{Who: who, Inc: inc, Epoch: epoch, Until: clip(*now, 0, 1<<39) + clip(lease, 0, 1_000_000)}
	}
	return func(yield func(told) bool) {
		b, stamp, e := f.Read(file)
		if e == api.ErrNone {
			if !yield(told{}) {
				return
			}
			l := own(1)
			stamp, e := f.Make(file, reco.Lock(l))
			switch e {
			case api.OK:
				yield(told{api.THeld, api.Guard{Name: file, Stamp: stamp}, clipped(l)})
			case api.ErrSpace:
				yield(told{what: api.TSpace})
			default:
				yield(told{what: api.TBusy})
			}
			return
		}
		l, what := lookOf(b, who, inc, clip(*now, 0, 1<<39))
		switch what {
		case api.LBad:
			yield(told{what: api.TBad})
		case api.LBusy:
			yield(told{what: api.TBusy})
		case api.LMine:
			yield(told{api.THeld, api.Guard{Name: file, Stamp: stamp}, l})
		}
		if what != api.LOpen || !yield(told{}) {
			return
		}
		moveOf(f, api.Guard{Name: file, Stamp: stamp}, own(l.Epoch+1), name.Temp(who, inc, temp))(yield)
	}
}

// moveOf follows them from the Put on, which is what promise 13.3 says too.
func moveOf(f *simf.FS, g api.Guard, l api.Lock, temp string) iter.Seq[told] {
	return func(yield func(told) bool) {
		if _, e := f.Put(temp, reco.Lock(l)); e != api.OK {
			yield(told{what: api.TSpace})
			return
		}
		if !yield(told{}) {
			return
		}
		stamp, e := f.Move(temp, g.Name, []api.Guard{g})
		if e == api.OK {
			yield(told{api.THeld, api.Guard{Name: g.Name, Stamp: stamp}, clipped(l)})
			return
		}
		if yield(told{}) {
			f.Drop(temp, nil)
			yield(told{what: api.TBusy})
		}
	}
}

// pull tells s one by one; behind the last, that again.
func pull(t *testing.T, s iter.Seq[told]) func() told {
	next, stop := iter.Pull(s)
	t.Cleanup(stop)
	var last told
	return func() told {
		if last.what == api.TWork {
			last, _ = next()
		}
		return last
	}
}

// pair is a Take or a Write beside the same by the words, each with files of its own.
type pair struct {
	stepper
	words func() told
	freed bool
}

// two is such files, on which the same is done, and one clock.
type two struct {
	mine, other *simf.FS
	now         int
}

// both does the same to the one and the other.
func (w *two) both(do func(f *simf.FS)) {
	do(w.mine)
	do(w.other)
}

// newTake tells a Take beside its words.
func (w *two) newTake(t *testing.T, file string, who, inc, temp, lease int) *pair {
	return &pair{take{lock.New(file, who, inc, temp, lease), &w.now}, pull(t, takeOf(w.other, file, who, inc, temp, lease, &w.now)), false}
}

// newFree tells a Free beside its words.
func (w *two) newFree(t *testing.T, g api.Guard, l api.Lock, temp int) *pair {
	want := l
	want.Until = 0
	return &pair{write{lock.Free(g, l, temp)}, pull(t, moveOf(w.other, g, want, name.Temp(l.Who, l.Inc, temp))), true}
}

// newRenew tells a Renew beside its words.
func (w *two) newRenew(t *testing.T, g api.Guard, l api.Lock, temp, until int) *pair {
	want := l
	want.Until = until
	return &pair{write{lock.Renew(g, l, temp, until)}, pull(t, moveOf(w.other, g, want, name.Temp(l.Who, l.Inc, temp))), false}
}

// step does a Step of both, asks that they tell and do the same, and tells it.
func (w *two) step(t *testing.T, x *pair) told {
	t.Helper()
	got := told{what: x.step(w.mine)}
	var ok bool
	got.file, got.lock, ok = x.Held()
	want := x.words()
	if x.freed {
		want.file, want.lock = api.Guard{}, api.Lock{}
	}
	if got != want || ok != (want.what == api.THeld && !x.freed) {
		t.Fatalf("told %v, %v; the words say %v", got, ok, want)
	}
	if l := all(w.mine); !slices.Equal(l, all(w.other)) {
		t.Fatalf("files %v; the words say %v", l, all(w.other))
	}
	return got
}

// dice is a row of numbers that look like chance, the same ones for the same seed.
type dice uint64

// roll tells the next one, below n.
func (d *dice) roll(n int) int {
	*d = *d*6364136223846793005 + 1442695040888963407
	return int(uint64(*d)>>33) % n
}

// one tells one of l.
func one[T any](d *dice, l ...T) T {
	return l[d.roll(len(l))]
}

// Promise 13.1 and W5: Look tells what its words say of any bytes and any numbers.
func TestLookAtAny(t *testing.T) {
	d := dice(1)
	numbers := []int{math.MinInt, -1, 0, 1, 2, 3, far - 1, far, far + 1, math.MaxInt}
	for range 200_000 {
		b := reco.Lock(api.Lock{Who: one(&d, numbers...), Inc: one(&d, numbers...), Epoch: one(&d, numbers...), Until: one(&d, numbers...)})
		if d.roll(8) == 0 {
			b = b[:d.roll(len(b))]
		}
		who, inc, now := one(&d, numbers...), one(&d, numbers...), one(&d, numbers...)
		l, what := lock.Look(b, who, inc, now)
		if wantLock, want := lookOf(b, who, inc, now); l != wantLock || what != want {
			t.Fatalf("%x for %d, %d at %d: %v, %d, not %v, %d", b, who, inc, now, l, what, wantLock, want)
		}
	}
}

// hands is what happens to some files in a row of chances, and what was held at any time.
type hands struct {
	two
	d       dice
	files   []string
	running []*pair
	holding []told
	// owners is whose an epoch of a file is, as long as files are written by locks alone.
	owners map[epoch][2]int
	tame   bool
	temps  int
}

// epoch is one of a file.
type epoch struct {
	file string
	n    int
}

// temp tells a temp's number: of hands that are tame no two that run have one temp.
func (h *hands) temp() int {
	h.temps++
	if h.tame {
		return h.temps
	}
	return h.d.roll(3)
}

// begin begins a Take, a Free or a Renew.
func (h *hands) begin(t *testing.T) {
	if n := len(h.holding); n > 0 && h.d.roll(2) == 0 {
		x := h.holding[h.d.roll(n)]
		if h.d.roll(2) == 0 {
			h.running = append(h.running, h.newFree(t, x.file, x.lock, h.temp()))
			return
		}
		h.running = append(h.running, h.newRenew(t, x.file, x.lock, h.temp(), h.now+h.d.roll(30)))
		return
	}
	h.running = append(h.running, h.newTake(t, one(&h.d, h.files...), 1+h.d.roll(4), 1+h.d.roll(3), h.temp(), h.d.roll(20)))
}

// goOn does a Step of one that is running, and keeps what it holds.
func (h *hands) goOn(t *testing.T) {
	if len(h.running) == 0 {
		return
	}
	i := h.d.roll(len(h.running))
	x := h.step(t, h.running[i])
	if x.what == api.TWork {
		return
	}
	h.running = slices.Delete(h.running, i, i+1)
	if x.lock == (api.Lock{}) {
		return
	}
	h.holding = append(h.holding, x)
	at, owner := epoch{x.file.Name, x.lock.Epoch}, [2]int{x.lock.Who, x.lock.Inc}
	if was, in := h.owners[at]; h.tame && in && was != owner {
		t.Fatalf("%v is %v's and %v's", at, was, owner)
	}
	h.owners[at] = owner
}

// disturb does what others may do: time goes, room changes, hands are killed, temps are swept; of files that are not tame, anything is written.
func (h *hands) disturb() {
	switch n := h.d.roll(7); {
	case n < 3:
		h.now += h.d.roll(8)
	case n == 3:
		room := one(&h.d, 0, 60, 100, wide, wide, wide)
		h.both(func(f *simf.FS) { f.Room(room) })
	case n == 4 && len(h.running) > 0:
		i := h.d.roll(len(h.running))
		h.running = slices.Delete(h.running, i, i+1)
	case n == 5:
		if l := h.mine.List("tmp"); len(l) > 0 {
			s := one(&h.d, l...)
			h.both(func(f *simf.FS) { f.Drop(s, nil) })
		}
	case n == 6 && !h.tame:
		s := one(&h.d, h.files...)
		b := one(&h.d, nil, []byte("x"), reco.Lock(api.Lock{}), reco.Lock(api.Lock{Epoch: far - 1}), reco.Lock(api.Lock{Who: 1, Inc: 2, Epoch: far}))
		h.both(func(f *simf.FS) { f.Put(s, b) })
	}
}

// Promises 13.2 to 13.4: whatever happens, each Step tells and does what its words say; and where locks alone write, each epoch of a file is one's.
func TestAny(t *testing.T) {
	for seed := range 300 {
		tame := seed%2 == 0
		h := hands{two: two{simf.New(wide), simf.New(wide), 0}, d: dice(seed), files: []string{"c", "lock/log"}, owners: map[epoch][2]int{}, tame: tame}
		if !tame {
			h.files = append(h.files, "No name", "tmp/1.1.1")
		}
		for range 400 {
			switch n := h.d.roll(10); {
			case n < 2:
				h.begin(t)
			case n < 8:
				h.goOn(t)
			default:
				h.disturb()
			}
		}
		if len(h.holding) == 0 {
			t.Error("nothing was held")
		}
	}
}

// orders tells all orders in which hands that have so many Steps left each may go.
func orders(left ...int) [][]int {
	var all [][]int
	for i, n := range left {
		if n > 0 {
			rest := slices.Clone(left)
			rest[i]--
			for _, l := range orders(rest...) {
				all = append(all, append([]int{i}, l...))
			}
		}
	}
	if all == nil {
		return [][]int{nil}
	}
	return all
}

// Promise 13.4: of three that go for a lock at once, in whatever order their Steps come, one has it, the others are told so, and nothing is left lying.
func TestOneHasIt(t *testing.T) {
	ways := orders(4, 4, 4)
	for _, was := range [][]byte{nil, reco.Lock(api.Lock{Who: 9, Inc: 9, Epoch: 4, Until: 50}), reco.Lock(api.Lock{Who: 1, Inc: 0, Epoch: 4, Until: 70})} {
		for _, way := range ways {
			f := simf.New(wide)
			if was != nil {
				f.Put("c", was)
			}
			var l [3]stepper
			for i := range l {
				l[i] = at(50, lock.New("c", i+1, 1, 7, 10))
			}
			told := [3]int{}
			for _, i := range way {
				told[i] = l[i].step(f)
			}
			slices.Sort(told[:])
			if told != [3]int{api.THeld, api.TBusy, api.TBusy} || len(all(f)) != 1 {
				t.Fatalf("%v: %v, %v", way, told, all(f))
			}
		}
	}
}

// Promise 13.4: locks that end at once are had by several, one behind the other, each by an epoch of its own.
func TestEpochsOfMany(t *testing.T) {
	for _, way := range orders(4, 4, 4) {
		f := on(api.Lock{})
		var l [3]stepper
		for i := range l {
			l[i] = at(50, lock.New("c", i+1, 1, 7, 0))
		}
		for _, i := range way {
			l[i].step(f)
		}
		last := lockIn(t, f, "c").Epoch
		var had []int
		for i, x := range l {
			if _, l, ok := x.Held(); ok {
				if l.Who != i+1 {
					t.Fatal("another's is held")
				}
				had = append(had, l.Epoch)
			}
		}
		slices.Sort(had)
		for i, n := range had {
			if n != i+1 {
				t.Fatalf("%v: epochs %v", way, had)
			}
		}
		if len(had) == 0 || last != len(had) {
			t.Fatalf("%v: epochs %v, and %d in the file", way, had, last)
		}
	}
}

// Promise 13.4: wherever hands are killed, the lock is whole, and who comes behind its lease has it, by a higher epoch than any that was.
func TestKilledHands(t *testing.T) {
	for n := range 5 {
		for m := range 5 {
			for _, way := range orders(n, m) {
				f, now := on(api.Lock{Epoch: 6}), 50
				l := []stepper{take{lock.New("c", 1, 1, 7, 10), &now}, take{lock.New("c", 2, 1, 7, 10), &now}}
				for _, i := range way {
					l[i].step(f)
				}
				was := lockIn(t, f, "c")
				now = 60
				x := take{lock.New("c", 3, 1, 7, 10), &now}
				steps(t, x, f, api.TWork, api.TWork, api.THeld)
				if _, l := held(t, x); l.Epoch != was.Epoch+1 || l.Who != 3 {
					t.Fatalf("%v: %v behind %v", way, l, was)
				}
			}
		}
	}
}

// Promise 13.4: whoever lost a lock can do nothing more by it: no file that is guarded by it is written, and the other's lock stays, whatever the loser writes.
func TestLostLock(t *testing.T) {
	f, now := simf.New(wide), 0
	a := take{lock.New("c", 1, 1, 7, 10), &now}
	steps(t, a, f, api.TWork, api.THeld)
	g, l := held(t, a)
	if _, e := f.Append("trace", []byte("1"), []api.Guard{g}); e != api.OK {
		t.Error(e)
	}
	now = 10
	b := take{lock.New("c", 2, 1, 7, 10), &now}
	steps(t, b, f, api.TWork, api.TWork)
	if _, e := f.Append("trace", []byte("1"), []api.Guard{g}); e != api.OK {
		t.Error("it is lost ahead of the move")
	}
	steps(t, b, f, api.THeld)
	g2, l2 := held(t, b)
	if _, e := f.Append("trace", []byte("1"), []api.Guard{g}); e != api.ErrGuard {
		t.Error("the first one still writes")
	}
	steps(t, write{lock.Renew(g, l, 7, 99)}, f, api.TWork, api.TWork, api.TBusy)
	steps(t, write{lock.Free(g, l, 7)}, f, api.TWork, api.TWork, api.TBusy)
	if lockIn(t, f, "c") != l2 || f.Stamp("c") != g2.Stamp {
		t.Error("the other's lock was written")
	}
	if _, e := f.Append("trace", []byte("2"), []api.Guard{g2}); e != api.OK {
		t.Error(e)
	}
	steps(t, write{lock.Renew(g2, l2, 7, 99)}, f, api.TWork, api.THeld)
	if _, e := f.Append("trace", []byte("2"), []api.Guard{g2}); e != api.ErrGuard {
		t.Error("the elder guard still holds behind the renewal")
	}
}

// Promise 13.5: no call panics, and each Take and Write comes to its end by as many Steps as it has calls, on any bytes, for any names and numbers; each does what its words say.
func FuzzAll(f *testing.F) {
	f.Add([]byte(nil), "c", 1, 1, 7, 10, 5, 0)
	f.Add(reco.Lock(api.Lock{Who: 1, Inc: 1, Epoch: 1, Until: 9}), "lock/log", 1, 1, 1, 0, 0, 33)
	f.Add(reco.Lock(api.Lock{Epoch: far}), "C", -1, math.MaxInt, math.MinInt, -1, math.MaxInt, 80)
	f.Add(reco.Lock(api.Lock{}), "tmp/1.1.1", 1, 1, 1, 1, 1, 1000)
	f.Fuzz(func(t *testing.T, b []byte, s string, who, inc, temp, lease, now, room int) {
		l, what := lock.Look(b, who, inc, now)
		if wantLock, want := lookOf(b, who, inc, now); l != wantLock || what != want {
			t.Fatal(l, what)
		}
		w := two{simf.New(wide), simf.New(wide), now}
		w.both(func(f *simf.FS) { f.Put("c", b); f.Room(room); f.Put(s, b) })
		x := w.newTake(t, s, who, inc, temp, lease)
		end := w.toEnd(t, x, 4)
		if end.what != api.THeld {
			end.file, end.lock = api.Guard{Name: s, Stamp: temp}, api.Lock{Who: who, Inc: inc, Epoch: lease, Until: now}
		}
		w.toEnd(t, w.newRenew(t, end.file, end.lock, temp, lease), 3)
		w.toEnd(t, w.newFree(t, end.file, end.lock, temp), 3)
	})
}

// toEnd does x's Steps to the end, which is to come by n of them, and one more.
func (w *two) toEnd(t *testing.T, x *pair, n int) told {
	t.Helper()
	last := w.step(t, x)
	for range n - 1 {
		last = w.step(t, x)
	}
	if last.what == api.TWork || w.step(t, x) != last {
		t.Fatalf("no end: %v", last)
	}
	return last
}
