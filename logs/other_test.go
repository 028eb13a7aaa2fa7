package logs_test

import (
	"bytes"
	"fmt"
	"iter"
	"slices"
	"testing"

	"fettle/api"
	"fettle/fram"
	"fettle/lock"
	"fettle/logs"
	"fettle/name"
	"fettle/reco"
	"fettle/simf"
)

// told is what a Step tells, and the trace behind it.
type told struct {
	what  int
	trace api.Guard
}

// standing tells what stands of a trace, frame by frame.
func standing(b []byte) []byte {
	var l []byte
	for _, x := range fram.All(b) {
		if _, ok := reco.OpenDone(x); !ok {
			break
		}
		l = fram.Put(l, x)
	}
	return l
}

// fixOf follows the words of promise 14.1 from the first one to the last, and pauses behind each file call.
func fixOf(f *simf.FS, g api.Guard, temp string) iter.Seq[told] {
	return func(yield func(told) bool) {
		b, stamp, e := f.Read("trace")
		guards := []api.Guard{g}
		if e != api.ErrNone {
			if bytes.Equal(standing(b), b) {
				yield(told{api.THeld, api.Guard{Name: "trace", Stamp: stamp}})
				return
			}
			guards = append(guards, api.Guard{Name: "trace", Stamp: stamp})
		}
		if !yield(told{}) {
			return
		}
		if _, e := f.Put(temp, standing(b)); e == api.ErrSpace {
			yield(told{what: api.TSpace})
			return
		}
		if !yield(told{}) {
			return
		}
		stamp, e = f.Move(temp, "trace", guards)
		if e == api.OK {
			yield(told{api.THeld, api.Guard{Name: "trace", Stamp: stamp}})
			return
		}
		if yield(told{}) {
			f.Drop(temp, nil)
			yield(told{what: api.TBusy})
		}
	}
}

// tellOf follows them for Tell.
func tellOf(f *simf.FS, d api.Done, g []api.Guard) (int, api.Errno) {
	if reco.Done(d) == nil {
		return 0, api.ErrBad
	}
	return f.Append("trace", fram.Put(nil, reco.Done(d)), g)
}

// pull tells s one by one; behind the last, that again.
func pull(t *testing.T, s iter.Seq[told]) func() told {
	next, stop := iter.Pull(s)
	t.Cleanup(stop)
	var last told
	return func() told {
		if last.what == api.TWork {
			last, _ = next()
		}
		return last
	}
}

// two is files of a Fix and files of the same by the words, on which the same is done.
type two struct{ mine, other *simf.FS }

// both does the same to the one and the other.
func (w two) both(do func(f *simf.FS)) {
	do(w.mine)
	do(w.other)
}

// pair is a Fix beside the same by the words.
type pair struct {
	*logs.Fix
	words func() told
}

// fix tells a Fix beside its words.
func (w two) fix(t *testing.T, g api.Guard, temp string) pair {
	return pair{logs.New(g, temp), pull(t, fixOf(w.other, g, temp))}
}

// step does a Step of both, asks that they tell and do the same, and tells it.
func (w two) step(t *testing.T, x pair) told {
	t.Helper()
	got := told{what: x.Step(w.mine)}
	var ok bool
	got.trace, ok = x.Trace()
	if want := x.words(); got != want || ok != (want.what == api.THeld) {
		t.Fatalf("told %v, %v; the words say %v", got, ok, want)
	}
	w.alike(t)
	return got
}

// tell tells a commit to both, and asks that they tell and do the same.
func (w two) tell(t *testing.T, d api.Done, g []api.Guard) (int, api.Errno) {
	t.Helper()
	s, e := logs.Tell(w.mine, d, g)
	if want, err := tellOf(w.other, d, g); s != want || e != err {
		t.Fatalf("told %d, %d; the words say %d, %d", s, e, want, err)
	}
	w.alike(t)
	return s, e
}

// alike asks that the files of both are the same.
func (w two) alike(t *testing.T) {
	t.Helper()
	if l := all(w.mine); !slices.Equal(l, all(w.other)) {
		t.Fatalf("files %v; the words say %v", l, all(w.other))
	}
}

// dice is a row of numbers that look like chance, the same ones for the same seed.
type dice uint64

// roll tells the next one, below n.
func (d *dice) roll(n int) int {
	*d = *d*6364136223846793005 + 1442695040888963407
	return int(uint64(*d)>>33) % n
}

// one tells one of l.
func one[T any](d *dice, l ...T) T {
	return l[d.roll(len(l))]
}

// anyDone tells a commit, or what is none.
func anyDone(d *dice) api.Done {
	return api.Done{
		Target: one(d, "a", "b", "c.o", "a", "b", "", "A"),
		Who:    one(d, 0, 1, 2, far, 3, -1, far+1),
		Inc:    one(d, 0, 1, 2, 3, far, 4, far+1),
		Print:  one(d, nil, []byte("p"), []byte("pp"), make([]byte, 300)),
	}
}

// anyGuards tells guards, most of which hold.
func anyGuards(d *dice, f *simf.FS) []api.Guard {
	var l []api.Guard
	for range d.roll(3) {
		s := one(d, "trace", "lock/log", "a")
		l = append(l, api.Guard{Name: s, Stamp: f.Stamp(s) - max(0, d.roll(6)-4)})
	}
	return l
}

// Promises 14.1 to 14.3: whatever happens, each Step and each Tell tells and does what its words say.
func TestAny(t *testing.T) {
	ends := map[int]int{}
	for seed := range 200 {
		w, d := two{simf.New(wide), simf.New(wide)}, dice(seed)
		var running []pair
		for range 400 {
			switch n := d.roll(20); {
			case n < 3:
				g := api.Guard{Name: "lock/log", Stamp: w.mine.Stamp("lock/log") - max(0, d.roll(6)-4)}
				running = append(running, w.fix(t, g, one(&d, temp, "tmp/2.1.2", "tmp/3.1.2", "tmp/4.1.2", "No name")))
			case n < 11 && len(running) > 0:
				i := d.roll(len(running))
				x := w.step(t, running[i])
				if x.what != api.TWork && d.roll(3) > 0 {
					running = slices.Delete(running, i, i+1)
					ends[x.what]++
				}
			case n < 15:
				w.tell(t, anyDone(&d), anyGuards(&d, w.mine))
			default:
				w.both(disturb(&d, w.mine))
			}
		}
	}
	if ends[api.THeld] < 500 || ends[api.TBusy] < 500 || ends[api.TSpace] < 100 {
		t.Errorf("too little happened: ends %v", ends)
	}
}

// disturb tells what others may do.
func disturb(d *dice, f *simf.FS) func(f *simf.FS) {
	trace, _, _ := f.Read("trace")
	b := one(d, nil, []byte("x"), row("a"), row("b")[:20])
	n := d.roll(60)
	switch d.roll(9) {
	case 0, 1:
		return func(f *simf.FS) { f.Append("trace", b, nil) }
	case 2:
		return func(f *simf.FS) { f.Put("trace", trace[:len(trace)*n/60]) }
	case 3:
		return func(f *simf.FS) { f.Put("lock/log", b) }
	case 4:
		room := one(d, 0, f.Used()+n, wide, wide)
		return func(f *simf.FS) { f.Room(room) }
	case 5:
		return func(f *simf.FS) { f.Cut(n) }
	case 6:
		if l := f.List("tmp"); len(l) > 0 {
			s := one(d, l...)
			return func(f *simf.FS) { f.Drop(s, nil) }
		}
	case 7:
		s := one(d, "trace", "lock/log", "a")
		return func(f *simf.FS) { f.Drop(s, nil) }
	}
	return func(f *simf.FS) { f.Put("a", b) }
}

// history is all commits that were, in their order, and which of them were told to their ends.
type history struct {
	were []api.Done
	told []bool
}

// writer is a hand that takes the log's lock, makes the trace whole, commits, and gives the lock back, by one file call a Step, as often as it is stepped.
type writer struct {
	who, inc int
	take     *lock.Take
	fix      *logs.Fix
	lock     api.Guard
	held     api.Lock
	trace    api.Guard
	commits  int
	free     *lock.Write
	dead     bool
}

// begin has a writer come anew, with a higher inc.
func (w *writer) begin() {
	*w = writer{who: w.who, inc: w.inc + 1, take: lock.New("lock/log", w.who, w.inc+1, 1, 7)}
}

// step does the writer's next file call.
func (w *writer) step(f *simf.FS, h *history, now int) {
	switch {
	case w.dead:
	case w.free != nil:
		if w.free.Step(f) != api.TWork {
			w.begin()
		}
	case w.fix == nil:
		w.taking(f, now)
	case w.trace == api.Guard{}:
		w.fixing(f)
	default:
		w.commit(f, h)
	}
}

// taking does a Step of the Take.
func (w *writer) taking(f *simf.FS, now int) {
	switch w.take.Step(f, now) {
	case api.TWork:
	case api.THeld:
		w.lock, w.held, _ = w.take.Held()
		w.fix = logs.New(w.lock, name.Temp(w.who, w.inc, 2))
	default:
		w.take = lock.New("lock/log", w.who, w.inc, 1, 7)
	}
}

// fixing does a Step of the Fix.
func (w *writer) fixing(f *simf.FS) {
	switch w.fix.Step(f) {
	case api.TWork:
	case api.THeld:
		w.trace, _ = w.fix.Trace()
	default:
		w.give()
	}
}

// give has the writer give the lock back.
func (w *writer) give() {
	w.free = lock.Free(w.lock, w.held, 1)
}

// commit moves a target, or, behind that, tells it.
func (w *writer) commit(f *simf.FS, h *history) {
	moving := w.commits&1 == 0
	w.commits++
	if moving {
		s := name.Temp(w.who, w.inc, 10)
		f.Put(s, []byte("made"))
		if _, e := f.Move(s, "a", []api.Guard{w.lock}); e != api.OK {
			f.Drop(s, nil)
			w.give()
			return
		}
		h.were = append(h.were, api.Done{Target: "a", Who: w.who, Inc: len(h.were)})
		h.told = append(h.told, false)
		return
	}
	last := len(h.were) - 1
	for h.were[last].Who != w.who {
		last--
	}
	stamp, e := logs.Tell(f, h.were[last], []api.Guard{w.lock, w.trace})
	w.trace.Stamp = stamp
	switch e {
	case api.OK:
		h.told[last] = true
		if w.commits == 4 {
			w.give()
		}
	case api.ErrDead:
		w.dead = true
	default:
		w.give()
	}
}

// fits tells whether the trace's commits are some of those that were, in their order, each once, and whether all that were told to their ends are among them.
func (h *history) fits(b []byte) bool {
	at := 0
	l, _ := reco.Trace(b)
	for _, d := range l {
		for at < len(h.were) && !same(h.were[at], d) {
			if h.told[at] {
				return false
			}
			at++
		}
		if at == len(h.were) {
			return false
		}
		at++
	}
	return !slices.Contains(h.told[at:], true)
}

// Promise 14.2: whatever happens - kills, also in the middle of writing the trace, locks that are lost, full files, swept temps - the trace's whole frames are commits that were, in their order, each once, and none that was told goes again.
func TestW3(t *testing.T) {
	whole, cuts, lost := 0, 0, 0
	for seed := range 400 {
		f, d, h, now := simf.New(wide), dice(seed), &history{}, 0
		l := []*writer{{who: 1}, {who: 2}, {who: 3}}
		for _, w := range l {
			w.begin()
		}
		for range 600 {
			w := l[d.roll(len(l))]
			switch n := d.roll(100); {
			case n < 80:
				w.step(f, h, now)
			case n < 86:
				now += d.roll(5)
			case n == 86:
				f.Cut(d.roll(25))
				cuts++
			case n == 87:
				f.Room(f.Used() + d.roll(40))
			case n < 92:
				f.Room(wide)
			case n == 92:
				w.dead = true
			case n < 98 && w.dead:
				w.begin()
			case n == 98:
				for _, s := range f.List("tmp") {
					f.Drop(s, nil)
				}
			}
			b, _, _ := f.Read("trace")
			if !h.fits(b) {
				l, _ := reco.Trace(b)
				t.Fatalf("seed %d: the trace tells %v; there were %v, told %v", seed, l, h.were, h.told)
			}
		}
		b, _, _ := f.Read("trace")
		n, _ := reco.Trace(b)
		whole += len(n)
		lost += len(h.were) - len(n)
	}
	if whole < 4000 || cuts < 1000 || lost < 400 {
		t.Errorf("too little happened: %d told, %d cut, %d lost", whole, cuts, lost)
	}
}

// orders tells all orders in which hands that have so many Steps left each may go.
func orders(left ...int) iter.Seq[[]int] {
	var way []int
	var from func(yield func([]int) bool) bool
	from = func(yield func([]int) bool) bool {
		end := true
		for i := range left {
			if left[i] == 0 {
				continue
			}
			end = false
			left[i]--
			way = append(way, i)
			more := from(yield)
			way = way[:len(way)-1]
			left[i]++
			if !more {
				return false
			}
		}
		return !end || yield(way)
	}
	return func(yield func([]int) bool) { from(yield) }
}

// Promise 14.2: of two that have the lock one behind the other, the first one killed in the middle of the trace, or alive behind its lease, in all orders of their Steps, the trace is what was told.
func TestTwoWriters(t *testing.T) {
	one := len(row("a"))
	for _, cut := range []int{-1, 0, 1, one / 2, one - 1, 1000} {
		for way := range orders(8, 8) {
			f, h := simf.New(wide), &history{}
			f.Put("trace", []byte("torn"))
			l := []*writer{{who: 1}, {who: 2}}
			for _, w := range l {
				w.begin()
			}
			if cut >= 0 {
				f.Cut(cut)
			}
			for now, i := range way {
				l[i].step(f, h, now)
			}
			for range 12 {
				l[1].step(f, h, 1000)
			}
			b, _, _ := f.Read("trace")
			if !h.fits(b) {
				n, _ := reco.Trace(b)
				t.Fatalf("%v, cut at %d: the trace tells %v; there were %v, told %v", way, cut, n, h.were, h.told)
			}
		}
	}
}

// Promise 14.2: who is killed at any Step of a Fix took nothing away, and the next one makes it whole.
func TestKilledFix(t *testing.T) {
	for n := range 5 {
		for _, late := range []bool{false, true} {
			f, g := under(append(row("a", "b"), "torn"...))
			x := logs.New(g, temp)
			for i := range n {
				if late && i == 2 {
					f.Put("lock/log", []byte("another's"))
				}
				x.Step(f)
				if b, _, _ := f.Read("trace"); !bytes.HasPrefix(b, row("a", "b")) {
					t.Fatalf("behind Step %d: %q", i+1, b)
				}
			}
			g.Stamp = f.Stamp("lock/log")
			y := logs.New(g, name.Temp(2, 1, 2))
			told := y.Step(f)
			for told == api.TWork {
				told = y.Step(f)
			}
			if b, _, _ := f.Read("trace"); told != api.THeld || !bytes.Equal(b, row("a", "b")) {
				t.Fatalf("killed behind %d: %d, %q", n, told, b)
			}
		}
	}
}

// Promise 14.2: making it whole touches no target, and nothing else but the trace and its temp.
func TestFixTouchesNoTarget(t *testing.T) {
	f, g := under(append(row("a"), "torn"...))
	for i := range 20 {
		f.Put(fmt.Sprint("t", i), []byte("target"))
		f.Put(name.Temp(3, 1, i), []byte("temp"))
	}
	was := all(f)
	steps(t, logs.New(g, temp), f, api.TWork, api.TWork, api.THeld)
	now := all(f)
	for i := range was {
		if was[i].name != "trace" && was[i] != now[i] {
			t.Error(was[i], now[i])
		}
	}
	if len(now) != len(was) {
		t.Error(now)
	}
}

// Promise 14.2: who has seen the trace whole, and guards by it, writes nothing once another wrote.
func TestWriterSawItWhole(t *testing.T) {
	f, g := under(row("a"))
	x := logs.New(g, temp)
	steps(t, x, f, api.THeld)
	at, _ := x.Trace()
	f.Append("trace", []byte("torn"), nil)
	if s, e := logs.Tell(f, done("b"), []api.Guard{g, at}); s != 0 || e != api.ErrGuard {
		t.Error(s, e)
	}
	y := logs.New(g, temp)
	steps(t, y, f, api.TWork, api.TWork, api.THeld)
	at, _ = y.Trace()
	if _, e := logs.Tell(f, done("b"), []api.Guard{g, at}); e != api.OK {
		t.Error(e)
	}
	if b, _, _ := f.Read("trace"); !bytes.Equal(b, row("a", "b")) {
		t.Errorf("%q", b)
	}
}

// Promise 14.3: no call panics, and each Fix comes to its end by four Steps at most, on any bytes, for any names and numbers; each does what its words say.
func FuzzAll(f *testing.F) {
	f.Add([]byte(nil), "lock/log", 1, temp, "a", 1, 1, []byte("p"), 0)
	f.Add(row("a", "b"), "lock/log", 1, temp, "a", 1, 1, []byte("p"), 1000)
	f.Add(row("a", "b")[:30], "trace", 2, "trace", "trace", far, -1, []byte(nil), 1000)
	f.Add(row("a", "b")[:30], "lock/log", 0, "C", "A", far, -1, []byte(nil), 90)
	f.Fuzz(func(t *testing.T, b []byte, lock string, stamp int, temp, target string, who, inc int, print []byte, room int) {
		w := two{simf.New(wide), simf.New(wide)}
		w.both(func(f *simf.FS) {
			f.Put(lock, []byte("held"))
			if who&1 == 0 {
				f.Put("trace", b)
			}
			f.Room(room)
		})
		g := api.Guard{Name: lock, Stamp: stamp}
		x := w.fix(t, g, temp)
		end := w.step(t, x)
		for range 3 {
			end = w.step(t, x)
		}
		if end.what == api.TWork || w.step(t, x) != end {
			t.Fatal("no end")
		}
		d := api.Done{Target: target, Who: who, Inc: inc, Print: print}
		w.tell(t, d, []api.Guard{g, end.trace})
		w.tell(t, d, nil)
		w.both(func(f *simf.FS) { f.Cut(inc) })
		w.tell(t, d, nil)
	})
}
