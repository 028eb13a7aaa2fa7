package simf_test

import (
	"slices"
	"strconv"
	"strings"
	"testing"

	"fettle/api"
	"fettle/fram"
	"fettle/simf"
)

// hand makes the target by one file call a step, if it is not there once the lock is taken; it takes the lock from whoever has it.
type hand struct {
	who, at, stamp int
	moved          bool
}

// steps is how many steps a hand has at most.
const steps = 6

// value is what hand who makes: long enough to be told from a part of it.
func value(who int) string {
	return strings.Repeat(strconv.Itoa(who), 20)
}

// step does the hand's next file call, if there is one.
func (h *hand) step(f *simf.FS) {
	temp := "tmp/" + strconv.Itoa(h.who)
	e := api.OK
	switch h.at {
	case 0:
		_, h.stamp, e = f.Read("lock")
	case 1, 4:
		_, e = f.Put(temp, []byte(value(h.who)))
	case 2:
		h.stamp, e = f.Move(temp, "lock", guard("lock", h.stamp))
	case 3:
		if _, _, there := f.Read("a"); there == api.OK {
			h.at = steps
		}
	case 5:
		_, e = f.Move(temp, "a", guard("lock", h.stamp))
		h.moved = e == api.OK
	}
	h.at++
	if e != api.OK {
		h.at = steps
	}
}

// orders tells all orders in which hands that have so many steps left each may go.
func orders(left ...int) [][]int {
	var all [][]int
	for i, n := range left {
		if n > 0 {
			rest := slices.Clone(left)
			rest[i]--
			for _, l := range orders(rest...) {
				all = append(all, append([]int{i}, l...))
			}
		}
	}
	if all == nil {
		return [][]int{nil}
	}
	return all
}

// Promise 9.2 (W1): however two hands' calls fall, whoever takes whose lock, the target is made once, and who reads it reads it whole.
func TestMadeOnce(t *testing.T) {
	for _, order := range orders(steps, steps) {
		f := simf.New(1000)
		f.Make("lock", nil)
		hands := []*hand{{who: 1}, {who: 2}}
		moves := 0
		for _, i := range order {
			was := hands[i].moved
			hands[i].step(f)
			if hands[i].moved && !was {
				moves++
			}
			b, _, e := f.Read("a")
			if (e == api.OK) != (moves > 0) || e == api.OK && string(b) != value(1) && string(b) != value(2) {
				t.Fatalf("%v: after %d moves %q is read, %v", order, moves, b, e)
			}
		}
		if moves != 1 {
			t.Errorf("%v: made %d times", order, moves)
		}
	}
}

// Promise 9.2 (W1): who had a lock ahead of another has it no more, though the other let it be as it was: the same bytes, moved there and back, made anew.
func TestNoWayBack(t *testing.T) {
	mustTell(t, 100, `
		make lock free -> 1
		put lock mine -> 2
		put lock free -> 3
		move lock x -> 4
		move x lock -> 5
		drop lock -> OK
		make lock free -> 6
		make tmp/1 x -> 7
		move tmp/1 a lock@1 -> ErrGuard
		move tmp/1 a lock@3 -> ErrGuard
		move tmp/1 a lock@5 -> ErrGuard
		append a x lock@5 -> ErrGuard
		drop tmp/1 lock@5 -> ErrGuard
		move tmp/1 a lock@6 -> 8`)
}

// frames are what a trace holds; longest is how many bytes the longest of them is.
func frames() (l [][]byte, longest int) {
	for _, s := range []string{"one", "", "three", "four and more"} {
		b := fram.Put(nil, []byte(s))
		l, longest = append(l, b), max(longest, len(b))
	}
	return l, longest
}

// mustHold holds what Scan reads of the trace to frames, and tells where they end.
func mustHold(t *testing.T, f *simf.FS, want [][]byte) (end int) {
	t.Helper()
	b, _, _ := f.Read("trace")
	_, end = fram.Scan(b)
	if !slices.Equal(b[:end], slices.Concat(want...)) {
		t.Errorf("the trace is % x, want % x", b, want)
	}
	return end
}

// Promise 9.2 (W3): wherever the writing of a frame is cut, by a kill or for want of room, those ahead of it are whole; made whole under the trace's stamp it misses nothing else, and goes on.
func TestTraceIsCut(t *testing.T) {
	l, longest := frames()
	for n := range longest + 1 {
		for at := range l {
			for _, byRoom := range []bool{false, true} {
				f := simf.New(1000)
				for _, x := range l[:at] {
					f.Append("trace", x, nil)
				}
				want := api.ErrDead
				if byRoom {
					want = api.ErrSpace
					f.Room(f.Used() + min(n, len(l[at])-1))
				} else {
					f.Cut(n)
				}
				if _, e := f.Append("trace", l[at], nil); e != want {
					t.Errorf("cut at %d: %v", n, e)
				}
				f.Room(1000)
				mustGoOnWhole(t, f, l, at, !byRoom && n >= len(l[at]))
			}
		}
	}
}

// mustGoOnWhole holds the trace to the frames ahead of at, and that one, if it is whole; it makes the trace whole, and writes the others behind.
func mustGoOnWhole(t *testing.T, f *simf.FS, l [][]byte, at int, whole bool) {
	t.Helper()
	if whole {
		at++
	}
	end := mustHold(t, f, l[:at])
	b, stamp, e := f.Read("trace")
	if e == api.OK {
		f.Put("tmp/1", b[:end])
		stamp, e = f.Move("tmp/1", "trace", guard("trace", stamp))
	} else {
		stamp, e = f.Make("trace", nil)
	}
	for _, x := range l[at:] {
		stamp, e = f.Append("trace", x, guard("trace", stamp))
		if e != api.OK {
			t.Error(e)
		}
	}
	if end := mustHold(t, f, l); end != f.Used() {
		t.Errorf("%d bytes of %d are whole", end, f.Used())
	}
}

// Promise 9.2 (W3): who saw the trace whole, and lost it to another since, writes nothing to it: neither behind another's frame, nor behind a part of one.
func TestTraceIsLost(t *testing.T) {
	l, _ := frames()
	for _, cut := range []int{-1, 1, 5, 100} {
		f := simf.New(1000)
		seen, _ := f.Append("trace", l[0], nil)
		if cut >= 0 {
			f.Cut(cut)
		}
		f.Append("trace", l[2], guard("trace", seen))
		was := look(f)
		if stamp, e := f.Append("trace", l[3], guard("trace", seen)); stamp != 0 || e != api.ErrGuard {
			t.Errorf("cut at %d: %d, %v", cut, stamp, e)
		}
		if _, e := f.Move("trace", "x", guard("trace", seen)); e != api.ErrGuard || look(f) != was {
			t.Errorf("cut at %d: %v, there is %s", cut, e, look(f))
		}
	}
}
