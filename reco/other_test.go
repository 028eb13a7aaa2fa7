package reco_test

import (
	"bytes"
	"slices"
	"testing"

	"fettle/api"
	"fettle/fram"
	"fettle/reco"
	"fettle/simf"
)

// scrawl writes over b and the room behind it.
func scrawl(b []byte) {
	b = b[:cap(b)]
	for i := range b {
		b[i] = '!'
	}
}

// Rule 3: what is handed in, and the room behind it, is left as it is, and the room doesn't count.
func TestHandedInIsLeft(t *testing.T) {
	room := []byte("pp and more")
	if got, want := reco.Done(api.Done{Target: "a", Print: room[:2]}), doneOf(api.Done{Target: "a", Print: []byte("pp")}); !bytes.Equal(got, want) {
		t.Errorf("% x, want % x", got, want)
	}
	if string(room) != "pp and more" {
		t.Errorf("a print is changed: %q", room)
	}
	d, e := api.Done{Target: "a", Who: 1, Inc: 2, Print: []byte("pp")}, api.Done{Target: "b"}
	for _, b := range [][]byte{lockOf(api.Lock{Who: 1}), doneOf(d), rowOf(doneOf(d), doneOf(e)), rowOf(doneOf(d), nil)} {
		all := append(bytes.Clone(b), "what is behind"...)
		mustAgree(t, all[:len(b)])
		mustAgree(t, all[:len(b)-1])
		if string(all[len(b):]) != "what is behind" {
			t.Error("the room behind what is read is changed")
		}
	}
}

// Rule 3: what is written is new memory, its spare room too, and keeps nothing of what it was written of.
func TestWrittenIsNew(t *testing.T) {
	for _, l := range []api.Lock{{}, {Who: 1, Inc: 2, Epoch: 3, Until: 4}} {
		b := reco.Lock(l)
		kept := bytes.Clone(b)
		scrawl(reco.Lock(l))
		if !bytes.Equal(b, kept) || !bytes.Equal(reco.Lock(l), kept) {
			t.Error("a lock's bytes are lent")
		}
	}
	for _, print := range []string{"", "pp", string(x(4000))} {
		d := api.Done{Target: "a", Who: 1, Inc: 2, Print: []byte(print)}
		b := reco.Done(d)
		kept := bytes.Clone(b)
		scrawl(reco.Done(d))
		if string(d.Print) != print || !bytes.Equal(b, kept) {
			t.Error("a commit's bytes are lent")
		}
		scrawl(d.Print)
		if !bytes.Equal(b, kept) {
			t.Error("a commit's bytes are kept")
		}
	}
}

// Rule 3: what is read is new memory, its spare room too, no two prints of one answer share any, and nothing is kept.
func TestReadIsNew(t *testing.T) {
	d := api.Done{Target: "a", Who: 1, Inc: 2, Print: []byte("pp")}
	b := doneOf(d)
	kept := bytes.Clone(b)
	got, _ := reco.OpenDone(b)
	scrawl(got.Print)
	if !bytes.Equal(b, kept) {
		t.Errorf("the print is lent: % x", b)
	}
	got, _ = reco.OpenDone(b)
	scrawl(b)
	if !same(got, d) {
		t.Errorf("what was opened is kept: %v", got)
	}
	l := slices.Repeat([]api.Done{d, {Target: "b"}, {Target: "c", Print: x(40)}}, 5)
	b, _ = laid(l)
	kept = bytes.Clone(b)
	for i := range l {
		got, _ := reco.Trace(b)
		scrawl(got[i].Print)
		got[i].Print = l[i].Print
		if !slices.EqualFunc(got, l, same) || !bytes.Equal(b, kept) {
			t.Errorf("the print of %d is lent", i)
		}
	}
	first, _ := reco.Trace(b)
	second, _ := reco.Trace(b)
	clear(second[:cap(second)])
	scrawl(b)
	if !slices.EqualFunc(first, l, same) {
		t.Error("a trace is kept, or lent twice")
	}
}

// Promise 12.2 (W3): whatever may be a commit stands in a frame of the trace that is read whole again, for the longest is within what a frame may hold.
func TestLongestIsRead(t *testing.T) {
	d := api.Done{Target: "aaaaaaaaaaaaaaaa", Who: far, Inc: far, Print: x(4000)}
	var b []byte
	for range 3 {
		b = fram.Put(b, reco.Done(d))
	}
	mustTrace(t, "the longest", b, []api.Done{d, d, d}, len(b))
}

// Promise 12.2 (W3): wherever the writing of a commit is cut, by a kill or for want of room, the trace tells those ahead of it, in their order, each once; what Trace reads, written again, takes nothing away but what was cut off.
func TestWholeBehindCuts(t *testing.T) {
	l := []api.Done{{Target: "a", Who: 1, Inc: 1, Print: []byte("p")}, {Target: "b", Who: 2, Inc: 9}, {Target: "a", Who: 1, Inc: 2, Print: []byte("q")}}
	row, ends := laid(l[:2])
	last := framed(doneOf(l[2]))
	for n := range last {
		for _, byRoom := range []bool{false, true} {
			f := simf.New(1000)
			f.Put("trace", row)
			if byRoom {
				f.Room(f.Used() + n)
			} else {
				f.Cut(n)
			}
			if _, e := f.Append("trace", fram.Put(nil, reco.Done(l[2])), nil); e == api.OK {
				t.Fatalf("cut at %d: all is written", n)
			}
			b, _, _ := f.Read("trace")
			mustTrace(t, "cut", b, l[:2], ends[1])
			f.Room(1000)
			f.Append("trace", last, nil)
			b, _, _ = f.Read("trace")
			if n > 0 {
				mustTrace(t, "written behind what was cut", b, l[:2], ends[1])
			}
			_, end := reco.Trace(b)
			f.Put("trace", b[:end])
			f.Append("trace", last, nil)
			b, _, _ = f.Read("trace")
			if n > 0 {
				mustTrace(t, "made whole, and written behind", b, l, len(row)+len(last))
			}
		}
	}
}

// Promise 12.2 (W5): a trace that is whole is all that it is read as, and nothing else is: what Trace tells, written again, is what it ended ahead of.
func TestTraceIsItsCommits(t *testing.T) {
	b, _ := laid(some())
	for _, c := range [][]byte{b, b[:len(b)-1], slices.Concat(b, []byte("more")), slices.Concat(b, framed(nil), b), []byte("no trace"), nil} {
		l, end := reco.Trace(c)
		var again []byte
		for _, d := range l {
			again = fram.Put(again, reco.Done(d))
		}
		if !bytes.Equal(again, c[:end]) {
			t.Errorf("% x and so on is read as what is written otherwise", c[:min(len(c), 40)])
		}
		more, behind := reco.Trace(again)
		if !slices.EqualFunc(more, l, same) || behind != end {
			t.Errorf("%d commits to %d are read again as %d to %d", len(l), end, len(more), behind)
		}
	}
}
