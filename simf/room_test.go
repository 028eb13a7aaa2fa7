package simf

import (
	"math"
	"testing"
)

// Promise 9.1: room is held to 0 to 2^30, and to no less. The field is asked, for it would take as many bytes to tell by calls.
func TestRoomIsHeldExactly(t *testing.T) {
	for n, want := range map[int]int{math.MinInt: 0, -1: 0, 0: 0, 1: 1, 1<<30 - 1: 1<<30 - 1, 1 << 30: 1 << 30, 1<<30 + 1: 1 << 30, math.MaxInt: 1 << 30} {
		f := New(n)
		if f.room != want {
			t.Errorf("New(%d) has room %d", n, f.room)
		}
		f = New(7)
		f.Room(n)
		if f.room != want {
			t.Errorf("Room(%d) makes it %d", n, f.room)
		}
	}
}
