package pin

import (
	"math"
	"testing"

	"appleloft/api"
)

// outside are counts beyond either end of the range, next to it and far from it.
var outside = []int{
	-1, -2, -api.MaxPins, -api.MaxPins - 1, math.MinInt32, math.MinInt + 1, math.MinInt,
	api.MaxPins + 1, api.MaxPins + 2, 2 * api.MaxPins, 256, 1<<32 + 1, math.MaxInt32, math.MaxInt - 1, math.MaxInt,
}

func wantCheck(t *testing.T, n int, want api.Errno) {
	t.Helper()
	if got := Check(n); got != want {
		t.Errorf("Check(%d) = %d, want %d", n, got, want)
	}
}

func wantMove(t *testing.T, n int, up bool, want int, wantErr api.Errno) {
	t.Helper()
	got, err := Move(n, up)
	if got != want || err != wantErr {
		t.Errorf("Move(%d, %t) = %d, %d, want %d, %d", n, up, got, err, want, wantErr)
	}
}

// P7.1
func TestCheckInRange(t *testing.T) {
	for _, n := range []int{0, 1, 2, 3, 4, 5} {
		wantCheck(t, n, api.OK)
	}
}

// P7.1
func TestCheckOutOfRange(t *testing.T) {
	for _, n := range outside {
		wantCheck(t, n, api.ErrRange)
	}
	for n := 6; n <= 1000; n++ {
		wantCheck(t, n, api.ErrRange)
		wantCheck(t, -n, api.ErrRange)
	}
}

// P7.2
func TestMoveUp(t *testing.T) {
	for n, want := range []int{1, 2, 3, 4, 5} {
		wantMove(t, n, true, want, api.OK)
	}
}

// P7.2
func TestMoveDown(t *testing.T) {
	for want, n := range []int{1, 2, 3, 4, 5} {
		wantMove(t, n, false, want, api.OK)
	}
}

// P7.2: each end of the range is an end in one direction only.
func TestMoveAtTheEnds(t *testing.T) {
	wantMove(t, 5, true, 0, api.ErrFull)
	wantMove(t, 5, false, 4, api.OK)
	wantMove(t, 0, false, 0, api.ErrIdle)
	wantMove(t, 0, true, 1, api.OK)
}

// P7.2: the error of Check comes first, even where the move would lead into the range.
func TestMoveOutOfRange(t *testing.T) {
	for _, n := range outside {
		wantMove(t, n, true, 0, api.ErrRange)
		wantMove(t, n, false, 0, api.ErrRange)
	}
}

// P7.2: a count that was moved can be moved on, from one end to the other and back.
func TestMoveFromEndToEnd(t *testing.T) {
	n := 0
	for _, up := range []bool{true, false} {
		for range api.MaxPins {
			next, err := Move(n, up)
			if err != api.OK || Check(next) != api.OK {
				t.Fatalf("Move(%d, %t) = %d, %d", n, up, next, err)
			}
			wantMove(t, next, !up, n, api.OK)
			n = next
		}
		if want := map[bool]int{true: api.MaxPins, false: 0}[up]; n != want {
			t.Errorf("moved to %d, want %d", n, want)
		}
	}
}
