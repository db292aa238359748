package room

import (
	"math"
	"reflect"
	"slices"
	"testing"

	"appleloft/api"
)

// outside are numbers beyond either end of the range, next to it and far from it.
var outside = []int{
	-1, -2, -4000, -4001, math.MinInt32, math.MinInt + 1, math.MinInt,
	4001, 4002, 8000, 1 << 32, 1<<32 + 1, math.MaxInt32, math.MaxInt - 1, math.MaxInt,
}

// inside are numbers of the range, its ends among them.
var inside = []int{0, 1, 2, 7, 10, 300, 1999, 2000, 3999, 4000}

// blobs whose data have these lengths. Their digests are left out, as nothing here depends on them.
func blobs(lengths ...int) []api.Blob {
	var l []api.Blob
	for _, n := range lengths {
		l = append(l, api.Blob{Data: make([]byte, n)})
	}
	return l
}

// lists of blobs with their totals.
func lists() []struct {
	l     []api.Blob
	total int
} {
	return []struct {
		l     []api.Blob
		total int
	}{
		{nil, 0},
		{[]api.Blob{}, 0},
		{blobs(0), 0},
		{blobs(0, 0, 0), 0},
		{blobs(1), 1},
		{blobs(7), 7},
		{blobs(3, 4), 7},
		{blobs(4, 0, 3), 7},
		{blobs(0, 1, 2, 3, 4), 10},
		{blobs(300), 300},
		{blobs(slices.Repeat([]int{300}, 13)...), 3900},
		{blobs(append(slices.Repeat([]int{300}, 13), 99)...), 3999},
		{blobs(append(slices.Repeat([]int{300}, 13), 100)...), 4000},
		{blobs(append(slices.Repeat([]int{300}, 13), 101)...), 4001},
		{blobs(slices.Repeat([]int{300}, 24)...), 7200},
		// Beyond the limits of a blob and of a list of blobs: the chapter does not reject these.
		{blobs(301), 301},
		{blobs(5000), 5000},
		{blobs(slices.Repeat([]int{2}, 100)...), 200},
	}
}

func wantUsed(t *testing.T, l []api.Blob, want int) {
	t.Helper()
	if got := Used(l); got != want {
		t.Errorf("Used of %d blobs = %d, want %d", len(l), got, want)
	}
}

// wantLacks checks a call of Lacks without an error, and that of Fits that follows from it.
func wantLacks(t *testing.T, l []api.Blob, room, more, want int) {
	t.Helper()
	if got, err := Lacks(l, room, more); got != want || err != api.OK {
		t.Errorf("Lacks(%d bytes, %d, %d) = %d, %d, want %d", Used(l), room, more, got, err, want)
	}
	wantErr := api.OK
	if want > 0 {
		wantErr = api.ErrFull
	}
	wantFits(t, l, room, more, wantErr)
}

// wantNoLacks checks that a call of Lacks has only an error, and that Fits has the same one.
func wantNoLacks(t *testing.T, l []api.Blob, room, more int) {
	t.Helper()
	if got, err := Lacks(l, room, more); got != 0 || err != api.ErrRange {
		t.Errorf("Lacks(%d bytes, %d, %d) = %d, %d, want only error %d", Used(l), room, more, got, err, api.ErrRange)
	}
	wantFits(t, l, room, more, api.ErrRange)
}

func wantFits(t *testing.T, l []api.Blob, room, more int, want api.Errno) {
	t.Helper()
	if err := Fits(l, room, more); err != want {
		t.Errorf("Fits(%d bytes, %d, %d) = %d, want %d", Used(l), room, more, err, want)
	}
}

// P9.1
func TestUsed(t *testing.T) {
	for _, c := range lists() {
		wantUsed(t, c.l, c.total)
	}
	for n := range 400 {
		wantUsed(t, blobs(n), n)
		wantUsed(t, blobs(5, n, 2), n+7)
	}
}

// P9.1: only the bytes of Data count, and those of every blob, also where two are the same.
func TestUsedCountsDataOnly(t *testing.T) {
	data := []byte("abc")
	wantUsed(t, []api.Blob{{Digest: "abcdef", Pins: 3, Mark: true}}, 0)
	wantUsed(t, []api.Blob{{Digest: "x", Data: data, Pins: 5, Mark: true}, {Digest: "y", Data: []byte("d"), Pins: -1}}, 4)
	wantUsed(t, []api.Blob{{Digest: "x", Data: data}, {Digest: "x", Data: data}}, 6)
	wantUsed(t, []api.Blob{{Data: make([]byte, 3, 100)}, {Data: []byte("é")}}, 5)
	l := blobs(1, 2, 4, 8)
	wantUsed(t, l[:2], 3)
	wantUsed(t, l[1:3], 6)
}

// P9.2: the example of the chapter.
func TestLacksExample(t *testing.T) {
	wantLacks(t, blobs(7), 10, 5, 2)
	wantLacks(t, blobs(3, 4), 10, 5, 2)
}

// P9.2, P9.3: around the point where the room is just used up.
func TestLacksAroundTheRoom(t *testing.T) {
	l := blobs(3, 0, 4)
	for more := range 4 {
		wantLacks(t, l, 10, more, 0)
	}
	for more := 4; more <= 4000; more++ {
		wantLacks(t, l, 10, more, more-3)
	}
	for room := range 12 {
		wantLacks(t, l, room, 5, 12-room)
	}
	for room := 12; room <= 4000; room++ {
		wantLacks(t, l, room, 5, 0)
	}
}

// P9.2, P9.3: the blobs alone may exceed the room already, and MaxRoom too.
func TestLacksOfTheBlobsAlone(t *testing.T) {
	wantLacks(t, nil, 0, 0, 0)
	wantLacks(t, blobs(0), 0, 0, 0)
	wantLacks(t, blobs(1), 0, 0, 1)
	wantLacks(t, blobs(7), 6, 0, 1)
	wantLacks(t, blobs(7), 7, 0, 0)
	wantLacks(t, blobs(7), 7, 1, 1)
	wantLacks(t, blobs(5000), 4000, 0, 1000)
	wantLacks(t, blobs(5000), 4000, 4000, 5000)
	wantLacks(t, blobs(5000), 0, 4000, 9000)
}

// P9.2, P9.3: both ends of the range belong to it.
func TestLacksAtTheEnds(t *testing.T) {
	wantLacks(t, nil, 4000, 4000, 0)
	wantLacks(t, nil, 3999, 4000, 1)
	wantLacks(t, nil, 0, 4000, 4000)
	wantLacks(t, nil, 4000, 0, 0)
	wantLacks(t, blobs(1), 4000, 4000, 1)
	wantLacks(t, blobs(1), 4000, 3999, 0)
}

// P9.2, P9.3: every list with every room and every number of additional bytes.
func TestLacksOfEveryList(t *testing.T) {
	for _, c := range lists() {
		for _, room := range inside {
			for _, more := range inside {
				want := 0
				if c.total+more > room {
					want = c.total + more - room
				}
				wantLacks(t, c.l, room, more, want)
			}
		}
	}
}

// P9.2, P9.3: a number outside the range is told whether or not the bytes would fit.
func TestOutOfRange(t *testing.T) {
	for _, c := range lists() {
		for _, bad := range outside {
			for _, good := range inside {
				wantNoLacks(t, c.l, bad, good)
				wantNoLacks(t, c.l, good, bad)
			}
			for _, other := range outside {
				wantNoLacks(t, c.l, bad, other)
			}
		}
	}
}

// P9.1 to P9.3, with the document's general rules on memory and on state.
func TestArgumentsStay(t *testing.T) {
	make7 := func() []api.Blob {
		return []api.Blob{
			{Digest: "x", Data: append([]byte("abc"), "spare"...)[:3], Pins: 2, Mark: true},
			{Digest: "y", Data: []byte("defg")},
			{Digest: "spare", Data: []byte("spare")},
		}
	}
	all, want := make7(), make7()
	l := all[:2]
	for range 3 {
		wantUsed(t, l, 7)
		wantLacks(t, l, 10, 5, 2)
		wantLacks(t, l, 10, 3, 0)
		wantNoLacks(t, l, -1, 3)
	}
	if !reflect.DeepEqual(all, want) || string(all[0].Data[:8]) != "abcspare" {
		t.Errorf("the blobs are %+v now, want %+v", all, want)
	}
}
