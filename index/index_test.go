package index

import (
	"fmt"
	"math"
	"reflect"
	"slices"
	"strings"
	"testing"
	"unsafe"

	"appleloft/api"
)

const (
	abc     = "ba7816bf8f01cfea414140de5dae2223b00361a396177a9cb410ff61f20015ad"
	nothing = "e3b0c44298fc1c149afbf4c8996fb92427ae41e4649b934ca495991b7852b855"
)

// keyOf is a key that is greater for a greater number, of which only the last two digits tell it from others.
func keyOf(n int) string {
	return fmt.Sprintf("%064x", n)
}

// partsOf are parts that tell one number from another; for 0 there are none, and there may be up to eight.
func partsOf(n int) []api.Part {
	var l []api.Part
	for i := range n % (api.MaxParts + 1) {
		l = append(l, api.Part{Name: fmt.Sprintf("p%d", i), Digest: keyOf(100*n + i), Size: (n*37 + i) % (api.MaxBlob + 1)})
	}
	return l
}

func entryOf(key string, pins, stamp int) api.Entry {
	return api.Entry{Key: key, Parts: []api.Part{{Name: "a.o", Digest: abc, Size: 3}}, Pins: pins, Stamp: stamp}
}

// some entries that are in order, as many as n, with all counts; between any two there is place for another key.
func some(n int) []api.Entry {
	var l []api.Entry
	for i := range n {
		l = append(l, api.Entry{Key: keyOf(2*i + 1), Parts: partsOf(i), Pins: i % (api.MaxPins + 1), Stamp: 1000 - 7*i})
	}
	return l
}

// free entries are held by nobody.
func free(n int) []api.Entry {
	l := some(n)
	for i := range l {
		l[i].Pins = 0
	}
	return l
}

// clone is a deep copy that does not use the program.
func clone(l []api.Entry) []api.Entry {
	c := append([]api.Entry{}, l...)
	for i := range c {
		c[i].Parts = append([]api.Part{}, c[i].Parts...)
	}
	return c
}

func same(a, b []api.Entry) bool {
	return slices.EqualFunc(a, b, func(x, y api.Entry) bool {
		return x.Key == y.Key && slices.Equal(x.Parts, y.Parts) && x.Pins == y.Pins && x.Stamp == y.Stamp
	})
}

// wantCheck checks a call of Check, and if there is an error, that Put and Drop have it before every other one.
func wantCheck(t *testing.T, l []api.Entry, want api.Errno) {
	t.Helper()
	if err := Check(l); err != want {
		t.Errorf("Check(%+v) = %d, want %d", l, err, want)
	}
	if want == api.OK {
		return
	}
	for _, x := range []api.Entry{entryOf(keyOf(50), 0, 0), entryOf(abc, 6, -1), {}, {Key: strings.Repeat("g", 64)}} {
		wantNoPut(t, l, x, want)
		wantNoDrop(t, l, x.Key, want)
	}
	for _, x := range l {
		wantNoPut(t, l, x, want)
		wantNoDrop(t, l, x.Key, want)
	}
}

func wantFind(t *testing.T, l []api.Entry, key string, want int, wantErr api.Errno) {
	t.Helper()
	if i, err := Find(l, key); i != want || err != wantErr {
		t.Errorf("Find(%+v, %q) = %d, %d, want %d, %d", l, key, i, err, want, wantErr)
	}
}

func wantPut(t *testing.T, l []api.Entry, x api.Entry, want []api.Entry) {
	t.Helper()
	got, err := Put(l, x)
	if !same(got, want) || err != api.OK {
		t.Errorf("Put(%+v, %+v) = %+v, %d, want %+v", l, x, got, err, want)
	}
	if err := Check(got); err != api.OK {
		t.Errorf("Check after Put(%+v, %+v) = %d", l, x, err)
	}
}

func wantNoPut(t *testing.T, l []api.Entry, x api.Entry, want api.Errno) {
	t.Helper()
	if got, err := Put(l, x); len(got) != 0 || err != want {
		t.Errorf("Put(%+v, %+v) = %+v, %d, want only error %d", l, x, got, err, want)
	}
}

func wantDrop(t *testing.T, l []api.Entry, key string, want []api.Entry) {
	t.Helper()
	if got, err := Drop(l, key); !same(got, want) || err != api.OK {
		t.Errorf("Drop(%+v, %q) = %+v, %d, want %+v", l, key, got, err, want)
	}
}

func wantNoDrop(t *testing.T, l []api.Entry, key string, want api.Errno) {
	t.Helper()
	if got, err := Drop(l, key); len(got) != 0 || err != want {
		t.Errorf("Drop(%+v, %q) = %+v, %d, want only error %d", l, key, got, err, want)
	}
}

func wantOldest(t *testing.T, l []api.Entry, want int, wantErr api.Errno) {
	t.Helper()
	if i, err := Oldest(l); i != want || err != wantErr {
		t.Errorf("Oldest(%+v) = %d, %d, want %d, %d", l, i, err, want, wantErr)
	}
}

// wrong is an entry that may not be, with what is wrong with it.
type wrong struct {
	entry api.Entry
	want  api.Errno
}

func with(key string, parts []api.Part, pins, stamp int) api.Entry {
	return api.Entry{Key: key, Parts: parts, Pins: pins, Stamp: stamp}
}

// badKeys are entries right but for their keys, or with more wrong behind these.
func badKeys() []wrong {
	var l []wrong
	for _, c := range []struct {
		key  string
		want api.Errno
	}{
		{"", api.ErrSize},
		{"x", api.ErrSize},
		{abc[:63], api.ErrSize},
		{abc + "0", api.ErrSize},
		{abc + abc, api.ErrSize},
		{strings.Repeat("g", 63), api.ErrSize},
		{strings.Repeat("g", 64), api.ErrForm},
		{strings.ToUpper(abc), api.ErrForm},
		{abc[:63] + "D", api.ErrForm},
		{" " + abc[1:], api.ErrForm},
		{abc[:62] + "é", api.ErrForm},
	} {
		l = append(l, wrong{entryOf(c.key, 0, 0), c.want}, wrong{with(c.key, badParts()[0].entry.Parts, 6, -1), c.want})
	}
	return l
}

// badParts are entries with right keys, but not with right parts.
func badParts() []wrong {
	part := func(name, digest string, size int) api.Part {
		return api.Part{Name: name, Digest: digest, Size: size}
	}
	var l []wrong
	for _, c := range []struct {
		parts []api.Part
		want  api.Errno
	}{
		{[]api.Part{part("a b", abc, 3)}, api.ErrForm},
		{slices.Repeat([]api.Part{part("a", abc, 3)}, 9), api.ErrSize},
		{[]api.Part{part("", abc, 3)}, api.ErrSize},
		{[]api.Part{part("thirteenbytes", abc, 3)}, api.ErrSize},
		{[]api.Part{part("a", abc, 3), part("a", abc, 3)}, api.ErrTwice},
		{[]api.Part{part("b", abc, 3), part("a", abc, 3)}, api.ErrTwice},
		{[]api.Part{part("a", abc[:63], 3)}, api.ErrSize},
		{[]api.Part{part("a", strings.ToUpper(abc), 3)}, api.ErrForm},
		{[]api.Part{part("a", abc, -1)}, api.ErrRange},
		{[]api.Part{part("a", abc, 301)}, api.ErrRange},
		{[]api.Part{part("a", abc, 3), {}}, api.ErrSize},
	} {
		for _, pins := range []int{0, 6} {
			for _, stamp := range []int{0, -1} {
				l = append(l, wrong{with(abc, c.parts, pins, stamp), c.want})
			}
		}
	}
	return l
}

// badPins are entries with wrong counts, half of them with wrong stamps behind these.
func badPins() []wrong {
	var l []wrong
	for _, pins := range []int{-1, -5, -6, 6, 7, 1 << 32, 1<<32 + 1, -1 << 32, math.MinInt, math.MaxInt} {
		l = append(l, wrong{entryOf(abc, pins, 0), api.ErrRange}, wrong{entryOf(abc, pins, -1), api.ErrRange})
	}
	return l
}

// badStamps are entries with nothing wrong but their stamps.
func badStamps() []wrong {
	var l []wrong
	for _, stamp := range []int{-1, -2, 1<<40 + 1, 1<<40 + 2, 1 << 41, -1 << 40, math.MinInt, math.MaxInt} {
		l = append(l, wrong{entryOf(abc, 0, stamp), api.ErrRange}, wrong{with(abc, nil, 5, stamp), api.ErrRange})
	}
	return l
}

// bad are entries with everything that may be wrong with one, by itself.
func bad() []wrong {
	return slices.Concat(badKeys(), badParts(), badPins(), badStamps())
}

// P10.1
func TestCheckNumberOfEntries(t *testing.T) {
	for n := range 30 {
		want := api.OK
		if n > 10 {
			want = api.ErrSize
		}
		wantCheck(t, some(n), want)
	}
	wantCheck(t, []api.Entry{}, api.OK)
	// Too many entries are told before what is wrong with one of them.
	for _, c := range bad() {
		wantCheck(t, slices.Repeat([]api.Entry{c.entry}, 11), api.ErrSize)
	}
}

// P10.1
func TestCheckLimits(t *testing.T) {
	for _, key := range []string{abc, nothing, strings.Repeat("0", 64), strings.Repeat("f", 64), strings.Repeat("0123456789abcdef", 4)} {
		wantCheck(t, []api.Entry{entryOf(key, 0, 0)}, api.OK)
	}
	for pins := -20; pins < 20; pins++ {
		want := api.OK
		if pins < 0 || pins > 5 {
			want = api.ErrRange
		}
		wantCheck(t, []api.Entry{entryOf(abc, pins, 0)}, want)
	}
	for _, stamp := range []int{0, 1, 5, 1<<31 - 1, 1 << 31, 1<<32 - 1, 1 << 32, 1<<40 - 1, 1 << 40} {
		wantCheck(t, []api.Entry{entryOf(abc, 0, stamp)}, api.OK)
	}
	for n := range 10 {
		wantCheck(t, []api.Entry{with(abc, partsOf(n), 0, 0)}, api.OK)
	}
	// Stamps and parts of different entries have nothing to do with each other.
	wantCheck(t, []api.Entry{entryOf(abc, 5, 7), entryOf(nothing, 5, 7)}, api.OK)
	wantCheck(t, []api.Entry{entryOf(abc, 0, 1<<40), entryOf(nothing, 0, 0)}, api.OK)
}

// P10.1: alone, in an order that is wrong, and before another one that is wrong otherwise, the entry itself is wrong first.
func TestCheckEveryError(t *testing.T) {
	for _, c := range badKeys() {
		wantCheck(t, []api.Entry{entryOf(nothing, 0, 0), c.entry}, c.want)
	}
	for _, c := range bad() {
		wantCheck(t, []api.Entry{c.entry}, c.want)
		wantCheck(t, []api.Entry{entryOf(keyOf(1), 0, 0), c.entry}, c.want)
		for _, behind := range []api.Entry{{}, entryOf(keyOf(1), 6, -1), {Key: strings.Repeat("g", 64)}} {
			wantCheck(t, []api.Entry{c.entry, behind}, c.want)
		}
	}
}

// P10.1: the order is told behind a wrong key, and before wrong parts, counts and stamps.
func TestCheckOrderFirst(t *testing.T) {
	for _, c := range slices.Concat(badParts(), badPins(), badStamps()) {
		wantCheck(t, []api.Entry{entryOf(abc, 0, 0), c.entry}, api.ErrTwice)
		wantCheck(t, []api.Entry{entryOf(nothing, 0, 0), c.entry}, api.ErrTwice)
	}
}

// P10.1: a wrong entry is found at every place.
func TestCheckEveryEntry(t *testing.T) {
	for i := range 10 {
		for _, c := range bad() {
			l := some(10)
			if c.entry.Key == abc {
				c.entry.Key = l[i].Key
			}
			l[i] = c.entry
			wantCheck(t, l, c.want)
		}
	}
}

// P10.1: every entry is compared with the one before it.
func TestCheckOrder(t *testing.T) {
	l := some(10)
	for i := range 9 {
		swapped := clone(l)
		swapped[i], swapped[i+1] = swapped[i+1], swapped[i]
		wantCheck(t, swapped, api.ErrTwice)
		doubled := clone(l)
		doubled[i+1].Key = doubled[i].Key
		wantCheck(t, doubled, api.ErrTwice)
	}
	wantCheck(t, append(clone(l[1:]), l[0]), api.ErrTwice)
	wantCheck(t, []api.Entry{entryOf(abc, 0, 0), entryOf(abc, 0, 0)}, api.ErrTwice)
	wantCheck(t, []api.Entry{entryOf(abc[:63]+"9", 0, 0), entryOf(abc[:63]+"a", 0, 0)}, api.OK)
	wantCheck(t, []api.Entry{entryOf("0"+abc[1:], 0, 0), entryOf("f"+abc[1:], 0, 0)}, api.OK)
	wantCheck(t, []api.Entry{entryOf("f"+abc[1:], 0, 0), entryOf("0"+abc[1:], 0, 0)}, api.ErrTwice)
}

// P10.2
func TestFindInOrder(t *testing.T) {
	for n := range 11 {
		l := some(n)
		for i, x := range l {
			wantFind(t, l, x.Key, i, api.OK)
			wantFind(t, l, keyOf(2*i), 0, api.ErrNone)
			wantFind(t, l, x.Key[:63], 0, api.ErrNone)
			wantFind(t, l, x.Key+"0", 0, api.ErrNone)
		}
		for _, key := range []string{"", "x", abc, strings.ToUpper(keyOf(15)), keyOf(2 * n), strings.Repeat("f", 64)} {
			wantFind(t, l, key, 0, api.ErrNone)
		}
	}
}

// P10.2: entries need not be right or in order or few; the first of several is found.
func TestFindAnywhere(t *testing.T) {
	l := []api.Entry{{Key: "c"}, {Key: "a", Pins: -1}, {Key: "b"}, {Key: "a", Stamp: -1}, {Key: ""}, {Key: "c"}}
	wantFind(t, l, "a", 1, api.OK)
	wantFind(t, l, "b", 2, api.OK)
	wantFind(t, l, "c", 0, api.OK)
	wantFind(t, l, "", 4, api.OK)
	wantFind(t, l, "d", 0, api.ErrNone)
	wantFind(t, l[2:], "a", 1, api.OK)
	wantFind(t, slices.Concat(some(10), some(10), l), "b", 22, api.OK)
	wantFind(t, nil, "", 0, api.ErrNone)
	wantFind(t, []api.Entry{}, abc, 0, api.ErrNone)
}

// P10.3: entries need not be right or in order or few.
func TestCopy(t *testing.T) {
	wild := []api.Entry{
		{Key: "x", Parts: slices.Repeat([]api.Part{{Name: "\n", Size: -1}}, 50), Pins: -7, Stamp: math.MinInt},
		{},
		{Key: "x", Parts: []api.Part{}, Pins: math.MaxInt},
		{Key: "a", Parts: partsOf(3), Stamp: math.MaxInt},
	}
	for _, l := range [][]api.Entry{nil, {}, some(1), some(5), some(10), wild, slices.Concat(wild, some(40), wild)} {
		if got := Copy(l); !same(got, l) {
			t.Errorf("Copy(%+v) = %+v", l, got)
		}
	}
}

// P10.4: a new entry has its place in the order, whatever that is, and its own count.
func TestPutEveryPlace(t *testing.T) {
	for n := 1; n <= 10; n++ {
		all := some(n)
		for i, x := range all {
			wantPut(t, slices.Delete(clone(all), i, i+1), x, all)
		}
	}
	for i := range 10 {
		x := with(keyOf(2*i), partsOf(i), i%6, 1<<40)
		wantPut(t, some(9), x, slices.Insert(some(9), i, x))
	}
}

// P10.4: the entry that is replaced gives its count and nothing else, also in a list that is full.
func TestPutAgain(t *testing.T) {
	for n := 1; n <= 10; n++ {
		for i, old := range some(n) {
			for _, pins := range []int{0, 1, 5} {
				x := with(old.Key, partsOf(8-i%8), pins, i)
				want := some(n)
				want[i] = with(old.Key, partsOf(8-i%8), old.Pins, i)
				wantPut(t, some(n), x, want)
			}
			want := some(n)
			want[i] = with(old.Key, nil, old.Pins, 0)
			wantPut(t, some(n), api.Entry{Key: old.Key}, want)
			wantPut(t, some(n), old, some(n))
		}
	}
}

// P10.4: a wrong count is wrong in a new entry, but gives way to the count of an entry that is replaced.
func TestPutPins(t *testing.T) {
	for _, c := range badPins() {
		wantNoPut(t, nil, c.entry, api.ErrRange)
		wantNoPut(t, some(9), c.entry, api.ErrRange)
		want := c.want
		if c.entry.Stamp >= 0 {
			want = api.OK
		}
		for pins := range 6 {
			l := []api.Entry{entryOf(keyOf(1), 0, 3), with(abc, nil, pins, 2), entryOf(nothing, 0, 1)}
			if want != api.OK {
				wantNoPut(t, l, c.entry, want)
				continue
			}
			wantPut(t, l, c.entry, []api.Entry{l[0], entryOf(abc, pins, 0), l[2]})
		}
	}
}

// P10.4: the new entry is checked, be it new or for an old one, and at every place.
func TestPutWrong(t *testing.T) {
	for _, c := range slices.Concat(badKeys(), badParts(), badStamps()) {
		wantNoPut(t, nil, c.entry, c.want)
		for n := range 10 {
			wantNoPut(t, some(n), c.entry, c.want)
		}
		if c.entry.Key != abc {
			continue
		}
		wantNoPut(t, []api.Entry{entryOf(abc, 2, 5)}, c.entry, c.want)
		for i, old := range some(10) {
			c.entry.Key = old.Key
			wantNoPut(t, some(10), c.entry, c.want)
			wantNoPut(t, slices.Delete(some(10), i, i+1), c.entry, c.want)
		}
	}
}

// P10.4: that there are too many entries is told before what is wrong with the new one.
func TestPutFull(t *testing.T) {
	for i := range 11 {
		wantNoPut(t, some(10), entryOf(keyOf(2*i), 0, 0), api.ErrSize)
	}
	for _, c := range bad() {
		wantNoPut(t, some(10), c.entry, api.ErrSize)
	}
	wantPut(t, some(9), entryOf(abc, 0, 0), append(some(9), entryOf(abc, 0, 0)))
}

// P10.4: with everything that has been put, in one order or the other, the list is the same.
func TestPutOneByOne(t *testing.T) {
	var up, down []api.Entry
	all := some(10)
	for i := range all {
		up, _ = Put(up, all[i])
		down, _ = Put(down, all[9-i])
	}
	if !same(up, all) || !same(down, all) {
		t.Errorf("put one by one: %+v and %+v, want %+v", up, down, all)
	}
}

// P10.5
func TestDropEveryPlace(t *testing.T) {
	for n := range 11 {
		l := free(n)
		for i, x := range l {
			wantDrop(t, l, x.Key, slices.Delete(clone(l), i, i+1))
		}
		for _, key := range []string{"", "x", abc, keyOf(0), keyOf(2 * n), strings.Repeat("g", 64)} {
			wantNoDrop(t, l, key, api.ErrNone)
		}
	}
}

// P10.5: only the count of the entry itself holds it.
func TestDropHeld(t *testing.T) {
	l := some(10)
	for i, x := range l {
		if x.Pins > 0 {
			wantNoDrop(t, l, x.Key, api.ErrHeld)
		} else {
			wantDrop(t, l, x.Key, slices.Delete(clone(l), i, i+1))
		}
	}
	for pins := 1; pins <= 5; pins++ {
		held := entryOf(abc, pins, 0)
		wantNoDrop(t, []api.Entry{held}, abc, api.ErrHeld)
		wantNoDrop(t, []api.Entry{held}, nothing, api.ErrNone)
		wantDrop(t, []api.Entry{held, entryOf(nothing, 0, 0)}, nothing, []api.Entry{held})
	}
}

// P10.4, P10.5: what was put can be dropped, and is gone then.
func TestPutAndDrop(t *testing.T) {
	for n := range 10 {
		before := some(n)
		l, _ := Put(before, entryOf(abc, 0, 9))
		wantDrop(t, l, abc, before)
		wantNoDrop(t, before, abc, api.ErrNone)
	}
}

// P10.6
func TestOldestStamp(t *testing.T) {
	for n := 1; n <= 10; n++ {
		for i := range n {
			l := free(n)
			for j := range l {
				l[j].Stamp = 50 + (j-i)*(j-i)
			}
			wantOldest(t, l, i, api.OK)
			l[i].Stamp = 1 << 40
			wantOldest(t, slices.Clone(l[i:i+1]), 0, api.OK)
		}
		wantOldest(t, free(n), n-1, api.OK)
	}
}

// P10.6: an entry with any count but 0 is not the oldest one.
func TestOldestHeld(t *testing.T) {
	wantOldest(t, nil, 0, api.ErrNone)
	wantOldest(t, []api.Entry{}, 0, api.ErrNone)
	for _, pins := range []int{1, 2, 5, 6, -1, 1 << 32, math.MinInt, math.MaxInt} {
		held := entryOf(abc, pins, 0)
		wantOldest(t, []api.Entry{held}, 0, api.ErrNone)
		wantOldest(t, slices.Repeat([]api.Entry{held}, 12), 0, api.ErrNone)
		wantOldest(t, []api.Entry{held, entryOf(nothing, 0, 9)}, 1, api.OK)
		wantOldest(t, []api.Entry{entryOf(keyOf(1), 0, 9), held}, 0, api.OK)
		wantOldest(t, []api.Entry{held, entryOf(nothing, 0, 9), held, entryOf(nothing, 0, 8), held}, 3, api.OK)
	}
	wantOldest(t, some(10), 6, api.OK)
	wantOldest(t, some(6), 0, api.OK)
}

// P10.6: for equal stamps the smallest key, wherever it is, and for equal keys the first.
func TestOldestEqualStamps(t *testing.T) {
	same := free(10)
	for i := range same {
		same[i].Stamp = 4
	}
	wantOldest(t, same, 0, api.OK)
	slices.Reverse(same)
	wantOldest(t, same, 9, api.OK)
	for i := range same {
		l := clone(same)
		l[i].Key = keyOf(0)
		wantOldest(t, l, i, api.OK)
		// A held one has no part in it.
		l[i].Pins = 1
		want := 9
		if i == 9 {
			want = 8
		}
		wantOldest(t, l, want, api.OK)
		// Stamps tell before keys.
		l = clone(same)
		l[i].Key, l[i].Stamp = nothing, 3
		wantOldest(t, l, i, api.OK)
	}
	one := entryOf(abc, 0, 4)
	two := entryOf(nothing, 0, 4)
	wantOldest(t, []api.Entry{one, one, one}, 0, api.OK)
	wantOldest(t, []api.Entry{two, one, two, one}, 1, api.OK)
}

// P10.6: entries need not be right or in order or few.
func TestOldestOfAny(t *testing.T) {
	at := func(key string, stamp int) api.Entry { return api.Entry{Key: key, Stamp: stamp} }
	wantOldest(t, []api.Entry{at("b", -1), at("a", 0)}, 0, api.OK)
	wantOldest(t, []api.Entry{at("a", math.MaxInt), at("a", math.MinInt), at("", math.MaxInt)}, 1, api.OK)
	wantOldest(t, []api.Entry{at("a", math.MinInt), at("a", math.MaxInt)}, 0, api.OK)
	wantOldest(t, []api.Entry{at("a", math.MaxInt)}, 0, api.OK)
	wantOldest(t, []api.Entry{at("a", -1), at("B", -1), at("ab", -1)}, 1, api.OK)
	wantOldest(t, []api.Entry{at("ab", 2), at("a", 2), at("a\x00", 2)}, 1, api.OK)
	wantOldest(t, []api.Entry{at("\xff", 2), at("é", 2)}, 1, api.OK)
	wantOldest(t, []api.Entry{at("a", 2), at("", 2), at("", 2)}, 1, api.OK)
	wantOldest(t, append(slices.Repeat([]api.Entry{at("a", 2)}, 100), at("b", 1)), 100, api.OK)
	wantOldest(t, []api.Entry{{Key: "a", Parts: make([]api.Part, 30), Stamp: 1 << 50}}, 0, api.OK)
}

// spare is a list, and all parts in it, with capacity that is not used and has something in it.
func spare(l []api.Entry) []api.Entry {
	c := append(clone(l), entryOf("spare one", 1, 1), entryOf("spare two", 2, 2))
	for i := range c {
		c[i].Parts = spareParts(c[i].Parts)
	}
	return c[:len(l)]
}

func spareParts(l []api.Part) []api.Part {
	return append(slices.Clone(l), api.Part{Name: "spare", Size: 1}, api.Part{Name: "spare", Size: 2})[:len(l)]
}

// whole is a list with its unused capacity, deep: all that a call could change.
func whole(l []api.Entry) []api.Entry {
	c := append([]api.Entry{}, l[:cap(l)]...)
	for i := range c {
		c[i].Parts = append([]api.Part{}, c[i].Parts[:cap(c[i].Parts)]...)
	}
	return c
}

func spoilParts(l []api.Part) {
	l = l[:cap(l)]
	for i := range l {
		l[i] = api.Part{Name: "spoilt", Size: 99}
	}
}

// spoil changes everything in a list and in its unused capacity.
func spoil(l []api.Entry) {
	l = l[:cap(l)]
	for i := range l {
		spoilParts(l[i].Parts)
		l[i] = api.Entry{Key: "spoilt", Pins: 99}
	}
}

// unsharedParts: writing behind the parts of one entry, or into them, changes no other.
func unsharedParts(t *testing.T, l []api.Entry) {
	t.Helper()
	for i := range l {
		others := clone(slices.Delete(clone(l), i, i+1))
		mine := l[i].Parts[:cap(l[i].Parts)]
		kept := slices.Clone(mine)
		spoilParts(mine)
		if !same(slices.Delete(clone(l), i, i+1), others) {
			t.Errorf("the parts of entry %d of %+v share memory with another", i, l)
		}
		copy(mine, kept)
	}
}

// P10.1 to P10.6, with the document's general rules on memory and on state.
func TestMemory(t *testing.T) {
	for n := range 11 {
		l := spare(free(n))
		fresh, known, key := entryOf(abc, 1, 3), entryOf(abc, 1, 3), "x"
		if n == 10 {
			fresh.Key = l[3].Key
		}
		if n > 0 {
			// The same parts as another entry: they may not be shared in the result.
			key, known = l[n/2].Key, l[0]
			known.Key = key
		}
		fresh.Parts = spareParts(fresh.Parts)
		before, freshBefore := whole(l), whole([]api.Entry{fresh})
		calls := []func() []api.Entry{
			func() []api.Entry { Check(l); return nil },
			func() []api.Entry { Find(l, key); return nil },
			func() []api.Entry { return Copy(l) },
			func() []api.Entry { c, _ := Put(l, fresh); return c },
			func() []api.Entry { c, _ := Put(l, known); return c },
			func() []api.Entry { c, _ := Drop(l, key); return c },
			func() []api.Entry { Oldest(l); return nil },
		}
		for i, call := range calls {
			unchanged := func(what string) {
				if !reflect.DeepEqual(whole(l), before) || !reflect.DeepEqual(whole([]api.Entry{fresh}), freshBefore) {
					t.Fatalf("call %d with %d entries: %s", i, n, what)
				}
			}
			first, second := call(), call()
			unchanged("the arguments are changed")
			if !same(first, second) {
				t.Errorf("call %d with %d entries: %+v, then %+v", i, n, first, second)
			}
			unsharedParts(t, first)
			kept := clone(second)
			spoil(first)
			unchanged("the result shares memory with an argument")
			if !same(second, kept) {
				t.Errorf("call %d with %d entries: two results share memory", i, n)
			}
		}
	}
}

// P10.3 to P10.5: a result stays as it is when the arguments change later.
func TestResultsStay(t *testing.T) {
	calls := []func(l []api.Entry, x api.Entry) []api.Entry{
		func(l []api.Entry, x api.Entry) []api.Entry { return Copy(l) },
		func(l []api.Entry, x api.Entry) []api.Entry { c, _ := Put(l, x); return c },
		func(l []api.Entry, x api.Entry) []api.Entry { x.Key = l[4].Key; c, _ := Put(l, x); return c },
		func(l []api.Entry, x api.Entry) []api.Entry { c, _ := Drop(l, l[4].Key); return c },
	}
	for i, call := range calls {
		l, x := spare(free(9)), entryOf(abc, 0, 1)
		got := call(l, x)
		if len(got) == 0 {
			t.Errorf("call %d has no result", i)
		}
		want := clone(got)
		spoil(l)
		spoilParts(x.Parts)
		if !same(got, want) {
			t.Errorf("result %d changed with its arguments: %+v, want %+v", i, got, want)
		}
	}
}

// P10.3 to P10.5: a list without parts is not kept either, though it may have capacity.
func TestNoPartsNotKept(t *testing.T) {
	l := []api.Entry{{Key: abc, Parts: make([]api.Part, 0, 4)}, {Key: nothing, Parts: make([]api.Part, 0, 4)}}
	put, _ := Put(l, l[0])
	dropped, _ := Drop(l, abc)
	for _, got := range slices.Concat(Copy(l), put, dropped) {
		for _, x := range l {
			if unsafe.SliceData(got.Parts) == unsafe.SliceData(x.Parts) {
				t.Errorf("the parts of %q are those of the argument", got.Key)
			}
		}
	}
}
