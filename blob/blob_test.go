package blob

import (
	"bytes"
	"crypto/sha256"
	"encoding/hex"
	"math"
	"reflect"
	"slices"
	"strings"
	"testing"

	"appleloft/api"
)

const (
	abc     = "ba7816bf8f01cfea414140de5dae2223b00361a396177a9cb410ff61f20015ad"
	nothing = "e3b0c44298fc1c149afbf4c8996fb92427ae41e4649b934ca495991b7852b855"
)

// sum is a digest by the library.
func sum(data []byte) string {
	d := sha256.Sum256(data)
	return hex.EncodeToString(d[:])
}

func blobOf(data string, pins int) api.Blob {
	return api.Blob{Digest: sum([]byte(data)), Data: []byte(data), Pins: pins}
}

// sorted puts blobs in the order of their digests.
func sorted(l []api.Blob) []api.Blob {
	slices.SortFunc(l, func(a, b api.Blob) int { return strings.Compare(a.Digest, b.Digest) })
	return l
}

// textOf is a text that tells one number from another; its length grows with the number, and is 0 for 0.
func textOf(n int) string {
	return strings.Repeat(string([]byte{byte(n)}), n)
}

// some blobs that are in order, as many as n, with all counts, marked and not marked.
func some(n int) []api.Blob {
	var l []api.Blob
	for i := range n {
		b := blobOf(textOf(i), i%(api.MaxPins+1))
		b.Mark = i%2 == 1
		l = append(l, b)
	}
	return sorted(l)
}

// free blobs are held by nobody.
func free(n int) []api.Blob {
	l := some(n)
	for i := range l {
		l[i].Pins = 0
	}
	return l
}

// clone is a deep copy that does not use the program.
func clone(l []api.Blob) []api.Blob {
	c := slices.Clone(l)
	for i := range c {
		c[i].Data = []byte(string(c[i].Data))
	}
	return c
}

func same(a, b []api.Blob) bool {
	return slices.EqualFunc(a, b, func(x, y api.Blob) bool {
		return x.Digest == y.Digest && bytes.Equal(x.Data, y.Data) && x.Pins == y.Pins && x.Mark == y.Mark
	})
}

func wantRight(t *testing.T, b api.Blob, want api.Errno) {
	t.Helper()
	for _, mark := range []bool{false, true} {
		b.Mark = mark
		if err := Right(b); err != want {
			t.Errorf("Right(%+v) = %d, want %d", b, err, want)
		}
	}
}

// wantCheck checks a call of Check, and if there is an error, that Put and Drop have it before every other one.
func wantCheck(t *testing.T, l []api.Blob, want api.Errno) {
	t.Helper()
	if err := Check(l); err != want {
		t.Errorf("Check(%+v) = %d, want %d", l, err, want)
	}
	if want == api.OK {
		return
	}
	for _, data := range [][]byte{nil, []byte("abc"), make([]byte, 301), make([]byte, 3000)} {
		wantNoPut(t, l, data, want)
		wantNoDrop(t, l, sum(data), want)
	}
	for _, b := range l {
		wantNoPut(t, l, b.Data, want)
		wantNoDrop(t, l, b.Digest, want)
	}
	wantNoDrop(t, l, "x", want)
}

func wantFind(t *testing.T, l []api.Blob, digest string, want int, wantErr api.Errno) {
	t.Helper()
	if i, err := Find(l, digest); i != want || err != wantErr {
		t.Errorf("Find(%+v, %q) = %d, %d, want %d, %d", l, digest, i, err, want, wantErr)
	}
}

func wantPut(t *testing.T, l []api.Blob, data []byte, want []api.Blob) {
	t.Helper()
	got, digest, err := Put(l, data)
	if !same(got, want) || digest != sum(data) || err != api.OK {
		t.Errorf("Put(%+v, %q) = %+v, %q, %d, want %+v, %q", l, data, got, digest, err, want, sum(data))
	}
	if err := Check(got); err != api.OK {
		t.Errorf("Check after Put(%+v, %q) = %d", l, data, err)
	}
}

func wantNoPut(t *testing.T, l []api.Blob, data []byte, want api.Errno) {
	t.Helper()
	got, digest, err := Put(l, data)
	if len(got) != 0 || digest != "" || err != want {
		t.Errorf("Put(%+v, %q) = %+v, %q, %d, want only error %d", l, data, got, digest, err, want)
	}
}

func wantDrop(t *testing.T, l []api.Blob, digest string, want []api.Blob) {
	t.Helper()
	got, err := Drop(l, digest)
	if !same(got, want) || err != api.OK {
		t.Errorf("Drop(%+v, %q) = %+v, %d, want %+v", l, digest, got, err, want)
	}
}

func wantNoDrop(t *testing.T, l []api.Blob, digest string, want api.Errno) {
	t.Helper()
	got, err := Drop(l, digest)
	if len(got) != 0 || err != want {
		t.Errorf("Drop(%+v, %q) = %+v, %d, want only error %d", l, digest, got, err, want)
	}
}

// P8.1
func TestRightOfEveryLength(t *testing.T) {
	for n := range 400 {
		want, wantWrong := api.OK, api.ErrSum
		if n > 300 {
			want, wantWrong = api.ErrSize, api.ErrSize
		}
		data := bytes.Repeat([]byte{byte(n)}, n)
		wantRight(t, api.Blob{Digest: sum(data), Data: data}, want)
		wantRight(t, api.Blob{Digest: strings.Repeat("0", 64), Data: data}, wantWrong)
	}
	for _, n := range []int{1999, 2000, 2001, 5000} {
		wantRight(t, api.Blob{Digest: sum(make([]byte, n)), Data: make([]byte, n)}, api.ErrSize)
	}
}

// P8.1: no data are the same whether or not there is a list.
func TestRightOfNothing(t *testing.T) {
	wantRight(t, api.Blob{Digest: nothing}, api.OK)
	wantRight(t, api.Blob{Digest: nothing, Data: []byte{}}, api.OK)
	wantRight(t, api.Blob{Digest: abc}, api.ErrSum)
	wantRight(t, api.Blob{}, api.ErrSize)
}

// badDigests are no digests at all.
func badDigests() []struct {
	digest string
	want   api.Errno
} {
	return []struct {
		digest string
		want   api.Errno
	}{
		{"", api.ErrSize},
		{"x", api.ErrSize},
		{abc[:63], api.ErrSize},
		{abc + "0", api.ErrSize},
		{strings.Repeat("g", 63), api.ErrSize},
		{strings.Repeat("g", 64), api.ErrForm},
		{strings.ToUpper(abc), api.ErrForm},
		{abc[:63] + "D", api.ErrForm},
		{" " + abc[1:], api.ErrForm},
		{abc[:62] + "é", api.ErrForm},
	}
}

// P8.1
func TestRightDigest(t *testing.T) {
	for _, c := range badDigests() {
		wantRight(t, api.Blob{Digest: c.digest, Data: []byte("abc")}, c.want)
	}
	wantRight(t, api.Blob{Digest: abc, Data: []byte("abc")}, api.OK)
	// Every digit of the digest counts, and every byte of the data.
	for i := range 64 {
		wrong := []byte(abc)
		wrong[i] = "123456789abcdef0"[strings.IndexByte("0123456789abcdef", wrong[i])]
		wantRight(t, api.Blob{Digest: string(wrong), Data: []byte("abc")}, api.ErrSum)
	}
	for _, data := range []string{"", "ab", "abcd", "abd", "Abc", "abc\x00", "cab"} {
		wantRight(t, api.Blob{Digest: abc, Data: []byte(data)}, api.ErrSum)
	}
	long := bytes.Repeat([]byte{7}, 300)
	digest := sum(long)
	for i := range long {
		long[i]++
		wantRight(t, api.Blob{Digest: digest, Data: long}, api.ErrSum)
		long[i]--
	}
}

// P8.1
func TestRightPins(t *testing.T) {
	for pins := -20; pins < 20; pins++ {
		want := api.OK
		if pins < 0 || pins > 5 {
			want = api.ErrRange
		}
		wantRight(t, blobOf("abc", pins), want)
	}
	for _, pins := range []int{math.MinInt, math.MaxInt, 1 << 32, -1 << 32, 1<<32 + 1} {
		wantRight(t, blobOf("abc", pins), api.ErrRange)
	}
}

// P8.1: the form of the digest, the size, the digest itself and the count are checked in this order.
func TestRightFirstError(t *testing.T) {
	long := make([]byte, 301)
	for _, pins := range []int{-1, 0, 6} {
		for _, c := range badDigests() {
			wantRight(t, api.Blob{Digest: c.digest, Data: long, Pins: pins}, c.want)
			wantRight(t, api.Blob{Digest: c.digest, Data: []byte("abd"), Pins: pins}, c.want)
		}
		wantRight(t, api.Blob{Digest: abc, Data: long, Pins: pins}, api.ErrSize)
		wantRight(t, api.Blob{Digest: sum(long), Data: long, Pins: pins}, api.ErrSize)
		wantRight(t, api.Blob{Digest: abc, Data: []byte("abd"), Pins: pins}, api.ErrSum)
	}
}

// P8.2
func TestCheckNumberOfBlobs(t *testing.T) {
	for n := range 30 {
		want := api.OK
		if n > 24 {
			want = api.ErrSize
		}
		wantCheck(t, some(n), want)
	}
	wantCheck(t, []api.Blob{}, api.OK)
	// Too many blobs are told before what is wrong with one of them.
	wantCheck(t, slices.Repeat([]api.Blob{blobOf("abc", 0)}, 25), api.ErrSize)
	wantCheck(t, slices.Repeat([]api.Blob{blobOf("abc", 6)}, 25), api.ErrSize)
	wantCheck(t, slices.Repeat([]api.Blob{{Digest: strings.Repeat("g", 64)}}, 25), api.ErrSize)
	wantCheck(t, slices.Repeat([]api.Blob{{Digest: abc}}, 25), api.ErrSize)
}

// P8.2: a wrong blob is found at every place.
func TestCheckEveryBlob(t *testing.T) {
	for i := range 5 {
		for _, c := range badDigests() {
			l := some(5)
			l[i].Digest = c.digest
			wantCheck(t, l, c.want)
		}
		l := some(5)
		l[i].Data = make([]byte, 301)
		wantCheck(t, l, api.ErrSize)
		l = some(5)
		l[i].Data = []byte("abd")
		wantCheck(t, l, api.ErrSum)
		for _, pins := range []int{-1, 6} {
			l = some(5)
			l[i].Pins = pins
			wantCheck(t, l, api.ErrRange)
		}
	}
}

// P8.2: every blob is compared with the one before it.
func TestCheckOrder(t *testing.T) {
	l := some(24)
	for i := range 23 {
		swapped := clone(l)
		swapped[i], swapped[i+1] = swapped[i+1], swapped[i]
		wantCheck(t, swapped, api.ErrTwice)
		doubled := clone(l)
		doubled[i+1] = doubled[i]
		wantCheck(t, doubled, api.ErrTwice)
	}
	last := append(clone(l[1:]), l[0])
	wantCheck(t, last, api.ErrTwice)
	// The same bytes are no second blob, held or marked or not.
	other := blobOf("abc", 1)
	other.Mark = true
	wantCheck(t, []api.Blob{blobOf("abc", 0), other}, api.ErrTwice)
	wantCheck(t, []api.Blob{blobOf("abc", 0), blobOf("", 0)}, api.OK)
	wantCheck(t, []api.Blob{blobOf("", 0), blobOf("abc", 0)}, api.ErrTwice)
}

// P8.2: what is wrong with a blob itself is told before its order, and all of it before the next blob.
func TestCheckFirstError(t *testing.T) {
	upper := api.Blob{Digest: strings.ToUpper(abc), Data: []byte("abc")}
	held := blobOf("abc", 6)
	wrong := api.Blob{Digest: abc, Data: []byte("abd")}
	long := api.Blob{Digest: abc, Data: make([]byte, 301)}
	for _, c := range []struct {
		blob api.Blob
		want api.Errno
	}{{upper, api.ErrForm}, {held, api.ErrRange}, {wrong, api.ErrSum}, {long, api.ErrSize}} {
		wantCheck(t, []api.Blob{blobOf("", 0), c.blob}, c.want)
		wantCheck(t, []api.Blob{blobOf("abc", 0), c.blob}, c.want)
		wantCheck(t, []api.Blob{c.blob, blobOf("abc", 0)}, c.want)
		wantCheck(t, []api.Blob{c.blob, {}}, c.want)
		wantCheck(t, []api.Blob{c.blob, {Digest: nothing, Data: []byte("x")}}, c.want)
		wantCheck(t, []api.Blob{blobOf("", 0), blobOf("abc", 0), c.blob}, api.ErrTwice)
	}
}

// P8.3
func TestFindInOrder(t *testing.T) {
	for n := range 25 {
		l := some(n)
		for i, b := range l {
			wantFind(t, l, b.Digest, i, api.OK)
		}
		for _, digest := range []string{"", "x", sum([]byte("other")), strings.Repeat("f", 64), strings.Repeat("0", 64), abc[:63]} {
			wantFind(t, l, digest, 0, api.ErrNone)
		}
		if n > 0 {
			wantFind(t, l, strings.ToUpper(l[0].Digest), 0, api.ErrNone)
			wantFind(t, l, l[n-1].Digest[:63], 0, api.ErrNone)
			wantFind(t, l, l[n-1].Digest+"0", 0, api.ErrNone)
		}
	}
}

// P8.3: blobs need not be right or in order or few; the first of several is found.
func TestFindAnywhere(t *testing.T) {
	l := []api.Blob{{Digest: "c"}, {Digest: "a", Pins: -1}, {Digest: "b"}, {Digest: "a"}, {Digest: ""}, {Digest: "c"}}
	wantFind(t, l, "a", 1, api.OK)
	wantFind(t, l, "b", 2, api.OK)
	wantFind(t, l, "c", 0, api.OK)
	wantFind(t, l, "", 4, api.OK)
	wantFind(t, l, "d", 0, api.ErrNone)
	wantFind(t, l[2:], "a", 1, api.OK)
	wantFind(t, slices.Concat(some(24), some(24), l), "b", 50, api.OK)
	wantFind(t, nil, "", 0, api.ErrNone)
	wantFind(t, []api.Blob{}, abc, 0, api.ErrNone)
}

// P8.4: blobs need not be right or in order or few.
func TestCopy(t *testing.T) {
	wild := []api.Blob{
		{Digest: "x", Data: make([]byte, 5000), Pins: -7, Mark: true},
		{},
		{Digest: "x", Data: []byte{}, Pins: math.MaxInt},
		{Digest: "a", Data: []byte{1, 2, 3}},
	}
	for _, l := range [][]api.Blob{nil, {}, some(1), some(5), some(24), wild, slices.Concat(wild, some(40), wild)} {
		if got := Copy(l); !same(got, l) {
			t.Errorf("Copy(%+v) = %+v", l, got)
		}
	}
}

// P8.5: a new blob has its place in the order, whatever that is.
func TestPutEveryPlace(t *testing.T) {
	for n := 1; n <= 24; n++ {
		all := some(n)
		for i := range all {
			l := slices.Delete(clone(all), i, i+1)
			want := clone(all)
			want[i].Pins, want[i].Mark = 0, false
			wantPut(t, l, all[i].Data, want)
		}
	}
}

// P8.5
func TestPutKnown(t *testing.T) {
	l, digest, err := Put(nil, []byte("abc"))
	if !same(l, []api.Blob{{Digest: abc, Data: []byte("abc")}}) || digest != abc || err != api.OK {
		t.Errorf("Put of abc = %+v, %q, %d", l, digest, err)
	}
	l, digest, err = Put(l, nil)
	if !same(l, []api.Blob{{Digest: abc, Data: []byte("abc")}, {Digest: nothing}}) || digest != nothing || err != api.OK {
		t.Errorf("Put of nothing = %+v, %q, %d", l, digest, err)
	}
	// The same bytes twice are one blob.
	l, digest, err = Put(l, []byte("abc"))
	if !same(l, []api.Blob{{Digest: abc, Data: []byte("abc")}, {Digest: nothing}}) || digest != abc || err != api.OK {
		t.Errorf("Put of abc again = %+v, %q, %d", l, digest, err)
	}
}

// P8.5: a blob that is there keeps its count and its mark, also among as many blobs as there may be.
func TestPutAgain(t *testing.T) {
	for _, n := range []int{1, 2, 10, 23, 24} {
		l := some(n)
		for _, b := range l {
			wantPut(t, l, b.Data, l)
		}
	}
	wantPut(t, []api.Blob{{Digest: nothing, Data: []byte{}, Pins: 2}}, nil, []api.Blob{{Digest: nothing, Pins: 2}})
	wantPut(t, []api.Blob{{Digest: nothing, Mark: true}}, []byte{}, []api.Blob{{Digest: nothing, Mark: true}})
}

// P8.5
func TestPutEveryLength(t *testing.T) {
	for n := range 400 {
		data := bytes.Repeat([]byte{200}, n)
		if n > 300 {
			wantNoPut(t, some(3), data, api.ErrSize)
			wantNoPut(t, nil, data, api.ErrSize)
			continue
		}
		wantPut(t, nil, data, []api.Blob{blobOf(string(data), 0)})
	}
	for _, n := range []int{1999, 2000, 2001, 5000} {
		wantNoPut(t, nil, make([]byte, n), api.ErrSize)
	}
}

// P8.5: the size of the data is told before that there is no place.
func TestPutFull(t *testing.T) {
	wantNoPut(t, some(24), []byte("abc"), api.ErrFull)
	wantNoPut(t, some(24), []byte("other"), api.ErrFull)
	wantNoPut(t, some(24), make([]byte, 300), api.ErrFull)
	wantNoPut(t, some(24), make([]byte, 301), api.ErrSize)
	wantPut(t, some(23), []byte("abc"), sorted(append(some(23), blobOf("abc", 0))))
}

// P8.5: with everything that has been put, in one order or the other, the list is the same.
func TestPutOneByOne(t *testing.T) {
	var up, down []api.Blob
	for i := range 24 {
		up, _, _ = Put(up, []byte(textOf(i)))
		down, _, _ = Put(down, []byte(textOf(23-i)))
	}
	want := free(24)
	for i := range want {
		want[i].Mark = false
	}
	if !same(up, want) || !same(down, want) {
		t.Errorf("put one by one: %+v and %+v, want %+v", up, down, want)
	}
}

// P8.6
func TestDropEveryPlace(t *testing.T) {
	for n := range 25 {
		l := free(n)
		for i, b := range l {
			wantDrop(t, l, b.Digest, slices.Delete(clone(l), i, i+1))
		}
		for _, digest := range []string{"", "x", abc, sum([]byte("other")), strings.Repeat("g", 64)} {
			wantNoDrop(t, l, digest, api.ErrNone)
		}
	}
}

// P8.6: only the count of the blob itself holds it, and a mark does not.
func TestDropHeld(t *testing.T) {
	l := some(24)
	for i, b := range l {
		if b.Pins > 0 {
			wantNoDrop(t, l, b.Digest, api.ErrHeld)
		} else {
			wantDrop(t, l, b.Digest, slices.Delete(clone(l), i, i+1))
		}
	}
	for pins := 1; pins <= 5; pins++ {
		wantNoDrop(t, []api.Blob{blobOf("abc", pins)}, abc, api.ErrHeld)
		wantNoDrop(t, []api.Blob{blobOf("abc", pins)}, nothing, api.ErrNone)
		wantDrop(t, []api.Blob{blobOf("abc", pins), blobOf("", 0)}, nothing, []api.Blob{blobOf("abc", pins)})
	}
	marked := blobOf("abc", 0)
	marked.Mark = true
	wantDrop(t, []api.Blob{marked}, abc, nil)
}

// P8.5, P8.6: what was put can be dropped, and is gone then.
func TestPutAndDrop(t *testing.T) {
	for n := range 24 {
		before := some(n)
		with, digest, _ := Put(before, []byte("abc"))
		wantDrop(t, with, digest, before)
		wantNoDrop(t, before, digest, api.ErrNone)
	}
}

// spare is a list, and all data in it, with capacity that is not used and has something in it.
func spare(l []api.Blob) []api.Blob {
	c := append(clone(l), blobOf("spare one", 1), blobOf("spare two", 2))
	for i := range c {
		d := append(c[i].Data, "spare"...)
		c[i].Data = d[:len(d)-5]
	}
	return c[:len(l)]
}

// whole is a list with its unused capacity, deep: all that a call could change.
func whole(l []api.Blob) []api.Blob {
	c := slices.Clone(l[:cap(l)])
	for i := range c {
		c[i].Data = slices.Clone(c[i].Data[:cap(c[i].Data)])
	}
	return c
}

// spoil changes everything in a list and in its unused capacity.
func spoil(l []api.Blob) {
	l = l[:cap(l)]
	for i := range l {
		d := l[i].Data[:cap(l[i].Data)]
		for j := range d {
			d[j] ^= 255
		}
		l[i] = api.Blob{Digest: "spoilt", Pins: 99}
	}
}

// unsharedData: writing behind the data of one blob, or into it, changes no other.
func unsharedData(t *testing.T, l []api.Blob) {
	t.Helper()
	for i := range l {
		others := clone(slices.Delete(clone(l), i, i+1))
		d := l[i].Data[:cap(l[i].Data)]
		for j := range d {
			d[j] ^= 255
		}
		if !same(slices.Delete(clone(l), i, i+1), others) {
			t.Errorf("the data of blob %d of %+v share memory with another", i, l)
		}
		for j := range d {
			d[j] ^= 255
		}
	}
}

// P8.1 to P8.6, with the document's general rules on memory and on state.
func TestMemory(t *testing.T) {
	for _, n := range []int{0, 1, 2, 7, 23, 24} {
		l := spare(free(n))
		fresh := append([]byte("fresh"), "spare"...)[:5]
		known := []byte{}
		digest := "x"
		if n > 0 {
			known, digest = l[n/2].Data, l[n/2].Digest
		}
		before, freshBefore := whole(l), slices.Clone(fresh[:cap(fresh)])
		calls := []func() []api.Blob{
			func() []api.Blob { Check(l); return nil },
			func() []api.Blob { Find(l, digest); return nil },
			func() []api.Blob { return Copy(l) },
			func() []api.Blob { c, _, _ := Put(l, fresh); return c },
			func() []api.Blob { c, _, _ := Put(l, known); return c },
			func() []api.Blob { c, _ := Drop(l, digest); return c },
		}
		for i, call := range calls {
			first := call()
			second := call()
			if !reflect.DeepEqual(whole(l), before) || !bytes.Equal(fresh[:cap(fresh)], freshBefore) {
				t.Fatalf("call %d with %d blobs changed its arguments", i, n)
			}
			if !same(first, second) {
				t.Errorf("call %d with %d blobs: %+v, then %+v", i, n, first, second)
			}
			unsharedData(t, first)
			kept := clone(second)
			spoil(first)
			if !reflect.DeepEqual(whole(l), before) || !bytes.Equal(fresh[:cap(fresh)], freshBefore) {
				t.Fatalf("call %d with %d blobs: the result shares memory with an argument", i, n)
			}
			if !same(second, kept) {
				t.Errorf("call %d with %d blobs: two results share memory", i, n)
			}
		}
	}
}

// P8.4 to P8.6: a result stays as it is when the arguments change later.
func TestResultsStay(t *testing.T) {
	for i := range 4 {
		l, data := spare(free(9)), []byte("fresh")
		known := l[4].Data
		var got []api.Blob
		switch i {
		case 0:
			got = Copy(l)
		case 1:
			got, _, _ = Put(l, data)
		case 2:
			got, _, _ = Put(l, known)
		case 3:
			got, _ = Drop(l, l[4].Digest)
		}
		want := clone(got)
		spoil(l)
		copy(data, "wrong")
		if !same(got, want) {
			t.Errorf("result %d changed with its arguments: %+v, want %+v", i, got, want)
		}
	}
}
