package store

import (
	"bytes"
	"cmp"
	"crypto/sha256"
	"encoding/hex"
	"fmt"
	"math"
	"math/rand"
	"reflect"
	"slices"
	"strings"
	"testing"

	"appleloft/api"
)

const (
	abc     = "ba7816bf8f01cfea414140de5dae2223b00361a396177a9cb410ff61f20015ad"
	nothing = "e3b0c44298fc1c149afbf4c8996fb92427ae41e4649b934ca495991b7852b855"
	none    = "00000000000000000000000000000000000000000000000000000000000000ff"
)

// keyOf is a key that is greater for a greater number.
func keyOf(n int) string {
	return fmt.Sprintf("%064x", n)
}

func digestOf(data []byte) string {
	sum := sha256.Sum256(data)
	return hex.EncodeToString(sum[:])
}

// blobsOf these texts, in order; they are pinned and marked in turns.
func blobsOf(texts ...string) []api.Blob {
	var l []api.Blob
	for i, text := range texts {
		l = append(l, api.Blob{Digest: digestOf([]byte(text)), Data: []byte(text), Pins: i % 6, Mark: i%2 == 1})
	}
	slices.SortFunc(l, func(a, b api.Blob) int { return cmp.Compare(a.Digest, b.Digest) })
	return l
}

// partsOf these texts, named in their order.
func partsOf(texts ...string) []api.Part {
	var l []api.Part
	for i, text := range texts {
		l = append(l, api.Part{Name: fmt.Sprintf("p%d", i), Digest: digestOf([]byte(text)), Size: len(text)})
	}
	return l
}

// many texts, different ones, of 3 bytes.
func many(n int) []string {
	var l []string
	for i := range n {
		l = append(l, fmt.Sprintf("t%02d", i))
	}
	return l
}

// good is a store with something of everything; its blobs are of 14 bytes in all, and there is room for 6 more.
func good() api.Store {
	return api.Store{
		Blobs: blobsOf("abc", "", "x", "longer one"),
		Entries: []api.Entry{
			{Key: keyOf(1), Parts: partsOf("abc", "x"), Pins: 0, Stamp: 3},
			{Key: keyOf(3), Pins: 5, Stamp: 0},
			{Key: keyOf(5), Parts: partsOf("longer one", "", "abc", "abc"), Pins: 2, Stamp: 7},
		},
		Room:  20,
		Clock: 7,
	}
}

// clone is a deep copy that does not use the program.
func clone(s api.Store) api.Store {
	s.Blobs = append([]api.Blob{}, s.Blobs...)
	for i := range s.Blobs {
		s.Blobs[i].Data = append([]byte{}, s.Blobs[i].Data...)
	}
	s.Entries = append([]api.Entry{}, s.Entries...)
	for i := range s.Entries {
		s.Entries[i].Parts = append([]api.Part{}, s.Entries[i].Parts...)
	}
	return s
}

func same(a, b api.Store) bool {
	return reflect.DeepEqual(clone(a), clone(b))
}

// empty: nothing but zero values and lists without elements.
func empty(s api.Store) bool {
	return same(s, api.Store{})
}

// wantCheck checks a call of Check, and if there is an error, that all other functions have it before their own.
func wantCheck(t *testing.T, s api.Store, want api.Errno) {
	t.Helper()
	if err := Check(s); err != want {
		t.Errorf("Check(%+v) = %d, want %d", s, err, want)
	}
	if want == api.OK {
		return
	}
	for _, name := range []string{"", abc, none, keyOf(1), strings.Repeat("g", 64)} {
		wantNoGetBlob(t, s, name, want)
		wantNoGet(t, s, name, want)
		for _, up := range []bool{false, true} {
			wantNoHoldBlob(t, s, name, up, want)
			wantNoHold(t, s, name, up, want)
		}
		for _, parts := range [][]api.Part{nil, partsOf("abc"), partsOf("missing"), partsOf(many(9)...)} {
			wantNoPut(t, s, name, parts, want)
		}
	}
	for _, data := range []string{"", "abc", strings.Repeat("long", 70), strings.Repeat("long", 80)} {
		wantNoPutBlob(t, s, []byte(data), want)
	}
}

func wantPutBlob(t *testing.T, s api.Store, data []byte, want api.Store) {
	t.Helper()
	got, digest, err := PutBlob(s, data)
	if !same(got, want) || digest != digestOf(data) || err != api.OK {
		t.Errorf("PutBlob(%+v, %q) = %+v, %q, %d, want %+v", s, data, got, digest, err, want)
	}
	wantCheck(t, got, api.OK)
}

func wantNoPutBlob(t *testing.T, s api.Store, data []byte, want api.Errno) {
	t.Helper()
	if got, digest, err := PutBlob(s, data); !empty(got) || digest != "" || err != want {
		t.Errorf("PutBlob(%+v, %q) = %+v, %q, %d, want only error %d", s, data, got, digest, err, want)
	}
}

func wantGetBlob(t *testing.T, s api.Store, digest string, want string) {
	t.Helper()
	if got, err := GetBlob(s, digest); string(got) != want || err != api.OK {
		t.Errorf("GetBlob(%+v, %q) = %q, %d, want %q", s, digest, got, err, want)
	}
}

func wantNoGetBlob(t *testing.T, s api.Store, digest string, want api.Errno) {
	t.Helper()
	if got, err := GetBlob(s, digest); len(got) != 0 || err != want {
		t.Errorf("GetBlob(%+v, %q) = %q, %d, want only error %d", s, digest, got, err, want)
	}
}

func wantPut(t *testing.T, s api.Store, key string, parts []api.Part, want api.Store) {
	t.Helper()
	got, err := Put(s, key, parts)
	if !same(got, want) || err != api.OK {
		t.Errorf("Put(%+v, %q, %+v) = %+v, %d, want %+v", s, key, parts, got, err, want)
	}
	wantCheck(t, got, api.OK)
}

func wantNoPut(t *testing.T, s api.Store, key string, parts []api.Part, want api.Errno) {
	t.Helper()
	if got, err := Put(s, key, parts); !empty(got) || err != want {
		t.Errorf("Put(%+v, %q, %+v) = %+v, %d, want only error %d", s, key, parts, got, err, want)
	}
}

func wantGet(t *testing.T, s api.Store, key string, want api.Store, parts []api.Part) {
	t.Helper()
	got, l, err := Get(s, key)
	if !same(got, want) || !slices.Equal(l, parts) || err != api.OK {
		t.Errorf("Get(%+v, %q) = %+v, %+v, %d, want %+v, %+v", s, key, got, l, err, want, parts)
	}
	wantCheck(t, got, api.OK)
}

func wantNoGet(t *testing.T, s api.Store, key string, want api.Errno) {
	t.Helper()
	if got, l, err := Get(s, key); !empty(got) || len(l) != 0 || err != want {
		t.Errorf("Get(%+v, %q) = %+v, %+v, %d, want only error %d", s, key, got, l, err, want)
	}
}

func wantHoldBlob(t *testing.T, s api.Store, digest string, up bool, want api.Store) {
	t.Helper()
	got, err := HoldBlob(s, digest, up)
	if !same(got, want) || err != api.OK {
		t.Errorf("HoldBlob(%+v, %q, %t) = %+v, %d, want %+v", s, digest, up, got, err, want)
	}
	wantCheck(t, got, api.OK)
}

func wantNoHoldBlob(t *testing.T, s api.Store, digest string, up bool, want api.Errno) {
	t.Helper()
	if got, err := HoldBlob(s, digest, up); !empty(got) || err != want {
		t.Errorf("HoldBlob(%+v, %q, %t) = %+v, %d, want only error %d", s, digest, up, got, err, want)
	}
}

func wantHold(t *testing.T, s api.Store, key string, up bool, want api.Store) {
	t.Helper()
	got, err := Hold(s, key, up)
	if !same(got, want) || err != api.OK {
		t.Errorf("Hold(%+v, %q, %t) = %+v, %d, want %+v", s, key, up, got, err, want)
	}
	wantCheck(t, got, api.OK)
}

func wantNoHold(t *testing.T, s api.Store, key string, up bool, want api.Errno) {
	t.Helper()
	if got, err := Hold(s, key, up); !empty(got) || err != want {
		t.Errorf("Hold(%+v, %q, %t) = %+v, %d, want only error %d", s, key, up, got, err, want)
	}
}

// fault makes a good store a wrong one. Of two faults, the one with the smaller rank is told.
type fault struct {
	rank int
	make func(s *api.Store)
	want api.Errno
}

// faultsOfBlobs concern the first two blobs and the number of them.
func faultsOfBlobs() []fault {
	return []fault{
		{1, func(s *api.Store) { s.Blobs = append(s.Blobs, make([]api.Blob, 22)...) }, api.ErrSize},
		{1, func(s *api.Store) { s.Blobs[0].Digest = "" }, api.ErrSize},
		{1, func(s *api.Store) { s.Blobs[1].Digest = strings.ToUpper(s.Blobs[1].Digest) }, api.ErrForm},
		{1, func(s *api.Store) { s.Blobs[1].Data = make([]byte, 301) }, api.ErrSize},
		{1, func(s *api.Store) { s.Blobs[0].Data = []byte("other") }, api.ErrSum},
		{1, func(s *api.Store) { s.Blobs[0], s.Blobs[1] = s.Blobs[1], s.Blobs[0] }, api.ErrTwice},
		{1, func(s *api.Store) { s.Blobs[1] = s.Blobs[0] }, api.ErrTwice},
		{1, func(s *api.Store) { s.Blobs[0].Pins = -1 }, api.ErrRange},
		{1, func(s *api.Store) { s.Blobs[0].Pins = 6 }, api.ErrRange},
	}
}

// faultsOfEntries concern the first two entries and the number of them.
func faultsOfEntries() []fault {
	return []fault{
		{2, func(s *api.Store) { s.Entries = append(s.Entries, make([]api.Entry, 8)...) }, api.ErrSize},
		{2, func(s *api.Store) { s.Entries[0].Key = "x" }, api.ErrSize},
		{2, func(s *api.Store) { s.Entries[1].Key = strings.Repeat("g", 64) }, api.ErrForm},
		{2, func(s *api.Store) { s.Entries[1].Key = s.Entries[0].Key }, api.ErrTwice},
		{2, func(s *api.Store) { s.Entries[0].Parts[0].Name = "a b" }, api.ErrForm},
		{2, func(s *api.Store) { s.Entries[0].Parts[1].Name = "!" }, api.ErrTwice},
		{2, func(s *api.Store) { s.Entries[0].Parts[0].Size = 301 }, api.ErrRange},
		{2, func(s *api.Store) { s.Entries[0].Parts = partsOf(many(9)...) }, api.ErrSize},
		{2, func(s *api.Store) { s.Entries[0].Pins = 6 }, api.ErrRange},
		{2, func(s *api.Store) { s.Entries[1].Stamp = -1 }, api.ErrRange},
		{2, func(s *api.Store) { s.Entries[1].Stamp = 1<<40 + 1 }, api.ErrRange},
	}
}

func faultsOfRoom() []fault {
	var l []fault
	for _, room := range []int{-1, 4001, math.MinInt, math.MaxInt} {
		l = append(l, fault{3, func(s *api.Store) { s.Room = room }, api.ErrRange})
	}
	for _, room := range []int{0, 1, 13} {
		l = append(l, fault{4, func(s *api.Store) { s.Room = room }, api.ErrFull})
	}
	return l
}

func faultsOfClock() []fault {
	var l []fault
	for _, clock := range []int{-1, 1<<40 + 1, math.MinInt, math.MaxInt} {
		l = append(l, fault{5, func(s *api.Store) { s.Clock = clock }, api.ErrRange})
	}
	return l
}

// faultsOfState concern the last entry, and what there is of its parts.
func faultsOfState() []fault {
	return []fault{
		{6, func(s *api.Store) { s.Entries[2].Stamp = 8 }, api.ErrState},
		{6, func(s *api.Store) { s.Entries[2].Stamp = 1 << 40 }, api.ErrState},
		{6, func(s *api.Store) { s.Entries[2].Parts[0].Digest = none }, api.ErrState},
		{6, func(s *api.Store) { s.Entries[2].Parts[3].Digest = keyOf(1) }, api.ErrState},
		{6, func(s *api.Store) { s.Entries[2].Parts[0].Size-- }, api.ErrState},
		{6, func(s *api.Store) { s.Entries[2].Parts[1].Size++ }, api.ErrState},
		{6, func(s *api.Store) { s.Entries[2].Parts[3].Size = 300 }, api.ErrState},
		{6, func(s *api.Store) {
			s.Blobs = slices.DeleteFunc(s.Blobs, func(b api.Blob) bool { return len(b.Data) == 0 })
		}, api.ErrState},
	}
}

func faults() []fault {
	return slices.Concat(faultsOfBlobs(), faultsOfEntries(), faultsOfRoom(), faultsOfClock(), faultsOfState())
}

// P12.1
func TestCheckGood(t *testing.T) {
	wantCheck(t, good(), api.OK)
	wantCheck(t, api.Store{}, api.OK)
	wantCheck(t, api.Store{Blobs: []api.Blob{}, Entries: []api.Entry{}, Room: 4000, Clock: 1 << 40}, api.OK)
	wantCheck(t, api.Store{Blobs: blobsOf("")}, api.OK)
	wantCheck(t, api.Store{Blobs: blobsOf(many(24)...), Room: 72}, api.OK)
	wantCheck(t, api.Store{Blobs: blobsOf(many(25)...), Room: 4000}, api.ErrSize)
	full := api.Store{Blobs: blobsOf(many(24)...), Room: 72, Clock: 10}
	for i := range 10 {
		full.Entries = append(full.Entries, api.Entry{Key: keyOf(i), Parts: partsOf(many(8)...), Stamp: 10})
	}
	wantCheck(t, full, api.OK)
	full.Entries = append(full.Entries, api.Entry{Key: keyOf(10)})
	wantCheck(t, full, api.ErrSize)
}

// P12.1: and what is wrong is told before all other errors (P12.3 to P12.8).
func TestCheckEveryFault(t *testing.T) {
	for _, f := range faults() {
		s := good()
		f.make(&s)
		wantCheck(t, s, f.want)
	}
}

// P12.1
func TestCheckOrderOfFaults(t *testing.T) {
	for _, first := range faults() {
		for _, second := range faults() {
			if first.rank >= second.rank {
				continue
			}
			s := good()
			// In this order, as a fault may take away what one with a greater rank changes.
			second.make(&s)
			first.make(&s)
			wantCheck(t, s, first.want)
		}
	}
}

// P12.1
func TestCheckRoom(t *testing.T) {
	for _, n := range []int{0, 1, 2, 299, 300} {
		for room := range 310 {
			want := api.OK
			if room < n {
				want = api.ErrFull
			}
			wantCheck(t, api.Store{Blobs: blobsOf(strings.Repeat("x", n)), Room: room}, want)
		}
	}
	var texts []string
	for i := range 13 {
		texts = append(texts, strings.Repeat(string([]byte{byte('a' + i)}), 300))
	}
	texts = append(texts, strings.Repeat("z", 100))
	wantCheck(t, api.Store{Blobs: blobsOf(texts...), Room: 4000}, api.OK)
	wantCheck(t, api.Store{Blobs: blobsOf(texts...), Room: 3999}, api.ErrFull)
	wantCheck(t, api.Store{Blobs: blobsOf(append(texts, "y")...), Room: 4000}, api.ErrFull)
}

// P12.1
func TestCheckStamps(t *testing.T) {
	for _, clock := range []int{0, 1, 5, 1 << 31, 1 << 32, 1<<40 - 1, 1 << 40} {
		for _, stamp := range []int{0, 1, 2, 5, 6, 1 << 31, 1 << 32, 1<<40 - 1, 1 << 40} {
			want := api.OK
			if stamp > clock {
				want = api.ErrState
			}
			wantCheck(t, api.Store{Entries: []api.Entry{{Key: keyOf(1), Stamp: stamp}}, Clock: clock}, want)
			wantCheck(t, api.Store{Entries: []api.Entry{{Key: keyOf(1)}, {Key: keyOf(2), Stamp: stamp}, {Key: keyOf(3)}}, Clock: clock}, want)
		}
	}
}

// P12.1: the parts of every entry, each of them, need a blob of their size.
func TestCheckParts(t *testing.T) {
	texts := many(8)
	for i := range 3 {
		for j := range 8 {
			for _, size := range []int{0, 2, 3, 4, 300} {
				s := api.Store{Blobs: blobsOf(texts...), Room: 30}
				for k := range 3 {
					s.Entries = append(s.Entries, api.Entry{Key: keyOf(k), Parts: partsOf(texts...)})
				}
				s.Entries[i].Parts[j].Size = size
				want := api.OK
				if size != 3 {
					want = api.ErrState
				}
				wantCheck(t, s, want)
				s.Entries[i].Parts[j] = partsOf("t08", "t09", "t10", "t11", "t12", "t13", "t14", "t15")[j]
				wantCheck(t, s, api.ErrState)
			}
		}
	}
}

// P12.2
func TestCopy(t *testing.T) {
	wrong := api.Store{
		Blobs:   []api.Blob{{Digest: "x", Data: make([]byte, 400), Pins: -9, Mark: true}, {}, {Digest: "a"}, {Digest: "a", Pins: 70}},
		Entries: []api.Entry{{Key: "y", Parts: make([]api.Part, 12), Pins: 80, Stamp: -1}, {}, {Key: "a", Parts: partsOf("missing")}},
		Room:    -5,
		Clock:   math.MaxInt,
	}
	stores := []api.Store{{}, good(), wrong, {Room: 1}, {Clock: 1}, {Blobs: blobsOf(many(100)...)}, {Entries: make([]api.Entry, 50)}}
	for _, f := range faults() {
		s := good()
		f.make(&s)
		stores = append(stores, s)
	}
	for _, s := range stores {
		if got := Copy(s); !same(got, s) {
			t.Errorf("Copy(%+v) = %+v", s, got)
		}
	}
}

// withBlob is a store with one blob more, without the program.
func withBlob(s api.Store, data string) api.Store {
	s = clone(s)
	s.Blobs = append(s.Blobs, api.Blob{Digest: digestOf([]byte(data)), Data: []byte(data)})
	slices.SortFunc(s.Blobs, func(a, b api.Blob) int { return cmp.Compare(a.Digest, b.Digest) })
	return s
}

// P12.3
func TestPutBlob(t *testing.T) {
	s := good()
	for _, data := range []string{"a", "b", "y", "abcd", "123456", "\x00", "\xff\xfe"} {
		wantPutBlob(t, s, []byte(data), withBlob(s, data))
	}
	s.Room = 4000
	for i := range 301 {
		data := strings.Repeat("q", i)
		if i > 0 {
			wantPutBlob(t, s, []byte(data), withBlob(s, data))
		}
	}
	wantPutBlob(t, api.Store{}, nil, api.Store{Blobs: []api.Blob{{Digest: nothing}}})
	wantPutBlob(t, api.Store{Room: 3}, []byte("abc"), api.Store{Blobs: []api.Blob{{Digest: abc, Data: []byte("abc")}}, Room: 3})
}

// P12.3: the store does not change, whatever count and mark the blob has, though there is no room for it again.
func TestPutBlobAgain(t *testing.T) {
	s := good()
	s.Room = 14
	for _, b := range s.Blobs {
		wantPutBlob(t, s, b.Data, s)
	}
	full := api.Store{Blobs: blobsOf(many(24)...), Room: 72}
	for _, b := range full.Blobs {
		wantPutBlob(t, full, b.Data, full)
	}
}

// P12.3
func TestPutBlobErrors(t *testing.T) {
	// Just enough room, and one byte less.
	for n := 2; n <= 300; n++ {
		s, data := good(), strings.Repeat("q", n)
		s.Room = 14 + n
		wantPutBlob(t, s, []byte(data), withBlob(s, data))
		s.Room--
		wantNoPutBlob(t, s, []byte(data), api.ErrFull)
	}
	wantNoPutBlob(t, api.Store{}, []byte("x"), api.ErrFull)
	wantPutBlob(t, api.Store{Room: 1}, []byte("x"), withBlob(api.Store{Room: 1}, "x"))
	// Too many bytes are told before that there is no room for them, or no place.
	for _, n := range []int{301, 302, 1000, 2000, 2001, 5000} {
		for _, room := range []int{14, 20, 314, 315, 4000} {
			s := good()
			s.Room = room
			wantNoPutBlob(t, s, make([]byte, n), api.ErrSize)
		}
		wantNoPutBlob(t, api.Store{Blobs: blobsOf(many(24)...), Room: 72}, make([]byte, n), api.ErrSize)
	}
	for _, room := range []int{72, 73, 100, 4000} {
		full := api.Store{Blobs: blobsOf(many(24)...), Room: room}
		wantNoPutBlob(t, full, []byte("x"), api.ErrFull)
		wantNoPutBlob(t, full, nil, api.ErrFull)
		almost := api.Store{Blobs: blobsOf(many(23)...), Room: room}
		wantPutBlob(t, almost, nil, withBlob(almost, ""))
	}
}

// P12.4
func TestGetBlob(t *testing.T) {
	s := good()
	for _, text := range []string{"abc", "", "x", "longer one"} {
		wantGetBlob(t, s, digestOf([]byte(text)), text)
	}
	many := api.Store{Blobs: blobsOf(many(24)...), Room: 72}
	for _, b := range many.Blobs {
		wantGetBlob(t, many, b.Digest, string(b.Data))
	}
	long := string(bytes.Repeat([]byte{0, 255, 10}, 100))
	wantGetBlob(t, api.Store{Blobs: blobsOf(long), Room: 300}, digestOf([]byte(long)), long)
}

// P12.4: whatever text is asked for, also one that is no digest.
func TestGetBlobNone(t *testing.T) {
	for _, digest := range []string{"", "x", none, keyOf(1), keyOf(5), abc[:63], abc + "0", strings.ToUpper(abc), strings.Repeat("g", 64), "\xff", " " + abc} {
		wantNoGetBlob(t, good(), digest, api.ErrNone)
		wantNoGetBlob(t, api.Store{}, digest, api.ErrNone)
	}
	wantNoGetBlob(t, api.Store{}, abc, api.ErrNone)
	wantNoGetBlob(t, api.Store{}, nothing, api.ErrNone)
}

// withEntry is a store after Put, without the program.
func withEntry(s api.Store, key string, parts []api.Part) api.Store {
	s = clone(s)
	s.Clock++
	x := api.Entry{Key: key, Parts: parts, Stamp: s.Clock}
	for i, old := range s.Entries {
		if old.Key == key {
			x.Pins = old.Pins
			s.Entries[i] = x
			return s
		}
	}
	s.Entries = append(s.Entries, x)
	slices.SortFunc(s.Entries, func(a, b api.Entry) int { return cmp.Compare(a.Key, b.Key) })
	return s
}

// P12.5: new keys at every place, and keys that there are, whose entries keep only their counts.
func TestPut(t *testing.T) {
	s := good()
	for key := range 8 {
		for _, parts := range [][]api.Part{nil, {}, partsOf("abc"), partsOf(""), partsOf("x", "abc", "x", "longer one", ""), partsOf(slices.Repeat([]string{"abc"}, 8)...)} {
			wantPut(t, s, keyOf(key), parts, withEntry(s, keyOf(key), parts))
		}
	}
	// A key may be the digest of a blob as well.
	wantPut(t, s, abc, partsOf("abc"), withEntry(s, abc, partsOf("abc")))
	wantPut(t, api.Store{}, abc, nil, api.Store{Entries: []api.Entry{{Key: abc, Stamp: 1}}, Clock: 1})
	for _, clock := range []int{7, 8, 100, 1 << 32, 1<<40 - 2, 1<<40 - 1} {
		s.Clock = clock
		wantPut(t, s, keyOf(3), partsOf("x"), withEntry(s, keyOf(3), partsOf("x")))
		wantPut(t, s, keyOf(4), partsOf("x"), withEntry(s, keyOf(4), partsOf("x")))
	}
	// Stamps that are greater than the one of the entry do not matter, nor does one that is the clock.
	late := api.Store{Entries: []api.Entry{{Key: keyOf(1), Stamp: 9}, {Key: keyOf(2), Stamp: 2}}, Clock: 9}
	wantPut(t, late, keyOf(2), nil, withEntry(late, keyOf(2), nil))
}

// P12.5: part by part, the first one that is not present tells what is wrong.
func TestPutNotPresent(t *testing.T) {
	missing := partsOf("missing")[0]
	short := api.Part{Digest: abc, Size: 2}
	long := api.Part{Digest: nothing, Size: 1}
	there := partsOf("x")[0]
	for _, c := range []struct {
		parts []api.Part
		want  api.Errno
	}{
		{[]api.Part{missing}, api.ErrNone},
		{[]api.Part{short}, api.ErrRange},
		{[]api.Part{long}, api.ErrRange},
		{[]api.Part{missing, short}, api.ErrNone},
		{[]api.Part{short, missing}, api.ErrRange},
		{[]api.Part{there, missing}, api.ErrNone},
		{[]api.Part{there, short}, api.ErrRange},
		{[]api.Part{there, there, there, missing, long}, api.ErrNone},
		{[]api.Part{there, there, there, long, missing}, api.ErrRange},
		{[]api.Part{there, there, there, there, there, there, there, short}, api.ErrRange},
		{[]api.Part{there, there, there, there, there, there, there, missing}, api.ErrNone},
		{[]api.Part{{Digest: none, Size: 3}}, api.ErrNone},
		{[]api.Part{{Digest: abc, Size: 0}}, api.ErrRange},
		{[]api.Part{{Digest: abc, Size: 300}}, api.ErrRange},
		{[]api.Part{{Digest: keyOf(1), Size: 3}}, api.ErrNone},
	} {
		for i := range c.parts {
			c.parts[i].Name = fmt.Sprintf("p%d", i)
		}
		for key := range 6 {
			wantNoPut(t, good(), keyOf(key), c.parts, c.want)
		}
	}
	wantNoPut(t, api.Store{}, abc, partsOf("abc"), api.ErrNone)
	wantNoPut(t, api.Store{}, abc, partsOf(""), api.ErrNone)
}

// badKey is a key that may not be, and badParts are such parts.
type badKey struct {
	key  string
	want api.Errno
}

type badParts struct {
	parts []api.Part
	want  api.Errno
}

func badKeys() []badKey {
	return []badKey{
		{"", api.ErrSize},
		{"x", api.ErrSize},
		{abc[:63], api.ErrSize},
		{abc + "0", api.ErrSize},
		{strings.Repeat("g", 64), api.ErrForm},
		{strings.ToUpper(abc), api.ErrForm},
	}
}

func allBadParts() []badParts {
	return []badParts{
		{partsOf(many(9)...), api.ErrSize},
		{[]api.Part{{Digest: abc, Size: 3}}, api.ErrSize},
		{[]api.Part{{Name: "a b", Digest: abc, Size: 3}}, api.ErrForm},
		{[]api.Part{{Name: "a", Digest: abc, Size: 3}, {Name: "a", Digest: abc, Size: 3}}, api.ErrTwice},
		{[]api.Part{{Name: "b", Digest: abc, Size: 3}, {Name: "a", Digest: abc, Size: 3}}, api.ErrTwice},
		{[]api.Part{{Name: "a", Digest: "x", Size: 3}}, api.ErrSize},
		{[]api.Part{{Name: "a", Digest: strings.ToUpper(abc), Size: 3}}, api.ErrForm},
		{[]api.Part{{Name: "a", Digest: abc, Size: -1}}, api.ErrRange},
		{[]api.Part{{Name: "a", Digest: none, Size: 301}}, api.ErrRange},
		// All parts are checked before it is looked for what there is of them.
		{[]api.Part{{Name: "a", Digest: none, Size: 3}, {Name: "b", Digest: "x"}}, api.ErrSize},
		{[]api.Part{{Name: "a", Digest: abc, Size: 4}, {Name: "a", Digest: abc}}, api.ErrTwice},
	}
}

// crowded is a store without place for one more entry, at the end of its time.
func crowded() api.Store {
	s := good()
	s.Entries = nil
	for i := range 10 {
		s.Entries = append(s.Entries, api.Entry{Key: keyOf(2*i + 1), Parts: partsOf("abc"), Stamp: i})
	}
	s.Clock = 1 << 40
	return s
}

// P12.5: the key is told before the parts, these before those that are not present, these before the clock, and that before the entries.
func TestPutOrderOfErrors(t *testing.T) {
	late := good()
	late.Clock = 1 << 40
	full := crowded()
	full.Clock = 10
	for _, s := range []api.Store{good(), late, full, crowded()} {
		for _, k := range badKeys() {
			wantNoPut(t, s, k.key, nil, k.want)
			wantNoPut(t, s, k.key, partsOf("abc"), k.want)
			wantNoPut(t, s, k.key, partsOf("missing"), k.want)
			for _, p := range allBadParts() {
				wantNoPut(t, s, k.key, p.parts, k.want)
			}
		}
		for _, key := range []string{keyOf(1), keyOf(2), abc} {
			for _, p := range allBadParts() {
				wantNoPut(t, s, key, p.parts, p.want)
			}
			wantNoPut(t, s, key, partsOf("missing"), api.ErrNone)
			wantNoPut(t, s, key, []api.Part{{Name: "a", Digest: abc, Size: 4}}, api.ErrRange)
		}
	}
	for _, s := range []api.Store{late, crowded(), {Clock: 1 << 40}} {
		for _, key := range []string{keyOf(1), keyOf(2), abc} {
			wantNoPut(t, s, key, nil, api.ErrRange)
		}
	}
}

// P12.5: a full list of entries takes only keys that it has.
func TestPutFull(t *testing.T) {
	s := crowded()
	s.Clock = 10
	for i := range 22 {
		if i%2 == 1 && i < 20 {
			wantPut(t, s, keyOf(i), partsOf("x"), withEntry(s, keyOf(i), partsOf("x")))
		} else {
			wantNoPut(t, s, keyOf(i), partsOf("x"), api.ErrSize)
		}
	}
	s.Entries = s.Entries[:9]
	wantPut(t, s, keyOf(0), partsOf("x"), withEntry(s, keyOf(0), partsOf("x")))
}

// P12.6
func TestGet(t *testing.T) {
	s := good()
	for _, clock := range []int{7, 8, 1 << 32, 1<<40 - 2, 1<<40 - 1} {
		s.Clock = clock
		for i, x := range s.Entries {
			want := clone(s)
			want.Clock++
			want.Entries[i].Stamp = want.Clock
			wantGet(t, s, x.Key, want, x.Parts)
		}
	}
	one := api.Store{Entries: []api.Entry{{Key: abc, Pins: 5}}}
	wantGet(t, one, abc, api.Store{Entries: []api.Entry{{Key: abc, Pins: 5, Stamp: 1}}, Clock: 1}, nil)
}

// P12.6: no entry is told before that the clock is at its end.
func TestGetErrors(t *testing.T) {
	for _, clock := range []int{7, 1<<40 - 1, 1 << 40} {
		s := good()
		s.Clock = clock
		for _, key := range []string{"", "x", abc, nothing, keyOf(0), keyOf(2), keyOf(4), keyOf(6), keyOf(1)[1:], strings.Repeat("g", 64)} {
			wantNoGet(t, s, key, api.ErrNone)
			wantNoGet(t, api.Store{Clock: clock}, key, api.ErrNone)
		}
	}
	s := good()
	s.Clock = 1 << 40
	for _, x := range s.Entries {
		wantNoGet(t, s, x.Key, api.ErrRange)
	}
	wantNoGet(t, crowded(), keyOf(1), api.ErrRange)
}

// P12.7: every blob with every count, up and down; nothing else changes, and the clock does not matter.
func TestHoldBlob(t *testing.T) {
	for i := range good().Blobs {
		for pins := range 6 {
			for _, clock := range []int{7, 1 << 40} {
				s := good()
				s.Clock = clock
				s.Blobs[i].Pins = pins
				if want := clone(s); pins < 5 {
					want.Blobs[i].Pins++
					wantHoldBlob(t, s, s.Blobs[i].Digest, true, want)
				} else {
					wantNoHoldBlob(t, s, s.Blobs[i].Digest, true, api.ErrFull)
				}
				if want := clone(s); pins > 0 {
					want.Blobs[i].Pins--
					wantHoldBlob(t, s, s.Blobs[i].Digest, false, want)
				} else {
					wantNoHoldBlob(t, s, s.Blobs[i].Digest, false, api.ErrIdle)
				}
			}
		}
	}
	for _, digest := range []string{"", "x", none, keyOf(1), keyOf(5), abc[:63], strings.ToUpper(abc), strings.Repeat("g", 64)} {
		for _, up := range []bool{false, true} {
			wantNoHoldBlob(t, good(), digest, up, api.ErrNone)
			wantNoHoldBlob(t, api.Store{}, digest, up, api.ErrNone)
		}
	}
}

// P12.8: as P12.7, for entries.
func TestHold(t *testing.T) {
	for i := range good().Entries {
		for pins := range 6 {
			for _, clock := range []int{7, 1 << 40} {
				s := good()
				s.Clock = clock
				s.Entries[i].Pins = pins
				if want := clone(s); pins < 5 {
					want.Entries[i].Pins++
					wantHold(t, s, s.Entries[i].Key, true, want)
				} else {
					wantNoHold(t, s, s.Entries[i].Key, true, api.ErrFull)
				}
				if want := clone(s); pins > 0 {
					want.Entries[i].Pins--
					wantHold(t, s, s.Entries[i].Key, false, want)
				} else {
					wantNoHold(t, s, s.Entries[i].Key, false, api.ErrIdle)
				}
			}
		}
	}
	for _, key := range []string{"", "x", abc, nothing, keyOf(0), keyOf(2), keyOf(6), keyOf(1)[1:], strings.Repeat("g", 64)} {
		for _, up := range []bool{false, true} {
			wantNoHold(t, good(), key, up, api.ErrNone)
			wantNoHold(t, api.Store{}, key, up, api.ErrNone)
		}
	}
}

// model of a store, in maps.
type model struct {
	blobs       map[string]*api.Blob
	entries     map[string]*api.Entry
	room, clock int
}

func (m *model) store() api.Store {
	s := api.Store{Room: m.room, Clock: m.clock}
	for _, b := range m.blobs {
		s.Blobs = append(s.Blobs, *b)
	}
	for _, x := range m.entries {
		s.Entries = append(s.Entries, *x)
	}
	slices.SortFunc(s.Blobs, func(a, b api.Blob) int { return cmp.Compare(a.Digest, b.Digest) })
	slices.SortFunc(s.Entries, func(a, b api.Entry) int { return cmp.Compare(a.Key, b.Key) })
	return s
}

func (m *model) putBlob(data string) api.Errno {
	digest := digestOf([]byte(data))
	if m.blobs[digest] != nil {
		return api.OK
	}
	used := len(data)
	for _, b := range m.blobs {
		used += len(b.Data)
	}
	if len(m.blobs) == 24 || used > m.room {
		return api.ErrFull
	}
	m.blobs[digest] = &api.Blob{Digest: digest, Data: []byte(data)}
	return api.OK
}

func (m *model) put(key string, parts []api.Part) api.Errno {
	for _, p := range parts {
		if b := m.blobs[p.Digest]; b == nil {
			return api.ErrNone
		} else if len(b.Data) != p.Size {
			return api.ErrRange
		}
	}
	x := m.entries[key]
	if x == nil && len(m.entries) == 10 {
		return api.ErrSize
	}
	if x == nil {
		x = &api.Entry{Key: key}
		m.entries[key] = x
	}
	m.clock++
	x.Parts, x.Stamp = parts, m.clock
	return api.OK
}

func (m *model) get(key string) api.Errno {
	x := m.entries[key]
	if x == nil {
		return api.ErrNone
	}
	m.clock++
	x.Stamp = m.clock
	return api.OK
}

func hold(pins *int, up bool) api.Errno {
	if up && *pins == 5 {
		return api.ErrFull
	}
	if !up && *pins == 0 {
		return api.ErrIdle
	}
	if up {
		*pins++
	} else {
		*pins--
	}
	return api.OK
}

func (m *model) holdBlob(digest string, up bool) api.Errno {
	if m.blobs[digest] == nil {
		return api.ErrNone
	}
	return hold(&m.blobs[digest].Pins, up)
}

func (m *model) hold(key string, up bool) api.Errno {
	if m.entries[key] == nil {
		return api.ErrNone
	}
	return hold(&m.entries[key].Pins, up)
}

// P12.1 to P12.8: many calls one after another, compared with a model.
func TestManyCalls(t *testing.T) {
	r := rand.New(rand.NewSource(12))
	met := map[string]int{}
	for range 20 {
		m := &model{map[string]*api.Blob{}, map[string]*api.Entry{}, 10 + r.Intn(60), r.Intn(3)}
		s := m.store()
		for range 600 {
			var next api.Store
			var err, want api.Errno
			text, key, up := fmt.Sprintf("%0*d", r.Intn(4), r.Intn(12)), keyOf(r.Intn(14)), r.Intn(4) > 0
			digest := digestOf([]byte(text))
			kind := []string{"PutBlob", "Put", "Get", "HoldBlob", "Hold"}[r.Intn(5)]
			switch kind {
			case "PutBlob":
				next, _, err = PutBlob(s, []byte(text))
				want = m.putBlob(text)
			case "Put":
				parts := partsOf(text, fmt.Sprint(r.Intn(15)))
				if r.Intn(5) == 0 {
					parts[r.Intn(2)].Size++
				}
				parts = parts[:r.Intn(3)]
				next, err = Put(s, key, parts)
				want = m.put(key, parts)
			case "Get":
				next, _, err = Get(s, key)
				want = m.get(key)
			case "HoldBlob":
				next, err = HoldBlob(s, digest, up)
				want = m.holdBlob(digest, up)
			case "Hold":
				next, err = Hold(s, key, up)
				want = m.hold(key, up)
			}
			if err != want {
				t.Fatalf("%s: error %d, want %d, for %+v", kind, err, want, s)
			}
			met[fmt.Sprint(kind, err)]++
			if err != api.OK {
				continue
			}
			if s = next; !same(s, m.store()) || Check(s) != api.OK {
				t.Fatalf("%s: %+v, want %+v", kind, s, m.store())
			}
		}
	}
	for _, what := range []string{"PutBlob0", "PutBlob7", "Put0", "Put1", "Put4", "Put5", "Get0", "Get5", "HoldBlob0", "HoldBlob5", "HoldBlob7", "HoldBlob11", "Hold0", "Hold5", "Hold7", "Hold11"} {
		if met[what] < 5 {
			t.Errorf("%s was met %d times only", what, met[what])
		}
	}
}

// spareParts is a list with capacity that is not used and has something in it.
func spareParts(l []api.Part) []api.Part {
	return append(slices.Clone(l), partsOf("spare", "more")...)[:len(l)]
}

func spareData(b []byte) []byte {
	return append(bytes.Clone(b), "spare"...)[:len(b)]
}

// spare is a store with such capacity everywhere.
func spare(s api.Store) api.Store {
	blobs := append(slices.Clone(s.Blobs), blobsOf("spare", "more")...)
	for i := range blobs {
		blobs[i].Data = spareData(blobs[i].Data)
	}
	entries := append(slices.Clone(s.Entries), api.Entry{Key: "spare"}, api.Entry{Key: "more", Pins: 1})
	for i := range entries {
		entries[i].Parts = spareParts(entries[i].Parts)
	}
	s.Blobs, s.Entries = blobs[:len(s.Blobs)], entries[:len(s.Entries)]
	return s
}

// whole is a store with all unused capacity, deep: all that a call could change.
func whole(s api.Store) api.Store {
	s.Blobs = append([]api.Blob{}, s.Blobs[:cap(s.Blobs)]...)
	for i := range s.Blobs {
		s.Blobs[i].Data = append([]byte{}, s.Blobs[i].Data[:cap(s.Blobs[i].Data)]...)
	}
	s.Entries = append([]api.Entry{}, s.Entries[:cap(s.Entries)]...)
	for i := range s.Entries {
		s.Entries[i].Parts = append([]api.Part{}, s.Entries[i].Parts[:cap(s.Entries[i].Parts)]...)
	}
	return s
}

func spoilParts(l []api.Part) {
	l = l[:cap(l)]
	for i := range l {
		l[i] = api.Part{Name: "spoilt", Size: 99}
	}
}

func spoilData(b []byte) {
	b = b[:cap(b)]
	for i := range b {
		b[i] ^= 0x55
	}
}

// spoil changes everything in a store and in its unused capacity.
func spoil(s api.Store) {
	blobs, entries := s.Blobs[:cap(s.Blobs)], s.Entries[:cap(s.Entries)]
	for i := range blobs {
		spoilData(blobs[i].Data)
		blobs[i] = api.Blob{Digest: "spoilt", Pins: 99, Mark: true}
	}
	for i := range entries {
		spoilParts(entries[i].Parts)
		entries[i] = api.Entry{Key: "spoilt", Stamp: 99}
	}
}

// result of any call.
type result struct {
	store  api.Store
	digest string
	data   []byte
	parts  []api.Part
	err    api.Errno
}

func (r result) clone() result {
	return result{clone(r.store), r.digest, append([]byte{}, r.data...), append([]api.Part{}, r.parts...), r.err}
}

func (r result) same(o result) bool {
	return reflect.DeepEqual(r.clone(), o.clone())
}

func (r result) spoil() {
	spoil(r.store)
	spoilData(r.data)
	spoilParts(r.parts)
}

// unshared: writing into one list of a result, or behind it, changes no other.
func (r result) unshared(t *testing.T) {
	t.Helper()
	var lists [][]api.Part
	for _, x := range r.store.Entries {
		lists = append(lists, x.Parts)
	}
	lists = append(lists, r.parts)
	for i, l := range lists {
		before := r.clone()
		kept := slices.Clone(l[:cap(l)])
		spoilParts(l)
		after := r.clone()
		copy(l[:cap(l)], kept)
		if i < len(r.store.Entries) {
			after.store.Entries[i].Parts = before.store.Entries[i].Parts
		} else {
			after.parts = before.parts
		}
		if !after.same(before) {
			t.Errorf("list %d of parts of %+v shares memory with another", i, r)
		}
	}
	for i, b := range r.store.Blobs {
		before := r.clone()
		kept := bytes.Clone(b.Data[:cap(b.Data)])
		spoilData(b.Data)
		after := r.clone()
		copy(b.Data[:cap(b.Data)], kept)
		after.store.Blobs[i].Data = before.store.Blobs[i].Data
		if !after.same(before) {
			t.Errorf("the bytes of blob %d of %+v share memory with others", i, r)
		}
	}
}

// call of a function with what it may be given.
type call func(s api.Store, data []byte, parts []api.Part) result

func calls() []call {
	fromStore := func(s api.Store, err api.Errno) result { return result{store: s, err: err} }
	l := []call{
		func(s api.Store, _ []byte, _ []api.Part) result { return result{err: Check(s)} },
		func(s api.Store, _ []byte, _ []api.Part) result { return fromStore(Copy(s), api.OK) },
		func(s api.Store, data []byte, _ []api.Part) result {
			s, digest, err := PutBlob(s, data)
			return result{store: s, digest: digest, err: err}
		},
	}
	for _, digest := range []string{abc, nothing, "x"} {
		l = append(l,
			func(s api.Store, _ []byte, _ []api.Part) result {
				data, err := GetBlob(s, digest)
				return result{data: data, err: err}
			},
			func(s api.Store, _ []byte, _ []api.Part) result { return fromStore(HoldBlob(s, digest, true)) },
			func(s api.Store, _ []byte, _ []api.Part) result { return fromStore(HoldBlob(s, digest, false)) },
		)
	}
	for key := range 7 {
		l = append(l,
			func(s api.Store, _ []byte, parts []api.Part) result { return fromStore(Put(s, keyOf(key), parts)) },
			func(s api.Store, _ []byte, _ []api.Part) result {
				s, parts, err := Get(s, keyOf(key))
				return result{store: s, parts: parts, err: err}
			},
			func(s api.Store, _ []byte, _ []api.Part) result { return fromStore(Hold(s, keyOf(key), true)) },
			func(s api.Store, _ []byte, _ []api.Part) result { return fromStore(Hold(s, keyOf(key), false)) },
		)
	}
	return l
}

// stores for the tests of memory: good ones, one of which has the same parts everywhere, and a wrong one.
func stores() []api.Store {
	equal := good()
	for i := range equal.Entries {
		equal.Entries[i].Parts = partsOf("x", "abc")
	}
	wrong := good()
	wrong.Clock = 6
	return []api.Store{good(), equal, wrong}
}

// P12.1 to P12.8, with the document's general rules on memory and on state.
func TestMemory(t *testing.T) {
	for n, s := range stores() {
		for i, call := range calls() {
			for _, text := range []string{"fresh", "abc", "", "much too long for it"} {
				s, data, parts := spare(s), spareData([]byte(text)), spareParts(partsOf("x", "abc"))
				before, dataBefore, partsBefore := whole(s), slices.Clone(data[:cap(data)]), slices.Clone(parts[:cap(parts)])
				unchanged := func(what string) {
					t.Helper()
					if !same(whole(s), before) || !bytes.Equal(data[:cap(data)], dataBefore) || !slices.Equal(parts[:cap(parts)], partsBefore) {
						t.Fatalf("call %d with store %d and %q: %s", i, n, text, what)
					}
				}
				first, second := call(s, data, parts), call(s, data, parts)
				unchanged("the arguments are changed")
				if !first.same(second) {
					t.Errorf("call %d with store %d and %q: %+v, then %+v", i, n, text, first, second)
				}
				first.unshared(t)
				kept := second.clone()
				first.spoil()
				unchanged("the result shares memory with an argument")
				if !second.same(kept) || !call(s, data, parts).same(kept) {
					t.Errorf("call %d with store %d and %q: two results share memory", i, n, text)
				}
			}
		}
	}
}

// P12.2 to P12.8: a result stays as it is when the arguments change later.
func TestResultsStay(t *testing.T) {
	for n, s := range stores() {
		for i, call := range calls() {
			for _, text := range []string{"fresh", "abc"} {
				s, data, parts := spare(s), spareData([]byte(text)), spareParts(partsOf("x", "abc"))
				got := call(s, data, parts)
				want := got.clone()
				spoil(s)
				spoilData(data)
				spoilParts(parts)
				if !got.same(want) {
					t.Errorf("result %d with store %d changed with its arguments: %+v, want %+v", i, n, got, want)
				}
			}
		}
	}
}
