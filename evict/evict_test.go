package evict

import (
	"bytes"
	"cmp"
	"crypto/sha256"
	"encoding/binary"
	"encoding/hex"
	"fmt"
	"math"
	"math/rand"
	"reflect"
	"slices"
	"strings"
	"testing"

	"appleloft/api"
)

// keyOf is a key that is greater for a greater number.
func keyOf(n int) string {
	return fmt.Sprintf("%064x", n)
}

func digestOf(text string) string {
	sum := sha256.Sum256([]byte(text))
	return hex.EncodeToString(sum[:])
}

// partsOf these texts, named in their order.
func partsOf(texts ...string) []api.Part {
	var l []api.Part
	for i, text := range texts {
		l = append(l, api.Part{Name: fmt.Sprint(i), Digest: digestOf(text), Size: len(text)})
	}
	return l
}

// list is a manifest of these texts, written as chapter 5 says, without the program.
func list(texts ...string) string {
	b := binary.AppendUvarint([]byte("AM1"), uint64(len(texts)))
	for _, p := range partsOf(texts...) {
		sum, _ := hex.DecodeString(p.Digest)
		b = append(append(b, 1), p.Name...)
		b = binary.AppendUvarint(append(b, sum...), uint64(p.Size))
	}
	return string(b)
}

// blobsOf these texts, in order; nobody holds them.
func blobsOf(texts ...string) []api.Blob {
	var l []api.Blob
	for _, text := range texts {
		l = append(l, api.Blob{Digest: digestOf(text), Data: []byte(text)})
	}
	slices.SortFunc(l, func(a, b api.Blob) int { return cmp.Compare(a.Digest, b.Digest) })
	return l
}

// storeOf these texts, with room for them and nothing more.
func storeOf(texts ...string) api.Store {
	return api.Store{Blobs: blobsOf(texts...), Room: len(strings.Join(texts, "")), Clock: 100}
}

// withEntry has one entry more, with the greatest key, of these texts.
func withEntry(s api.Store, stamp int, texts ...string) api.Store {
	s = clone(s)
	s.Entries = append(s.Entries, api.Entry{Key: keyOf(len(s.Entries)), Parts: partsOf(texts...), Stamp: stamp})
	return s
}

// held: somebody holds the blobs of these texts.
func held(s api.Store, texts ...string) api.Store {
	s = clone(s)
	for i, b := range s.Blobs {
		if slices.Contains(texts, string(b.Data)) {
			s.Blobs[i].Pins++
		}
	}
	return s
}

// heldEntries: somebody holds the entries with these numbers.
func heldEntries(s api.Store, numbers ...int) api.Store {
	s = clone(s)
	for _, n := range numbers {
		s.Entries[n].Pins = 1 + n%5
	}
	return s
}

// roomFor more bytes or fewer.
func roomFor(s api.Store, more int) api.Store {
	s.Room += more
	return s
}

// without these texts and the entries with these keys.
func without(s api.Store, texts, keys []string) api.Store {
	s = clone(s)
	s.Blobs = slices.DeleteFunc(s.Blobs, func(b api.Blob) bool { return slices.Contains(texts, string(b.Data)) })
	s.Entries = slices.DeleteFunc(s.Entries, func(x api.Entry) bool { return slices.Contains(keys, x.Key) })
	return s
}

// clone is a deep copy that does not use the program.
func clone(s api.Store) api.Store {
	s.Blobs = append([]api.Blob{}, s.Blobs...)
	for i := range s.Blobs {
		s.Blobs[i].Data = append([]byte{}, s.Blobs[i].Data...)
	}
	s.Entries = append([]api.Entry{}, s.Entries...)
	for i := range s.Entries {
		s.Entries[i].Parts = append([]api.Part{}, s.Entries[i].Parts...)
	}
	return s
}

func same(a, b api.Store) bool {
	return reflect.DeepEqual(clone(a), clone(b))
}

func empty(s api.Store) bool {
	return same(s, api.Store{})
}

// wantWaste checks a call of Waste and one of Clean; the texts are given in any order.
func wantWaste(t *testing.T, s api.Store, texts ...string) {
	t.Helper()
	var want []string
	for _, text := range texts {
		want = append(want, digestOf(text))
	}
	slices.Sort(want)
	if got, err := Waste(s); !slices.Equal(got, want) || err != api.OK {
		t.Errorf("Waste(%+v) = %q, %d, want %q", s, got, err, want)
	}
	wantClean(t, s, without(s, texts, nil), len(texts))
}

// wantClean checks a call of Clean, and that its result has no waste any more.
func wantClean(t *testing.T, s, want api.Store, n int) {
	t.Helper()
	if got, gone, err := Clean(s); !same(got, want) || gone != n || err != api.OK {
		t.Errorf("Clean(%+v) = %+v, %d, %d, want %+v, %d", s, got, gone, err, want, n)
	}
	if got, gone, err := Clean(want); !same(got, want) || gone != 0 || err != api.OK {
		t.Errorf("Clean(%+v) = %+v, %d, %d, want the same", want, got, gone, err)
	}
	if got, err := Waste(want); len(got) != 0 || err != api.OK {
		t.Errorf("Waste(%+v) = %q, %d, want none", want, got, err)
	}
}

func wantRun(t *testing.T, s api.Store, more int, want api.Store, keys ...string) {
	t.Helper()
	if got, gone, err := Run(s, more); !same(got, want) || !slices.Equal(gone, keys) || err != api.OK {
		t.Errorf("Run(%+v, %d) = %+v, %q, %d, want %+v, %q", s, more, got, gone, err, want, keys)
	}
}

func wantNoRun(t *testing.T, s api.Store, more int, want api.Errno) {
	t.Helper()
	if got, gone, err := Run(s, more); !empty(got) || len(gone) != 0 || err != want {
		t.Errorf("Run(%+v, %d) = %+v, %q, %d, want only error %d", s, more, got, gone, err, want)
	}
}

// P13.1, P13.2: what entries have, and what somebody holds, is no waste.
func TestWasteOfRoots(t *testing.T) {
	wantWaste(t, api.Store{})
	wantWaste(t, withEntry(api.Store{Clock: 1, Room: 9}, 1))
	s := storeOf("a", "bb", "", "dddd")
	wantWaste(t, s, "a", "bb", "", "dddd")
	wantWaste(t, held(s, "bb"), "a", "", "dddd")
	wantWaste(t, held(held(s, "bb", "a"), "a", ""), "dddd")
	wantWaste(t, held(s, "a", "bb", "", "dddd"))
	wantWaste(t, withEntry(s, 0, "a"), "bb", "", "dddd")
	wantWaste(t, withEntry(withEntry(s, 9, "dddd", "dddd"), 3, "", "a"), "bb")
	wantWaste(t, withEntry(withEntry(s, 9, "dddd", "a", "bb"), 3, "", "a"))
	wantWaste(t, heldEntries(withEntry(withEntry(s, 9, "dddd"), 3), 0, 1), "a", "bb", "")
	wantWaste(t, held(withEntry(s, 9, "dddd"), "dddd", ""), "a", "bb")
}

// P13.1, P13.2: the key of an entry is the digest of a blob, but does not come to it.
func TestWasteOfKeys(t *testing.T) {
	s := withEntry(storeOf("a", "b"), 1, "a")
	s.Entries[0].Key = digestOf("b")
	wantWaste(t, s, "b")
}

// P13.1, P13.2: each count of a blob but 0 keeps it; marks do not matter, and stay.
func TestWasteOfPinsAndMarks(t *testing.T) {
	for pins := range 6 {
		for marks := range 4 {
			s := storeOf("a", "b")
			for i := range s.Blobs {
				s.Blobs[i].Mark = marks&(i+1) != 0
			}
			s.Blobs[1].Pins = pins
			gone := []string{string(s.Blobs[0].Data)}
			if pins == 0 {
				gone = append(gone, string(s.Blobs[1].Data))
			}
			wantWaste(t, s, gone...)
			wantRun(t, s, 0, s)
			wantRun(t, s, 1, without(s, gone, nil))
		}
	}
}

// P13.1, P13.2: what manifests list that are come to is no waste either, over several of them.
func TestWasteOfManifests(t *testing.T) {
	inner := list("a", "b", "missing")
	outer := list("c", inner)
	other := list("b", "d")
	false1, false2 := list("a", "d")+"\x00", "x"+list("a", "c")
	s := storeOf("a", "b", "c", "d", inner, outer, other, false1, false2)
	wantWaste(t, s, "a", "b", "c", "d", inner, outer, other, false1, false2)
	wantWaste(t, withEntry(s, 5, outer), "d", other, false1, false2)
	wantWaste(t, held(s, outer), "d", other, false1, false2)
	wantWaste(t, withEntry(s, 5, inner), "c", "d", outer, other, false1, false2)
	wantWaste(t, held(s, other), "a", "c", inner, outer, false1, false2)
	wantWaste(t, held(s, false1), "a", "b", "c", "d", inner, outer, other, false2)
	wantWaste(t, withEntry(s, 5, false2), "a", "b", "c", "d", inner, outer, other, false1)
	wantWaste(t, held(withEntry(s, 5, inner), other), "c", outer, false1, false2)
	wantWaste(t, held(s, "c", "a"), "b", "d", inner, outer, other, false1, false2)
	wantWaste(t, withEntry(withEntry(s, 5, other, outer), 6, false1, false2))
}

// P13.1, P13.2: a chain of manifests as long as a store allows; what is below the one that somebody holds stays.
func TestWasteOfChains(t *testing.T) {
	texts := []string{"end"}
	for range 23 {
		texts = append(texts, list(texts[len(texts)-1]))
	}
	s := storeOf(texts...)
	for i, text := range texts {
		wantWaste(t, held(s, text), texts[i+1:]...)
		wantWaste(t, withEntry(s, 1, text), texts[i+1:]...)
	}
}

// P13.1, P13.2: any of many blobs, in their order.
func TestWasteOfMany(t *testing.T) {
	var texts []string
	for i := range 24 {
		texts = append(texts, fmt.Sprintf("t%02d", i))
	}
	s := storeOf(texts...)
	wantWaste(t, s, texts...)
	for i, text := range texts {
		others := slices.Delete(slices.Clone(texts), i, i+1)
		wantWaste(t, held(s, text), others...)
		wantWaste(t, withEntry(s, 1, text), others...)
		wantWaste(t, held(s, others...), text)
		wantWaste(t, held(s, texts[:i]...), texts[i:]...)
		wantWaste(t, held(withEntry(s, 1, others[0]), text), others[1:]...)
	}
}

// P13.3: if there is room, nothing goes, waste neither.
func TestRunWithRoom(t *testing.T) {
	s := withEntry(held(storeOf("a", "bb", "", "dddd"), ""), 4, "a")
	for spare := range 20 {
		for more := range spare + 1 {
			wantRun(t, roomFor(s, spare), more, roomFor(s, spare))
		}
		wantRun(t, roomFor(s, spare), spare+1, without(roomFor(s, spare), []string{"bb", "dddd"}, nil))
	}
	wantRun(t, api.Store{}, 0, api.Store{})
	wantRun(t, api.Store{Room: 4000}, 4000, api.Store{Room: 4000})
	wantRun(t, api.Store{Room: 5, Clock: 1 << 40}, 5, api.Store{Room: 5, Clock: 1 << 40})
}

// P13.3: all waste goes first, also if some of it were enough; no entry goes if that is enough.
func TestRunWasteFirst(t *testing.T) {
	s := withEntry(withEntry(storeOf("a", "bb", "", "dddd"), 4, "a"), 2)
	clean := without(s, []string{"bb", "", "dddd"}, nil)
	for more := 1; more <= 6; more++ {
		wantRun(t, s, more, clean)
	}
	wantRun(t, s, 7, without(clean, []string{"a"}, []string{keyOf(0), keyOf(1)}), keyOf(1), keyOf(0))
	wantNoRun(t, s, 8, api.ErrHeld)
}

// P13.3: one entry after another by their stamps, and what only they came to goes with each of them.
func TestRunByStamps(t *testing.T) {
	texts := []string{"a", "bb", "cccc"}
	for _, order := range [][]int{{0, 1, 2}, {0, 2, 1}, {1, 0, 2}, {1, 2, 0}, {2, 0, 1}, {2, 1, 0}} {
		s := storeOf(texts...)
		stamps := make([]int, 3)
		for i, n := range order {
			stamps[n] = []int{0, 7, 100}[i]
		}
		for i, text := range texts {
			s = withEntry(s, stamps[i], text)
		}
		var gone, keys []string
		more := 0
		for _, n := range order {
			wantRun(t, s, more, without(s, gone, keys), keys...)
			gone, keys = append(gone, texts[n]), append(keys, keyOf(n))
			more++
			wantRun(t, s, more, without(s, gone, keys), keys...)
			more += len(texts[n]) - 1
		}
		wantRun(t, s, 7, without(s, gone, keys), keys...)
		wantNoRun(t, s, 8, api.ErrHeld)
	}
}

// P13.3: of equal stamps the smallest key; entries that somebody holds stay.
func TestRunByKeys(t *testing.T) {
	var texts []string
	for i := range 10 {
		texts = append(texts, fmt.Sprint(i))
	}
	s := storeOf(texts...)
	for _, text := range texts {
		s = withEntry(s, 5, text)
	}
	for mask := range 1 << 10 {
		s := s
		var numbers []int
		var gone, keys []string
		for i, text := range texts {
			if mask>>i&1 == 1 {
				numbers = append(numbers, i)
			} else {
				gone, keys = append(gone, text), append(keys, keyOf(i))
			}
		}
		s = heldEntries(s, numbers...)
		for n := range len(gone) + 1 {
			wantRun(t, s, n, without(s, gone[:n], keys[:n]), keys[:n]...)
		}
		wantNoRun(t, s, len(gone)+1, api.ErrHeld)
	}
}

// P13.3: entries that free nothing go too, if they are the oldest, till there is room.
func TestRunShared(t *testing.T) {
	s := storeOf("a", "bb")
	s = withEntry(s, 6, "a", "bb")
	s = withEntry(s, 5, "bb")
	s = withEntry(s, 4)
	s = withEntry(s, 3, "a")
	s = withEntry(s, 7)
	wantRun(t, s, 0, s)
	left := without(s, []string{"a", "bb"}, []string{keyOf(0), keyOf(1), keyOf(2), keyOf(3)})
	for more := 1; more <= 3; more++ {
		wantRun(t, s, more, left, keyOf(3), keyOf(2), keyOf(1), keyOf(0))
	}
	s.Entries[1].Pins = 2
	left = without(s, []string{"a"}, []string{keyOf(0), keyOf(2), keyOf(3)})
	wantRun(t, s, 1, left, keyOf(3), keyOf(2), keyOf(0))
	for more := 2; more <= 10; more++ {
		wantNoRun(t, s, more, api.ErrHeld)
	}
}

// P13.3: an entry goes with all that only it came to by manifests, but not with what others come to.
func TestRunManifests(t *testing.T) {
	inner := list("a", "b")
	outer := list("c", inner)
	other := list("b", "d")
	s := storeOf("a", "b", "c", "d", inner, outer, other, "waste")
	s = withEntry(s, 9, other)
	s = withEntry(s, 8, outer)
	s = held(s, "c")
	first := without(s, []string{"waste"}, nil)
	second := without(s, []string{"waste", outer, inner, "a"}, []string{keyOf(1)})
	third := without(s, []string{"waste", outer, inner, "a", other, "b", "d"}, []string{keyOf(0), keyOf(1)})
	freed := len("waste")
	wantRun(t, s, freed, first)
	wantRun(t, s, freed+1, second, keyOf(1))
	freed += len(outer) + len(inner) + 1
	wantRun(t, s, freed, second, keyOf(1))
	wantRun(t, s, freed+1, third, keyOf(1), keyOf(0))
	freed += len(other) + 2
	wantRun(t, s, freed, third, keyOf(1), keyOf(0))
	wantNoRun(t, s, freed+1, api.ErrHeld)
}

// P13.3: what somebody holds stays, and if there is no room without it, so does all the rest.
func TestRunHeld(t *testing.T) {
	s := withEntry(held(storeOf("a", "bb"), "bb"), 1, "a", "bb")
	wantRun(t, s, 1, without(s, []string{"a"}, []string{keyOf(0)}), keyOf(0))
	for _, more := range []int{2, 3, 4, 4000} {
		wantNoRun(t, s, more, api.ErrHeld)
	}
	wantNoRun(t, api.Store{}, 1, api.ErrHeld)
	wantNoRun(t, api.Store{Room: 3999}, 4000, api.ErrHeld)
	wantNoRun(t, storeOf("a", "b"), 3, api.ErrHeld)
	wantRun(t, storeOf("a", "b"), 2, api.Store{Room: 2, Clock: 100})
	wantNoRun(t, heldEntries(withEntry(storeOf("a", "b"), 1, "a"), 0), 2, api.ErrHeld)
	wantNoRun(t, heldEntries(withEntry(withEntry(storeOf("a", "b"), 1, "a"), 0), 0, 1), 2, api.ErrHeld)
}

// P13.3: the whole range of bytes, and what is beyond it, before that something is held.
func TestRunRange(t *testing.T) {
	s := storeOf("a", "b", "c")
	s.Room = 4000
	for more := range 4001 {
		if more <= 3997 {
			wantRun(t, s, more, s)
		} else {
			wantRun(t, s, more, without(s, []string{"a", "b", "c"}, nil))
		}
	}
	for _, s := range []api.Store{s, {}, {Room: 4000}, held(s, "a"), storeOf("x"), heldEntries(withEntry(storeOf("x"), 1, "x"), 0)} {
		for _, more := range []int{-1, -2, -4000, 4001, 4002, 1 << 32, math.MinInt, math.MaxInt} {
			wantNoRun(t, s, more, api.ErrRange)
		}
	}
}

// faults: each makes a good store a wrong one.
func faults() []struct {
	make func(s *api.Store)
	want api.Errno
} {
	return []struct {
		make func(s *api.Store)
		want api.Errno
	}{
		{func(s *api.Store) { s.Blobs = make([]api.Blob, 25) }, api.ErrSize},
		{func(s *api.Store) { s.Blobs[2].Digest = strings.Repeat("g", 64) }, api.ErrForm},
		{func(s *api.Store) { s.Blobs[1].Data = []byte("other") }, api.ErrSum},
		{func(s *api.Store) { s.Blobs[2] = s.Blobs[1] }, api.ErrTwice},
		{func(s *api.Store) { s.Blobs[0].Pins = 6 }, api.ErrRange},
		{func(s *api.Store) { s.Blobs[0].Pins = -1 }, api.ErrRange},
		{func(s *api.Store) { s.Entries = make([]api.Entry, 11) }, api.ErrSize},
		{func(s *api.Store) { s.Entries[1].Key = "" }, api.ErrSize},
		{func(s *api.Store) { s.Entries[1].Key = s.Entries[0].Key }, api.ErrTwice},
		{func(s *api.Store) { s.Entries[0].Parts[0].Name = "a b" }, api.ErrForm},
		{func(s *api.Store) { s.Entries[1].Pins = -1 }, api.ErrRange},
		{func(s *api.Store) { s.Entries[1].Stamp = -1 }, api.ErrRange},
		{func(s *api.Store) { s.Room = -1 }, api.ErrRange},
		{func(s *api.Store) { s.Room = 4001 }, api.ErrRange},
		{func(s *api.Store) { s.Room = 4 }, api.ErrFull},
		{func(s *api.Store) { s.Clock = -1 }, api.ErrRange},
		{func(s *api.Store) { s.Clock = 1<<40 + 1 }, api.ErrRange},
		{func(s *api.Store) { s.Clock = 8 }, api.ErrState},
		{func(s *api.Store) { s.Entries[0].Parts[0].Size++ }, api.ErrState},
		{func(s *api.Store) { s.Entries[0].Parts[0].Digest = digestOf("missing") }, api.ErrState},
	}
}

// P13.1 to P13.3: what is wrong with a store is told before all else, and nothing else is told.
func TestWrongStores(t *testing.T) {
	for _, f := range faults() {
		s := heldEntries(withEntry(withEntry(storeOf("a", "", "cccc"), 9, "a"), 3), 1)
		f.make(&s)
		if got, err := Waste(s); len(got) != 0 || err != f.want {
			t.Errorf("Waste(%+v) = %q, %d, want only error %d", s, got, err, f.want)
		}
		if got, n, err := Clean(s); !empty(got) || n != 0 || err != f.want {
			t.Errorf("Clean(%+v) = %+v, %d, %d, want only error %d", s, got, n, err, f.want)
		}
		for _, more := range []int{-1, 0, 1, 4, 5, 6, 4000, 4001} {
			wantNoRun(t, s, more, f.want)
		}
	}
}

// wasteOf a store, found by going round till nothing is added, with the manifests that there are.
func wasteOf(s api.Store, manifests map[string][]string) []string {
	kept := map[string]bool{}
	for _, x := range s.Entries {
		for _, p := range x.Parts {
			kept[p.Digest] = true
		}
	}
	for {
		before := len(kept)
		for _, b := range s.Blobs {
			if b.Pins > 0 {
				kept[b.Digest] = true
			}
			for _, text := range manifests[string(b.Data)] {
				if kept[b.Digest] {
					kept[digestOf(text)] = true
				}
			}
		}
		if len(kept) == before {
			break
		}
	}
	var texts []string
	for _, b := range s.Blobs {
		if !kept[b.Digest] {
			texts = append(texts, string(b.Data))
		}
	}
	return texts
}

func lackOf(s api.Store, more int) int {
	for _, b := range s.Blobs {
		more += len(b.Data)
	}
	return more - s.Room
}

// runOf a store: how it is left, and the keys of what went; false if somebody holds too much.
func runOf(s api.Store, manifests map[string][]string, more int) (api.Store, []string, bool) {
	var keys []string
	if lackOf(s, more) > 0 {
		s = without(s, wasteOf(s, manifests), nil)
	}
	for lackOf(s, more) > 0 {
		free := slices.DeleteFunc(clone(s).Entries, func(x api.Entry) bool { return x.Pins > 0 })
		if len(free) == 0 {
			return api.Store{}, nil, false
		}
		// Stable, as the entries are in the order of their keys.
		slices.SortStableFunc(free, func(a, b api.Entry) int { return a.Stamp - b.Stamp })
		keys = append(keys, free[0].Key)
		s = without(s, nil, keys)
		s = without(s, wasteOf(s, manifests), nil)
	}
	return s, keys, true
}

// randomStore has manifests of texts and of other manifests, and what these list.
func randomStore(r *rand.Rand) (api.Store, map[string][]string) {
	manifests := map[string][]string{}
	var texts []string
	for i := range 2 + r.Intn(15) {
		text := fmt.Sprintf("%0*d", 2+r.Intn(60), i)
		if i > 0 && r.Intn(2) == 0 {
			var parts []string
			for range 1 + r.Intn(4) {
				parts = append(parts, texts[r.Intn(len(texts))])
			}
			text = list(parts...)
			manifests[text] = parts
		}
		if !slices.Contains(texts, text) {
			texts = append(texts, text)
		}
	}
	s := roomFor(storeOf(texts...), r.Intn(40))
	for range r.Intn(7) {
		var parts []string
		for range r.Intn(3) {
			parts = append(parts, texts[r.Intn(len(texts))])
		}
		s = withEntry(s, r.Intn(5), parts...)
	}
	for i := range s.Blobs {
		s.Blobs[i].Pins = max(0, r.Intn(12)-7)
		s.Blobs[i].Mark = r.Intn(2) == 0
	}
	for i := range s.Entries {
		s.Entries[i].Pins = max(0, r.Intn(9)-6)
	}
	return s, manifests
}

// P13.1 to P13.3: many stores, compared with a second computation.
func TestManyStores(t *testing.T) {
	r := rand.New(rand.NewSource(13))
	met := map[string]int{}
	for range 3000 {
		s, manifests := randomStore(r)
		wantWaste(t, s, wasteOf(s, manifests)...)
		for range 4 {
			more := r.Intn(400)
			want, keys, ok := runOf(s, manifests, more)
			if ok {
				wantRun(t, s, more, want, keys...)
			} else {
				wantNoRun(t, s, more, api.ErrHeld)
			}
			met[fmt.Sprint(ok, min(len(keys), 3), len(want.Blobs) < len(s.Blobs))]++
		}
	}
	for _, what := range []string{"false 0 true", "true 0 false", "true 0 true", "true 1 true", "true 2 true", "true 3 true"} {
		if met[what] < 100 {
			t.Errorf("%s was met %d times only", what, met[what])
		}
	}
}

// spare is a store with capacity that is not used and has something in it, everywhere.
func spare(s api.Store) api.Store {
	blobs := append(slices.Clone(s.Blobs), blobsOf("spare", "more")...)
	for i, b := range blobs {
		blobs[i].Data = append(bytes.Clone(b.Data), "spare"...)[:len(b.Data)]
	}
	entries := append(slices.Clone(s.Entries), api.Entry{Key: "spare"}, api.Entry{Key: "more", Pins: 1})
	for i, x := range entries {
		entries[i].Parts = append(slices.Clone(x.Parts), partsOf("spare", "more")...)[:len(x.Parts)]
	}
	s.Blobs, s.Entries = blobs[:len(s.Blobs)], entries[:len(s.Entries)]
	return s
}

// whole is a store with all unused capacity, deep: all that a call could change.
func whole(s api.Store) api.Store {
	s.Blobs = append([]api.Blob{}, s.Blobs[:cap(s.Blobs)]...)
	for i, b := range s.Blobs {
		s.Blobs[i].Data = append([]byte{}, b.Data[:cap(b.Data)]...)
	}
	s.Entries = append([]api.Entry{}, s.Entries[:cap(s.Entries)]...)
	for i, x := range s.Entries {
		s.Entries[i].Parts = append([]api.Part{}, x.Parts[:cap(x.Parts)]...)
	}
	return s
}

func spoilParts(l []api.Part) {
	l = l[:cap(l)]
	for i := range l {
		l[i] = api.Part{Name: "spoilt", Size: 99}
	}
}

func spoilData(b []byte) {
	b = b[:cap(b)]
	for i := range b {
		b[i] ^= 0x55
	}
}

// spoil changes everything in a store and in its unused capacity.
func spoil(s api.Store) {
	blobs, entries := s.Blobs[:cap(s.Blobs)], s.Entries[:cap(s.Entries)]
	for i := range blobs {
		spoilData(blobs[i].Data)
		blobs[i] = api.Blob{Digest: "spoilt", Pins: 99, Mark: true}
	}
	for i := range entries {
		spoilParts(entries[i].Parts)
		entries[i] = api.Entry{Key: "spoilt", Stamp: 99}
	}
}

// result of any call.
type result struct {
	store api.Store
	texts []string
	n     int
	err   api.Errno
}

func (r result) clone() result {
	return result{clone(r.store), append([]string{}, r.texts...), r.n, r.err}
}

func (r result) same(o result) bool {
	return reflect.DeepEqual(r.clone(), o.clone())
}

func (r result) spoil() {
	spoil(r.store)
	texts := r.texts[:cap(r.texts)]
	for i := range texts {
		texts[i] = "spoilt"
	}
}

// unshared: writing into one list of a result, or behind it, changes no other.
func (r result) unshared(t *testing.T) {
	t.Helper()
	for i, x := range r.store.Entries {
		before := r.clone()
		kept := slices.Clone(x.Parts[:cap(x.Parts)])
		spoilParts(x.Parts)
		after := r.clone()
		copy(x.Parts[:cap(x.Parts)], kept)
		after.store.Entries[i].Parts = before.store.Entries[i].Parts
		if !after.same(before) {
			t.Errorf("the parts of entry %d of %+v share memory with others", i, r)
		}
	}
	for i, b := range r.store.Blobs {
		before := r.clone()
		kept := bytes.Clone(b.Data[:cap(b.Data)])
		spoilData(b.Data)
		after := r.clone()
		copy(b.Data[:cap(b.Data)], kept)
		after.store.Blobs[i].Data = before.store.Blobs[i].Data
		if !after.same(before) {
			t.Errorf("the bytes of blob %d of %+v share memory with others", i, r)
		}
	}
}

func calls() []func(s api.Store) result {
	l := []func(s api.Store) result{
		func(s api.Store) result {
			texts, err := Waste(s)
			return result{texts: texts, err: err}
		},
		func(s api.Store) result {
			s, n, err := Clean(s)
			return result{store: s, n: n, err: err}
		},
	}
	for _, more := range []int{-1, 0, 1, 5, 6, 10, 50, 90, 130, 4000} {
		l = append(l, func(s api.Store) result {
			s, keys, err := Run(s, more)
			return result{store: s, texts: keys, err: err}
		})
	}
	return l
}

// stores for the tests of memory: good ones, one of which has the same parts everywhere, and a wrong one.
func stores() []api.Store {
	many := storeOf("waste", "a", "bb", list("a", "bb"), "cccc", list("cccc"))
	many = withEntry(many, 3, list("a", "bb"))
	many = withEntry(many, 5, "bb", list("cccc"))
	many = withEntry(many, 9, "a")
	equal := withEntry(withEntry(storeOf("waste", "a"), 1, "a"), 2, "a")
	wrong := clone(many)
	wrong.Clock = 1
	return []api.Store{many, heldEntries(many, 2), held(many, "cccc"), equal, wrong, {}}
}

// P13.1 to P13.3, with the document's general rules on memory and on state.
func TestMemory(t *testing.T) {
	for n, s := range stores() {
		for i, call := range calls() {
			s := spare(s)
			before := whole(s)
			unchanged := func(what string) {
				t.Helper()
				if !same(whole(s), before) {
					t.Fatalf("call %d with store %d: %s", i, n, what)
				}
			}
			first, second := call(s), call(s)
			unchanged("the argument is changed")
			if !first.same(second) {
				t.Errorf("call %d with store %d: %+v, then %+v", i, n, first, second)
			}
			first.unshared(t)
			kept := second.clone()
			first.spoil()
			unchanged("the result shares memory with the argument")
			if !second.same(kept) || !call(s).same(kept) {
				t.Errorf("call %d with store %d: two results share memory", i, n)
			}
			spoil(s)
			if !second.same(kept) {
				t.Errorf("result %d with store %d changed with its argument: %+v, want %+v", i, n, second, kept)
			}
		}
	}
}
