package sweep

import (
	"bytes"
	"cmp"
	"crypto/sha256"
	"encoding/binary"
	"encoding/hex"
	"fmt"
	"math"
	"math/rand"
	"reflect"
	"slices"
	"strings"
	"testing"

	"appleloft/api"
)

// keyOf is a key that is greater for a greater number.
func keyOf(n int) string {
	return fmt.Sprintf("%064x", n)
}

func digestOf(text string) string {
	sum := sha256.Sum256([]byte(text))
	return hex.EncodeToString(sum[:])
}

// partsOf these texts, named in their order.
func partsOf(texts ...string) []api.Part {
	var l []api.Part
	for i, text := range texts {
		l = append(l, api.Part{Name: fmt.Sprint(i), Digest: digestOf(text), Size: len(text)})
	}
	return l
}

// list is a manifest of these texts, written as chapter 5 says, without the program.
func list(texts ...string) string {
	b := binary.AppendUvarint([]byte("AM1"), uint64(len(texts)))
	for _, p := range partsOf(texts...) {
		sum, _ := hex.DecodeString(p.Digest)
		b = append(append(b, 1), p.Name...)
		b = binary.AppendUvarint(append(b, sum...), uint64(p.Size))
	}
	return string(b)
}

// blobsOf these texts, in order; nobody holds them.
func blobsOf(texts ...string) []api.Blob {
	var l []api.Blob
	for _, text := range texts {
		l = append(l, api.Blob{Digest: digestOf(text), Data: []byte(text)})
	}
	slices.SortFunc(l, func(a, b api.Blob) int { return cmp.Compare(a.Digest, b.Digest) })
	return l
}

// storeOf these texts, with room for them and nothing more.
func storeOf(texts ...string) api.Store {
	return api.Store{Blobs: blobsOf(texts...), Room: len(strings.Join(texts, "")), Clock: 100}
}

// withEntry has one entry more, with the greatest key, of these texts.
func withEntry(s api.Store, stamp int, texts ...string) api.Store {
	s = clone(s)
	s.Entries = append(s.Entries, api.Entry{Key: keyOf(len(s.Entries)), Parts: partsOf(texts...), Stamp: stamp})
	return s
}

// held: somebody holds the blobs of these texts.
func held(s api.Store, texts ...string) api.Store {
	s = clone(s)
	for i, b := range s.Blobs {
		if slices.Contains(texts, string(b.Data)) {
			s.Blobs[i].Pins++
		}
	}
	return s
}

// clone is a deep copy that does not use the program.
func clone(s api.Store) api.Store {
	s.Blobs = append([]api.Blob{}, s.Blobs...)
	for i := range s.Blobs {
		s.Blobs[i].Data = append([]byte{}, s.Blobs[i].Data...)
	}
	s.Entries = append([]api.Entry{}, s.Entries...)
	for i := range s.Entries {
		s.Entries[i].Parts = append([]api.Part{}, s.Entries[i].Parts...)
	}
	return s
}

func same(a, b api.Store) bool {
	return reflect.DeepEqual(clone(a), clone(b))
}

func empty(s api.Store) bool {
	return same(s, api.Store{})
}

// faults: each makes a good store a wrong one.
func faults() []struct {
	make func(s *api.Store)
	want api.Errno
} {
	return []struct {
		make func(s *api.Store)
		want api.Errno
	}{
		{func(s *api.Store) { s.Blobs = make([]api.Blob, 25) }, api.ErrSize},
		{func(s *api.Store) { s.Blobs[2].Digest = strings.Repeat("g", 64) }, api.ErrForm},
		{func(s *api.Store) { s.Blobs[1].Data = []byte("other") }, api.ErrSum},
		{func(s *api.Store) { s.Blobs[2] = s.Blobs[1] }, api.ErrTwice},
		{func(s *api.Store) { s.Blobs[0].Pins = 6 }, api.ErrRange},
		{func(s *api.Store) { s.Blobs[0].Pins = -1 }, api.ErrRange},
		{func(s *api.Store) { s.Entries = make([]api.Entry, 11) }, api.ErrSize},
		{func(s *api.Store) { s.Entries[1].Key = "" }, api.ErrSize},
		{func(s *api.Store) { s.Entries[1].Key = s.Entries[0].Key }, api.ErrTwice},
		{func(s *api.Store) { s.Entries[0].Parts[0].Name = "a b" }, api.ErrForm},
		{func(s *api.Store) { s.Entries[1].Pins = -1 }, api.ErrRange},
		{func(s *api.Store) { s.Entries[1].Stamp = -1 }, api.ErrRange},
		{func(s *api.Store) { s.Room = -1 }, api.ErrRange},
		{func(s *api.Store) { s.Room = 4001 }, api.ErrRange},
		{func(s *api.Store) { s.Room = 4 }, api.ErrFull},
		{func(s *api.Store) { s.Clock = -1 }, api.ErrRange},
		{func(s *api.Store) { s.Clock = 1<<40 + 1 }, api.ErrRange},
		{func(s *api.Store) { s.Clock = 8 }, api.ErrState},
		{func(s *api.Store) { s.Entries[0].Parts[0].Size++ }, api.ErrState},
		{func(s *api.Store) { s.Entries[0].Parts[0].Digest = digestOf("missing") }, api.ErrState},
	}
}

// marked: the collector has come to the blobs of these texts too.
func marked(s api.Store, texts ...string) api.Store {
	s = clone(s)
	for i, b := range s.Blobs {
		if slices.Contains(texts, string(b.Data)) {
			s.Blobs[i].Mark = true
		}
	}
	return s
}

// textsOf the blobs of a store.
func textsOf(s api.Store) []string {
	var texts []string
	for _, b := range s.Blobs {
		texts = append(texts, string(b.Data))
	}
	return texts
}

// digestsOf these texts, in the order of the texts.
func digestsOf(texts ...string) []string {
	var l []string
	for _, text := range texts {
		l = append(l, digestOf(text))
	}
	return l
}

func sameCollector(a, b api.Collector) bool {
	return a.Phase == b.Phase && slices.Equal(a.Grey, b.Grey) && a.At == b.At
}

// subsets calls for each subset of the texts.
func subsets(texts []string, call func(some []string)) {
	for mask := range 1 << len(texts) {
		var some []string
		for i, text := range texts {
			if mask>>i&1 == 1 {
				some = append(some, text)
			}
		}
		call(some)
	}
}

// without the blobs of these texts.
func without(s api.Store, texts ...string) api.Store {
	s = clone(s)
	s.Blobs = slices.DeleteFunc(s.Blobs, func(b api.Blob) bool { return slices.Contains(texts, string(b.Data)) })
	return s
}

// sweeping is a collector that has swept up to here.
func sweeping(at string) api.Collector {
	return api.Collector{Phase: 2, At: at}
}

// places in and around the digests of a store, and texts that are no digests; each with a blob that is next, or none.
func places(s api.Store) []string {
	l := []string{"", "0", "x", "\x00", "\xff", keyOf(0), strings.Repeat("f", 64), strings.Repeat("F", 64), strings.Repeat("8", 64)}
	for _, b := range s.Blobs {
		d := b.Digest
		l = append(l, d, d[:63], d[:1], d+"\x00", d+"0", "\x00"+d, strings.ToUpper(d))
		l = append(l, d[:63]+string([]byte{d[63] - 1}), d[:63]+string([]byte{d[63] + 1}))
	}
	return l
}

// before a blob: the place at which it is the next one.
func before(s api.Store, i int) string {
	if i == 0 {
		return ""
	}
	return s.Blobs[i-1].Digest
}

// after a place: the number of digests that are not greater is where the next one is, as they are in order.
func after(s api.Store, at string) int {
	n := 0
	for _, b := range s.Blobs {
		if strings.Compare(b.Digest, at) <= 0 {
			n++
		}
	}
	return n
}

func wantNext(t *testing.T, l []api.Blob, at string, want int) {
	t.Helper()
	if got, err := Next(l, at); got != want || err != api.OK {
		t.Errorf("Next(%+v, %q) = %d, %d, want %d", l, at, got, err, want)
	}
}

func wantNoNext(t *testing.T, l []api.Blob, at string) {
	t.Helper()
	if got, err := Next(l, at); got != 0 || err != api.ErrNone {
		t.Errorf("Next(%+v, %q) = %d, %d, want only error %d", l, at, got, err, api.ErrNone)
	}
}

func wantStep(t *testing.T, s api.Store, c api.Collector, want api.Store, next api.Collector, digest string) {
	t.Helper()
	if got, d, x, err := Step(s, c); !same(got, want) || !sameCollector(d, next) || x != digest || err != api.OK {
		t.Errorf("Step(%+v, %+v) = %+v, %+v, %q, %d, want %+v, %+v, %q", s, c, got, d, x, err, want, next, digest)
	}
}

func wantNoStep(t *testing.T, s api.Store, c api.Collector, want api.Errno) {
	t.Helper()
	if got, d, x, err := Step(s, c); !empty(got) || !sameCollector(d, api.Collector{}) || x != "" || err != want {
		t.Errorf("Step(%+v, %+v) = %+v, %+v, %q, %d, want only error %d", s, c, got, d, x, err, want)
	}
}

// wantOver, wantSkip, wantRemoved: what a step does with a store, wherever the collector and whatever its Grey is.
func wantOver(t *testing.T, s api.Store, c api.Collector) {
	t.Helper()
	wantStep(t, s, c, s, api.Collector{}, "")
}

func wantSkip(t *testing.T, s api.Store, c api.Collector, text string) {
	t.Helper()
	wantStep(t, s, c, s, sweeping(digestOf(text)), "")
}

func wantRemoved(t *testing.T, s api.Store, c api.Collector, text string) {
	t.Helper()
	wantStep(t, s, c, without(s, text), sweeping(digestOf(text)), digestOf(text))
}

// P15.1: every place in and around the digests of blobs in order.
func TestNext(t *testing.T) {
	var texts []string
	for n := range 25 {
		s := storeOf(texts...)
		for _, at := range places(s) {
			if i := after(s, at); i < n {
				wantNext(t, s.Blobs, at, i)
			} else {
				wantNoNext(t, s.Blobs, at)
			}
		}
		for i, b := range s.Blobs[:max(n-1, 0)] {
			wantNext(t, s.Blobs, b.Digest, i+1)
		}
		texts = append(texts, fmt.Sprint(n))
	}
	wantNoNext(t, nil, "")
	wantNoNext(t, []api.Blob{}, "")
	wantNoNext(t, nil, digestOf("a"))
}

// named are blobs with these digests and nothing else.
func named(digests ...string) []api.Blob {
	var l []api.Blob
	for _, d := range digests {
		l = append(l, api.Blob{Digest: d})
	}
	return l
}

// P15.1: the first one in the list, also if the blobs are in no order or there are equal ones.
func TestNextOrder(t *testing.T) {
	l := named("m", "b", "z", "z", "", "c", "m")
	for _, c := range []struct {
		at   string
		want int
	}{{"", 0}, {"a", 0}, {"b", 0}, {"c", 0}, {"l", 0}, {"m", 2}, {"m\x00", 2}, {"y", 2}} {
		wantNext(t, l, c.at, c.want)
	}
	wantNext(t, l[3:], "", 0)
	wantNext(t, l[4:], "", 1)
	wantNext(t, l[4:], "b", 1)
	wantNext(t, l[4:], "c", 2)
	wantNoNext(t, l, "z")
	wantNoNext(t, l[4:], "m")
	wantNoNext(t, named(""), "")
	wantNoNext(t, named("", ""), "")
}

// P15.1: digests are compared byte by byte, and one that another begins with is less.
func TestNextBytes(t *testing.T) {
	var all []string
	for i := range 256 {
		all = append(all, string([]byte{byte(i)}))
	}
	for i, a := range all {
		for j, b := range all {
			for _, prefix := range []string{"", "a", digestOf("a")} {
				if j > i {
					wantNext(t, named(prefix+b), prefix+a, 0)
				} else {
					wantNoNext(t, named(prefix+b), prefix+a)
				}
			}
		}
		wantNext(t, named("", a, a+a, a+"\x00"), a, 2)
		wantNext(t, named("", a, a+"\x00"), a, 2)
		wantNoNext(t, named("", a, a), a+"\x00")
	}
}

// P15.1: only digests matter.
func TestNextFields(t *testing.T) {
	l := []api.Blob{
		{Digest: "a", Data: []byte("z"), Pins: 9, Mark: true},
		{Digest: "b", Data: []byte("a"), Pins: -9},
		{Digest: "c", Mark: true},
		{Digest: "d", Pins: 1},
	}
	for i, b := range l[:3] {
		wantNext(t, l, b.Digest, i+1)
	}
	wantNext(t, l, "", 0)
	wantNoNext(t, l, "d")
}

// P15.1: more blobs than a store may have.
func TestNextLong(t *testing.T) {
	var digests []string
	for i := range 100000 {
		digests = append(digests, keyOf(i))
	}
	l := named(digests...)
	for i := 1; i < len(l); i += 9999 {
		wantNext(t, l, digests[i-1], i)
		wantNext(t, l, digests[i-1]+"0", i)
	}
	if i, err := Next(l, digests[len(l)-1]); i != 0 || err != api.ErrNone {
		t.Errorf("Next after the last of %d blobs = %d, %d", len(l), i, err)
	}
}

// P15.2: no blob is next, so the collection is over, and nothing of the collector stays; blobs stay with their marks.
func TestStepIsOver(t *testing.T) {
	s := held(withEntry(storeOf("a", "bb", list("a")), 5, list("a")), "bb")
	last := s.Blobs[2].Digest
	for _, s := range []api.Store{s, marked(s, "a"), marked(s, textsOf(s)...), {}, {Room: 7, Clock: 9}, without(s, "a")} {
		for _, at := range []string{last, last + "\x00", strings.Repeat("f", 64), "x", "\xff"} {
			for _, grey := range [][]string{nil, {}, digestsOf("a", "bb"), {"x", "x", ""}} {
				wantOver(t, s, api.Collector{Phase: 2, Grey: grey, At: at})
			}
		}
	}
	for _, s := range []api.Store{{}, {Room: 4000, Clock: 1 << 40}, withEntry(api.Store{Clock: 3}, 3)} {
		for _, at := range places(storeOf("a")) {
			wantOver(t, s, sweeping(at))
		}
	}
}

// P15.2: a marked blob stays, whether somebody or an entry has it or not; Grey becomes empty.
func TestStepSkips(t *testing.T) {
	texts := []string{"a", "bb", "", "dddd"}
	s := storeOf(texts...)
	subsets(texts, func(some []string) {
		for _, s := range []api.Store{s, held(s, some...), withEntry(s, 5, some...), withEntry(held(s, "a", "dddd"), 0, "a", "bb")} {
			for i, text := range textsOf(s) {
				at := before(s, i)
				s := marked(s, append(some, text)...)
				for _, grey := range [][]string{nil, {}, digestsOf("a", "bb"), {"x", "x", ""}} {
					wantSkip(t, s, api.Collector{Phase: 2, Grey: grey, At: at}, text)
				}
				wantSkip(t, s, sweeping(s.Blobs[i].Digest[:63]), text)
			}
		}
	})
}

// P15.2: a blob without a mark is removed and told, whatever the marks of others are; Grey becomes empty.
func TestStepRemoves(t *testing.T) {
	texts := []string{"a", "bb", "", "dddd"}
	s := storeOf(texts...)
	subsets(texts, func(some []string) {
		for i, text := range textsOf(s) {
			at := before(s, i)
			others := slices.DeleteFunc(slices.Clone(some), func(x string) bool { return x == text })
			kept := marked(withEntry(held(s, others...), 5, others...), others...)
			for _, s := range []api.Store{marked(s, others...), kept, withEntry(kept, 100), held(held(kept, others...), others...)} {
				for _, grey := range [][]string{nil, {}, digestsOf("a", "bb"), {"x", "x", ""}} {
					wantRemoved(t, s, api.Collector{Phase: 2, Grey: grey, At: at}, text)
				}
				wantRemoved(t, s, sweeping(s.Blobs[i].Digest[:63]), text)
			}
		}
	})
}

// P15.2: a step does the same wherever the collector says it is, also if At is no digest or that of no blob.
func TestStepPlaces(t *testing.T) {
	var texts []string
	for i := range 24 {
		texts = append(texts, fmt.Sprint(i))
	}
	s := withEntry(held(storeOf(texts...), texts[:4]...), 5, texts[3:9]...)
	s = marked(s, texts[:12]...)
	for _, at := range places(s) {
		i := after(s, at)
		if i == len(s.Blobs) {
			wantOver(t, s, sweeping(at))
		} else if text := string(s.Blobs[i].Data); s.Blobs[i].Mark {
			wantSkip(t, s, sweeping(at), text)
		} else {
			wantRemoved(t, s, sweeping(at), text)
		}
	}
}

// P15.2: a blob that somebody holds is not removed; those of others, and entries, may be held.
func TestStepHeld(t *testing.T) {
	for pins := range 6 {
		s := withEntry(storeOf("a", "b", "c", "d"), 7)
		s.Entries[0].Pins = pins
		for i, text := range textsOf(s) {
			at := before(s, i)
			for j := range s.Blobs {
				s := clone(s)
				s.Blobs[j].Pins = pins
				if i == j && pins > 0 {
					wantNoStep(t, s, sweeping(at), api.ErrHeld)
					wantNoStep(t, s, api.Collector{Phase: 2, Grey: digestsOf(text), At: at}, api.ErrHeld)
					wantSkip(t, marked(s, text), sweeping(at), text)
					wantNoStep(t, marked(s, textsOf(without(s, text))...), sweeping(at), api.ErrHeld)
				} else {
					wantRemoved(t, s, sweeping(at), text)
					wantRemoved(t, marked(s, textsOf(without(s, text))...), sweeping(at), text)
				}
			}
		}
	}
}

// P15.2: a blob that an entry has is not removed: any entry, any part, held or not.
func TestStepEntries(t *testing.T) {
	texts := []string{"a", "bb", "", "dddd", "x"}
	s := storeOf(texts...)
	for i, text := range textsOf(s) {
		at := before(s, i)
		others := textsOf(without(s, text))
		for n := range 5 {
			parts := slices.Insert(slices.Clone(others), n, text)
			wantNoStep(t, withEntry(s, 5, parts...), sweeping(at), api.ErrHeld)
		}
		many := s
		for range 9 {
			many = withEntry(many, 3, others...)
		}
		wantRemoved(t, many, sweeping(at), text)
		for n := range 9 {
			one := clone(many)
			one.Entries[n].Parts = partsOf(others[0], text)
			wantNoStep(t, one, sweeping(at), api.ErrHeld)
			wantNoStep(t, held(marked(one, others...), others...), sweeping(at), api.ErrHeld)
			wantSkip(t, marked(one, text), sweeping(at), text)
			one.Entries[n].Pins = 5
			wantNoStep(t, one, sweeping(at), api.ErrHeld)
			wantNoStep(t, held(one, text), sweeping(at), api.ErrHeld)
		}
		many.Entries[8].Key = digestOf(text)
		slices.SortFunc(many.Entries, func(a, b api.Entry) int { return cmp.Compare(a.Key, b.Key) })
		wantRemoved(t, many, sweeping(at), text)
	}
}

// P15.2: a store is valid without what a manifest lists, so this is removed, also if the manifest stays.
func TestStepManifests(t *testing.T) {
	inner := list("a", "missing")
	outer := list("b", inner)
	s := storeOf("a", "b", inner, outer)
	for i, text := range textsOf(s) {
		at := before(s, i)
		wantRemoved(t, s, sweeping(at), text)
		if text == outer {
			wantNoStep(t, held(s, outer), sweeping(at), api.ErrHeld)
			wantNoStep(t, withEntry(s, 4, outer), sweeping(at), api.ErrHeld)
			continue
		}
		wantRemoved(t, held(s, outer), sweeping(at), text)
		wantRemoved(t, withEntry(marked(s, outer), 4, outer), sweeping(at), text)
	}
}

// P15.2: as many blobs as there may be, one at most in a step, till only the marked ones are left.
func TestStepMany(t *testing.T) {
	var texts []string
	for i := range 24 {
		texts = append(texts, fmt.Sprintf("t%02d", i))
	}
	for n := range 25 {
		for _, some := range [][]string{texts[:n], texts[n:]} {
			s := held(marked(storeOf(texts...), some...), some...)
			c := sweeping("")
			for _, text := range textsOf(s) {
				digest := digestOf(text)
				if slices.Contains(some, text) {
					wantSkip(t, s, c, text)
				} else {
					wantRemoved(t, s, c, text)
					s = without(s, text)
				}
				c = sweeping(digest)
			}
			wantOver(t, s, c)
			if !slices.Equal(ordered(textsOf(s)), some) {
				t.Errorf("%q are left, want %q", textsOf(s), some)
			}
		}
	}
}

// ordered texts.
func ordered(l []string) []string {
	l = slices.Clone(l)
	slices.Sort(l)
	return l
}

// P15.2: bytes that are removed make room, and no number of the store changes, at any limit.
func TestStepNumbers(t *testing.T) {
	big := strings.Repeat("x", 300)
	for _, room := range []int{302, 303, 3999, 4000} {
		for _, clock := range []int{0, 1, 1<<40 - 1, 1 << 40} {
			s := marked(withEntry(storeOf(big, "b", ""), clock, "b"), "b", "")
			s.Room, s.Clock = room, clock
			at := before(s, slices.Index(textsOf(s), big))
			wantRemoved(t, s, sweeping(at), big)
			wantSkip(t, marked(s, big), sweeping(at), big)
			s.Room = 300
			wantNoStep(t, s, sweeping(at), api.ErrFull)
		}
	}
}

// swept: a step of a collector that sweeps, by a second computation: the least digest beyond At; is it removed, and may it be?
func swept(s api.Store, at string) (text string, found, removed, allowed bool) {
	best := api.Blob{}
	for _, b := range s.Blobs {
		if b.Digest > at && (!found || b.Digest < best.Digest) {
			best, found = b, true
		}
	}
	allowed = best.Pins == 0
	for _, x := range s.Entries {
		for _, p := range x.Parts {
			allowed = allowed && p.Digest != best.Digest
		}
	}
	return string(best.Data), found, found && !best.Mark, allowed
}

// randomStore has manifests, entries, and mostly marks on what these have or somebody holds.
func randomStore(r *rand.Rand) api.Store {
	var texts []string
	for i := range 1 + r.Intn(12) {
		text := fmt.Sprintf("%0*d", 2+r.Intn(60), i)
		if i > 0 && r.Intn(3) == 0 {
			text = list(texts[r.Intn(len(texts))], texts[r.Intn(len(texts))])
		}
		if !slices.Contains(texts, text) {
			texts = append(texts, text)
		}
	}
	s := storeOf(texts...)
	for range r.Intn(3) {
		var parts []string
		for range r.Intn(3) {
			parts = append(parts, texts[r.Intn(len(texts))])
		}
		s = marked(withEntry(s, r.Intn(5), parts...), parts...)
	}
	for i := range s.Blobs {
		s.Blobs[i].Pins = max(0, r.Intn(12)-9)
		s.Blobs[i].Mark = s.Blobs[i].Mark || s.Blobs[i].Pins > 0 || r.Intn(2) == 0
		s.Blobs[i].Mark = s.Blobs[i].Mark && r.Intn(20) > 0
	}
	return s
}

// P15.2: from the beginning till sweeping is over or may not go on, step by step.
func TestManyCollections(t *testing.T) {
	r := rand.New(rand.NewSource(15))
	met := map[string]int{}
	for range 3000 {
		s, c := randomStore(r), sweeping("")
		for c.Phase == 2 {
			text, found, removed, allowed := swept(s, c.At)
			switch {
			case !found:
				met["over"]++
				wantOver(t, s, c)
				c = api.Collector{}
			case removed && !allowed:
				met["held"]++
				wantNoStep(t, s, c, api.ErrHeld)
				s = marked(s, text)
			case removed:
				met["removed"]++
				wantRemoved(t, s, c, text)
				s, c = without(s, text), sweeping(digestOf(text))
			default:
				met["skipped"]++
				wantSkip(t, s, c, text)
				c = sweeping(digestOf(text))
			}
		}
	}
	for _, what := range []string{"over", "held", "removed", "skipped"} {
		if met[what] < 200 {
			t.Errorf("%s was met %d times only", what, met[what])
		}
	}
}

// P15.2: in every other phase, known or not, nothing is done; this is told before that a blob is held, and a wrong store before this.
func TestStepPhases(t *testing.T) {
	s := withEntry(storeOf("a", "bb"), 5, "a")
	wrong := clone(s)
	wrong.Clock = 4
	for _, phase := range []int{0, 1, 3, 4, 258, -1, -2, 1 << 32, 1<<32 + 2, math.MinInt, math.MaxInt} {
		for _, grey := range [][]string{nil, digestsOf("a"), {"x", "x"}} {
			for _, at := range places(s) {
				c := api.Collector{Phase: phase, Grey: grey, At: at}
				for _, good := range []api.Store{s, marked(s, "a", "bb"), held(s, "a", "bb"), {}} {
					wantNoStep(t, good, c, api.ErrIdle)
				}
				wantNoStep(t, wrong, c, api.ErrState)
			}
		}
	}
}

// P15.2: what is wrong with a store is told before all else, and nothing else is told.
func TestWrongStores(t *testing.T) {
	for _, f := range faults() {
		for _, texts := range [][]string{nil, {"a"}, {"a", "", "cccc"}} {
			s := marked(withEntry(withEntry(storeOf("a", "", "cccc"), 9, "a"), 3), texts...)
			f.make(&s)
			for _, phase := range []int{-1, 0, 1, 2, 3} {
				for _, at := range []string{"", "x", digestOf("a"), digestOf(""), strings.Repeat("f", 64)} {
					wantNoStep(t, s, api.Collector{Phase: phase, At: at}, f.want)
					wantNoStep(t, s, api.Collector{Phase: phase, Grey: []string{"x"}, At: at}, f.want)
				}
			}
		}
	}
}

// spare is a store with capacity that is not used and has something in it, everywhere.
func spare(s api.Store) api.Store {
	blobs := append(slices.Clone(s.Blobs), blobsOf("spare", "more")...)
	for i, b := range blobs {
		blobs[i].Data = append(bytes.Clone(b.Data), "spare"...)[:len(b.Data)]
	}
	entries := append(slices.Clone(s.Entries), api.Entry{Key: "spare"}, api.Entry{Key: "more", Pins: 1})
	for i, x := range entries {
		entries[i].Parts = append(slices.Clone(x.Parts), partsOf("spare", "more")...)[:len(x.Parts)]
	}
	s.Blobs, s.Entries = blobs[:len(s.Blobs)], entries[:len(s.Entries)]
	return s
}

// whole is a store with all unused capacity, deep: all that a call could change.
func whole(s api.Store) api.Store {
	s.Blobs = append([]api.Blob{}, s.Blobs[:cap(s.Blobs)]...)
	for i, b := range s.Blobs {
		s.Blobs[i].Data = append([]byte{}, b.Data[:cap(b.Data)]...)
	}
	s.Entries = append([]api.Entry{}, s.Entries[:cap(s.Entries)]...)
	for i, x := range s.Entries {
		s.Entries[i].Parts = append([]api.Part{}, x.Parts[:cap(x.Parts)]...)
	}
	return s
}

func spoilParts(l []api.Part) {
	l = l[:cap(l)]
	for i := range l {
		l[i] = api.Part{Name: "spoilt", Size: 99}
	}
}

func spoilData(b []byte) {
	b = b[:cap(b)]
	for i := range b {
		b[i] ^= 0x55
	}
}

// spoil changes everything in a store and in its unused capacity.
func spoil(s api.Store) {
	blobs, entries := s.Blobs[:cap(s.Blobs)], s.Entries[:cap(s.Entries)]
	for i := range blobs {
		spoilData(blobs[i].Data)
		blobs[i] = api.Blob{Digest: "spoilt", Pins: 99, Mark: true}
	}
	for i := range entries {
		spoilParts(entries[i].Parts)
		entries[i] = api.Entry{Key: "spoilt", Stamp: 99}
	}
}

func spoilTexts(l []string) {
	l = l[:cap(l)]
	for i := range l {
		l[i] = "spoilt"
	}
}

// spareTexts have capacity that is not used and has something in it.
func spareTexts(l []string) []string {
	return append(slices.Clone(l), "spare", "more")[:len(l)]
}

// result of any call.
type result struct {
	store  api.Store
	c      api.Collector
	digest string
	n      int
	err    api.Errno
}

func (r result) clone() result {
	r.store = clone(r.store)
	r.c.Grey = append([]string{}, r.c.Grey...)
	return r
}

func (r result) same(o result) bool {
	return reflect.DeepEqual(r.clone(), o.clone())
}

func (r result) spoil() {
	spoil(r.store)
	spoilTexts(r.c.Grey)
}

// unshared: writing into one list of a result, or behind it, changes no other.
func (r result) unshared(t *testing.T) {
	t.Helper()
	for i, x := range r.store.Entries {
		before := r.clone()
		kept := slices.Clone(x.Parts[:cap(x.Parts)])
		spoilParts(x.Parts)
		after := r.clone()
		copy(x.Parts[:cap(x.Parts)], kept)
		after.store.Entries[i].Parts = before.store.Entries[i].Parts
		if !after.same(before) {
			t.Errorf("the parts of entry %d of %+v share memory with others", i, r)
		}
	}
	for i, b := range r.store.Blobs {
		before := r.clone()
		kept := bytes.Clone(b.Data[:cap(b.Data)])
		spoilData(b.Data)
		after := r.clone()
		copy(b.Data[:cap(b.Data)], kept)
		after.store.Blobs[i].Data = before.store.Blobs[i].Data
		if !after.same(before) {
			t.Errorf("the bytes of blob %d of %+v share memory with others", i, r)
		}
	}
}

func calls() []func(s api.Store, at string, l []string) result {
	return []func(s api.Store, at string, l []string) result{
		func(s api.Store, at string, _ []string) result {
			n, err := Next(s.Blobs, at)
			return result{n: n, err: err}
		},
		func(s api.Store, at string, l []string) result {
			s, c, digest, err := Step(s, api.Collector{Phase: 2, Grey: l, At: at})
			return result{store: s, c: c, digest: digest, err: err}
		},
		func(s api.Store, at string, l []string) result {
			s, c, digest, err := Step(s, api.Collector{Phase: 1, Grey: l, At: at})
			return result{store: s, c: c, digest: digest, err: err}
		},
	}
}

// stores for the tests of memory: good ones, one of which has the same parts everywhere, and a wrong one.
func stores() []api.Store {
	many := storeOf("waste", "a", "bb", list("a", "bb"), "cccc", list("cccc"))
	many = withEntry(many, 3, list("a", "bb"))
	many = withEntry(many, 5, "bb", list("cccc"))
	many = withEntry(many, 9, "a")
	equal := withEntry(withEntry(storeOf("waste", "a"), 1, "a"), 2, "a")
	wrong := clone(many)
	wrong.Clock = 1
	return []api.Store{many, marked(many, textsOf(many)...), held(marked(many, "bb"), "cccc"), equal, wrong, {}}
}

// P15.1 and P15.2, with the document's general rules on memory and on state.
func TestMemory(t *testing.T) {
	for n, s := range stores() {
		for _, at := range places(storeOf("waste", "a", "bb", list("cccc"))) {
			for i, call := range calls() {
				s, l := spare(s), spareTexts(digestsOf("a", "bb"))
				before, texts := whole(s), slices.Clone(l[:cap(l)])
				unchanged := func(what string) {
					t.Helper()
					if !same(whole(s), before) || !slices.Equal(l[:cap(l)], texts) {
						t.Fatalf("call %d with store %d at %q: %s", i, n, at, what)
					}
				}
				first, second := call(s, at, l), call(s, at, l)
				unchanged("an argument is changed")
				if !first.same(second) {
					t.Errorf("call %d with store %d at %q: %+v, then %+v", i, n, at, first, second)
				}
				first.unshared(t)
				kept := second.clone()
				first.spoil()
				unchanged("the result shares memory with an argument")
				if !second.same(kept) || !call(s, at, l).same(kept) {
					t.Errorf("call %d with store %d at %q: two results share memory", i, n, at)
				}
				spoil(s)
				spoilTexts(l)
				if !second.same(kept) {
					t.Errorf("result %d with store %d at %q changed with its arguments: %+v, want %+v", i, n, at, second, kept)
				}
			}
		}
	}
}
