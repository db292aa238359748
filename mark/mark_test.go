package mark

import (
	"bytes"
	"cmp"
	"crypto/sha256"
	"encoding/binary"
	"encoding/hex"
	"fmt"
	"math"
	"math/rand"
	"reflect"
	"slices"
	"strings"
	"testing"

	"appleloft/api"
)

// keyOf is a key that is greater for a greater number.
func keyOf(n int) string {
	return fmt.Sprintf("%064x", n)
}

func digestOf(text string) string {
	sum := sha256.Sum256([]byte(text))
	return hex.EncodeToString(sum[:])
}

// partsOf these texts, named in their order.
func partsOf(texts ...string) []api.Part {
	var l []api.Part
	for i, text := range texts {
		l = append(l, api.Part{Name: fmt.Sprint(i), Digest: digestOf(text), Size: len(text)})
	}
	return l
}

// list is a manifest of these texts, written as chapter 5 says, without the program.
func list(texts ...string) string {
	b := binary.AppendUvarint([]byte("AM1"), uint64(len(texts)))
	for _, p := range partsOf(texts...) {
		sum, _ := hex.DecodeString(p.Digest)
		b = append(append(b, 1), p.Name...)
		b = binary.AppendUvarint(append(b, sum...), uint64(p.Size))
	}
	return string(b)
}

// blobsOf these texts, in order; nobody holds them.
func blobsOf(texts ...string) []api.Blob {
	var l []api.Blob
	for _, text := range texts {
		l = append(l, api.Blob{Digest: digestOf(text), Data: []byte(text)})
	}
	slices.SortFunc(l, func(a, b api.Blob) int { return cmp.Compare(a.Digest, b.Digest) })
	return l
}

// storeOf these texts, with room for them and nothing more.
func storeOf(texts ...string) api.Store {
	return api.Store{Blobs: blobsOf(texts...), Room: len(strings.Join(texts, "")), Clock: 100}
}

// withEntry has one entry more, with the greatest key, of these texts.
func withEntry(s api.Store, stamp int, texts ...string) api.Store {
	s = clone(s)
	s.Entries = append(s.Entries, api.Entry{Key: keyOf(len(s.Entries)), Parts: partsOf(texts...), Stamp: stamp})
	return s
}

// held: somebody holds the blobs of these texts.
func held(s api.Store, texts ...string) api.Store {
	s = clone(s)
	for i, b := range s.Blobs {
		if slices.Contains(texts, string(b.Data)) {
			s.Blobs[i].Pins++
		}
	}
	return s
}

// clone is a deep copy that does not use the program.
func clone(s api.Store) api.Store {
	s.Blobs = append([]api.Blob{}, s.Blobs...)
	for i := range s.Blobs {
		s.Blobs[i].Data = append([]byte{}, s.Blobs[i].Data...)
	}
	s.Entries = append([]api.Entry{}, s.Entries...)
	for i := range s.Entries {
		s.Entries[i].Parts = append([]api.Part{}, s.Entries[i].Parts...)
	}
	return s
}

func same(a, b api.Store) bool {
	return reflect.DeepEqual(clone(a), clone(b))
}

func empty(s api.Store) bool {
	return same(s, api.Store{})
}

// faults: each makes a good store a wrong one.
func faults() []struct {
	make func(s *api.Store)
	want api.Errno
} {
	return []struct {
		make func(s *api.Store)
		want api.Errno
	}{
		{func(s *api.Store) { s.Blobs = make([]api.Blob, 25) }, api.ErrSize},
		{func(s *api.Store) { s.Blobs[2].Digest = strings.Repeat("g", 64) }, api.ErrForm},
		{func(s *api.Store) { s.Blobs[1].Data = []byte("other") }, api.ErrSum},
		{func(s *api.Store) { s.Blobs[2] = s.Blobs[1] }, api.ErrTwice},
		{func(s *api.Store) { s.Blobs[0].Pins = 6 }, api.ErrRange},
		{func(s *api.Store) { s.Blobs[0].Pins = -1 }, api.ErrRange},
		{func(s *api.Store) { s.Entries = make([]api.Entry, 11) }, api.ErrSize},
		{func(s *api.Store) { s.Entries[1].Key = "" }, api.ErrSize},
		{func(s *api.Store) { s.Entries[1].Key = s.Entries[0].Key }, api.ErrTwice},
		{func(s *api.Store) { s.Entries[0].Parts[0].Name = "a b" }, api.ErrForm},
		{func(s *api.Store) { s.Entries[1].Pins = -1 }, api.ErrRange},
		{func(s *api.Store) { s.Entries[1].Stamp = -1 }, api.ErrRange},
		{func(s *api.Store) { s.Room = -1 }, api.ErrRange},
		{func(s *api.Store) { s.Room = 4001 }, api.ErrRange},
		{func(s *api.Store) { s.Room = 4 }, api.ErrFull},
		{func(s *api.Store) { s.Clock = -1 }, api.ErrRange},
		{func(s *api.Store) { s.Clock = 1<<40 + 1 }, api.ErrRange},
		{func(s *api.Store) { s.Clock = 8 }, api.ErrState},
		{func(s *api.Store) { s.Entries[0].Parts[0].Size++ }, api.ErrState},
		{func(s *api.Store) { s.Entries[0].Parts[0].Digest = digestOf("missing") }, api.ErrState},
	}
}

// marked: the collector has come to the blobs of these texts too.
func marked(s api.Store, texts ...string) api.Store {
	s = clone(s)
	for i, b := range s.Blobs {
		if slices.Contains(texts, string(b.Data)) {
			s.Blobs[i].Mark = true
		}
	}
	return s
}

// unmarked: the collector has come to none.
func unmarked(s api.Store) api.Store {
	s = clone(s)
	for i := range s.Blobs {
		s.Blobs[i].Mark = false
	}
	return s
}

// textsOf the blobs of a store.
func textsOf(s api.Store) []string {
	var texts []string
	for _, b := range s.Blobs {
		texts = append(texts, string(b.Data))
	}
	return texts
}

// digestsOf these texts, in the order of the texts.
func digestsOf(texts ...string) []string {
	var l []string
	for _, text := range texts {
		l = append(l, digestOf(text))
	}
	return l
}

// ordered: each of these once, in order, found by looking for the least one that is greater.
func ordered(l []string) []string {
	var out []string
	for {
		least := ""
		found := false
		for _, x := range l {
			if (len(out) == 0 || x > out[len(out)-1]) && (!found || x < least) {
				least, found = x, true
			}
		}
		if !found {
			return out
		}
		out = append(out, least)
	}
}

func sameCollector(a, b api.Collector) bool {
	return a.Phase == b.Phase && slices.Equal(a.Grey, b.Grey) && a.At == b.At
}

// wantBegin checks a call of Begin; the texts of the roots are given in any order.
func wantBegin(t *testing.T, s api.Store, texts ...string) {
	t.Helper()
	want := api.Collector{Phase: 1, Grey: ordered(digestsOf(texts...))}
	if got, c, err := Begin(s); !same(got, unmarked(s)) || !sameCollector(c, want) || err != api.OK {
		t.Errorf("Begin(%+v) = %+v, %+v, %d, want %+v, %+v", s, got, c, err, unmarked(s), want)
	}
}

func wantNoBegin(t *testing.T, s api.Store, want api.Errno) {
	t.Helper()
	if got, c, err := Begin(s); !empty(got) || !sameCollector(c, api.Collector{}) || err != want {
		t.Errorf("Begin(%+v) = %+v, %+v, %d, want only error %d", s, got, c, err, want)
	}
}

func wantAdd(t *testing.T, grey, more []string, want ...string) {
	t.Helper()
	if got := Add(grey, more); !slices.Equal(got, want) {
		t.Errorf("Add(%q, %q) = %q, want %q", grey, more, got, want)
	}
}

func wantStep(t *testing.T, s api.Store, c api.Collector, want api.Store, next api.Collector) {
	t.Helper()
	if got, d, err := Step(s, c); !same(got, want) || !sameCollector(d, next) || err != api.OK {
		t.Errorf("Step(%+v, %+v) = %+v, %+v, %d, want %+v, %+v", s, c, got, d, err, want, next)
	}
}

func wantNoStep(t *testing.T, s api.Store, c api.Collector, want api.Errno) {
	t.Helper()
	if got, d, err := Step(s, c); !empty(got) || !sameCollector(d, api.Collector{}) || err != want {
		t.Errorf("Step(%+v, %+v) = %+v, %+v, %d, want only error %d", s, c, got, d, err, want)
	}
}

// wantAll checks a call of All for blobs that are right, and others with the same digests.
func wantAll(t *testing.T, s api.Store, digests []string, texts ...string) {
	t.Helper()
	want := marked(s, texts...)
	if got := All(s.Blobs, digests); !same(api.Store{Blobs: got}, api.Store{Blobs: want.Blobs}) {
		t.Errorf("All(%+v, %q) = %+v, want %+v", s.Blobs, digests, got, want.Blobs)
	}
}

// grey is a collector that marks and has these digests to come to.
func grey(digests ...string) api.Collector {
	return api.Collector{Phase: 1, Grey: digests}
}

// subsets calls for each subset of the texts.
func subsets(texts []string, call func(some []string)) {
	for mask := range 1 << len(texts) {
		var some []string
		for i, text := range texts {
			if mask>>i&1 == 1 {
				some = append(some, text)
			}
		}
		call(some)
	}
}

// P14.1: what entries have and what somebody holds is to be come to, whatever the marks were.
func TestBegin(t *testing.T) {
	s := storeOf("a", "bb", "", "dddd")
	subsets([]string{"a", "bb", "", "dddd"}, func(some []string) {
		s := marked(s, some...)
		wantBegin(t, s)
		wantBegin(t, held(s, "bb"), "bb")
		wantBegin(t, held(held(s, "dddd", "bb", "a"), "a"), "a", "bb", "dddd")
		wantBegin(t, withEntry(s, 100, "a"), "a")
		wantBegin(t, withEntry(withEntry(s, 9, "dddd", "dddd", "a"), 3, "", "a"), "dddd", "a", "")
		wantBegin(t, held(withEntry(withEntry(s, 9, "dddd"), 0), "dddd", "bb"), "bb", "dddd")
		wantBegin(t, held(s, some...), some...)
		wantBegin(t, withEntry(s, 1, some...), some...)
	})
	wantBegin(t, api.Store{})
	wantBegin(t, api.Store{Room: 4000, Clock: 1 << 40})
	wantBegin(t, withEntry(api.Store{Clock: 3}, 3))
}

// P14.1: each count of a blob but 0 makes it a root; those of entries and their keys do not matter.
func TestBeginPins(t *testing.T) {
	for pins := range 6 {
		s := withEntry(storeOf("a", "b", "c"), 7, "c")
		s.Entries[0].Pins = pins
		s.Entries[0].Key = digestOf("b")
		wantBegin(t, s, "c")
		for i, text := range textsOf(s) {
			s.Blobs[i].Pins = pins
			if pins == 0 {
				wantBegin(t, s, "c")
			} else {
				wantBegin(t, s, text, "c")
			}
			s.Blobs[i].Pins = 0
		}
	}
}

// P14.1: what a manifest lists is no root by that, and a manifest is none by listing something.
func TestBeginManifests(t *testing.T) {
	inner := list("a", "missing")
	outer := list("b", inner)
	s := storeOf("a", "b", inner, outer)
	wantBegin(t, s)
	wantBegin(t, held(s, outer), outer)
	wantBegin(t, withEntry(marked(s, "a", outer), 1, inner, "b"), inner, "b")
	wantBegin(t, withEntry(held(s, "a"), 1, outer), outer, "a")
}

// P14.1: as many blobs, and as many roots, as there may be.
func TestBeginMany(t *testing.T) {
	var texts []string
	for i := range 24 {
		texts = append(texts, fmt.Sprintf("t%02d", i))
	}
	s := marked(storeOf(texts...), texts...)
	for n := range 25 {
		wantBegin(t, held(s, texts[:n]...), texts[:n]...)
		wantBegin(t, held(s, texts[n:]...), texts[n:]...)
	}
	for i := range 10 {
		s = withEntry(s, i, texts[2*i:2*i+5]...)
	}
	wantBegin(t, s, texts[:23]...)
}

// P14.2: every pair of short lists, whether they are in order or not.
func TestAddShort(t *testing.T) {
	lists := [][]string{nil}
	for i := 0; len(lists[i]) < 4; i++ {
		for _, x := range []string{"a", "ab", "b"} {
			lists = append(lists, append(slices.Clone(lists[i]), x))
		}
	}
	for _, a := range lists {
		for _, b := range lists {
			wantAdd(t, a, b, ordered(append(slices.Clone(a), b...))...)
		}
	}
}

// P14.2: texts of all kinds, byte by byte.
func TestAddOrder(t *testing.T) {
	wantAdd(t, nil, nil)
	wantAdd(t, []string{}, []string{})
	wantAdd(t, []string{""}, nil, "")
	wantAdd(t, nil, []string{"", ""}, "")
	wantAdd(t, []string{"b"}, []string{"a", "b"}, "a", "b")
	wantAdd(t, []string{"\xff", "é", "Z", "a", "0", "a\x00", "9"}, []string{"\x80", "z", "A", "10"}, "0", "10", "9", "A", "Z", "a", "a\x00", "z", "\x80", "é", "\xff")
	var all []string
	for i := range 256 {
		all = append(all, string([]byte{byte(i)}))
	}
	for i := range all {
		wantAdd(t, all[i:], all[:i], all...)
		wantAdd(t, all[:i], all, all...)
		wantAdd(t, all[i:i+1], nil, all[i])
	}
}

// P14.2: lists of digests of any length.
func TestAddLong(t *testing.T) {
	const n = 200000
	var up, down, want []string
	for i := range n {
		up = append(up, keyOf(2*i))
		down = append(down, keyOf(3*(n-i)))
	}
	for i := range 3*n + 1 {
		if i%2 == 0 && i < 2*n || i%3 == 0 && i > 0 {
			want = append(want, keyOf(i))
		}
	}
	for _, got := range [][]string{Add(up, down), Add(down, up)} {
		if !slices.Equal(got, want) {
			t.Errorf("Add of %d digests twice has %d, want %d", n, len(got), len(want))
		}
	}
}

// P14.3: nothing is left to come to, so marking is over, wherever the collector says it is; marks stay.
func TestStepIsOver(t *testing.T) {
	s := held(withEntry(storeOf("a", "bb", list("a")), 5, list("a")), "bb")
	for _, s := range []api.Store{s, marked(s, "a"), marked(s, textsOf(s)...), {}, {Room: 7, Clock: 9}} {
		for _, at := range []string{"", "x", digestOf("a"), keyOf(0), strings.Repeat("f", 64)} {
			wantStep(t, s, api.Collector{Phase: 1, At: at}, s, api.Collector{Phase: 2})
			wantStep(t, s, api.Collector{Phase: 1, Grey: []string{}, At: at}, s, api.Collector{Phase: 2})
		}
	}
}

// P14.3: a blob that lists nothing is marked; what is after it stays to come to. Counts and entries do not matter.
func TestStepMarks(t *testing.T) {
	texts := []string{"a", "bb", "", "dddd"}
	s := withEntry(held(storeOf(texts...), "", "bb"), 5, "a")
	subsets(texts, func(some []string) {
		for _, at := range []string{"", "x", digestOf("a")} {
			before := marked(s, some...)
			for _, text := range texts {
				after := marked(before, text)
				wantStep(t, before, api.Collector{Phase: 1, Grey: digestsOf(text), At: at}, after, grey())
				rest := ordered(digestsOf(texts...))
				wantStep(t, before, api.Collector{Phase: 1, Grey: append(digestsOf(text), rest...), At: at}, after, grey(rest...))
			}
		}
	})
}

// P14.3: the first digest goes also if it is that of no blob; nothing is marked then.
func TestStepMissing(t *testing.T) {
	s := marked(held(storeOf("a", "bb", list("a", "bb")), "a"), "bb")
	a := digestOf("a")
	for _, digest := range []string{digestOf("missing"), keyOf(0), strings.Repeat("f", 64), "", "x", a[:63], a + "0", strings.ToUpper(a), "a"} {
		for _, at := range []string{"", "x"} {
			wantStep(t, s, api.Collector{Phase: 1, Grey: []string{digest}, At: at}, s, grey())
			wantStep(t, s, api.Collector{Phase: 1, Grey: []string{digest, a}, At: at}, s, grey(a))
			wantStep(t, s, api.Collector{Phase: 1, Grey: []string{digest, digest}, At: at}, s, grey(digest))
			wantStep(t, api.Store{}, api.Collector{Phase: 1, Grey: []string{digest, a, digest}, At: at}, api.Store{}, grey(a, digest))
		}
	}
}

// stepped: a step of a collector that marks, by a second computation with the manifests that there are.
func stepped(s api.Store, c api.Collector, manifests map[string][]string) (api.Store, api.Collector) {
	if len(c.Grey) == 0 {
		return s, api.Collector{Phase: 2}
	}
	rest := c.Grey[1:]
	for _, b := range s.Blobs {
		if b.Digest == c.Grey[0] && !b.Mark {
			text := string(b.Data)
			return marked(s, text), grey(ordered(append(digestsOf(manifests[text]...), rest...))...)
		}
	}
	return s, grey(rest...)
}

// P14.3: what a manifest lists is to be come to when it is marked, in order and once, whether it is there or not.
func TestStepManifests(t *testing.T) {
	inner := list("a", "missing", "a", "bb")
	outer := list(inner, "c", "bb", inner)
	wrong := list("a", "bb") + "\x00"
	manifests := map[string][]string{inner: {"a", "missing", "bb"}, outer: {"bb", "c", inner}}
	s := storeOf("a", "bb", "c", inner, outer, list(), wrong)
	wantStep(t, s, grey(digestOf(inner)), marked(s, inner), grey(ordered(digestsOf("a", "bb", "missing"))...))
	wantStep(t, s, grey(digestOf(outer)), marked(s, outer), grey(ordered(digestsOf("bb", "c", inner))...))
	wantStep(t, s, grey(digestOf(list())), marked(s, list()), grey())
	wantStep(t, s, grey(digestOf(wrong)), marked(s, wrong), grey())
	subsets([]string{"a", "bb", "c", "missing", "other", inner, outer}, func(some []string) {
		before := marked(s, some...)
		for _, first := range textsOf(s) {
			c := grey(append(digestsOf(first), ordered(digestsOf(some...))...)...)
			after, next := stepped(before, c, manifests)
			wantStep(t, before, c, after, next)
		}
	})
}

// P14.3: the parts of a blob that is marked already are not added again.
func TestStepMarked(t *testing.T) {
	inner := list("a", "bb")
	s := marked(storeOf("a", "bb", inner), inner)
	wantStep(t, s, grey(digestOf(inner)), s, grey())
	wantStep(t, s, grey(append(digestsOf(inner), keyOf(7))...), s, grey(keyOf(7)))
}

// P14.3: the collector may be wrong. The first digest is the one that is written first; the rest is put in order only when something is added to it.
func TestStepWrongGrey(t *testing.T) {
	inner := list("b")
	s := marked(storeOf("a", "b", "c", inner), "b")
	x, y, z := keyOf(3), keyOf(2), "x"
	wantStep(t, s, grey(z, z, x, y, x), s, grey(z, x, y, x))
	wantStep(t, s, grey(digestOf("b"), z, x, y, x), s, grey(z, x, y, x))
	wantStep(t, s, grey(digestOf("a"), z, x, y, x), marked(s, "a"), grey(y, x, z))
	wantStep(t, s, grey(digestOf(inner), z, x, y, x), marked(s, inner), grey(ordered([]string{x, y, z, digestOf("b")})...))
	wantStep(t, s, grey(digestOf("a"), digestOf("a")), marked(s, "a"), grey(digestOf("a")))
	digests := digestsOf("a", "c", inner)
	for i, text := range []string{"a", "c", inner} {
		c := grey(append(digestsOf(text), digests...)...)
		after, next := stepped(s, c, map[string][]string{inner: {"b"}})
		wantStep(t, s, c, after, next)
		if next.Grey[0] != ordered(next.Grey)[0] || i < 2 && len(next.Grey) != 3 {
			t.Errorf("Grey is %q after %q", next.Grey, text)
		}
	}
}

// P14.3: in every other phase, known or not, nothing is done; a wrong store is told before that.
func TestStepPhases(t *testing.T) {
	s := withEntry(storeOf("a", "bb"), 5, "a")
	wrong := clone(s)
	wrong.Clock = 4
	for _, phase := range []int{0, 2, 3, 4, 257, -1, 1 << 32, 1<<32 + 1, math.MinInt, math.MaxInt} {
		for _, digests := range [][]string{nil, digestsOf("a"), {"x", "x"}} {
			for _, at := range []string{"", "x", digestOf("a")} {
				wantNoStep(t, s, api.Collector{Phase: phase, Grey: digests, At: at}, api.ErrIdle)
				wantNoStep(t, api.Store{}, api.Collector{Phase: phase, Grey: digests, At: at}, api.ErrIdle)
				wantNoStep(t, wrong, api.Collector{Phase: phase, Grey: digests, At: at}, api.ErrState)
			}
		}
	}
}

// P14.1, P14.3: a chain of manifests as long as a store allows is marked from its top, one at a time.
func TestChains(t *testing.T) {
	texts := []string{"end"}
	for range 23 {
		texts = append(texts, list(texts[len(texts)-1]))
	}
	s := storeOf(texts...)
	for top := range texts {
		wantBegin(t, held(s, texts[top]), texts[top])
		s, c, _ := Begin(held(marked(s, texts...), texts[top]))
		for i := top; i >= 0; i-- {
			if want := grey(digestOf(texts[i])); !sameCollector(c, want) || !same(s, marked(unmarked(s), texts[i+1:top+1]...)) {
				t.Errorf("at %d of %d: %+v, %+v", i, top, s, c)
			}
			s, c, _ = Step(s, c)
		}
		wantStep(t, s, c, marked(unmarked(s), texts[:top+1]...), api.Collector{Phase: 2})
	}
}

// reached: texts that these digests come to, found by going round till nothing is added.
func reached(s api.Store, digests []string, manifests map[string][]string) []string {
	found := map[string]bool{}
	for before := -1; len(found) > before; {
		before = len(found)
		for _, text := range textsOf(s) {
			if slices.Contains(digests, digestOf(text)) || found[text] {
				found[text] = true
				digests = append(slices.Clip(digests), digestsOf(manifests[text]...)...)
			}
		}
		digests = ordered(digests)
	}
	var texts []string
	for text := range found {
		texts = append(texts, text)
	}
	return texts
}

// rootsOf a store, in any order.
func rootsOf(s api.Store) []string {
	var digests []string
	for _, x := range s.Entries {
		for _, p := range x.Parts {
			digests = append(digests, p.Digest)
		}
	}
	for _, b := range s.Blobs {
		if b.Pins > 0 {
			digests = append(digests, b.Digest)
		}
	}
	return digests
}

// randomStore has manifests of texts, of other manifests and of what is missing, and entries.
func randomStore(r *rand.Rand) (api.Store, map[string][]string) {
	manifests := map[string][]string{}
	var texts []string
	for i := range 1 + r.Intn(16) {
		text := fmt.Sprintf("%0*d", 2+r.Intn(60), i)
		if i > 0 && r.Intn(2) == 0 {
			parts := []string{"missing"}[r.Intn(2):]
			for range r.Intn(4) {
				parts = append(parts, texts[r.Intn(len(texts))])
			}
			text = list(parts...)
			manifests[text] = parts
		}
		if !slices.Contains(texts, text) {
			texts = append(texts, text)
		}
	}
	s := storeOf(texts...)
	for range r.Intn(4) {
		var parts []string
		for range r.Intn(3) {
			parts = append(parts, texts[r.Intn(len(texts))])
		}
		s = withEntry(s, r.Intn(5), parts...)
	}
	for i := range s.Blobs {
		s.Blobs[i].Pins = max(0, r.Intn(12)-9)
		s.Blobs[i].Mark = r.Intn(2) == 0
	}
	for i := range s.Entries {
		s.Entries[i].Pins = max(0, r.Intn(9)-6)
	}
	return s, manifests
}

// P14.1, P14.3: from the beginning till marking is over, step by step; the marks are then on what can be come to.
func TestManyCollections(t *testing.T) {
	r := rand.New(rand.NewSource(14))
	met := map[string]int{}
	for range 3000 {
		s, manifests := randomStore(r)
		roots := rootsOf(s)
		want := marked(unmarked(s), reached(s, roots, manifests)...)
		c := grey(ordered(roots)...)
		if got, d, err := Begin(s); !same(got, unmarked(s)) || !sameCollector(c, d) || err != api.OK {
			t.Errorf("Begin(%+v) = %+v, %+v, %d, want Grey %q", s, got, d, err, c.Grey)
		}
		s = unmarked(s)
		steps := 0
		for c.Phase == 1 {
			after, next := stepped(s, c, manifests)
			wantStep(t, s, c, after, next)
			if same(s, after) {
				met["nothing to mark"]++
			} else if len(next.Grey) >= len(c.Grey) {
				met["parts"]++
			}
			s, c = after, next
			steps++
		}
		if !same(s, want) {
			t.Errorf("after %d steps %+v, want %+v", steps, s, want)
		}
		met[fmt.Sprint(min(steps/4, 3))]++
	}
	for _, what := range []string{"nothing to mark", "parts", "0", "1", "2", "3"} {
		if met[what] < 100 {
			t.Errorf("%s was met %d times only", what, met[what])
		}
	}
}

// P14.4: what digests come to is marked, and every mark that is there stays.
func TestAll(t *testing.T) {
	inner := list("a", "missing", "a", "bb")
	outer := list(inner, "c", "bb")
	wrong := list("a", "bb") + "\x00"
	all := []string{"a", "bb", "c", "dddd", inner, outer, wrong}
	s := held(storeOf(all...), "dddd")
	subsets(all, func(some []string) {
		s := marked(s, some...)
		wantAll(t, s, nil)
		wantAll(t, s, []string{})
		wantAll(t, s, []string{"", "x", keyOf(0), digestOf("missing"), strings.ToUpper(digestOf("a"))})
		for _, text := range []string{"a", "bb", "c", "dddd", wrong} {
			wantAll(t, s, digestsOf(text), text)
		}
		wantAll(t, s, digestsOf(inner), inner, "a", "bb")
		wantAll(t, s, digestsOf(outer), outer, inner, "a", "bb", "c")
		wantAll(t, s, append(digestsOf(inner, "dddd", "missing", inner, "a"), "x"), inner, "a", "bb", "dddd")
		wantAll(t, s, digestsOf(all...), all...)
	})
	wantAll(t, api.Store{}, nil)
	wantAll(t, api.Store{}, digestsOf("a", "a"))
}

// P14.4: marks do not stop the way: what a marked manifest lists is come to.
func TestAllBehindMarks(t *testing.T) {
	inner := list("a")
	outer := list(inner, "b")
	s := storeOf("a", "b", inner, outer)
	subsets([]string{"a", "b", inner, outer}, func(some []string) {
		wantAll(t, marked(s, some...), digestsOf(outer), "a", "b", inner, outer)
		wantAll(t, marked(s, some...), digestsOf(inner), "a", inner)
	})
}

// P14.4: many blobs, compared with a second computation; digests in any order and more than once.
func TestAllMany(t *testing.T) {
	r := rand.New(rand.NewSource(144))
	for range 3000 {
		s, manifests := randomStore(r)
		digests := []string{}
		for range r.Intn(4) {
			digests = append(digests, s.Blobs[r.Intn(len(s.Blobs))].Digest)
		}
		wantAll(t, s, digests, reached(s, digests, manifests)...)
	}
}

// P14.4: blobs may be wrong. Only the first one of a digest is come to, and only by its own bytes; all other fields stay.
func TestAllWrongBlobs(t *testing.T) {
	l := []api.Blob{
		{Digest: "z", Data: []byte("last"), Pins: -7},
		{Digest: "", Data: nil, Pins: 99},
		{Digest: keyOf(1), Data: []byte(list("a"))},
		{Digest: keyOf(1), Data: []byte(list("b"))},
		{Digest: digestOf("b"), Data: []byte("other")},
		{Digest: digestOf("a"), Data: []byte("a")},
		{Digest: digestOf("a"), Data: []byte("a"), Mark: true},
		{Digest: digestOf("a"), Data: []byte("a")},
		{Digest: "m", Data: []byte(list("z")), Mark: true},
		{Digest: "m", Data: []byte("m")},
	}
	for _, c := range []struct {
		digests []string
		marks   []int
	}{
		{nil, nil},
		{[]string{"z"}, []int{0}},
		{[]string{"m"}, nil},
		{[]string{"m", "z"}, []int{0}},
		{[]string{"", "z", ""}, []int{0, 1}},
		{[]string{keyOf(1)}, []int{2, 5}},
		{[]string{digestOf("a")}, []int{5}},
		{[]string{digestOf("b"), digestOf("other")}, []int{4}},
		{[]string{keyOf(1), digestOf("b"), "y"}, []int{2, 4, 5}},
	} {
		want := clone(api.Store{Blobs: l})
		for i := range want.Blobs {
			want.Blobs[i].Mark = l[i].Mark || slices.Contains(c.marks, i)
		}
		if got := All(l, c.digests); !same(api.Store{Blobs: got}, want) {
			t.Errorf("All(%+v, %q) = %+v, want %+v", l, c.digests, got, want.Blobs)
		}
	}
}

// P14.4: manifests that list one another in a circle, which only wrong digests can do.
func TestAllCircles(t *testing.T) {
	a, b, c := digestOf("a"), digestOf("b"), digestOf("c")
	l := []api.Blob{{Digest: a, Data: []byte(list("b"))}, {Digest: b, Data: []byte(list("a", "b"))}, {Digest: c, Data: []byte(list("c", "a"))}}
	for _, x := range []struct {
		digest string
		n      int
	}{{a, 2}, {b, 2}, {c, 3}} {
		n := 0
		for _, b := range All(l, []string{x.digest}) {
			if b.Mark {
				n++
			}
		}
		if n != x.n {
			t.Errorf("All from %q marks %d blobs, want %d", x.digest, n, x.n)
		}
	}
}

// P14.4: a chain of more blobs than a store may have, and as many digests.
func TestAllLong(t *testing.T) {
	const n = 50000
	var l []api.Blob
	var digests []string
	for i := range n {
		l = append(l, api.Blob{Digest: digestOf(fmt.Sprint(i)), Data: []byte(list(fmt.Sprint(i + 1)))})
		digests = append(digests, digestOf(fmt.Sprint(i)))
	}
	for _, from := range []int{0, n / 2, n - 1} {
		for _, digests := range [][]string{digests[from : from+1], digests[from:]} {
			for i, b := range All(l, digests) {
				if b.Mark != (i >= from) {
					t.Fatalf("blob %d from %d on: %t", i, from, b.Mark)
				}
			}
		}
	}
}

// P14.1, P14.3: what is wrong with a store is told before all else, and nothing else is told.
func TestWrongStores(t *testing.T) {
	for _, f := range faults() {
		s := marked(withEntry(withEntry(storeOf("a", "", "cccc"), 9, "a"), 3), "a")
		f.make(&s)
		wantNoBegin(t, s, f.want)
		for _, phase := range []int{-1, 0, 1, 2, 3} {
			for _, digests := range [][]string{nil, digestsOf("a"), {"x", "x"}} {
				wantNoStep(t, s, api.Collector{Phase: phase, Grey: digests, At: "x"}, f.want)
			}
		}
	}
}

// spare is a store with capacity that is not used and has something in it, everywhere.
func spare(s api.Store) api.Store {
	blobs := append(slices.Clone(s.Blobs), blobsOf("spare", "more")...)
	for i, b := range blobs {
		blobs[i].Data = append(bytes.Clone(b.Data), "spare"...)[:len(b.Data)]
	}
	entries := append(slices.Clone(s.Entries), api.Entry{Key: "spare"}, api.Entry{Key: "more", Pins: 1})
	for i, x := range entries {
		entries[i].Parts = append(slices.Clone(x.Parts), partsOf("spare", "more")...)[:len(x.Parts)]
	}
	s.Blobs, s.Entries = blobs[:len(s.Blobs)], entries[:len(s.Entries)]
	return s
}

// whole is a store with all unused capacity, deep: all that a call could change.
func whole(s api.Store) api.Store {
	s.Blobs = append([]api.Blob{}, s.Blobs[:cap(s.Blobs)]...)
	for i, b := range s.Blobs {
		s.Blobs[i].Data = append([]byte{}, b.Data[:cap(b.Data)]...)
	}
	s.Entries = append([]api.Entry{}, s.Entries[:cap(s.Entries)]...)
	for i, x := range s.Entries {
		s.Entries[i].Parts = append([]api.Part{}, x.Parts[:cap(x.Parts)]...)
	}
	return s
}

func spoilParts(l []api.Part) {
	l = l[:cap(l)]
	for i := range l {
		l[i] = api.Part{Name: "spoilt", Size: 99}
	}
}

func spoilData(b []byte) {
	b = b[:cap(b)]
	for i := range b {
		b[i] ^= 0x55
	}
}

// spoil changes everything in a store and in its unused capacity.
func spoil(s api.Store) {
	blobs, entries := s.Blobs[:cap(s.Blobs)], s.Entries[:cap(s.Entries)]
	for i := range blobs {
		spoilData(blobs[i].Data)
		blobs[i] = api.Blob{Digest: "spoilt", Pins: 99, Mark: true}
	}
	for i := range entries {
		spoilParts(entries[i].Parts)
		entries[i] = api.Entry{Key: "spoilt", Stamp: 99}
	}
}

func spoilTexts(l []string) {
	l = l[:cap(l)]
	for i := range l {
		l[i] = "spoilt"
	}
}

// spareTexts have capacity that is not used and has something in it.
func spareTexts(l []string) []string {
	return append(slices.Clone(l), "spare", "more")[:len(l)]
}

// result of any call.
type result struct {
	store api.Store
	c     api.Collector
	texts []string
	err   api.Errno
}

func (r result) clone() result {
	r.c.Grey = append([]string{}, r.c.Grey...)
	return result{clone(r.store), r.c, append([]string{}, r.texts...), r.err}
}

func (r result) same(o result) bool {
	return reflect.DeepEqual(r.clone(), o.clone())
}

func (r result) spoil() {
	spoil(r.store)
	spoilTexts(r.c.Grey)
	spoilTexts(r.texts)
}

// unshared: writing into one list of a result, or behind it, changes no other.
func (r result) unshared(t *testing.T) {
	t.Helper()
	for i, x := range r.store.Entries {
		before := r.clone()
		kept := slices.Clone(x.Parts[:cap(x.Parts)])
		spoilParts(x.Parts)
		after := r.clone()
		copy(x.Parts[:cap(x.Parts)], kept)
		after.store.Entries[i].Parts = before.store.Entries[i].Parts
		if !after.same(before) {
			t.Errorf("the parts of entry %d of %+v share memory with others", i, r)
		}
	}
	for i, b := range r.store.Blobs {
		before := r.clone()
		kept := bytes.Clone(b.Data[:cap(b.Data)])
		spoilData(b.Data)
		after := r.clone()
		copy(b.Data[:cap(b.Data)], kept)
		after.store.Blobs[i].Data = before.store.Blobs[i].Data
		if !after.same(before) {
			t.Errorf("the bytes of blob %d of %+v share memory with others", i, r)
		}
	}
}

func calls() []func(s api.Store, l []string) result {
	var list []func(s api.Store, l []string) result
	list = append(list, func(s api.Store, _ []string) result {
		s, c, err := Begin(s)
		return result{store: s, c: c, err: err}
	}, func(s api.Store, l []string) result {
		return result{store: api.Store{Blobs: All(s.Blobs, l)}}
	}, func(_ api.Store, l []string) result {
		return result{texts: Add(l, nil)}
	}, func(_ api.Store, l []string) result {
		return result{texts: Add(nil, l)}
	}, func(_ api.Store, l []string) result {
		return result{texts: Add(l, l)}
	}, func(_ api.Store, l []string) result {
		return result{texts: Add(l[:len(l)/2], l[len(l)/2:])}
	})
	for phase := range 3 {
		list = append(list, func(s api.Store, l []string) result {
			s, c, err := Step(s, api.Collector{Phase: phase, Grey: l, At: "x"})
			return result{store: s, c: c, err: err}
		})
	}
	return list
}

// stores for the tests of memory: good ones, one of which has the same parts everywhere, and a wrong one.
func stores() []api.Store {
	many := storeOf("waste", "a", "bb", list("a", "bb"), "cccc", list("cccc"))
	many = withEntry(many, 3, list("a", "bb"))
	many = withEntry(many, 5, "bb", list("cccc"))
	many = withEntry(many, 9, "a")
	equal := withEntry(withEntry(storeOf("waste", "a"), 1, "a"), 2, "a")
	wrong := clone(many)
	wrong.Clock = 1
	return []api.Store{many, marked(many, textsOf(many)...), held(marked(many, "bb"), "cccc"), equal, wrong, {}}
}

// greys for the tests of memory.
func greys() [][]string {
	return [][]string{
		nil, digestsOf("a"), digestsOf("missing"), digestsOf("a", "bb", "missing"),
		digestsOf("missing", "cccc", "a"), ordered(digestsOf("cccc", list("cccc"), list("a", "bb"))),
		digestsOf(list("a", "bb")), digestsOf(list("cccc"), "a", "bb", "a"), {"x", "x"},
	}
}

// P14.1 to P14.4, with the document's general rules on memory and on state.
func TestMemory(t *testing.T) {
	for n, s := range stores() {
		for m, l := range greys() {
			for i, call := range calls() {
				s, l := spare(s), spareTexts(l)
				before, texts := whole(s), slices.Clone(l[:cap(l)])
				unchanged := func(what string) {
					t.Helper()
					if !same(whole(s), before) || !slices.Equal(l[:cap(l)], texts) {
						t.Fatalf("call %d with store %d and list %d: %s", i, n, m, what)
					}
				}
				first, second := call(s, l), call(s, l)
				unchanged("an argument is changed")
				if !first.same(second) {
					t.Errorf("call %d with store %d and list %d: %+v, then %+v", i, n, m, first, second)
				}
				first.unshared(t)
				kept := second.clone()
				first.spoil()
				unchanged("the result shares memory with an argument")
				if !second.same(kept) || !call(s, l).same(kept) {
					t.Errorf("call %d with store %d and list %d: two results share memory", i, n, m)
				}
				spoil(s)
				spoilTexts(l)
				if !second.same(kept) {
					t.Errorf("result %d with store %d and list %d changed with its arguments: %+v, want %+v", i, n, m, second, kept)
				}
			}
		}
	}
}
