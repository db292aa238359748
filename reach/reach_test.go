package reach

import (
	"crypto/sha256"
	"encoding/binary"
	"encoding/hex"
	"fmt"
	"maps"
	"math"
	"math/rand"
	"reflect"
	"slices"
	"strings"
	"testing"

	"appleloft/api"
)

const (
	abc     = "ba7816bf8f01cfea414140de5dae2223b00361a396177a9cb410ff61f20015ad"
	nothing = "e3b0c44298fc1c149afbf4c8996fb92427ae41e4649b934ca495991b7852b855"
)

// id is a digest that is greater for a greater number.
func id(n int) string {
	return fmt.Sprintf("%064x", n)
}

// ids are digests of numbers.
func ids(l ...int) []string {
	var digests []string
	for _, n := range l {
		digests = append(digests, id(n))
	}
	return digests
}

// some parts with these digests, in this order, whether or not there are too many for a manifest.
func some(digests ...string) []api.Part {
	var l []api.Part
	for i, d := range digests {
		l = append(l, api.Part{Name: string([]byte{byte('!' + i)}), Digest: d, Size: 40 * i % 301})
	}
	return l
}

// raw writes parts as chapter 5 says, without the program, and whether or not they may be a manifest.
func raw(l []api.Part) []byte {
	b := binary.AppendUvarint([]byte("AM1"), uint64(len(l)))
	for _, p := range l {
		digest, err := hex.DecodeString(p.Digest)
		if err != nil {
			panic(err)
		}
		b = append(binary.AppendUvarint(b, uint64(len(p.Name))), p.Name...)
		b = binary.AppendUvarint(append(b, digest...), uint64(p.Size))
	}
	return b
}

// listing is a blob that is a manifest of these digests; its own is not the one of its bytes.
func listing(digest string, digests ...string) api.Blob {
	return api.Blob{Digest: digest, Data: raw(some(digests...))}
}

// node is a blob of a graph of numbers.
func node(n int, to ...int) api.Blob {
	return listing(id(n), ids(to...)...)
}

// leaf is a blob that is no manifest.
func leaf(n int) api.Blob {
	return api.Blob{Digest: id(n), Data: []byte("leaf")}
}

// pinned is a blob with another count.
func pinned(b api.Blob, pins int) api.Blob {
	b.Pins = pins
	return b
}

func entry(digests ...string) api.Entry {
	return api.Entry{Key: abc, Parts: some(digests...), Stamp: 1}
}

func wantParts(t *testing.T, b api.Blob, want []string) {
	t.Helper()
	if got := Parts(b); !slices.Equal(got, want) {
		t.Errorf("Parts(%+v) = %q, want %q", b, got, want)
	}
}

// wantFrom checks a call of From, and that of All for a store with these roots.
func wantFrom(t *testing.T, l []api.Blob, digests, want []string) {
	t.Helper()
	if got := From(l, digests); !slices.Equal(got, want) {
		t.Errorf("From(%+v, %q) = %q, want %q", l, digests, got, want)
	}
	for _, b := range l {
		if b.Pins > 0 {
			return
		}
	}
	wantAll(t, api.Store{Blobs: l, Entries: []api.Entry{entry(digests...)}}, want)
}

func wantRoots(t *testing.T, s api.Store, want []string) {
	t.Helper()
	if got := Roots(s); !slices.Equal(got, want) {
		t.Errorf("Roots(%+v) = %q, want %q", s, got, want)
	}
}

func wantAll(t *testing.T, s api.Store, want []string) {
	t.Helper()
	if got := All(s); !slices.Equal(got, want) {
		t.Errorf("All(%+v) = %q, want %q", s, got, want)
	}
}

// P11.1: digests in the order of the parts, which is not their own, with those that occur again.
func TestPartsOfManifests(t *testing.T) {
	for n := range 9 {
		var up, down, equal []string
		for i := range n {
			up = append(up, id(i))
			down = append(down, id(100-i))
			equal = append(equal, abc)
		}
		for _, digests := range [][]string{up, down, equal} {
			wantParts(t, listing("m", digests...), digests)
		}
	}
	wantParts(t, listing("m", abc, nothing), []string{abc, nothing})
	wantParts(t, listing("m", nothing, abc), []string{nothing, abc})
	wantParts(t, listing("m", nothing, abc, nothing, id(0), abc), []string{nothing, abc, nothing, id(0), abc})
	wantParts(t, listing("m", strings.Repeat("f", 64), strings.Repeat("0", 64)), []string{strings.Repeat("f", 64), strings.Repeat("0", 64)})
}

// P11.1: only the bytes tell what the parts are; a manifest may be longer than a blob.
func TestPartsOfWrongBlobs(t *testing.T) {
	data := raw([]api.Part{{Name: "abcdefghijkl", Digest: nothing, Size: 300}, {Name: "abcdefghijkm", Digest: abc, Size: 0}})
	sum := sha256.Sum256(data)
	for _, digest := range []string{"", "m", abc, nothing, hex.EncodeToString(sum[:])} {
		for _, pins := range []int{0, 1, 6, -1, math.MinInt, math.MaxInt} {
			for _, mark := range []bool{false, true} {
				wantParts(t, api.Blob{Digest: digest, Data: data, Pins: pins, Mark: mark}, []string{nothing, abc})
				wantParts(t, api.Blob{Digest: digest, Data: []byte("abc"), Pins: pins, Mark: mark}, nil)
			}
		}
	}
	var long []api.Part
	for i := range 8 {
		long = append(long, api.Part{Name: fmt.Sprintf("abcdefghijk%d", i), Digest: id(i), Size: 300})
	}
	if b := raw(long); len(b) <= api.MaxBlob {
		t.Fatalf("a manifest of %d bytes is no longer than a blob", len(b))
	}
	wantParts(t, api.Blob{Digest: abc, Data: raw(long)}, ids(0, 1, 2, 3, 4, 5, 6, 7))
}

// P11.1
func TestPartsOfOtherBlobs(t *testing.T) {
	good := raw(some(abc, nothing))
	named := func(names ...string) []byte {
		l := some(slices.Repeat([]string{abc}, len(names))...)
		for i, name := range names {
			l[i].Name = name
		}
		return raw(l)
	}
	for _, data := range [][]byte{
		nil,
		{},
		[]byte("abc"),
		[]byte(abc),
		[]byte("AM1"),
		[]byte("AM2\x00"),
		[]byte("AA1\x02cc\x00"),
		append([]byte("AA1\x02cc"), good...),
		[]byte("AM1\x80\x00"),
		append(slices.Clone(good), 0),
		append(slices.Clone(good), good...),
		append([]byte{0}, good...),
		slices.Concat([]byte("am1"), good[3:]),
		slices.Concat(good, make([]byte, 2001-len(good))),
		raw(some(slices.Repeat([]string{abc}, 9)...)),
		raw([]api.Part{{Name: "a", Digest: abc, Size: 301}}),
		raw([]api.Part{{Name: "a", Digest: abc, Size: 3}, {Name: "b", Digest: nothing, Size: 1 << 31}}),
		named(""),
		named("a", ""),
		named("a b"),
		named("a", "\x7f"),
		named("abcdefghijklm"),
		named("a", "a"),
		named("b", "a"),
		named("a", "c", "b"),
	} {
		wantParts(t, api.Blob{Digest: "m", Data: data}, nil)
	}
	for i := range good {
		wantParts(t, api.Blob{Digest: "m", Data: good[:i]}, nil)
	}
	// Bytes behind the data are none of it.
	wantParts(t, api.Blob{Digest: "m", Data: append(slices.Clone(good), 0)[:len(good)]}, []string{abc, nothing})
}

// P11.2: blobs that are there themselves, in the order of their digests, each one once.
func TestFromLeaves(t *testing.T) {
	l := []api.Blob{leaf(1), leaf(2), leaf(3), leaf(4)}
	wantFrom(t, l, nil, nil)
	wantFrom(t, l, []string{}, nil)
	wantFrom(t, nil, nil, nil)
	wantFrom(t, nil, ids(1), nil)
	wantFrom(t, []api.Blob{}, ids(1, 1), nil)
	wantFrom(t, l, ids(1), ids(1))
	wantFrom(t, l, ids(4), ids(4))
	wantFrom(t, l, ids(1, 2, 3, 4), ids(1, 2, 3, 4))
	wantFrom(t, l, ids(4, 3, 2, 1), ids(1, 2, 3, 4))
	wantFrom(t, l, ids(3, 1), ids(1, 3))
	wantFrom(t, l, ids(3, 1, 3, 3, 1), ids(1, 3))
	wantFrom(t, l, ids(0, 3, 5), ids(3))
	wantFrom(t, l, []string{"", "x", abc, id(2)[:63], id(2) + "0", id(2)[1:]}, nil)
	slices.Reverse(l)
	wantFrom(t, l, ids(3, 2, 4), ids(2, 3, 4))
}

// P11.2: from a manifest to what it lists, on through every manifest, and never back.
func TestFromManifests(t *testing.T) {
	l := []api.Blob{node(1, 2, 3), leaf(2), node(3, 4, 9), node(4, 5), leaf(5), node(6, 1), leaf(7), node(8)}
	wantFrom(t, l, ids(1), ids(1, 2, 3, 4, 5))
	wantFrom(t, l, ids(2), ids(2))
	wantFrom(t, l, ids(3), ids(3, 4, 5))
	wantFrom(t, l, ids(4), ids(4, 5))
	wantFrom(t, l, ids(5), ids(5))
	wantFrom(t, l, ids(6), ids(1, 2, 3, 4, 5, 6))
	wantFrom(t, l, ids(7), ids(7))
	wantFrom(t, l, ids(8), ids(8))
	wantFrom(t, l, ids(9), nil)
	wantFrom(t, l, ids(7, 4), ids(4, 5, 7))
	wantFrom(t, l, ids(4, 8, 3, 9, 3), ids(3, 4, 5, 8))
	wantFrom(t, l, ids(8, 7, 6), ids(1, 2, 3, 4, 5, 6, 7, 8))
	// A manifest that is not there leads nowhere, though others list it.
	wantFrom(t, slices.Concat(l[:2], l[3:]), ids(1), ids(1, 2))
	wantFrom(t, l[1:], ids(6), ids(6))
}

// P11.2: what several manifests list is there once; what one lists may be greater or smaller than itself.
func TestFromShared(t *testing.T) {
	l := []api.Blob{node(5, 9, 1, 7), node(7, 9, 1), node(1, 9), leaf(9), node(3, 5, 5, 5)}
	wantFrom(t, l, ids(5), ids(1, 5, 7, 9))
	wantFrom(t, l, ids(5, 7, 1, 9), ids(1, 5, 7, 9))
	wantFrom(t, l, ids(3), ids(1, 3, 5, 7, 9))
	wantFrom(t, l, ids(7), ids(1, 7, 9))
	// Of the first one, all eight parts count; nine are no manifest.
	wantFrom(t, []api.Blob{node(1, 2, 3, 4, 5, 6, 7, 8, 9), leaf(2), leaf(9)}, ids(1), ids(1, 2, 9))
	wantFrom(t, []api.Blob{node(1, 2, 3, 4, 5, 6, 7, 8, 9, 10), leaf(2), leaf(9)}, ids(1), ids(1))
}

// P11.2: manifests may list one another in a circle, as blobs need not be right.
func TestFromCircles(t *testing.T) {
	wantFrom(t, []api.Blob{node(1, 1)}, ids(1), ids(1))
	wantFrom(t, []api.Blob{node(1, 1, 1, 2, 1), leaf(2)}, ids(1, 1), ids(1, 2))
	wantFrom(t, []api.Blob{node(1, 2), node(2, 1)}, ids(1), ids(1, 2))
	wantFrom(t, []api.Blob{node(1, 2), node(2, 1)}, ids(2, 1), ids(1, 2))
	l := []api.Blob{node(1, 2), node(2, 3, 4), node(3, 1), leaf(4), node(5, 1)}
	for n := 1; n <= 3; n++ {
		wantFrom(t, l, ids(n), ids(1, 2, 3, 4))
	}
	wantFrom(t, l, ids(4), ids(4))
	wantFrom(t, l, ids(5), ids(1, 2, 3, 4, 5))
}

// P11.2: of several blobs with one digest, only the first has parts that count.
func TestFromFirst(t *testing.T) {
	rest := []api.Blob{leaf(2), leaf(3), node(4, 2)}
	for _, c := range []struct {
		first, second api.Blob
		want          []string
	}{
		{node(1, 2), node(1, 3), ids(1, 2)},
		{node(1, 3), node(1, 2), ids(1, 3)},
		{leaf(1), node(1, 3), ids(1)},
		{node(1, 3), leaf(1), ids(1, 3)},
		{node(1), node(1, 4), ids(1)},
		{node(1, 4), node(1, 3), ids(1, 2, 4)},
		{node(1, 1), node(1, 3), ids(1)},
	} {
		wantFrom(t, slices.Concat([]api.Blob{c.first, c.second}, rest), ids(1), c.want)
		wantFrom(t, slices.Concat(rest, []api.Blob{c.first, c.second}), ids(1, 1), c.want)
		wantFrom(t, slices.Concat([]api.Blob{c.first}, rest, []api.Blob{c.second, c.second}), ids(1), c.want)
		// Neither do the parts of the later one count where a manifest lists the digest.
		want := append(slices.Clone(c.want), id(5))
		wantFrom(t, slices.Concat([]api.Blob{node(5, 1), c.first}, rest, []api.Blob{c.second}), ids(5), want)
	}
}

// P11.2: digests need not be right; they are compared byte by byte.
func TestFromWildDigests(t *testing.T) {
	names := []string{"b", "", "é", "\xff", "ab", "a\x00", "a", "B", "~", strings.Repeat("x", 1000), "\x80"}
	var l []api.Blob
	for _, name := range names {
		l = append(l, listing(name, abc))
	}
	want := slices.Clone(names)
	slices.SortFunc(want, strings.Compare)
	wantFrom(t, l, names, want)
	wantFrom(t, l, []string{""}, []string{""})
	wantFrom(t, l, []string{"a", "", "a\x00", "\x00a", "A"}, []string{"", "a", "a\x00"})
	l = append(l, api.Blob{Digest: abc, Pins: math.MinInt})
	wantFrom(t, l, []string{"\xff", ""}, []string{"", abc, "\xff"})
	wantFrom(t, l, []string{strings.ToUpper(abc)}, nil)
	// A manifest has its digests in small letters.
	l = append(l[:0], listing("m", abc), api.Blob{Digest: strings.ToUpper(abc)})
	wantFrom(t, l, []string{"m"}, []string{"m"})
}

// P11.2: neither counts nor marks matter, nor whether there are more blobs than a store has.
func TestFromWrongBlobs(t *testing.T) {
	for _, pins := range []int{0, 1, 5, 6, -1, math.MinInt, math.MaxInt} {
		l := []api.Blob{pinned(node(1, 2, 3), pins), pinned(leaf(2), pins), pinned(leaf(3), pins), pinned(leaf(4), pins)}
		for i := range l {
			l[i].Mark = i%2 == 0
		}
		wantFrom(t, l, ids(1), ids(1, 2, 3))
		wantFrom(t, l, ids(3), ids(3))
		for i := range l {
			l[i].Mark = i%2 == 1
		}
		wantFrom(t, l, ids(1), ids(1, 2, 3))
	}
	l := []api.Blob{{Digest: id(1), Data: make([]byte, 5000)}, node(3, 1)}
	wantFrom(t, l, ids(3), ids(1, 3))
}

// P11.2: long chains and wide trees, and every blob asked for at once.
func TestFromMany(t *testing.T) {
	const n = 50000
	var chain, tree []api.Blob
	var all []string
	for i := range n {
		chain = append(chain, node(i, i+1))
		tree = append(tree, node(i, 8*i+1, 8*i+2, 8*i+3, 8*i+4, 8*i+5, 8*i+6, 8*i+7, 8*i+8))
		all = append(all, id(i))
	}
	same := func(what string, got, want []string) {
		if !slices.Equal(got, want) {
			t.Errorf("%s: %d digests, want %d", what, len(got), len(want))
		}
	}
	same("chain", From(chain, ids(0)), all)
	same("second half of the chain", From(chain, ids(n/2)), all[n/2:])
	same("every blob of the chain", From(chain, all), all)
	same("tree", From(tree, ids(0)), all)
	slices.Reverse(chain)
	same("chain from its end", From(chain, ids(0)), all)
	same("digests that are not there", From(tree[:1], all), all[:1])
	same("roots", Roots(api.Store{Entries: []api.Entry{entry(all...)}}), all)
	same("store", All(api.Store{Blobs: chain, Entries: []api.Entry{entry(id(0))}}), all)
}

// slow adds, as long as there is something to add, what the first blobs of the digests so far list.
func slow(l []api.Blob, lists map[string][]string, digests []string) []string {
	there := func(digest string) bool {
		return slices.ContainsFunc(l, func(b api.Blob) bool { return b.Digest == digest })
	}
	got := map[string]bool{}
	for _, d := range digests {
		got[d] = there(d)
	}
	for range l {
		for _, b := range l {
			for _, d := range lists[b.Digest] {
				if got[b.Digest] && there(d) {
					got[d] = true
				}
			}
		}
	}
	maps.DeleteFunc(got, func(_ string, there bool) bool { return !there })
	return slices.Sorted(maps.Keys(got))
}

// P11.2 to P11.4: graphs of all kinds, by a second computation.
func TestGraphs(t *testing.T) {
	random := rand.New(rand.NewSource(11))
	for range 3000 {
		n := 1 + random.Intn(14)
		pick := func(most int) []string {
			var l []string
			for range random.Intn(most + 1) {
				l = append(l, id(random.Intn(n+2)))
			}
			return l
		}
		var l []api.Blob
		lists := map[string][]string{}
		for range n {
			b := leaf(random.Intn(n))
			parts := pick(3)
			if random.Intn(3) > 0 {
				b = listing(b.Digest, parts...)
			} else {
				parts = nil
			}
			if _, there := lists[b.Digest]; !there {
				lists[b.Digest] = parts
			}
			b.Mark = random.Intn(2) == 0
			l = append(l, b)
		}
		digests := pick(3)
		want := slow(l, lists, digests)
		wantFrom(t, l, digests, want)
		held := random.Intn(n)
		l[held].Pins = 1 + random.Intn(7)
		s := api.Store{Blobs: l, Entries: []api.Entry{entry(digests...), entry(pick(2)...)}}
		roots := Roots(s)
		if !slices.Contains(roots, l[held].Digest) {
			t.Errorf("Roots(%+v) = %q", s, roots)
		}
		wantAll(t, s, slow(l, lists, roots))
		if t.Failed() {
			return
		}
	}
}

// P11.3: the parts of entries, whether or not there are blobs of them, and no others.
func TestRootsOfEntries(t *testing.T) {
	wantRoots(t, api.Store{}, nil)
	wantRoots(t, api.Store{Blobs: []api.Blob{}, Entries: []api.Entry{}, Room: 9, Clock: 9}, nil)
	wantRoots(t, api.Store{Entries: []api.Entry{entry()}}, nil)
	wantRoots(t, api.Store{Entries: []api.Entry{entry(abc)}}, []string{abc})
	wantRoots(t, api.Store{Entries: []api.Entry{entry(nothing, abc)}}, []string{abc, nothing})
	wantRoots(t, api.Store{Entries: []api.Entry{entry(abc, abc), entry(), entry(abc)}}, []string{abc})
	wantRoots(t, api.Store{Entries: []api.Entry{entry(ids(3, 5)...), entry(ids(4, 1, 3)...), entry(ids(9)...), entry(ids(2)...)}}, ids(1, 2, 3, 4, 5, 9))
	for n := range 9 {
		var l []string
		for i := range n {
			l = append(l, id(i))
		}
		backwards := slices.Clone(l)
		slices.Reverse(backwards)
		wantRoots(t, api.Store{Entries: []api.Entry{entry(l...), entry(backwards...)}}, l)
	}
	// Neither the key of an entry nor the blobs that its parts lead to are roots.
	s := api.Store{Blobs: []api.Blob{node(1, 2), leaf(2), leaf(3)}, Entries: []api.Entry{{Key: id(3), Parts: some(id(1))}}}
	wantRoots(t, s, ids(1))
}

// P11.3: entries need not be right, and their counts and stamps do not matter.
func TestRootsOfWrongEntries(t *testing.T) {
	for _, n := range []int{0, 1, 5, 6, -1, math.MinInt, math.MaxInt} {
		x := api.Entry{Key: "x", Parts: []api.Part{{Name: "b", Digest: "é", Size: n}, {Name: "a", Digest: "", Size: n}, {Digest: "\xff"}, {Digest: "Z"}}, Pins: n, Stamp: n}
		wantRoots(t, api.Store{Entries: []api.Entry{x, x, {}}, Room: n, Clock: n}, []string{"", "Z", "é", "\xff"})
	}
	wantRoots(t, api.Store{Entries: []api.Entry{entry(ids(9, 8, 7, 6, 5, 4, 3, 2, 1, 0)...)}}, ids(0, 1, 2, 3, 4, 5, 6, 7, 8, 9))
	var many []api.Entry
	for i := range 30 {
		many = append(many, entry(ids(40-i)...))
	}
	if got := Roots(api.Store{Entries: many}); len(got) != 30 || !slices.IsSorted(got) {
		t.Errorf("Roots of 30 entries: %q", got)
	}
}

// P11.3: blobs with a count greater than 0.
func TestRootsOfBlobs(t *testing.T) {
	for _, pins := range []int{1, 2, 5, 6, 1 << 40, math.MaxInt} {
		wantRoots(t, api.Store{Blobs: []api.Blob{pinned(leaf(1), pins)}}, ids(1))
		wantRoots(t, api.Store{Blobs: []api.Blob{leaf(1), pinned(leaf(2), pins), leaf(3)}}, ids(2))
		wantRoots(t, api.Store{Blobs: []api.Blob{pinned(leaf(3), pins), leaf(2), pinned(leaf(1), pins)}}, ids(1, 3))
	}
	for _, pins := range []int{0, -1, -5, math.MinInt} {
		wantRoots(t, api.Store{Blobs: []api.Blob{pinned(leaf(1), pins)}}, nil)
	}
	// What a held manifest lists is no root, and a mark makes none.
	marked := leaf(3)
	marked.Mark = true
	wantRoots(t, api.Store{Blobs: []api.Blob{pinned(node(1, 2), 1), leaf(2), marked}}, ids(1))
	// Any blob of a digest can hold it, not only the first one.
	wantRoots(t, api.Store{Blobs: []api.Blob{leaf(1), pinned(leaf(1), 1)}}, ids(1))
	wantRoots(t, api.Store{Blobs: []api.Blob{pinned(leaf(1), 1), leaf(1), pinned(leaf(1), 2)}}, ids(1))
	wantRoots(t, api.Store{Blobs: []api.Blob{{Pins: 1}, {Digest: "\xff", Pins: 1}, {Digest: "é", Pins: 1}}}, []string{"", "é", "\xff"})
}

// P11.3: both of them, in one order and without duplicates.
func TestRootsOfBoth(t *testing.T) {
	s := api.Store{
		Blobs:   []api.Blob{pinned(leaf(1), 1), leaf(2), pinned(leaf(4), 2), pinned(leaf(6), 1), leaf(7)},
		Entries: []api.Entry{entry(ids(5, 4)...), entry(ids(2, 9, 1)...)},
	}
	wantRoots(t, s, ids(1, 2, 4, 5, 6, 9))
}

// P11.4: what the roots lead to, if it is there.
func TestAll(t *testing.T) {
	l := []api.Blob{node(1, 2, 3), leaf(2), node(3, 4), leaf(4), node(5, 6), leaf(6), leaf(7), node(8, 1)}
	wantAll(t, api.Store{}, nil)
	wantAll(t, api.Store{Blobs: l}, nil)
	wantAll(t, api.Store{Entries: []api.Entry{entry(ids(1, 2)...)}}, nil)
	// A part of an entry that is itself a manifest, as in the chapter's example.
	wantAll(t, api.Store{Blobs: l, Entries: []api.Entry{entry(ids(1)...)}}, ids(1, 2, 3, 4))
	wantAll(t, api.Store{Blobs: l, Entries: []api.Entry{entry(ids(7)...), entry(ids(5, 9)...)}}, ids(5, 6, 7))
	held := slices.Clone(l)
	held[4].Pins = 1
	wantAll(t, api.Store{Blobs: held}, ids(5, 6))
	wantAll(t, api.Store{Blobs: held, Entries: []api.Entry{entry(ids(3)...)}}, ids(3, 4, 5, 6))
	wantAll(t, api.Store{Blobs: held, Entries: []api.Entry{entry(ids(8)...)}}, ids(1, 2, 3, 4, 5, 6, 8))
	held[4].Pins = -1
	wantAll(t, api.Store{Blobs: held}, nil)
	// Digests need not be right, as in From.
	wantAll(t, api.Store{Blobs: []api.Blob{pinned(listing("x", id(2)), 9), leaf(2), leaf(3)}}, append(ids(2), "x"))
	// The second blob of a digest holds it, but the first one has the parts.
	wantAll(t, api.Store{Blobs: []api.Blob{node(1, 2), leaf(2), leaf(3), pinned(node(1, 3), 1)}}, ids(1, 2))
}

// spareBlobs is a list, and all bytes in it, with capacity that is not used and has something in it.
func spareBlobs(l []api.Blob) []api.Blob {
	c := append(slices.Clone(l), pinned(leaf(90), 1), pinned(node(91, 1), 1))
	for i := range c {
		c[i].Data = append(slices.Clone(c[i].Data), "spare"...)[:len(c[i].Data)]
	}
	return c[:len(l)]
}

func spareEntries(l []api.Entry) []api.Entry {
	c := append(slices.Clone(l), entry(id(92)), entry(id(93)))
	for i := range c {
		c[i].Parts = append(slices.Clone(c[i].Parts), some(id(94), id(95))...)[:len(c[i].Parts)]
	}
	return c[:len(l)]
}

// whole is all of a store and of digests that a call could change, unused capacity included, in memory of its own.
func whole(s api.Store, digests []string) []any {
	blobs := slices.Clone(s.Blobs[:cap(s.Blobs)])
	for i := range blobs {
		blobs[i].Data = slices.Clone(blobs[i].Data[:cap(blobs[i].Data)])
	}
	entries := slices.Clone(s.Entries[:cap(s.Entries)])
	for i := range entries {
		entries[i].Parts = slices.Clone(entries[i].Parts[:cap(entries[i].Parts)])
	}
	return []any{blobs, entries, slices.Clone(digests[:cap(digests)])}
}

// spoil changes everything in a list and in its unused capacity.
func spoil(l []string) {
	l = l[:cap(l)]
	for i := range l {
		l[i] = "spoilt"
	}
}

func spoilStore(s api.Store) {
	for _, b := range s.Blobs {
		clear(b.Data[:cap(b.Data)])
	}
	for _, x := range s.Entries {
		clear(x.Parts[:cap(x.Parts)])
	}
	clear(s.Blobs[:cap(s.Blobs)])
	clear(s.Entries[:cap(s.Entries)])
}

// stored is a store, and digests, all of them with unused capacity.
func stored() (api.Store, []string) {
	s := api.Store{
		Blobs:   spareBlobs([]api.Blob{node(1, 2, 3, 1), leaf(2), pinned(node(3, 5, 4), 1), leaf(4), leaf(5), leaf(6)}),
		Entries: spareEntries([]api.Entry{entry(ids(2, 1)...), entry(), entry(ids(1, 4, 8)...)}),
	}
	return s, append(ids(3, 6, 1, 1, 8), "spare", id(2))[:5]
}

// P11.1 to P11.4, with the document's general rules on memory and on state.
func TestMemory(t *testing.T) {
	s, digests := stored()
	calls := []struct {
		call func() []string
		want []string
	}{
		{func() []string { return Parts(s.Blobs[0]) }, ids(2, 3, 1)},
		{func() []string { return Parts(s.Blobs[1]) }, nil},
		{func() []string { return From(s.Blobs, digests) }, ids(1, 2, 3, 4, 5, 6)},
		{func() []string { return From(s.Blobs, digests[:1]) }, ids(3, 4, 5)},
		{func() []string { return From(s.Blobs[1:2], digests[:0]) }, nil},
		{func() []string { return Roots(s) }, ids(1, 2, 3, 4, 8)},
		{func() []string { return All(s) }, ids(1, 2, 3, 4, 5)},
	}
	before := whole(s, digests)
	for i, c := range calls {
		first, second := c.call(), c.call()
		if !slices.Equal(first, c.want) || !slices.Equal(second, c.want) {
			t.Errorf("call %d: %q, then %q, want %q", i, first, second, c.want)
		}
		if !reflect.DeepEqual(whole(s, digests), before) {
			t.Fatalf("call %d: the arguments are changed", i)
		}
		spoil(first)
		if !reflect.DeepEqual(whole(s, digests), before) {
			t.Fatalf("call %d: the result shares memory with an argument", i)
		}
		if !slices.Equal(second, c.want) || !slices.Equal(c.call(), c.want) {
			t.Errorf("call %d: two results share memory", i)
		}
	}
}

// P11.1 to P11.4: a result stays as it is when the arguments change later.
func TestResultsStay(t *testing.T) {
	for i, call := range []func(s api.Store, digests []string) []string{
		func(s api.Store, _ []string) []string { return Parts(s.Blobs[0]) },
		func(s api.Store, digests []string) []string { return From(s.Blobs, digests) },
		func(s api.Store, _ []string) []string { return Roots(s) },
		func(s api.Store, _ []string) []string { return All(s) },
	} {
		s, digests := stored()
		got := call(s, digests)
		want := slices.Clone(got)
		if len(got) == 0 {
			t.Errorf("call %d has no result", i)
		}
		spoilStore(s)
		spoil(digests)
		if !slices.Equal(got, want) {
			t.Errorf("result %d changed with its arguments: %q, want %q", i, got, want)
		}
	}
}
