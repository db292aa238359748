package manifest

import (
	"encoding/binary"
	"encoding/hex"
	"math"
	"slices"
	"strings"
	"testing"

	"appleloft/api"
)

const (
	abc     = "ba7816bf8f01cfea414140de5dae2223b00361a396177a9cb410ff61f20015ad"
	nothing = "e3b0c44298fc1c149afbf4c8996fb92427ae41e4649b934ca495991b7852b855"
)

// varint is the library's encoding, which has the form that chapter 4 describes.
func varint(n int) []byte {
	return binary.AppendUvarint(nil, uint64(n))
}

func joined(lists ...[]byte) []byte {
	return slices.Concat(lists...)
}

// text is a string behind its length.
func text(s string) []byte {
	return joined(varint(len(s)), []byte(s))
}

// digest is the bytes of 64 digits, by the library.
func digest(s string) []byte {
	b, err := hex.DecodeString(s)
	if err != nil {
		panic(err)
	}
	return b
}

func part(name, digest string, size int) api.Part {
	return api.Part{Name: name, Digest: digest, Size: size}
}

// rawPart writes a part as the chapter says, whether or not it may be in a manifest.
func rawPart(name, hexDigest string, size int) []byte {
	return joined(text(name), digest(hexDigest), varint(size))
}

// raw writes a manifest of parts that are written already.
func raw(count int, parts ...[]byte) []byte {
	return joined([]byte("AM1"), varint(count), slices.Concat(parts...))
}

// rawOf writes parts as the chapter says, whether or not they may be a manifest.
func rawOf(l []api.Part) []byte {
	b := raw(len(l))
	for _, p := range l {
		b = joined(b, rawPart(p.Name, p.Digest, p.Size))
	}
	return b
}

// digestOf is a digest that tells one number from another.
func digestOf(n int) string {
	b := make([]byte, 32)
	for i := range b {
		b[i] = byte(n*71 + i*37)
	}
	return hex.EncodeToString(b)
}

// some parts that are a manifest, as many as n, with names of one to twelve bytes.
func some(n int) []api.Part {
	var l []api.Part
	for i := range n {
		name := string([]byte{byte('a' + i)}) + strings.Repeat("~", i*5%12)
		l = append(l, part(name, digestOf(i), i*43%301))
	}
	return l
}

// good manifests, one at every limit among them.
func good() [][]api.Part {
	l := [][]api.Part{
		nil,
		{},
		{part("a", abc, 3)},
		{part("!", nothing, 0)},
		{part("~", abc, 300)},
		{part("a.o", abc, 127)},
		{part("a.o", abc, 128)},
		{part("abcdefghijkl", abc, 3), part("abcdefghijkm", abc, 3)},
		{part("a", abc, 3), part("a!", nothing, 0)},
		{part("A", abc, 3), part("a", abc, 3)},
		{part("10", abc, 3), part("9", abc, 3)},
		{part("Z", abc, 3), part("a", nothing, 0), part("ab", abc, 3), part("b", digestOf(9), 299)},
		{part("a", strings.Repeat("0", 64), 1), part("b", strings.Repeat("f", 64), 1)},
	}
	for n := range 9 {
		l = append(l, some(n))
	}
	return l
}

func wantName(t *testing.T, s string, want api.Errno) {
	t.Helper()
	if err := Name(s); err != want {
		t.Errorf("Name(%q) = %d, want %d", s, err, want)
	}
}

// wantCheck checks a call of Check, and that Encode has its error.
func wantCheck(t *testing.T, l []api.Part, want api.Errno) {
	t.Helper()
	if err := Check(l); err != want {
		t.Errorf("Check(%v) = %d, want %d", l, err, want)
	}
	b, err := Encode(l)
	if err != want || want != api.OK && len(b) != 0 {
		t.Errorf("Encode(%v) = %v, %d, want error %d", l, b, err, want)
	}
}

func wantDecode(t *testing.T, b []byte, want []api.Part, wantErr api.Errno) {
	t.Helper()
	got, err := Decode(b)
	if !slices.Equal(got, want) || err != wantErr {
		t.Errorf("Decode(%q) = %v, %d, want %v, %d", b, got, err, want, wantErr)
	}
}

// P5.1
func TestNameOfEveryByte(t *testing.T) {
	for x := range 256 {
		want := api.OK
		if x < 33 || x > 126 {
			want = api.ErrForm
		}
		for _, c := range [][2]string{{"", ""}, {"a", ""}, {"", "a"}, {"a", "a"}, {"abcdefghijk", ""}, {"", "abcdefghijk"}} {
			wantName(t, c[0]+string([]byte{byte(x)})+c[1], want)
		}
	}
}

// P5.1
func TestNameOfEveryLength(t *testing.T) {
	for n := range 300 {
		want, wantBad := api.OK, api.ErrForm
		if n < 1 || n > 12 {
			want, wantBad = api.ErrSize, api.ErrSize
		}
		wantName(t, strings.Repeat("x", n), want)
		wantName(t, strings.Repeat(" ", n), wantBad)
		wantName(t, strings.Repeat("\xff", n), wantBad)
	}
}

// P5.1
func TestNameKnown(t *testing.T) {
	for _, c := range []struct {
		name string
		want api.Errno
	}{
		{"a.o", api.OK},
		{"!", api.OK},
		{"~", api.OK},
		{"!~!~!~!~!~!~", api.OK},
		{"../a\\b:c", api.OK},
		{"", api.ErrSize},
		{"a b", api.ErrForm},
		{" a", api.ErrForm},
		{"a ", api.ErrForm},
		{"a\n", api.ErrForm},
		{"a\x00", api.ErrForm},
		{"a\x7f", api.ErrForm},
		{"é", api.ErrForm},
		{"éééééé", api.ErrForm},
		{"ééééééé", api.ErrSize},
		{"abcdefghijk ", api.ErrForm},
		{"abcdefghijkl ", api.ErrSize},
	} {
		wantName(t, c.name, c.want)
	}
}

// P5.2
func TestCheckGood(t *testing.T) {
	for _, l := range good() {
		wantCheck(t, l, api.OK)
	}
}

// P5.2
func TestCheckNumberOfParts(t *testing.T) {
	for n := range 12 {
		want := api.OK
		if n > 8 {
			want = api.ErrSize
		}
		wantCheck(t, some(n), want)
	}
	wantCheck(t, make([]api.Part, 100), api.ErrSize)
	// Too many parts are told before what is wrong with one of them.
	for _, bad := range []api.Part{part("a b", abc, 3), part("a", abc, 3), part("a", "", 3), part("a", strings.Repeat("g", 64), 3), part("a", abc, -1)} {
		wantCheck(t, slices.Repeat([]api.Part{bad}, 9), api.ErrSize)
	}
}

// P5.2
func TestCheckNames(t *testing.T) {
	for _, c := range []struct {
		name string
		want api.Errno
	}{
		{"", api.ErrSize},
		{"abcdefghijklm", api.ErrSize},
		{"a b", api.ErrForm},
		{"é", api.ErrForm},
		{"abcdefghijkl", api.OK},
	} {
		wantCheck(t, []api.Part{part(c.name, abc, 3)}, c.want)
		wantCheck(t, []api.Part{part("!", abc, 3), part(c.name, abc, 3)}, c.want)
		wantCheck(t, []api.Part{part("!", abc, 3), part(c.name, abc, 3), part("~", abc, 3)}, c.want)
	}
}

// P5.2: names are compared byte by byte with that of the part before.
func TestCheckOrder(t *testing.T) {
	for _, c := range []struct {
		first, second string
		want          api.Errno
	}{
		{"a", "b", api.OK},
		{"a", "a", api.ErrTwice},
		{"b", "a", api.ErrTwice},
		{"a", "aa", api.OK},
		{"aa", "a", api.ErrTwice},
		{"a", "A", api.ErrTwice},
		{"Z", "a", api.OK},
		{"9", "10", api.ErrTwice},
		{"10", "9", api.OK},
		{"abcdefghijkl", "abcdefghijkl", api.ErrTwice},
		{"abcdefghijkm", "abcdefghijkl", api.ErrTwice},
		{"b", "abcdefghijkl", api.ErrTwice},
	} {
		first, second := part(c.first, abc, 3), part(c.second, nothing, 0)
		wantCheck(t, []api.Part{first, second}, c.want)
		wantCheck(t, []api.Part{part("!", abc, 3), first, second}, c.want)
		wantCheck(t, []api.Part{first, second, part("~", abc, 3)}, c.want)
	}
	wantCheck(t, []api.Part{part("a", abc, 3), part("b", abc, 3), part("a", abc, 3)}, api.ErrTwice)
	wantCheck(t, []api.Part{part("b", abc, 3), part("c", abc, 3), part("a", abc, 3)}, api.ErrTwice)
	l := some(8)
	for i := range 7 {
		swapped := slices.Clone(l)
		swapped[i], swapped[i+1] = swapped[i+1], swapped[i]
		wantCheck(t, swapped, api.ErrTwice)
	}
}

// P5.2
func TestCheckDigests(t *testing.T) {
	for _, c := range []struct {
		digest string
		want   api.Errno
	}{
		{"", api.ErrSize},
		{"x", api.ErrSize},
		{abc[:63], api.ErrSize},
		{abc + "0", api.ErrSize},
		{abc + abc, api.ErrSize},
		{strings.Repeat("g", 63), api.ErrSize},
		{strings.Repeat("g", 64), api.ErrForm},
		{strings.ToUpper(abc), api.ErrForm},
		{abc[:63] + "F", api.ErrForm},
		{"G" + abc[1:], api.ErrForm},
		{abc[:62] + "é", api.ErrForm},
		{strings.Repeat("\x00", 64), api.ErrForm},
		{strings.Repeat("0", 64), api.OK},
	} {
		wantCheck(t, []api.Part{part("a", c.digest, 3)}, c.want)
		wantCheck(t, []api.Part{part("!", abc, 3), part("a", c.digest, 3)}, c.want)
		wantCheck(t, []api.Part{part("a", c.digest, 3), part("b", abc, 3)}, c.want)
	}
}

// P5.2
func TestCheckSizes(t *testing.T) {
	for size := -400; size < 800; size++ {
		want := api.OK
		if size < 0 || size > 300 {
			want = api.ErrRange
		}
		wantCheck(t, []api.Part{part("a", abc, size)}, want)
		wantCheck(t, []api.Part{part("!", abc, 3), part("a", abc, size), part("b", abc, 3)}, want)
	}
	for _, size := range []int{api.MaxNumber, api.MaxNumber + 1, 1 << 32, 1<<32 + 3, -1 << 32, math.MaxInt, math.MinInt} {
		wantCheck(t, []api.Part{part("a", abc, size)}, api.ErrRange)
	}
}

// P5.2: a name, its order, the digest and the size are checked in this order.
func TestCheckFirstErrorOfPart(t *testing.T) {
	badDigest := strings.Repeat("g", 64)
	for _, c := range []struct {
		second api.Part
		want   api.Errno
	}{
		{part("", "x", 301), api.ErrSize},
		{part("", badDigest, -1), api.ErrSize},
		{part(" ", "x", 301), api.ErrForm},
		{part("m m", "x", 301), api.ErrForm},
		{part("b b", abc, 3), api.ErrForm},
		{part("bbbbbbbbbbbbb", abc, 3), api.ErrSize},
		{part("m", "x", 301), api.ErrTwice},
		{part("b", badDigest, -1), api.ErrTwice},
		{part("m", abc, 301), api.ErrTwice},
		{part("n", "x", 301), api.ErrSize},
		{part("n", badDigest, 301), api.ErrForm},
		{part("n", badDigest, -1), api.ErrForm},
		{part("n", abc, 301), api.ErrRange},
	} {
		wantCheck(t, []api.Part{part("m", abc, 3), c.second}, c.want)
		wantCheck(t, []api.Part{part("m", abc, 3), c.second, part("", "", -1)}, c.want)
	}
}

// P5.2: all of a part is checked before anything of the next one.
func TestCheckPartByPart(t *testing.T) {
	badDigest := strings.Repeat("g", 64)
	wantCheck(t, []api.Part{part("b", abc, 301), part("", "", 0)}, api.ErrRange)
	wantCheck(t, []api.Part{part("b", abc, 301), part("a", abc, 3)}, api.ErrRange)
	wantCheck(t, []api.Part{part("b", abc, -1), part("c", badDigest, 3)}, api.ErrRange)
	wantCheck(t, []api.Part{part("b", badDigest, 3), part("", abc, 3)}, api.ErrForm)
	wantCheck(t, []api.Part{part("b", badDigest, 3), part("b", abc, 3)}, api.ErrForm)
	wantCheck(t, []api.Part{part("b", "", 3), part("a b", abc, 3)}, api.ErrSize)
	wantCheck(t, []api.Part{part("b b", abc, 3), part("", abc, 3)}, api.ErrForm)
	wantCheck(t, []api.Part{part("b", abc, 3), part("a", abc, 3), part("", abc, 3)}, api.ErrTwice)
	for i := range 8 {
		l := some(8)
		l[i].Size = 301
		for j := i + 1; j < 8; j++ {
			l[j].Name = ""
		}
		wantCheck(t, l, api.ErrRange)
	}
}

// P5.3, P5.4
func TestEncodeKnown(t *testing.T) {
	for _, c := range []struct {
		parts []api.Part
		want  string
	}{
		{nil, "AM1\x00"},
		{[]api.Part{}, "AM1\x00"},
		{
			[]api.Part{part("a", "000102030405060708090a0b0c0d0e0f101112131415161718191a1b1c1d1e1f", 3)},
			"AM1\x01\x01a\x00\x01\x02\x03\x04\x05\x06\x07\x08\x09\x0a\x0b\x0c\x0d\x0e\x0f" +
				"\x10\x11\x12\x13\x14\x15\x16\x17\x18\x19\x1a\x1b\x1c\x1d\x1e\x1f\x03",
		},
		{
			[]api.Part{part("a.o", strings.Repeat("f0", 32), 0), part("out", strings.Repeat("0f", 32), 300)},
			"AM1\x02\x03a.o" + strings.Repeat("\xf0", 32) + "\x00\x03out" + strings.Repeat("\x0f", 32) + "\xac\x02",
		},
	} {
		got, err := Encode(c.parts)
		if string(got) != c.want || err != api.OK {
			t.Errorf("Encode(%v) = %q, %d, want %q", c.parts, got, err, c.want)
		}
		wantDecode(t, []byte(c.want), c.parts, api.OK)
	}
}

// P5.3, P5.4
func TestEncodeAndDecodeGood(t *testing.T) {
	for _, l := range good() {
		got, err := Encode(l)
		if want := rawOf(l); !slices.Equal(got, want) || err != api.OK {
			t.Errorf("Encode(%v) = %q, %d, want %q", l, got, err, want)
		}
		wantDecode(t, rawOf(l), l, api.OK)
	}
	for size := range 301 {
		l := []api.Part{part("a", abc, size), part("b", nothing, 300-size)}
		got, err := Encode(l)
		if want := rawOf(l); !slices.Equal(got, want) || err != api.OK {
			t.Errorf("Encode(%v) = %q, %d, want %q", l, got, err, want)
		}
		wantDecode(t, rawOf(l), l, api.OK)
	}
}

// P5.4: the size is told before anything else.
func TestDecodeSize(t *testing.T) {
	for _, c := range []struct {
		n    int
		want api.Errno
	}{{1999, api.ErrForm}, {2000, api.ErrForm}, {2001, api.ErrSize}, {2002, api.ErrSize}, {100000, api.ErrSize}} {
		wantDecode(t, make([]byte, c.n), nil, c.want)
		wantDecode(t, joined(raw(0), make([]byte, c.n-4)), nil, c.want)
		wantDecode(t, joined(raw(1, rawPart("a", abc, 3)), make([]byte, c.n-39)), nil, c.want)
	}
}

// P5.4
func TestDecodeHead(t *testing.T) {
	for _, s := range []string{
		"", "A", "AM", "AM2", "AM2\x00", "AM\x001", "am1\x00", "AA1\x00", "1MA\x00", "\x00AM1\x00", " AM1\x00", "AM", "A\x00\x00\x00", "M1\x00", "BM1\x00",
	} {
		wantDecode(t, []byte(s), nil, api.ErrForm)
	}
	wantDecode(t, nil, nil, api.ErrForm)
	for i := range 3 {
		for x := range 256 {
			b := raw(1, rawPart("a", abc, 3))
			if b[i] == byte(x) {
				continue
			}
			b[i] = byte(x)
			wantDecode(t, b, nil, api.ErrForm)
		}
	}
}

// P5.4
func TestDecodeNumberOfParts(t *testing.T) {
	head := []byte("AM1")
	for _, c := range []struct {
		bytes []byte
		want  api.Errno
	}{
		{nil, api.ErrShort},
		{[]byte{128}, api.ErrShort},
		{[]byte{255, 255, 255, 255}, api.ErrShort},
		{[]byte{128, 0}, api.ErrForm},
		{[]byte{136, 0}, api.ErrForm},
		{[]byte{255, 255, 255, 255, 255}, api.ErrForm},
		{[]byte{255, 255, 255, 255, 16}, api.ErrForm},
		{[]byte{255, 255, 255, 255, 15}, api.ErrSize},
		{[]byte{9}, api.ErrSize},
		{[]byte{10}, api.ErrSize},
		{[]byte{127}, api.ErrSize},
		{[]byte{128, 1}, api.ErrSize},
		{[]byte{8}, api.ErrShort},
		{[]byte{1}, api.ErrShort},
	} {
		wantDecode(t, joined(head, c.bytes), nil, c.want)
	}
	// More than eight parts are told before what is wrong behind their number.
	wantDecode(t, raw(9, rawPart("a", abc, 3)), nil, api.ErrSize)
	wantDecode(t, rawOf(some(9)), nil, api.ErrSize)
	wantDecode(t, rawOf(some(20)), nil, api.ErrSize)
	// The number decides how many parts are read.
	parts := rawOf(some(8))[4:]
	for n := range 8 {
		wantDecode(t, raw(n, parts), nil, api.ErrForm)
	}
	wantDecode(t, raw(8, parts), some(8), api.OK)
	for n := 1; n < 9; n++ {
		wantDecode(t, raw(n, rawOf(some(n - 1))[4:]), nil, api.ErrShort)
	}
}

// P5.4: no part of an encoding that ends early is one.
func TestDecodeEveryBeginning(t *testing.T) {
	for _, l := range good() {
		b := rawOf(l)
		for n := range b {
			want := api.ErrShort
			if n < 3 {
				want = api.ErrForm
			}
			// The first one has the other bytes beyond its length, where they do not count.
			wantDecode(t, b[:n], nil, want)
			wantDecode(t, b[:n:n], nil, want)
		}
	}
}

// P5.4
func TestDecodeFurtherBytes(t *testing.T) {
	for _, l := range good() {
		for _, more := range [][]byte{{0}, {1}, {128}, {255}, []byte("AM1\x00"), rawPart("~~", abc, 3), make([]byte, 1000)} {
			wantDecode(t, joined(rawOf(l), more), nil, api.ErrForm)
		}
	}
}

// P5.4: names have the errors of chapter 4 when they are read.
func TestDecodeNameAsText(t *testing.T) {
	behind := joined(digest(abc), varint(3))
	for _, c := range []struct {
		name []byte
		want api.Errno
	}{
		{[]byte{129, 0, 97}, api.ErrForm},
		{[]byte{255, 255, 255, 255, 255}, api.ErrForm},
		{[]byte{255, 255, 255, 255, 16}, api.ErrForm},
		{[]byte{255, 255, 255, 255, 15}, api.ErrSize},
		{varint(2001), api.ErrSize},
		{varint(2000), api.ErrShort},
		{varint(100), api.ErrShort},
		{varint(40), api.ErrShort},
		// The name takes some of the digest, which is then too short.
		{[]byte{2, 97}, api.ErrShort},
		{[]byte{12, 97}, api.ErrShort},
	} {
		wantDecode(t, raw(1, c.name, behind), nil, c.want)
		wantDecode(t, raw(2, rawPart("A", abc, 3), c.name, behind), nil, c.want)
	}
	wantDecode(t, raw(1, []byte{128}), nil, api.ErrShort)
	wantDecode(t, raw(1, varint(2001), make([]byte, 1900)), nil, api.ErrSize)
	wantDecode(t, raw(1, rawPart(strings.Repeat("a", 1900), abc, 3)), nil, api.ErrSize)
}

// P5.4: a digest may be any 32 bytes.
func TestDecodeDigest(t *testing.T) {
	for x := range 256 {
		d := strings.Repeat(hex.EncodeToString([]byte{byte(x)}), 32)
		wantDecode(t, raw(1, rawPart("a", d, 3)), []api.Part{part("a", d, 3)}, api.OK)
	}
	for n := range 32 {
		wantDecode(t, raw(1, text("a"), make([]byte, n)), nil, api.ErrShort)
		wantDecode(t, raw(2, rawPart("a", abc, 3), text("b"), make([]byte, n)), nil, api.ErrShort)
	}
}

// P5.4: sizes have the errors of chapter 4 when they are read, and their range is told last.
func TestDecodeSizeOfPart(t *testing.T) {
	before := joined(text("a"), digest(abc))
	for _, c := range []struct {
		size []byte
		want api.Errno
	}{
		{nil, api.ErrShort},
		{[]byte{128}, api.ErrShort},
		{[]byte{172}, api.ErrShort},
		{[]byte{255, 255, 255, 255}, api.ErrShort},
		{[]byte{131, 0}, api.ErrForm},
		{[]byte{172, 130, 0}, api.ErrForm},
		{[]byte{255, 255, 255, 255, 255}, api.ErrForm},
		{[]byte{255, 255, 255, 255, 16}, api.ErrForm},
		{varint(301), api.ErrRange},
		{varint(1 << 31), api.ErrRange},
		{varint(api.MaxNumber), api.ErrRange},
	} {
		wantDecode(t, raw(1, before, c.size), nil, c.want)
		wantDecode(t, raw(2, rawPart("A", abc, 3), before, c.size), nil, c.want)
	}
	wantDecode(t, raw(1, before, varint(300)), []api.Part{part("a", abc, 300)}, api.OK)
}

// P5.4: what may not be in a manifest.
func TestDecodeChecks(t *testing.T) {
	for _, c := range []struct {
		parts []api.Part
		want  api.Errno
	}{
		{[]api.Part{part("", abc, 3)}, api.ErrSize},
		{[]api.Part{part("abcdefghijklm", abc, 3)}, api.ErrSize},
		{[]api.Part{part("a b", abc, 3)}, api.ErrForm},
		{[]api.Part{part("\x00", abc, 3)}, api.ErrForm},
		{[]api.Part{part("é", abc, 3)}, api.ErrForm},
		{[]api.Part{part("a", abc, 3), part("a", abc, 3)}, api.ErrTwice},
		{[]api.Part{part("b", abc, 3), part("a", abc, 3)}, api.ErrTwice},
		{[]api.Part{part("a", abc, 301)}, api.ErrRange},
		{[]api.Part{part("b", abc, 301), part("a", abc, 3)}, api.ErrRange},
		{[]api.Part{part("b", abc, 3), part("a", abc, 301)}, api.ErrTwice},
	} {
		b := rawOf(c.parts)
		wantDecode(t, b, nil, c.want)
		// Bytes that are too few or too many are told before that.
		wantDecode(t, b[:len(b)-1], nil, api.ErrShort)
		wantDecode(t, joined(b, []byte{0}), nil, api.ErrForm)
		more := slices.Clone(b)
		more[3]++
		wantDecode(t, more, nil, api.ErrShort)
		wantDecode(t, joined(more, text("z")), nil, api.ErrShort)
		wantDecode(t, joined(more, varint(2001)), nil, api.ErrSize)
		wantDecode(t, joined(more, []byte{129, 0}), nil, api.ErrForm)
	}
}

// P5.3, P5.4: bytes that differ from an encoding in one place are refused, or are the encoding of something else.
func TestDecodeEveryChange(t *testing.T) {
	for _, l := range [][]api.Part{{part("a", abc, 3)}, {part("a.o", abc, 300), part("b", nothing, 0)}, some(4)} {
		original := rawOf(l)
		for i := range original {
			for x := range 256 {
				b := slices.Clone(original)
				b[i] = byte(x)
				got, err := Decode(b)
				if err != api.OK {
					if len(got) != 0 {
						t.Fatalf("Decode(%q) = %v with error %d", b, got, err)
					}
					continue
				}
				back, err := Encode(got)
				if err != api.OK || !slices.Equal(back, b) {
					t.Fatalf("Decode(%q) = %v, whose encoding is %q, %d", b, got, back, err)
				}
			}
		}
	}
}

// P5.2 to P5.4, with the document's general rule on memory.
func TestArgumentsStay(t *testing.T) {
	l := some(8)
	Check(l[:4])
	first, _ := Encode(l[:4])
	second, _ := Encode(l[:4])
	if !slices.Equal(l, some(8)) {
		t.Errorf("Check or Encode changed its argument: %v", l)
	}
	clear(first[:cap(first)])
	if !slices.Equal(second, rawOf(some(4))) {
		t.Errorf("two results of Encode share memory: %q", second)
	}

	original := joined(rawOf(some(4)), []byte{1, 2, 3})
	b := slices.Clone(original)
	one, _ := Decode(b[:len(b)-3])
	two, _ := Decode(b[:len(b)-3])
	if !slices.Equal(b, original) {
		t.Errorf("Decode changed its argument: %q", b)
	}
	clear(one[:cap(one)])
	clear(b)
	if !slices.Equal(two, some(4)) {
		t.Errorf("a result of Decode shares memory: %v", two)
	}
}
