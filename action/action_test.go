package action

import (
	"crypto/sha256"
	"encoding/binary"
	"encoding/hex"
	"math"
	"slices"
	"strings"
	"testing"

	"appleloft/api"
)

const (
	abc     = "ba7816bf8f01cfea414140de5dae2223b00361a396177a9cb410ff61f20015ad"
	nothing = "e3b0c44298fc1c149afbf4c8996fb92427ae41e4649b934ca495991b7852b855"
)

// varint is the library's encoding, which has the form that chapter 4 describes.
func varint(n int) []byte {
	return binary.AppendUvarint(nil, uint64(n))
}

func joined(lists ...[]byte) []byte {
	return slices.Concat(lists...)
}

// text is a string behind its length.
func text(s string) []byte {
	return joined(varint(len(s)), []byte(s))
}

func part(name, digest string, size int) api.Part {
	return api.Part{Name: name, Digest: digest, Size: size}
}

func act(command string, inputs ...api.Part) api.Action {
	return api.Action{Command: command, Inputs: inputs}
}

// rawInputs writes parts as chapter 5 says, whether or not they may be a manifest.
func rawInputs(l []api.Part) []byte {
	b := joined([]byte("AM1"), varint(len(l)))
	for _, p := range l {
		digest, err := hex.DecodeString(p.Digest)
		if err != nil {
			panic(err)
		}
		b = joined(b, text(p.Name), digest, varint(p.Size))
	}
	return b
}

// raw writes an action as the chapter says, whether or not it may be one.
func raw(a api.Action) []byte {
	return joined([]byte("AA1"), text(a.Command), rawInputs(a.Inputs))
}

// keyOf is the library's digest of what raw writes.
func keyOf(a api.Action) string {
	sum := sha256.Sum256(raw(a))
	return hex.EncodeToString(sum[:])
}

// digestOf is a digest that tells one number from another.
func digestOf(n int) string {
	b := make([]byte, 32)
	for i := range b {
		b[i] = byte(n*71 + i*37)
	}
	return hex.EncodeToString(b)
}

// some parts that are a manifest, as many as n, with names of one to twelve bytes.
func some(n int) []api.Part {
	var l []api.Part
	for i := range n {
		name := string([]byte{byte('a' + i)}) + strings.Repeat("~", i*5%12)
		l = append(l, part(name, digestOf(i), i*43%301))
	}
	return l
}

// greatest has as many bytes as an action may have.
func greatest() api.Action {
	var l []api.Part
	for i := range 8 {
		l = append(l, part("abcdefghijk"+string([]byte{byte('a' + i)}), digestOf(i), 300))
	}
	return act(strings.Repeat("c", 60), l...)
}

// good actions, all different.
func good() []api.Action {
	l := []api.Action{
		act("cc"),
		act("cc "),
		act("cc -c a.c"),
		act(" "),
		act("~"),
		act("AM1"),
		act("cc", part("a", abc, 3)),
		act("cc", part("a", abc, 4)),
		act("cc", part("b", abc, 3)),
		act("cc", part("a", nothing, 3)),
		act("cc", part("a", abc, 3), part("b", nothing, 0)),
		act("cc", part("a", nothing, 0), part("b", abc, 3)),
		act("cd", part("a", abc, 3)),
		act("cca", part("a", abc, 3)),
		act("c", part("ca", abc, 3)),
		act("cc", part("!", abc, 300), part("~~~~~~~~~~~~", nothing, 0)),
		act("cc", part("10", abc, 3), part("9", abc, 3)),
		greatest(),
	}
	for n := range 9 {
		l = append(l, act(strings.Repeat("x", 7*n+4), some(n)...))
	}
	return l
}

func same(a, b api.Action) bool {
	return a.Command == b.Command && slices.Equal(a.Inputs, b.Inputs)
}

// wantCheck checks a call of Check, and that Encode and Key have its error, with no other result.
func wantCheck(t *testing.T, a api.Action, want api.Errno) {
	t.Helper()
	if err := Check(a); err != want {
		t.Errorf("Check(%+v) = %d, want %d", a, err, want)
	}
	b, err := Encode(a)
	if err != want || (len(b) == 0) != (want != api.OK) {
		t.Errorf("Encode(%+v) = %q, %d, want error %d", a, b, err, want)
	}
	key, err := Key(a)
	if err != want || (key == "") != (want != api.OK) {
		t.Errorf("Key(%+v) = %q, %d, want error %d", a, key, err, want)
	}
}

// wantDecode checks a call of Decode that has an action.
func wantDecode(t *testing.T, b []byte, want api.Action) {
	t.Helper()
	got, err := Decode(b)
	if !same(got, want) || err != api.OK {
		t.Errorf("Decode(%q) = %+v, %d, want %+v", b, got, err, want)
	}
}

// wantNone checks a call of Decode that has an error; together with it there is no part of an action.
func wantNone(t *testing.T, b []byte, want api.Errno) {
	t.Helper()
	got, err := Decode(b)
	if got.Command != "" || len(got.Inputs) != 0 || err != want {
		t.Errorf("Decode(%q) = %+v, %d, want error %d", b, got, err, want)
	}
}

// P6.1
func TestCheckGood(t *testing.T) {
	for _, a := range good() {
		wantCheck(t, a, api.OK)
	}
	wantCheck(t, api.Action{Command: "cc", Inputs: []api.Part{}}, api.OK)
}

// P6.1, P6.3
func TestCommandOfEveryByte(t *testing.T) {
	for x := range 256 {
		for _, c := range [][2]string{{"", ""}, {"a", ""}, {"", "a"}, {"a", "a"}, {strings.Repeat("a", 59), ""}, {"", strings.Repeat("a", 59)}} {
			a := act(c[0]+string([]byte{byte(x)})+c[1], some(2)...)
			if x < 32 || x > 126 {
				wantCheck(t, a, api.ErrForm)
				wantNone(t, raw(a), api.ErrForm)
				continue
			}
			wantCheck(t, a, api.OK)
			wantDecode(t, raw(a), a)
		}
	}
}

// P6.1, P6.3
func TestCommandOfEveryLength(t *testing.T) {
	for n := range 300 {
		a := act(strings.Repeat("x", n), some(1)...)
		bad := act(strings.Repeat("\n", n), some(1)...)
		if n < 1 || n > 60 {
			for _, a := range []api.Action{a, bad} {
				wantCheck(t, a, api.ErrSize)
				wantNone(t, raw(a), api.ErrSize)
			}
			continue
		}
		wantCheck(t, a, api.OK)
		wantDecode(t, raw(a), a)
		wantCheck(t, bad, api.ErrForm)
		wantNone(t, raw(bad), api.ErrForm)
	}
	wantCheck(t, act(strings.Repeat("x", 100000)), api.ErrSize)
	wantCheck(t, api.Action{}, api.ErrSize)
}

// P6.1: the length of a command is counted in bytes, and told before its form.
func TestCommandKnown(t *testing.T) {
	for _, c := range []struct {
		command string
		want    api.Errno
	}{
		{"cc -o a.out a.c", api.OK},
		{" ~", api.OK},
		{"\"'`$\\{}", api.OK},
		{"a\n", api.ErrForm},
		{"\ta", api.ErrForm},
		{"a\x00", api.ErrForm},
		{"a\x7f", api.ErrForm},
		{"a\x1f", api.ErrForm},
		{"é", api.ErrForm},
		{strings.Repeat("é", 30), api.ErrForm},
		{strings.Repeat("é", 31), api.ErrSize},
		{strings.Repeat("x", 59) + "\n", api.ErrForm},
		{strings.Repeat("x", 60) + "\n", api.ErrSize},
	} {
		wantCheck(t, act(c.command), c.want)
		wantCheck(t, act(c.command, some(8)...), c.want)
		if c.want != api.OK {
			wantNone(t, raw(act(c.command)), c.want)
		}
	}
}

// badInputs have the errors of chapter 5.
func badInputs() []struct {
	inputs []api.Part
	want   api.Errno
} {
	badDigest := strings.Repeat("g", 64)
	return []struct {
		inputs []api.Part
		want   api.Errno
	}{
		{some(9), api.ErrSize},
		{make([]api.Part, 100), api.ErrSize},
		{slices.Repeat([]api.Part{part("a b", abc, -1)}, 9), api.ErrSize},
		{[]api.Part{part("", abc, 3)}, api.ErrSize},
		{[]api.Part{part("abcdefghijklm", abc, 3)}, api.ErrSize},
		{[]api.Part{part("a b", abc, 3)}, api.ErrForm},
		{[]api.Part{part("é", abc, 3)}, api.ErrForm},
		{[]api.Part{part("a", abc, 3), part("a", abc, 3)}, api.ErrTwice},
		{[]api.Part{part("b", abc, 3), part("a", abc, 3)}, api.ErrTwice},
		{[]api.Part{part("a", "", 3)}, api.ErrSize},
		{[]api.Part{part("a", abc[:63], 3)}, api.ErrSize},
		{[]api.Part{part("a", badDigest, 3)}, api.ErrForm},
		{[]api.Part{part("a", strings.ToUpper(abc), 3)}, api.ErrForm},
		{[]api.Part{part("a", abc, -1)}, api.ErrRange},
		{[]api.Part{part("a", abc, 301)}, api.ErrRange},
		{[]api.Part{part("a", abc, math.MaxInt)}, api.ErrRange},
		{[]api.Part{part("a", abc, math.MinInt)}, api.ErrRange},
		{[]api.Part{part("b", abc, 301), part("a", abc, 3)}, api.ErrRange},
		{[]api.Part{part("b", abc, 3), part("a", badDigest, 301)}, api.ErrTwice},
		{append(some(7), part("z", abc, 301)), api.ErrRange},
	}
}

// P6.1: what is wrong with a command is told before what is wrong with the inputs.
func TestCheckInputs(t *testing.T) {
	for _, c := range badInputs() {
		wantCheck(t, act("cc", c.inputs...), c.want)
		wantCheck(t, act(strings.Repeat("x", 60), c.inputs...), c.want)
		wantCheck(t, act("", c.inputs...), api.ErrSize)
		wantCheck(t, act(strings.Repeat("x", 61), c.inputs...), api.ErrSize)
		wantCheck(t, act("c\n", c.inputs...), api.ErrForm)
	}
}

// P6.2 to P6.4
func TestEncodeKnown(t *testing.T) {
	for _, c := range []struct {
		action api.Action
		want   string
	}{
		{act("cc"), "AA1\x02ccAM1\x00"},
		{act(" "), "AA1\x01 AM1\x00"},
		{
			act("cc -c a.c", part("a.c", "000102030405060708090a0b0c0d0e0f101112131415161718191a1b1c1d1e1f", 3)),
			"AA1\x09cc -c a.cAM1\x01\x03a.c\x00\x01\x02\x03\x04\x05\x06\x07\x08\x09\x0a\x0b\x0c\x0d\x0e\x0f" +
				"\x10\x11\x12\x13\x14\x15\x16\x17\x18\x19\x1a\x1b\x1c\x1d\x1e\x1f\x03",
		},
		{
			act("ld", part("a.o", strings.Repeat("f0", 32), 0), part("b.o", strings.Repeat("0f", 32), 300)),
			"AA1\x02ldAM1\x02\x03a.o" + strings.Repeat("\xf0", 32) + "\x00\x03b.o" + strings.Repeat("\x0f", 32) + "\xac\x02",
		},
	} {
		got, err := Encode(c.action)
		if string(got) != c.want || err != api.OK {
			t.Errorf("Encode(%+v) = %q, %d, want %q", c.action, got, err, c.want)
		}
		wantDecode(t, []byte(c.want), c.action)
		sum := sha256.Sum256([]byte(c.want))
		key, err := Key(c.action)
		if key != hex.EncodeToString(sum[:]) || err != api.OK {
			t.Errorf("Key(%+v) = %q, %d, want %x", c.action, key, err, sum)
		}
	}
}

// P6.2 to P6.4
func TestEncodeDecodeAndKeyOfGood(t *testing.T) {
	for _, a := range good() {
		got, err := Encode(a)
		if want := raw(a); !slices.Equal(got, want) || err != api.OK {
			t.Errorf("Encode(%+v) = %q, %d, want %q", a, got, err, want)
		}
		wantDecode(t, raw(a), a)
		key, err := Key(a)
		if want := keyOf(a); key != want || err != api.OK {
			t.Errorf("Key(%+v) = %q, %d, want %q", a, key, err, want)
		}
	}
}

// P6.2, P6.4: what differs in anything has another encoding and another key.
func TestDifferentActions(t *testing.T) {
	encodings, keys := map[string]bool{}, map[string]bool{}
	for _, a := range good() {
		b, _ := Encode(a)
		key, _ := Key(a)
		if encodings[string(b)] || keys[key] {
			t.Errorf("another action has the encoding %q or the key %q", b, key)
		}
		encodings[string(b)], keys[key] = true, true
	}
}

// P6.4: no inputs are the same whether or not there is a list.
func TestKeyWithoutInputs(t *testing.T) {
	first, _ := Key(api.Action{Command: "cc"})
	second, _ := Key(api.Action{Command: "cc", Inputs: []api.Part{}})
	if first != keyOf(act("cc")) || second != first {
		t.Errorf("keys without inputs are %q and %q", first, second)
	}
}

// P6.3: the size is told before anything else.
func TestDecodeSize(t *testing.T) {
	for _, c := range []struct {
		n    int
		want api.Errno
	}{{1999, api.ErrForm}, {2000, api.ErrForm}, {2001, api.ErrSize}, {2002, api.ErrSize}, {100000, api.ErrSize}} {
		wantNone(t, make([]byte, c.n), c.want)
		for _, a := range []api.Action{act("cc"), act("cc", some(3)...), greatest()} {
			b := raw(a)
			wantNone(t, joined(b, make([]byte, c.n-len(b))), c.want)
		}
	}
	// A command that fills all the bytes leaves none for the inputs, which then do not begin as they must.
	command := strings.Repeat("x", 1995)
	wantNone(t, joined([]byte("AA1"), text(command)), api.ErrForm)
	wantNone(t, joined([]byte("AA1"), text(command), []byte("A")), api.ErrSize)
}

// P6.3
func TestDecodeHead(t *testing.T) {
	for _, s := range []string{
		"", "A", "AA", "AA2", "AA2\x02ccAM1\x00", "AM1\x00", "AM1\x02ccAM1\x00", "aa1\x02ccAM1\x00", "1AA\x02ccAM1\x00",
		" AA1\x02ccAM1\x00", "\x00AA1\x02ccAM1\x00", "A1\x02ccAM1\x00", "\x02ccAM1\x00", "AA\x02ccAM1\x00",
	} {
		wantNone(t, []byte(s), api.ErrForm)
	}
	wantNone(t, nil, api.ErrForm)
	for i := range 3 {
		for x := range 256 {
			b := raw(act("cc", some(2)...))
			if b[i] == byte(x) {
				continue
			}
			b[i] = byte(x)
			wantNone(t, b, api.ErrForm)
		}
	}
	// The head is told before what is behind it.
	wantNone(t, []byte("AA2\x80"), api.ErrForm)
	wantNone(t, joined([]byte("AA2"), varint(2001)), api.ErrForm)
}

// P6.3: a command has the errors of chapter 4 when it is read.
func TestDecodeCommandAsText(t *testing.T) {
	for _, c := range []struct {
		bytes []byte
		want  api.Errno
	}{
		{nil, api.ErrShort},
		{[]byte{128}, api.ErrShort},
		{[]byte{255, 255, 255, 255}, api.ErrShort},
		{[]byte{2, 97}, api.ErrShort},
		{[]byte{60}, api.ErrShort},
		{varint(61), api.ErrShort},
		{varint(2000), api.ErrShort},
		{varint(2001), api.ErrSize},
		{varint(api.MaxNumber), api.ErrSize},
		{joined(varint(2001), make([]byte, 1990)), api.ErrSize},
		{joined(varint(2000), make([]byte, 1990)), api.ErrShort},
		{[]byte{255, 255, 255, 255, 255}, api.ErrForm},
		{[]byte{255, 255, 255, 255, 16}, api.ErrForm},
		{joined([]byte{130, 0}, []byte("cc"), rawInputs(nil)), api.ErrForm},
		{joined([]byte{128, 0}, rawInputs(nil)), api.ErrForm},
		// A length that is not that of the command leaves something else for the inputs.
		{[]byte("\x01ccAM1\x00"), api.ErrForm},
		{[]byte("\x03ccAM1\x00"), api.ErrForm},
		{[]byte("\x06ccAM1\x00"), api.ErrForm},
		{[]byte("\x07ccAM1\x00"), api.ErrShort},
	} {
		wantNone(t, joined([]byte("AA1"), c.bytes), c.want)
	}
}

// P6.3: the bytes behind the command have the errors of chapter 5, told before those of the command.
func TestDecodeInputs(t *testing.T) {
	one := rawInputs(some(1))
	for _, c := range []struct {
		bytes []byte
		want  api.Errno
	}{
		{nil, api.ErrForm},
		{[]byte("A"), api.ErrForm},
		{[]byte("AM"), api.ErrForm},
		{[]byte("AM2\x00"), api.ErrForm},
		{[]byte("AA1\x00"), api.ErrForm},
		{[]byte("AM1"), api.ErrShort},
		{[]byte("AM1\x80"), api.ErrShort},
		{[]byte("AM1\x80\x00"), api.ErrForm},
		{[]byte("AM1\x09"), api.ErrSize},
		{[]byte("AM1\xff\xff\xff\xff\x0f"), api.ErrSize},
		{[]byte("AM1\x01"), api.ErrShort},
		{[]byte("AM1\x00x"), api.ErrForm},
		{[]byte("AM1\x00AM1\x00"), api.ErrForm},
		{joined([]byte("AM1\x01"), varint(2001)), api.ErrSize},
		{joined([]byte("AM1\x01"), []byte{129, 0, 97}), api.ErrForm},
		{joined([]byte("AM1\x01"), text("a"), make([]byte, 31)), api.ErrShort},
		{joined([]byte("AM1\x01"), text("a"), make([]byte, 32)), api.ErrShort},
		{joined([]byte("AM1\x01"), text("a"), make([]byte, 32), []byte{131, 0}), api.ErrForm},
		{one[:len(one)-1], api.ErrShort},
		{joined(one, []byte{0}), api.ErrForm},
		{rawInputs(some(9)), api.ErrSize},
		{rawInputs([]api.Part{part("", abc, 3)}), api.ErrSize},
		{rawInputs([]api.Part{part("abcdefghijklm", abc, 3)}), api.ErrSize},
		{rawInputs([]api.Part{part("a b", abc, 3)}), api.ErrForm},
		{rawInputs([]api.Part{part("a", abc, 3), part("a", abc, 3)}), api.ErrTwice},
		{rawInputs([]api.Part{part("b", abc, 3), part("a", abc, 3)}), api.ErrTwice},
		{rawInputs([]api.Part{part("a", abc, 301)}), api.ErrRange},
		{rawInputs([]api.Part{part("a", abc, api.MaxNumber)}), api.ErrRange},
	} {
		for _, command := range []string{"cc", strings.Repeat("x", 60), "", strings.Repeat("x", 61), strings.Repeat("x", 1000), "c\n", "\xff"} {
			wantNone(t, joined([]byte("AA1"), text(command), c.bytes), c.want)
		}
	}
}

// P6.3: no part of an encoding that ends early is one.
func TestDecodeEveryBeginning(t *testing.T) {
	for _, a := range good() {
		b := raw(a)
		inputs := 3 + len(text(a.Command))
		for n := range b {
			want := api.ErrShort
			// Here the bytes end within AA1, or within AM1.
			if n < 3 || n >= inputs && n < inputs+3 {
				want = api.ErrForm
			}
			// The first one has the other bytes beyond its length, where they do not count.
			wantNone(t, b[:n], want)
			wantNone(t, b[:n:n], want)
		}
	}
}

// P6.3
func TestDecodeFurtherBytes(t *testing.T) {
	for _, a := range good() {
		for _, more := range [][]byte{{0}, {1}, {128}, {255}, []byte("AM1\x00"), raw(act("cc")), make([]byte, 1000)} {
			wantNone(t, joined(raw(a), more), api.ErrForm)
		}
	}
}

// P6.2, P6.3: bytes that differ from an encoding in one place are refused, or are the encoding of something else.
func TestDecodeEveryChange(t *testing.T) {
	for _, a := range []api.Action{act("cc"), act("cc -c a.c", part("a.c", abc, 300), part("b", nothing, 0)), greatest()} {
		original := raw(a)
		for i := range original {
			for x := range 256 {
				b := slices.Clone(original)
				b[i] = byte(x)
				got, err := Decode(b)
				if err != api.OK {
					if !same(got, api.Action{}) {
						t.Fatalf("Decode(%q) = %+v with error %d", b, got, err)
					}
					continue
				}
				back, err := Encode(got)
				if err != api.OK || !slices.Equal(back, b) {
					t.Fatalf("Decode(%q) = %+v, whose encoding is %q, %d", b, got, back, err)
				}
			}
		}
	}
}

// P6.1, P6.2 and P6.4, with the document's general rules on memory and on state.
func TestActionsStay(t *testing.T) {
	l := some(8)
	a := act("cc", l[:4]...)
	Check(a)
	firstKey, _ := Key(a)
	first, _ := Encode(a)
	second, _ := Encode(a)
	Key(greatest())
	secondKey, _ := Key(a)
	if !slices.Equal(l, some(8)) {
		t.Errorf("Check, Encode or Key changed its argument: %v", l)
	}
	clear(first[:cap(first)])
	if want := raw(act("cc", some(4)...)); !slices.Equal(second, want) {
		t.Errorf("two results of Encode share memory: %q", second)
	}
	if firstKey != secondKey {
		t.Errorf("Key of the same action is %q and then %q", firstKey, secondKey)
	}
}

// P6.3, with the document's general rule on memory.
func TestDecodedBytesStay(t *testing.T) {
	original := joined(raw(act("cc", some(4)...)), []byte{1, 2, 3})
	b := slices.Clone(original)
	one, _ := Decode(b[:len(b)-3])
	two, _ := Decode(b[:len(b)-3])
	if !slices.Equal(b, original) {
		t.Errorf("Decode changed its argument: %q", b)
	}
	clear(one.Inputs[:cap(one.Inputs)])
	clear(b)
	if !same(two, act("cc", some(4)...)) {
		t.Errorf("a result of Decode shares memory: %+v", two)
	}
}
