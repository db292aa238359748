package hex

import (
	"fmt"
	"slices"
	"strings"
	"testing"

	"appleloft/api"
)

const abc = "ba7816bf8f01cfea414140de5dae2223b00361a396177a9cb410ff61f20015ad"

// counting has n bytes that tell one place from another.
func counting(n int) []byte {
	b := make([]byte, n)
	for i := range b {
		b[i] = byte(i*37 + i/256)
	}
	return b
}

// replaced is s with the byte c in place i.
func replaced(s string, i int, c byte) string {
	return s[:i] + string([]byte{c}) + s[i+1:]
}

// isDigitOfDocument looks the byte up in the list that the chapter gives.
func isDigitOfDocument(c byte) bool {
	return strings.IndexByte("0123456789abcdef", c) >= 0
}

// wantBytes checks a call of Bytes; together with an error there is no byte.
func wantBytes(t *testing.T, s string, want []byte, wantErr api.Errno) {
	t.Helper()
	got, err := Bytes(s)
	if !slices.Equal(got, want) || err != wantErr {
		t.Errorf("Bytes(%q) = %v, %d, want %v, %d", s, got, err, want, wantErr)
	}
}

// P2.1, P2.2
func TestTextAndBytesKnown(t *testing.T) {
	for _, c := range []struct {
		bytes []byte
		text  string
	}{
		{nil, ""},
		{[]byte{}, ""},
		{[]byte{0}, "00"},
		{[]byte{1, 171}, "01ab"},
		{[]byte{0, 255, 16}, "00ff10"},
		{[]byte{9, 10, 15, 16}, "090a0f10"},
		{[]byte{144, 160, 159, 249}, "90a09ff9"},
		{[]byte{0x01, 0x23, 0x45, 0x67, 0x89, 0xab, 0xcd, 0xef}, "0123456789abcdef"},
		{[]byte{0, 0, 0}, "000000"},
	} {
		if got := Text(c.bytes); got != c.text {
			t.Errorf("Text(%v) = %q, want %q", c.bytes, got, c.text)
		}
		wantBytes(t, c.text, c.bytes, api.OK)
	}
}

// P2.1, P2.2
func TestEveryByte(t *testing.T) {
	for i := range 256 {
		x := byte(i)
		text := fmt.Sprintf("%02x", x)
		if got := Text([]byte{x}); got != text {
			t.Errorf("Text of byte %d = %q, want %q", x, got, text)
		}
		if got := Text([]byte{7, x, 8}); got != "07"+text+"08" {
			t.Errorf("Text of byte %d among others = %q", x, got)
		}
		wantBytes(t, text, []byte{x}, api.OK)
		wantBytes(t, "07"+text+"08", []byte{7, x, 8}, api.OK)
	}
}

// P2.1: Text has no limit, not even that of Bytes.
func TestTextOfManyBytes(t *testing.T) {
	for _, n := range []int{1999, 2000, 2001, 4000, 4001, 100000} {
		if got := Text(counting(n)); got != fmt.Sprintf("%x", counting(n)) {
			t.Errorf("Text of %d bytes is wrong; it has %d digits", n, len(got))
		}
	}
}

// P2.2
func TestBytesOfEveryLength(t *testing.T) {
	for n := range 4100 {
		s := fmt.Sprintf("%x", counting(2050))[:n]
		switch {
		case n > 4000:
			wantBytes(t, s, nil, api.ErrSize)
		case n%2 != 0:
			wantBytes(t, s, nil, api.ErrForm)
		default:
			wantBytes(t, s, counting(n/2), api.OK)
		}
	}
}

// P2.2
func TestBytesOfEveryTwoBytes(t *testing.T) {
	for i := range 256 {
		for j := range 256 {
			s := string([]byte{byte(i), byte(j)})
			if !isDigitOfDocument(byte(i)) || !isDigitOfDocument(byte(j)) {
				wantBytes(t, s, nil, api.ErrForm)
				continue
			}
			got, err := Bytes(s)
			if err != api.OK || fmt.Sprintf("%x", got) != s {
				t.Errorf("Bytes(%q) = %v, %d", s, got, err)
			}
		}
	}
}

// P2.2
func TestBytesNotOfTheForm(t *testing.T) {
	for _, s := range []string{
		"0", "a", "g", "000", "0g", "g0", "0F", "F0", "01AB", "01aB", "0x", "0x01", " 0", "0 ", "+1", "-1",
		"00\n", "0\n", "00 11", "00 1", "\x00\x00", "\xff\xff", "é", "ééé0", "٣", "٣٣", "01ab0", "01ab0G",
	} {
		wantBytes(t, s, nil, api.ErrForm)
	}
}

// P2.2: a wrong byte is found in every place, up to the last one of the longest text.
func TestBytesWrongByteInEveryPlace(t *testing.T) {
	s := strings.Repeat("0", 4000)
	for i := range len(s) {
		wantBytes(t, replaced(s, i, 'A'), nil, api.ErrForm)
	}
}

// P2.2: the size is checked before the form.
func TestBytesTooLong(t *testing.T) {
	for _, s := range []string{
		strings.Repeat("0", 4001),
		strings.Repeat("0", 4002),
		strings.Repeat("g", 4001),
		strings.Repeat("g", 4002),
		strings.Repeat("F", 100000),
	} {
		wantBytes(t, s, nil, api.ErrSize)
	}
	wantBytes(t, strings.Repeat("g", 4000), nil, api.ErrForm)
	wantBytes(t, strings.Repeat("g", 3999), nil, api.ErrForm)
}

// P2.3
func TestCheckDigests(t *testing.T) {
	for _, s := range []string{
		abc,
		strings.Repeat("0", 64),
		strings.Repeat("9", 64),
		strings.Repeat("a", 64),
		strings.Repeat("f", 64),
		strings.Repeat("0123456789abcdef", 4),
		Text(counting(32)),
	} {
		if err := Check(s); err != api.OK {
			t.Errorf("Check(%q) = %d, want OK", s, err)
		}
	}
}

// P2.3: the size is checked before the form.
func TestCheckOfEveryLength(t *testing.T) {
	for n := range 300 {
		digits, form := api.ErrSize, api.ErrSize
		if n == 64 {
			digits, form = api.OK, api.ErrForm
		}
		if err := Check(strings.Repeat("7", n)); err != digits {
			t.Errorf("Check of %d digits = %d, want %d", n, err, digits)
		}
		if n == 0 {
			continue
		}
		if err := Check(strings.Repeat("x", n)); err != form {
			t.Errorf("Check of %d bytes that are no digits = %d, want %d", n, err, form)
		}
	}
}

// P2.3
func TestCheckEveryByteInEveryPlace(t *testing.T) {
	for i := range len(abc) {
		for x := range 256 {
			want := api.ErrForm
			if isDigitOfDocument(byte(x)) {
				want = api.OK
			}
			if err := Check(replaced(abc, i, byte(x))); err != want {
				t.Errorf("Check with byte %d in place %d = %d, want %d", x, i, err, want)
			}
		}
	}
}

// P2.3: the length is counted in bytes, not in characters.
func TestCheckCountsBytes(t *testing.T) {
	for _, c := range []struct {
		s    string
		want api.Errno
	}{
		{"", api.ErrSize},
		{strings.ToUpper(abc), api.ErrForm},
		{strings.Repeat("é", 32), api.ErrForm},
		{strings.Repeat("é", 64), api.ErrSize},
		{abc[:63] + "é", api.ErrSize},
		{abc[:62] + "é", api.ErrForm},
		{abc + "\n", api.ErrSize},
		{abc[:63] + "\n", api.ErrForm},
		{"0x" + abc[2:], api.ErrForm},
		{"0x" + abc, api.ErrSize},
	} {
		if err := Check(c.s); err != c.want {
			t.Errorf("Check(%q) = %d, want %d", c.s, err, c.want)
		}
	}
}

// P2.1 and P2.2, with the document's general rule on memory.
func TestTextAndBytesLeaveArguments(t *testing.T) {
	b := counting(16)
	text := Text(b[:2])
	if !slices.Equal(b, counting(16)) {
		t.Errorf("Text changed its argument: %v", b)
	}
	clear(b)
	if text != "0025" {
		t.Errorf("the result of Text changed with its argument: %q", text)
	}

	first, _ := Bytes("01ab")
	second, _ := Bytes("01ab")
	clear(first[:cap(first)])
	if !slices.Equal(second, []byte{1, 171}) {
		t.Errorf("two results of Bytes share memory: %v", second)
	}
}
