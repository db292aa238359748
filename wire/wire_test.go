package wire

import (
	"encoding/binary"
	"math"
	"slices"
	"strings"
	"testing"

	"appleloft/api"
)

// counting has n bytes that tell one place from another.
func counting(n int) []byte {
	b := make([]byte, n)
	for i := range b {
		b[i] = byte(i*37 + i/256)
	}
	return b
}

// varint is the library's encoding, which has the form that the chapter describes.
func varint(n int) []byte {
	return binary.AppendUvarint(nil, uint64(n))
}

// numbers are those around every change of the number of bytes, single bits, and many others.
func numbers() []int {
	l := []int{0, 1, 2, 127, 128, 129, 255, 256, 300, 1999, 2000, 2001, 12345678, 0x89abcdef, api.MaxNumber - 1, api.MaxNumber}
	for i := range 32 {
		l = append(l, 1<<i, 1<<i-1)
	}
	for i := 1; i <= 4; i++ {
		l = append(l, 1<<(7*i)-1, 1<<(7*i), 1<<(7*i)+1)
	}
	for n := 0; n <= api.MaxNumber; n += 4000037 {
		l = append(l, n)
	}
	for n := range 40000 {
		l = append(l, n)
	}
	return l
}

// joined is a new list with the elements of all lists.
func joined(lists ...[]byte) []byte {
	return slices.Concat(lists...)
}

// wantNumber checks a call of Number; together with an error there is no byte.
func wantNumber(t *testing.T, n int, want []byte, wantErr api.Errno) {
	t.Helper()
	got, err := Number(n)
	if !slices.Equal(got, want) || err != wantErr {
		t.Errorf("Number(%d) = %v, %d, want %v, %d", n, got, err, want, wantErr)
	}
}

func wantReadNumber(t *testing.T, b []byte, want int, wantRest []byte, wantErr api.Errno) {
	t.Helper()
	got, rest, err := ReadNumber(b)
	if got != want || !slices.Equal(rest, wantRest) || err != wantErr {
		t.Errorf("ReadNumber(%v) = %d, %v, %d, want %d, %v, %d", b, got, rest, err, want, wantRest, wantErr)
	}
}

func wantText(t *testing.T, s string, want []byte, wantErr api.Errno) {
	t.Helper()
	got, err := Text(s)
	if !slices.Equal(got, want) || err != wantErr {
		t.Errorf("Text(%q) = %v, %d, want %v, %d", s, got, err, want, wantErr)
	}
}

func wantReadText(t *testing.T, b []byte, want string, wantRest []byte, wantErr api.Errno) {
	t.Helper()
	got, rest, err := ReadText(b)
	if got != want || !slices.Equal(rest, wantRest) || err != wantErr {
		t.Errorf("ReadText(%v) = %q, %v, %d, want %q, %v, %d", b, got, rest, err, want, wantRest, wantErr)
	}
}

// P4.1, P4.2
func TestNumberKnown(t *testing.T) {
	for _, c := range []struct {
		n     int
		bytes []byte
	}{
		{0, []byte{0}},
		{1, []byte{1}},
		{127, []byte{127}},
		{128, []byte{128, 1}},
		{129, []byte{129, 1}},
		{255, []byte{255, 1}},
		{300, []byte{172, 2}},
		{16383, []byte{255, 127}},
		{16384, []byte{128, 128, 1}},
		{2097151, []byte{255, 255, 127}},
		{2097152, []byte{128, 128, 128, 1}},
		{268435455, []byte{255, 255, 255, 127}},
		{268435456, []byte{128, 128, 128, 128, 1}},
		{api.MaxNumber, []byte{255, 255, 255, 255, 15}},
	} {
		wantNumber(t, c.n, c.bytes, api.OK)
		wantReadNumber(t, c.bytes, c.n, nil, api.OK)
	}
}

// P4.1, P4.2
func TestNumberAndReadNumberOfMany(t *testing.T) {
	for _, n := range numbers() {
		b := varint(n)
		wantNumber(t, n, b, api.OK)
		wantReadNumber(t, b, n, nil, api.OK)
		wantReadNumber(t, joined(b, []byte{0}), n, []byte{0}, api.OK)
		wantReadNumber(t, joined(b, []byte{200, 255, 3}), n, []byte{200, 255, 3}, api.OK)
	}
}

// P4.1
func TestNumberOutOfRange(t *testing.T) {
	for _, n := range []int{
		-1, -2, -128, -300, -api.MaxNumber, math.MinInt32, math.MinInt, math.MinInt + 1,
		api.MaxNumber + 1, api.MaxNumber + 2, 1 << 33, 1<<35 - 1, 1 << 35, api.MaxClock, 1 << 62, math.MaxInt,
	} {
		wantNumber(t, n, nil, api.ErrRange)
	}
}

// P4.2
func TestReadNumberShort(t *testing.T) {
	for _, b := range [][]byte{
		nil, {}, {128}, {129}, {255}, {128, 128}, {255, 255}, {172, 130}, {128, 128, 128}, {255, 255, 255},
		{128, 128, 128, 128}, {255, 255, 255, 255}, {129, 130, 131, 132},
	} {
		wantReadNumber(t, b, 0, nil, api.ErrShort)
		wantReadText(t, b, "", nil, api.ErrShort)
	}
}

// P4.2: the first five bytes decide, whatever is behind them.
func TestReadNumberTooLong(t *testing.T) {
	for _, b := range [][]byte{
		{128, 128, 128, 128, 128}, {255, 255, 255, 255, 255}, {129, 130, 131, 132, 133}, {255, 255, 255, 255, 143},
	} {
		for _, rest := range [][]byte{nil, {0}, {1}, {15}, {127}, {128}, {255, 255}, {1, 2, 3}, counting(3000)} {
			wantReadNumber(t, joined(b, rest), 0, nil, api.ErrForm)
			wantReadText(t, joined(b, rest), "", nil, api.ErrForm)
		}
	}
}

// P4.2: a number that takes more bytes than it needs is not a result of Number.
func TestReadNumberNotShortest(t *testing.T) {
	for _, b := range [][]byte{
		{128, 0}, {129, 0}, {255, 0}, {172, 0}, {128, 128, 0}, {172, 130, 0}, {255, 255, 0}, {128, 129, 0},
		{128, 128, 128, 0}, {255, 255, 255, 0}, {128, 128, 128, 128, 0}, {255, 255, 255, 255, 0}, {129, 128, 128, 128, 0},
	} {
		for _, rest := range [][]byte{nil, {0}, {1}, {97, 98, 99}, {255}} {
			wantReadNumber(t, joined(b, rest), 0, nil, api.ErrForm)
			wantReadText(t, joined(b, rest), "", nil, api.ErrForm)
		}
	}
}

// P4.2: a fifth byte above 15 makes a number greater than MaxNumber.
func TestReadNumberEveryFifthByte(t *testing.T) {
	for x := range 256 {
		for _, low := range [][]byte{{128, 128, 128, 128}, {255, 255, 255, 255}, {129, 130, 131, 132}} {
			b := append(slices.Clone(low), byte(x))
			if x == 0 || x > 15 {
				wantReadNumber(t, b, 0, nil, api.ErrForm)
				wantReadNumber(t, joined(b, []byte{5}), 0, nil, api.ErrForm)
				continue
			}
			want, _ := binary.Uvarint(b)
			wantReadNumber(t, b, int(want), nil, api.OK)
			wantReadNumber(t, joined(b, []byte{5}), int(want), []byte{5}, api.OK)
		}
	}
}

// P4.2
func TestReadNumberOfEveryTwoBytes(t *testing.T) {
	for i := range 256 {
		wantOne, wantOneErr := i, api.OK
		if i >= 128 {
			wantOne, wantOneErr = 0, api.ErrShort
		}
		wantReadNumber(t, []byte{byte(i)}, wantOne, nil, wantOneErr)
		for j := range 256 {
			b := []byte{byte(i), byte(j)}
			switch {
			case i < 128:
				wantReadNumber(t, b, i, []byte{byte(j)}, api.OK)
			case j >= 128:
				wantReadNumber(t, b, 0, nil, api.ErrShort)
			case j == 0:
				wantReadNumber(t, b, 0, nil, api.ErrForm)
			default:
				wantReadNumber(t, b, i-128+128*j, nil, api.OK)
			}
		}
	}
}

// P4.2: the rest has no limit.
func TestReadNumberLongRest(t *testing.T) {
	for _, n := range []int{1999, 2000, 2001, 100000} {
		wantReadNumber(t, joined([]byte{172, 2}, counting(n)), 300, counting(n), api.OK)
	}
}

// P4.3, P4.4
func TestTextKnown(t *testing.T) {
	for _, c := range []struct {
		text  string
		bytes []byte
	}{
		{"", []byte{0}},
		{"a", []byte{1, 97}},
		{"ab", []byte{2, 97, 98}},
		{"\x00", []byte{1, 0}},
		{"\xff\x80", []byte{2, 255, 128}},
		{"é", []byte{2, 195, 169}},
		{"a\nb", []byte{3, 97, 10, 98}},
	} {
		wantText(t, c.text, c.bytes, api.OK)
		wantReadText(t, c.bytes, c.text, nil, api.OK)
	}
}

// P4.3, P4.4
func TestTextOfEveryLength(t *testing.T) {
	for n := range 2100 {
		s := string(counting(n))
		b := joined(varint(n), []byte(s))
		if n > 2000 {
			wantText(t, s, nil, api.ErrSize)
			wantReadText(t, b, "", nil, api.ErrSize)
			continue
		}
		wantText(t, s, b, api.OK)
		wantReadText(t, b, s, nil, api.OK)
		wantReadText(t, joined(b, []byte{9, 200}), s, []byte{9, 200}, api.OK)
		if n > 0 {
			wantReadText(t, b[:len(b)-1], "", nil, api.ErrShort)
		}
	}
}

// P4.3: the size is counted in bytes, not in characters.
func TestTextCountsBytes(t *testing.T) {
	wantText(t, strings.Repeat("é", 1000), joined(varint(2000), []byte(strings.Repeat("é", 1000))), api.OK)
	wantText(t, strings.Repeat("é", 1000)+"a", nil, api.ErrSize)
	wantText(t, strings.Repeat("é", 1001), nil, api.ErrSize)
	wantText(t, strings.Repeat("a", 100000), nil, api.ErrSize)
}

// P4.4
func TestReadTextKnown(t *testing.T) {
	for _, c := range []struct {
		bytes []byte
		text  string
		rest  []byte
		err   api.Errno
	}{
		{[]byte{2, 97, 98, 99}, "ab", []byte{99}, api.OK},
		{[]byte{0, 97}, "", []byte{97}, api.OK},
		{[]byte{0, 0, 0}, "", []byte{0, 0}, api.OK},
		{[]byte{1, 1, 1, 1}, "\x01", []byte{1, 1}, api.OK},
		{[]byte{3, 97, 98}, "", nil, api.ErrShort},
		{[]byte{1}, "", nil, api.ErrShort},
		{[]byte{127, 1, 2, 3}, "", nil, api.ErrShort},
		{[]byte{128, 1}, "", nil, api.ErrShort},
		{[]byte{130, 0, 97, 98}, "", nil, api.ErrForm},
		{[]byte{208, 15}, "", nil, api.ErrShort},
		{[]byte{209, 15}, "", nil, api.ErrSize},
	} {
		wantReadText(t, c.bytes, c.text, c.rest, c.err)
	}
}

// P4.4: a length above the limit is told before missing bytes.
func TestReadTextTooLong(t *testing.T) {
	for _, n := range []int{2001, 2002, 4000, 16383, 16384, 65536, 1 << 31, api.MaxNumber} {
		wantReadText(t, varint(n), "", nil, api.ErrSize)
		wantReadText(t, joined(varint(n), counting(5)), "", nil, api.ErrSize)
		wantReadText(t, joined(varint(n), counting(20000)), "", nil, api.ErrSize)
	}
	wantReadText(t, []byte{255, 255, 255, 255, 16}, "", nil, api.ErrForm)
	wantReadText(t, varint(2000), "", nil, api.ErrShort)
	wantReadText(t, joined(varint(2000), counting(1999)), "", nil, api.ErrShort)
}

// P4.4: the rest has no limit.
func TestReadTextLongRest(t *testing.T) {
	for _, n := range []int{1999, 2000, 2001, 100000} {
		wantReadText(t, joined([]byte{2, 97, 98}, counting(n)), "ab", counting(n), api.OK)
	}
}

// P4.1 to P4.4: encodings that follow one another are read one by one.
func TestReadOneByOne(t *testing.T) {
	var b []byte
	for n := range 200 {
		number, _ := Number(n * n * 1000)
		text, _ := Text(string(counting(n)))
		b = joined(b, number, text)
	}
	for n := range 200 {
		got, rest, err := ReadNumber(b)
		if got != n*n*1000 || err != api.OK {
			t.Fatalf("number %d is %d, %d", n, got, err)
		}
		text, rest, err := ReadText(rest)
		if text != string(counting(n)) || err != api.OK {
			t.Fatalf("text %d is %q, %d", n, text, err)
		}
		b = rest
	}
	if len(b) != 0 {
		t.Errorf("%d bytes are left", len(b))
	}
}

// P4.1 and P4.3, with the document's general rule on memory.
func TestNumberAndTextAreNewMemory(t *testing.T) {
	first, _ := Number(300)
	second, _ := Number(300)
	clear(first[:cap(first)])
	if !slices.Equal(second, []byte{172, 2}) {
		t.Errorf("two results of Number share memory: %v", second)
	}
	first, _ = Text("ab")
	second, _ = Text("ab")
	clear(first[:cap(first)])
	if !slices.Equal(second, []byte{2, 97, 98}) {
		t.Errorf("two results of Text share memory: %v", second)
	}
}

// P4.2 and P4.4, with the document's general rule on memory.
func TestReadingLeavesArguments(t *testing.T) {
	original := []byte{2, 97, 98, 99, 100, 101, 102, 103}
	b := slices.Clone(original)
	n, numberRest, _ := ReadNumber(b[:5])
	text, textRest, _ := ReadText(b[:5])
	_, emptyRest, _ := ReadText(b[:3])
	for _, rest := range [][]byte{numberRest, textRest, emptyRest} {
		whole := rest[:cap(rest)]
		for i := range whole {
			whole[i] ^= 255
		}
	}
	if !slices.Equal(b, original) {
		t.Errorf("a rest shares memory with the argument: %v", b)
	}

	_, numberRest, _ = ReadNumber(b[:5])
	text, textRest, _ = ReadText(b[:5])
	clear(b)
	if n != 2 || text != "ab" || !slices.Equal(numberRest, []byte{97, 98, 99, 100}) || !slices.Equal(textRest, []byte{99, 100}) {
		t.Errorf("results changed with the argument: %d, %v, %q, %v", n, numberRest, text, textRest)
	}
}
