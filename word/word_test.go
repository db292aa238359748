package word

import (
	"math"
	"slices"
	"testing"

	"appleloft/api"
)

// samples has words whose bits differ in place, number and symmetry, so that a wrong shift or a lost bit shows.
func samples() []uint32 {
	l := []uint32{0, 1, 2, 3, 0x80000000, 0x80000001, 0x7fffffff, 0xffffffff, 0xfffffffe,
		0x55555555, 0xaaaaaaaa, 0x01020304, 0x12345678, 0x87654321, 0xdeadbeef, 0x6a09e667}
	for i := range 32 {
		l = append(l, 1<<i)
	}
	x := uint32(12345)
	for range 100 {
		x = x*1664525 + 1013904223
		l = append(l, x)
	}
	return l
}

// bit is bit i of x, counted from the least significant one; there are zeros beyond the word.
func bit(x uint32, i int) uint32 {
	if i > 31 {
		return 0
	}
	return x / uint32(math.Pow(2, float64(i))) % 2
}

// fromBits builds a word of what f says of each of its bits.
func fromBits(f func(i int) uint32) uint32 {
	x := uint32(0)
	for i := 31; i >= 0; i-- {
		x = 2*x + f(i)
	}
	return x
}

func slowRotate(x uint32, n int) uint32 {
	return fromBits(func(i int) uint32 { return bit(x, (i+n)%32) })
}

func slowShift(x uint32, n int) uint32 {
	return fromBits(func(i int) uint32 { return bit(x, i+n) })
}

// P1.1
func TestRotateKnown(t *testing.T) {
	for _, c := range []struct {
		x    uint32
		n    int
		want uint32
	}{
		{1, 1, 2147483648},
		{6, 1, 3},
		{1, 0, 1},
		{1, 31, 2},
		{0x80000000, 31, 1},
		{0x12345678, 0, 0x12345678},
		{0x12345678, 4, 0x81234567},
		{0x12345678, 8, 0x78123456},
		{0x12345678, 16, 0x56781234},
		{0x12345678, 28, 0x23456781},
		{0xffffffff, 17, 0xffffffff},
		{0, 17, 0},
	} {
		got, err := Rotate(c.x, c.n)
		if got != c.want || err != api.OK {
			t.Errorf("Rotate(%#x, %d) = %#x, %d, want %#x", c.x, c.n, got, err, c.want)
		}
	}
}

// P1.1
func TestRotateByEveryNumber(t *testing.T) {
	for _, x := range samples() {
		for n := range 32 {
			got, err := Rotate(x, n)
			if want := slowRotate(x, n); got != want || err != api.OK {
				t.Errorf("Rotate(%#x, %d) = %#x, %d, want %#x", x, n, got, err, want)
			}
		}
	}
}

// P1.1
func TestRotateOutOfRange(t *testing.T) {
	for _, n := range []int{-1, -2, -31, -32, -33, 32, 33, 63, 64, 1 << 32, 1<<32 + 1, -1 << 32, math.MaxInt, math.MinInt} {
		got, err := Rotate(0xdeadbeef, n)
		if got != 0 || err != api.ErrRange {
			t.Errorf("Rotate by %d = %#x, %d, want 0, ErrRange", n, got, err)
		}
	}
}

// P1.2
func TestChooseKnown(t *testing.T) {
	for _, c := range []struct{ x, y, z, want uint32 }{
		{12, 10, 5, 9},
		{0, 0x12345678, 0x9abcdef0, 0x9abcdef0},
		{0xffffffff, 0x12345678, 0x9abcdef0, 0x12345678},
		{0xffff0000, 0x12345678, 0x9abcdef0, 0x1234def0},
		{0x0000ffff, 0x12345678, 0x9abcdef0, 0x9abc5678},
		{0x80000001, 0xffffffff, 0, 0x80000001},
		{0x80000001, 0, 0xffffffff, 0x7ffffffe},
	} {
		if got := Choose(c.x, c.y, c.z); got != c.want {
			t.Errorf("Choose(%#x, %#x, %#x) = %#x, want %#x", c.x, c.y, c.z, got, c.want)
		}
	}
}

// P1.2
func TestMostKnown(t *testing.T) {
	for _, c := range []struct{ x, y, z, want uint32 }{
		{12, 10, 6, 14},
		{0, 0, 0, 0},
		{0xffffffff, 0xffffffff, 0xffffffff, 0xffffffff},
		{0xffffffff, 0, 0, 0},
		{0, 0xffffffff, 0, 0},
		{0, 0, 0xffffffff, 0},
		{0, 0xffffffff, 0xffffffff, 0xffffffff},
		{0xffffffff, 0, 0xffffffff, 0xffffffff},
		{0xffffffff, 0xffffffff, 0, 0xffffffff},
		{0x12345678, 0x12345678, 0xedcba987, 0x12345678},
	} {
		if got := Most(c.x, c.y, c.z); got != c.want {
			t.Errorf("Most(%#x, %#x, %#x) = %#x, want %#x", c.x, c.y, c.z, got, c.want)
		}
	}
}

// P1.2
func TestChooseAndMostBitByBit(t *testing.T) {
	l := samples()
	for i, x := range l {
		for j, y := range l {
			z := l[(7*i+3*j+1)%len(l)]
			choose := fromBits(func(k int) uint32 {
				if bit(x, k) == 1 {
					return bit(y, k)
				}
				return bit(z, k)
			})
			if got := Choose(x, y, z); got != choose {
				t.Fatalf("Choose(%#x, %#x, %#x) = %#x, want %#x", x, y, z, got, choose)
			}
			most := fromBits(func(k int) uint32 { return (bit(x, k) + bit(y, k) + bit(z, k)) / 2 })
			if got := Most(x, y, z); got != most {
				t.Fatalf("Most(%#x, %#x, %#x) = %#x, want %#x", x, y, z, got, most)
			}
		}
	}
}

// P1.3
func TestMixKnown(t *testing.T) {
	for _, c := range []struct {
		x    uint32
		way  int
		want uint32
	}{
		{1, 0, 1<<30 | 1<<19 | 1<<10},
		{1, 1, 1<<26 | 1<<21 | 1<<7},
		{1, 2, 33570816},
		{1, 3, 1<<15 | 1<<13},
		{0x80000000, 0, 1<<29 | 1<<18 | 1<<9},
		{0x80000000, 1, 1<<25 | 1<<20 | 1<<6},
		{0x80000000, 2, 1<<24 | 1<<13 | 1<<28},
		{0x80000000, 3, 1<<14 | 1<<12 | 1<<21},
		{0xffffffff, 0, 0xffffffff},
		{0xffffffff, 1, 0xffffffff},
		{0xffffffff, 2, 0x1fffffff},
		{0xffffffff, 3, 0x003fffff},
		{0, 0, 0},
		{0, 1, 0},
		{0, 2, 0},
		{0, 3, 0},
	} {
		got, err := Mix(c.x, c.way)
		if got != c.want || err != api.OK {
			t.Errorf("Mix(%#x, %d) = %#x, %d, want %#x", c.x, c.way, got, err, c.want)
		}
	}
}

// P1.3
func TestMixBitByBit(t *testing.T) {
	for _, x := range samples() {
		for way, want := range []uint32{
			slowRotate(x, 2) ^ slowRotate(x, 13) ^ slowRotate(x, 22),
			slowRotate(x, 6) ^ slowRotate(x, 11) ^ slowRotate(x, 25),
			slowRotate(x, 7) ^ slowRotate(x, 18) ^ slowShift(x, 3),
			slowRotate(x, 17) ^ slowRotate(x, 19) ^ slowShift(x, 10),
		} {
			got, err := Mix(x, way)
			if got != want || err != api.OK {
				t.Errorf("Mix(%#x, %d) = %#x, %d, want %#x", x, way, got, err, want)
			}
		}
	}
}

// P1.3
func TestMixNoSuchWay(t *testing.T) {
	for _, way := range []int{-1, -4, 4, 5, 256, 1 << 32, 1<<32 + 3, math.MaxInt, math.MinInt} {
		got, err := Mix(0xdeadbeef, way)
		if got != 0 || err != api.ErrKind {
			t.Errorf("Mix in way %d = %#x, %d, want 0, ErrKind", way, got, err)
		}
	}
}

// P1.4
func TestWordsAndBytesKnown(t *testing.T) {
	for _, c := range []struct {
		bytes []byte
		words []uint32
	}{
		{nil, nil},
		{[]byte{}, []uint32{}},
		{[]byte{1, 2, 3, 4}, []uint32{0x01020304}},
		{[]byte{0, 0, 0, 1, 1, 0, 0, 0}, []uint32{1, 1 << 24}},
		{[]byte{255, 255, 255, 255, 0, 0, 0, 0}, []uint32{0xffffffff, 0}},
		{[]byte{128, 0, 0, 0, 0, 128, 0, 0, 0, 0, 128, 0, 0, 0, 0, 128}, []uint32{0x80000000, 0x800000, 0x8000, 0x80}},
	} {
		words, err := Words(c.bytes)
		if !slices.Equal(words, c.words) || err != api.OK {
			t.Errorf("Words(%v) = %v, %d, want %v", c.bytes, words, err, c.words)
		}
		bytes, err := Bytes(c.words)
		if !slices.Equal(bytes, c.bytes) || err != api.OK {
			t.Errorf("Bytes(%v) = %v, %d, want %v", c.words, bytes, err, c.bytes)
		}
	}
}

// counting has n bytes that tell one place from another.
func counting(n int) []byte {
	b := make([]byte, n)
	for i := range b {
		b[i] = byte(i*37 + i/256)
	}
	return b
}

// P1.4
func TestWordsOfEveryLength(t *testing.T) {
	for n := range api.MaxBytes + 200 {
		want := api.OK
		switch {
		case n > 2072:
			want = api.ErrSize
		case n%4 != 0:
			want = api.ErrForm
		}
		words, err := Words(counting(n))
		if err != want {
			t.Fatalf("Words of %d bytes: error %d, want %d", n, err, want)
		}
		if err != api.OK {
			if len(words) != 0 {
				t.Fatalf("Words of %d bytes: %d words with error %d", n, len(words), err)
			}
			continue
		}
		back, err := Bytes(words)
		if len(words) != n/4 || err != api.OK || !slices.Equal(back, counting(n)) {
			t.Fatalf("Words of %d bytes: Bytes does not give them back (error %d)", n, err)
		}
	}
}

// P1.4
func TestBytesSize(t *testing.T) {
	for _, c := range []struct {
		n    int
		want api.Errno
	}{
		{518, api.OK},
		{519, api.OK},
		{1999, api.OK},
		{2000, api.OK},
		{2001, api.ErrSize},
		{5000, api.ErrSize},
	} {
		l := make([]uint32, c.n)
		for i := range l {
			l[i] = uint32(i)*0x01000193 + 7
		}
		b, err := Bytes(l)
		if err != c.want {
			t.Errorf("Bytes of %d words: error %d, want %d", c.n, err, c.want)
		}
		if c.want != api.OK {
			if len(b) != 0 {
				t.Errorf("Bytes of %d words: %d bytes with an error", c.n, len(b))
			}
			continue
		}
		if len(b) != 4*c.n {
			t.Fatalf("Bytes of %d words: %d bytes", c.n, len(b))
		}
		for i, x := range l {
			if v := ((uint32(b[4*i])*256+uint32(b[4*i+1]))*256+uint32(b[4*i+2]))*256 + uint32(b[4*i+3]); v != x {
				t.Fatalf("Bytes of %d words: word %d is %#x, want %#x", c.n, i, v, x)
			}
		}
	}
}

// P1.4, with the document's general rule on memory.
func TestWordsAndBytesLeaveArguments(t *testing.T) {
	b := counting(16)
	first, _ := Words(b[:8])
	second, _ := Words(b[:8])
	clear(first[:cap(first)])
	if !slices.Equal(b, counting(16)) {
		t.Errorf("Words changed or kept its argument: %v", b)
	}
	if want := []uint32{0x00254a6f, 0x94b9de03}; !slices.Equal(second, want) {
		t.Errorf("two results of Words share memory: %#x, want %#x", second, want)
	}

	l := []uint32{1, 2, 3, 4}
	one, _ := Bytes(l[:2])
	two, _ := Bytes(l[:2])
	clear(one[:cap(one)])
	if !slices.Equal(l, []uint32{1, 2, 3, 4}) {
		t.Errorf("Bytes changed or kept its argument: %v", l)
	}
	if !slices.Equal(two, []byte{0, 0, 0, 1, 0, 0, 0, 2}) {
		t.Errorf("two results of Bytes share memory: %v", two)
	}
}
