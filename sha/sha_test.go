package sha

import (
	"crypto/sha256"
	"encoding/binary"
	"fmt"
	"math/big"
	"slices"
	"strings"
	"testing"

	"appleloft/api"
)

// counting has n bytes that tell one place from another.
func counting(n int) []byte {
	b := make([]byte, n)
	for i := range b {
		b[i] = byte(i*37 + i/256)
	}
	return b
}

// noise has n words, the same for the same seed, in which every bit varies.
func noise(n int, seed uint64) []uint32 {
	l := make([]uint32, n)
	for i := range l {
		seed = seed*6364136223846793005 + 1442695040888963407
		l[i] = uint32(seed >> 32)
	}
	return l
}

func firstPrimes(n int) []int64 {
	var l []int64
	for p := int64(2); len(l) < n; p++ {
		if !slices.ContainsFunc(l, func(q int64) bool { return p%q == 0 }) {
			l = append(l, p)
		}
	}
	return l
}

// rootFraction has the first 32 bits of the fractional part of the root of p, found by bisection.
func rootFraction(p, degree int64) uint32 {
	scaled := new(big.Int).Lsh(big.NewInt(p), uint(32*degree))
	low, high := int64(0), int64(1)<<40
	for high-low > 1 {
		middle := (low + high) / 2
		if new(big.Int).Exp(big.NewInt(middle), big.NewInt(degree), nil).Cmp(scaled) <= 0 {
			low = middle
		} else {
			high = middle
		}
	}
	return uint32(low)
}

// right rotates a word right without the help of package word.
func right(x uint32, n int) uint32 {
	return x>>n | x<<(32-n)
}

// slowStep follows FIPS 180-4 and takes its round constants from the primes.
func slowStep(start, block []uint32) []uint32 {
	w := slices.Clone(block)
	for t := 16; t < 64; t++ {
		x, y := w[t-15], w[t-2]
		w = append(w, w[t-16]+(right(x, 7)^right(x, 18)^x>>3)+w[t-7]+(right(y, 17)^right(y, 19)^y>>10))
	}
	s := slices.Clone(start)
	for t, p := range firstPrimes(64) {
		a, e := s[0], s[4]
		t1 := s[7] + (right(e, 6) ^ right(e, 11) ^ right(e, 25)) + (e&s[5] ^ ^e&s[6]) + rootFraction(p, 3) + w[t]
		t2 := (right(a, 2) ^ right(a, 13) ^ right(a, 22)) + (a&s[1] ^ a&s[2] ^ s[1]&s[2])
		s = append([]uint32{t1 + t2}, s[:7]...)
		s[4] += t1
	}
	for i := range s {
		s[i] += start[i]
	}
	return s
}

// slowPad appends one byte after another, in the order of the chapter.
func slowPad(b []byte) []byte {
	padded := append(slices.Clone(b), 128)
	for (len(padded)+8)%64 != 0 {
		padded = append(padded, 0)
	}
	return binary.BigEndian.AppendUint64(padded, uint64(8*len(b)))
}

func wantPad(t *testing.T, b, want []byte, wantErr api.Errno) {
	t.Helper()
	got, err := Pad(b)
	if !slices.Equal(got, want) || err != wantErr {
		t.Errorf("Pad of %d bytes = %v, %d, want %v, %d", len(b), got, err, want, wantErr)
	}
}

func wantStep(t *testing.T, h, block, want []uint32, wantErr api.Errno) {
	t.Helper()
	got, err := Step(h, block)
	if !slices.Equal(got, want) || err != wantErr {
		t.Errorf("Step(%x, %x) = %x, %d, want %x, %d", h, block, got, err, want, wantErr)
	}
}

func wantSum(t *testing.T, b []byte, want string, wantErr api.Errno) {
	t.Helper()
	got, err := Sum(b)
	if got != want || err != wantErr {
		t.Errorf("Sum of %d bytes = %q, %d, want %q, %d", len(b), got, err, want, wantErr)
	}
}

// P3.1
func TestStart(t *testing.T) {
	got := Start()
	want := []uint32{
		0x6a09e667, 0xbb67ae85, 0x3c6ef372, 0xa54ff53a,
		0x510e527f, 0x9b05688c, 0x1f83d9ab, 0x5be0cd19,
	}
	if !slices.Equal(got, want) {
		t.Errorf("Start() = %x, want %x", got, want)
	}
	for i, p := range firstPrimes(8) {
		if got[i] != rootFraction(p, 2) {
			t.Errorf("word %d of Start() is %x, but the root of %d gives %x", i, got[i], p, rootFraction(p, 2))
		}
	}
}

// P3.1: every call has words of its own.
func TestStartIsNewMemory(t *testing.T) {
	first, second := Start(), Start()
	clear(first[:cap(first)])
	if second[0] != 0x6a09e667 || Start()[7] != 0x5be0cd19 {
		t.Errorf("two results of Start share memory: %x, %x", second, Start())
	}
}

// P3.2
func TestPadKnown(t *testing.T) {
	empty := make([]byte, 64)
	empty[0] = 128
	wantPad(t, nil, empty, api.OK)
	wantPad(t, []byte{}, empty, api.OK)

	abc := make([]byte, 64)
	copy(abc, "abc\x80")
	abc[63] = 24
	wantPad(t, []byte("abc"), abc, api.OK)

	ones := slices.Repeat([]byte{255}, 56)
	two := append(slices.Clone(ones), 128)
	two = append(two, make([]byte, 69)...)
	two = append(two, 1, 192)
	wantPad(t, ones, two, api.OK)
}

// P3.2: a block is added where the length no longer fits into the last one.
func TestPadLengths(t *testing.T) {
	for _, c := range []struct{ n, want int }{
		{0, 64}, {1, 64}, {54, 64}, {55, 64}, {56, 128}, {63, 128}, {64, 128}, {65, 128},
		{119, 128}, {120, 192}, {127, 192}, {128, 192}, {183, 192}, {184, 256},
		{1975, 1984}, {1976, 2048}, {1984, 2048}, {1999, 2048}, {2000, 2048},
	} {
		got, err := Pad(make([]byte, c.n))
		if len(got) != c.want || err != api.OK {
			t.Errorf("Pad of %d bytes has %d bytes, error %d, want %d", c.n, len(got), err, c.want)
		}
	}
}

// P3.2
func TestPadOfEveryLength(t *testing.T) {
	for n := range 2001 {
		wantPad(t, counting(n), slowPad(counting(n)), api.OK)
		ones := slices.Repeat([]byte{255}, n)
		wantPad(t, ones, slowPad(ones), api.OK)
	}
}

// P3.2
func TestPadTooLong(t *testing.T) {
	for _, n := range []int{2001, 2002, 2047, 2048, 2072, 4000, 100000} {
		wantPad(t, make([]byte, n), nil, api.ErrSize)
	}
}

// P3.2, with the document's general rule on memory.
func TestPadLeavesArgument(t *testing.T) {
	b := counting(200)
	padded, _ := Pad(b[:3])
	if !slices.Equal(b, counting(200)) {
		t.Errorf("Pad changed its argument or the capacity behind it: %v", b)
	}
	clear(b)
	if !slices.Equal(padded, slowPad(counting(3))) {
		t.Errorf("the result of Pad changed with its argument: %v", padded)
	}

	whole := counting(55)
	padded, _ = Pad(whole)
	clear(padded[:cap(padded)])
	if !slices.Equal(whole, counting(55)) {
		t.Errorf("the argument of Pad changed with its result: %v", whole)
	}
}

// P3.3: the block of the example, whose state words are the digest.
func TestStepKnown(t *testing.T) {
	block := make([]uint32, 16)
	block[0], block[15] = 0x61626380, 24
	wantStep(t, Start(), block, []uint32{
		0xba7816bf, 0x8f01cfea, 0x414140de, 0x5dae2223,
		0xb00361a3, 0x96177a9c, 0xb410ff61, 0xf20015ad,
	}, api.OK)
}

// P3.3: a single bit in each place of the state and of the block.
func TestStepOfEveryBit(t *testing.T) {
	for i := range 24 * 32 {
		words := make([]uint32, 24)
		words[i/32] = 1 << (i % 32)
		wantStep(t, words[:8], words[8:], slowStep(words[:8], words[8:]), api.OK)
	}
}

// P3.3
func TestStepOfManyWords(t *testing.T) {
	zeros, ones := make([]uint32, 16), slices.Repeat([]uint32{0xffffffff}, 16)
	wantStep(t, zeros[:8], zeros, slowStep(zeros[:8], zeros), api.OK)
	wantStep(t, zeros[:8], ones, slowStep(zeros[:8], ones), api.OK)
	wantStep(t, ones[:8], zeros, slowStep(ones[:8], zeros), api.OK)
	wantStep(t, ones[:8], ones, slowStep(ones[:8], ones), api.OK)
	for seed := range uint64(300) {
		h, block := noise(8, 2*seed), noise(16, 2*seed+1)
		wantStep(t, h, block, slowStep(h, block), api.OK)
	}
}

// P3.3
func TestStepOfWrongLengths(t *testing.T) {
	for i := range 40 {
		for j := range 40 {
			if i != 8 || j != 16 {
				wantStep(t, make([]uint32, i), make([]uint32, j), nil, api.ErrSize)
			}
		}
	}
	wantStep(t, nil, nil, nil, api.ErrSize)
	wantStep(t, Start(), nil, nil, api.ErrSize)
	wantStep(t, nil, make([]uint32, 16), nil, api.ErrSize)
	wantStep(t, make([]uint32, 16), make([]uint32, 8), nil, api.ErrSize)
	wantStep(t, make([]uint32, 10000), make([]uint32, 16), nil, api.ErrSize)
	wantStep(t, make([]uint32, 8), make([]uint32, 10000), nil, api.ErrSize)
}

// P3.3: only the length counts, not the capacity.
func TestStepIgnoresCapacity(t *testing.T) {
	long := noise(100, 7)
	wantStep(t, long[:7], long[:16], nil, api.ErrSize)
	wantStep(t, long[:8], long[:15], nil, api.ErrSize)
	wantStep(t, long[:8], long[:16], slowStep(noise(100, 7)[:8], noise(100, 7)[:16]), api.OK)
}

// P3.3, with the document's general rule on memory; both arguments may even be parts of one list.
func TestStepLeavesArguments(t *testing.T) {
	words := noise(40, 3)
	want := slowStep(words[:8:8], words[4:20:20])
	got, _ := Step(words[:8], words[4:20])
	if !slices.Equal(words, noise(40, 3)) {
		t.Errorf("Step changed its arguments: %x", words)
	}
	clear(words)
	if !slices.Equal(got, want) {
		t.Errorf("the result of Step is %x or changed with its arguments, want %x", got, want)
	}

	h, block := noise(8, 4), noise(16, 5)
	got, _ = Step(h, block)
	clear(got[:cap(got)])
	if !slices.Equal(h, noise(8, 4)) || !slices.Equal(block, noise(16, 5)) {
		t.Errorf("the arguments of Step changed with its result: %x, %x", h, block)
	}
}

// P3.4: examples of FIPS 180-4 among them.
func TestSumKnown(t *testing.T) {
	for _, c := range []struct{ text, want string }{
		{"", "e3b0c44298fc1c149afbf4c8996fb92427ae41e4649b934ca495991b7852b855"},
		{"abc", "ba7816bf8f01cfea414140de5dae2223b00361a396177a9cb410ff61f20015ad"},
		{"abcdbcdecdefdefgefghfghighijhijkijkljklmklmnlmnomnopnopq",
			"248d6a61d20638b8e5c026930c3e6039a33ce45964ff2167f6ecedd419db06c1"},
		{"The quick brown fox jumps over the lazy dog",
			"d7a8fbb307d7809469ca9abcb0082e4f8d5651e46d3cdb762d02d0bf37c9e592"},
	} {
		wantSum(t, []byte(c.text), c.want, api.OK)
	}
	wantSum(t, nil, "e3b0c44298fc1c149afbf4c8996fb92427ae41e4649b934ca495991b7852b855", api.OK)
}

// P3.4
func TestSumOfEveryLength(t *testing.T) {
	for n := range 2001 {
		for _, b := range [][]byte{counting(n), make([]byte, n), []byte(strings.Repeat("\xff", n))} {
			wantSum(t, b, fmt.Sprintf("%x", sha256.Sum256(b)), api.OK)
		}
	}
}

// P3.4
func TestSumTooLong(t *testing.T) {
	for _, n := range []int{2001, 2002, 2048, 2072, 4000, 100000} {
		wantSum(t, counting(n), "", api.ErrSize)
	}
}

// P3.4, with the document's general rules on memory and on state.
func TestSumLeavesArgument(t *testing.T) {
	b := counting(200)
	first, _ := Sum(b[:100])
	if !slices.Equal(b, counting(200)) {
		t.Errorf("Sum changed its argument or the capacity behind it: %v", b)
	}
	Sum(b)
	second, _ := Sum(b[:100])
	if first != second {
		t.Errorf("Sum of the same bytes is %q and then %q", first, second)
	}
}
