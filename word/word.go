// Package word: words of 32 bits.
package word

import (
	"math/bits"

	"appleloft/api"
)

// Chapter 3 splits padded input into words, and padding adds at most this many bytes.
const maxPadding = 72

// Rotate a word right (P1.1).
func Rotate(x uint32, n int) (uint32, api.Errno) {
	if n < 0 || n > 31 {
		return 0, api.ErrRange
	}
	return rotateRight(x, n), api.OK
}

// Choose bit by bit (P1.2).
func Choose(x, y, z uint32) uint32 {
	return x&y | ^x&z
}

// Most of three, bit by bit (P1.2).
func Most(x, y, z uint32) uint32 {
	return x&y | x&z | y&z
}

// Mix a word in one of four ways (P1.3).
func Mix(x uint32, way int) (uint32, api.Errno) {
	switch way {
	case 0:
		return rotateRight(x, 2) ^ rotateRight(x, 13) ^ rotateRight(x, 22), api.OK
	case 1:
		return rotateRight(x, 6) ^ rotateRight(x, 11) ^ rotateRight(x, 25), api.OK
	case 2:
		return rotateRight(x, 7) ^ rotateRight(x, 18) ^ x>>3, api.OK
	case 3:
		return rotateRight(x, 17) ^ rotateRight(x, 19) ^ x>>10, api.OK
	}
	return 0, api.ErrKind
}

// Words of bytes, four each, the most significant one first (P1.4).
func Words(b []byte) ([]uint32, api.Errno) {
	if len(b) > api.MaxBytes+maxPadding {
		return nil, api.ErrSize
	}
	if len(b)%4 != 0 {
		return nil, api.ErrForm
	}
	l := make([]uint32, len(b)/4)
	for i := range l {
		l[i] = uint32(b[4*i])<<24 | uint32(b[4*i+1])<<16 | uint32(b[4*i+2])<<8 | uint32(b[4*i+3])
	}
	return l, api.OK
}

// Bytes of words (P1.4).
func Bytes(l []uint32) ([]byte, api.Errno) {
	if len(l) > api.MaxBytes {
		return nil, api.ErrSize
	}
	b := make([]byte, 4*len(l))
	for i, x := range l {
		b[4*i] = byte(x >> 24)
		b[4*i+1] = byte(x >> 16)
		b[4*i+2] = byte(x >> 8)
		b[4*i+3] = byte(x)
	}
	return b, api.OK
}

func rotateRight(x uint32, n int) uint32 {
	return bits.RotateLeft32(x, -n)
}
