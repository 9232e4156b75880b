// Package octet is layer 1: see shared/doc/01-octet.md.
package octet

import (
	"strings"

	"posthorn/api"
)

const (
	maxBytes = 64        // of a number, as Low and High tell it
	numBytes = 8         // of a number, as FromLow and FromHigh read it
	maxSize  = 1<<31 - 1 // bytes of an answer
)

// Left turns bits round to the left.
func Left(x uint32, n int) uint32 {
	k := turns(n)
	return x<<k | x>>(32-k)
}

// Right turns bits round to the right.
func Right(x uint32, n int) uint32 {
	k := turns(n)
	return x>>k | x<<(32-k)
}

// turns is n modulo 32, from 0 on; the low five bits are that for an n below 0, too.
func turns(n int) uint {
	return uint(n) & 31
}

// Low tells a number's bytes from the low end.
func Low(x uint64, n int) string {
	b := make([]byte, told(n))
	for i := range len(b) {
		b[i] = byte(x >> (8 * i))
	}
	return string(b)
}

// High tells a number's bytes from the high end.
func High(x uint64, n int) string {
	b := make([]byte, told(n))
	for i := range len(b) {
		b[len(b)-1-i] = byte(x >> (8 * i))
	}
	return string(b)
}

// told is how many bytes are told where n are asked for.
func told(n int) int {
	return min(max(n, 0), maxBytes)
}

// FromLow tells the number of bytes from the low end.
func FromLow(s string) (uint64, api.Errno) {
	if len(s) > numBytes {
		return 0, api.ErrSize
	}
	var x uint64
	for i := range len(s) {
		x |= uint64(s[i]) << (8 * i)
	}
	return x, api.OK
}

// FromHigh tells the number of bytes from the high end.
func FromHigh(s string) (uint64, api.Errno) {
	if len(s) > numBytes {
		return 0, api.ErrSize
	}
	var x uint64
	for i := range len(s) {
		x = x<<8 | uint64(s[i])
	}
	return x, api.OK
}

// Xor turns bytes by others.
func Xor(a, b string) (string, api.Errno) {
	if len(a) != len(b) {
		return "", api.ErrSize
	}
	c := make([]byte, len(a))
	for i := range len(c) {
		c[i] = a[i] ^ b[i]
	}
	return string(c), api.OK
}

// Same tells whether bytes are the same.
func Same(a, b string) bool {
	return a == b
}

// Fill lays bytes 0 behind.
func Fill(s string, n int) string {
	if n < 1 || len(s)%n == 0 {
		return s
	}
	more := n - len(s)%n
	if more > maxSize-len(s) {
		// The document bounds an answer, but a call may not panic for want of memory.
		return ""
	}
	return s + strings.Repeat("\x00", more)
}
