// Package pack is layer 1: numbers and texts as bytes, each in one way alone; bytes as digits to the base 16. See shared/doc/01-pack.md.
package pack

import (
	"strings"

	"avowal/api"
)

// maxLen is how many bytes of seven bits each 64 bits need; the last one holds a single bit.
const maxLen = 10

// digits are all that Hex writes: Unhex reads no others, so that bytes have one form alone.
const digits = "0123456789abcdef"

// PutInt lays a number behind other bytes.
func PutInt(b []byte, n int) []byte {
	return appendInt(copyWithRoom(b, maxLen), n)
}

// Int reads one at a place, and tells the place behind it.
func Int(b []byte, at int) (n, next int, e api.Errno) {
	if at < 0 || at > len(b) {
		return 0, 0, api.ErrArg
	}
	var u uint64
	for i := range maxLen {
		if at+i == len(b) {
			return 0, 0, api.ErrShort
		}
		c := b[at+i]
		if !mayStand(c, i) {
			return 0, 0, api.ErrForm
		}
		u |= uint64(c&127) << (7 * i)
		if c < 128 {
			return fromBits(u), at + i + 1, api.OK
		}
	}
	return 0, 0, api.ErrForm
}

// PutText lays a text.
func PutText(b []byte, s string) []byte {
	l := appendInt(copyWithRoom(b, maxLen+len(s)), len(s))
	return append(l, s...)
}

// Text reads one.
func Text(b []byte, at int) (s string, next int, e api.Errno) {
	n, from, e := Count(b, at, api.MaxBytes)
	if e != api.OK {
		return "", 0, e
	}
	if n > len(b)-from {
		return "", 0, api.ErrShort
	}
	return string(b[from : from+n]), from + n, api.OK
}

// Count reads a number from 0 to most.
func Count(b []byte, at, most int) (n, next int, e api.Errno) {
	n, next, e = Int(b, at)
	if e != api.OK {
		return 0, 0, e
	}
	if n < 0 || n > most {
		return 0, 0, api.ErrForm
	}
	return n, next, api.OK
}

// Hex tells bytes in digits to the base 16.
func Hex(b []byte) string {
	l := make([]byte, 0, 2*len(b))
	for _, c := range b {
		l = append(l, digits[c>>4], digits[c&15])
	}
	return string(l)
}

// Unhex reads them.
func Unhex(s string) ([]byte, api.Errno) {
	if len(s)%2 != 0 {
		return nil, api.ErrForm
	}
	b := make([]byte, 0, len(s)/2)
	for i := range len(s) / 2 {
		high := strings.IndexByte(digits, s[2*i])
		low := strings.IndexByte(digits, s[2*i+1])
		if high < 0 || low < 0 {
			return nil, api.ErrForm
		}
		b = append(b, byte(16*high+low))
	}
	return b, api.OK
}

// copyWithRoom copies first, because appending in place would write into the spare room of what was handed in.
func copyWithRoom(b []byte, room int) []byte {
	return append(make([]byte, 0, len(b)+room), b...)
}

func appendInt(b []byte, n int) []byte {
	u := toBits(n)
	for u >= 128 {
		b = append(b, byte(u&127)+128)
		u >>= 7
	}
	return append(b, byte(u))
}

// mayStand tells whether a byte may be the one at place i of a number: the last place has one bit left, and a 0 behind others says nothing that fewer bytes would not say.
func mayStand(c byte, i int) bool {
	if i == maxLen-1 && c > 1 {
		return false
	}
	return i == 0 || c != 0
}

// toBits turns the bits of numbers below 0 over: so small ones have few bits, and the least int is reached without a sum that leaves the range.
func toBits(n int) uint64 {
	u := uint64(n) << 1
	if n < 0 {
		return ^u
	}
	return u
}

func fromBits(u uint64) int {
	n := int(u >> 1)
	if u&1 == 1 {
		return ^n
	}
	return n
}
