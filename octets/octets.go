// Package octets is layer 1: numbers in bytes, highest byte first, and texts with their lengths. See shared/doc/01-octets.md.
package octets

import (
	"conduit/api"
)

// How many bytes a number of each kind takes.
const (
	size8  = 1
	size16 = 2
	size32 = 4
	size64 = 8
)

// U8: see the chapter, P1.1.
func U8(b []byte, at int) (uint8, bool) {
	n, ok := number(b, at, size8)
	return uint8(n), ok
}

// U16: see the chapter, P1.1.
func U16(b []byte, at int) (uint16, bool) {
	n, ok := number(b, at, size16)
	return uint16(n), ok
}

// U32: see the chapter, P1.1.
func U32(b []byte, at int) (uint32, bool) {
	n, ok := number(b, at, size32)
	return uint32(n), ok
}

// U64: see the chapter, P1.1.
func U64(b []byte, at int) (uint64, bool) {
	return number(b, at, size64)
}

// Add8: see the chapter, P1.2.
func Add8(b []byte, v uint8) []byte {
	return addNumber(b, uint64(v), size8)
}

// Add16: see the chapter, P1.2.
func Add16(b []byte, v uint16) []byte {
	return addNumber(b, uint64(v), size16)
}

// Add32: see the chapter, P1.2.
func Add32(b []byte, v uint32) []byte {
	return addNumber(b, uint64(v), size32)
}

// Add64: see the chapter, P1.2.
func Add64(b []byte, v uint64) []byte {
	return addNumber(b, v, size64)
}

// AddText: see the chapter, P1.3.
func AddText(b []byte, s string) ([]byte, api.Errno) {
	if len(s) > api.MaxText {
		return nil, api.ErrLong
	}
	out := longer(b, size16+len(s))
	fill(out[len(b):], uint64(len(s)), size16)
	copy(out[len(b)+size16:], s)
	return out, api.OK
}

// Text: see the chapter, P1.3.
func Text(b []byte, at int) (string, int, bool) {
	n, ok := U16(b, at)
	if !ok {
		return "", 0, false
	}
	from := at + size16
	if !within(b, from, int(n)) {
		return "", 0, false
	}
	end := from + int(n)
	return string(b[from:end]), end, true
}

// within takes size off the length: at and size together may be more than an int can say.
func within(b []byte, at, size int) bool {
	return at >= 0 && at <= len(b)-size
}

func number(b []byte, at, size int) (uint64, bool) {
	if !within(b, at, size) {
		return 0, false
	}
	var n uint64
	for i := range size {
		n = n<<8 | uint64(b[at+i])
	}
	return n, true
}

func addNumber(b []byte, v uint64, size int) []byte {
	out := longer(b, size)
	fill(out[len(b):], v, size)
	return out
}

// longer always takes new memory, never b's spare room: that is the caller's.
func longer(b []byte, more int) []byte {
	out := make([]byte, len(b)+more)
	copy(out, b)
	return out
}

// fill goes from the last byte to the first, so that each step wants the lowest byte of what is left.
func fill(b []byte, v uint64, size int) {
	for i := range size {
		b[size-1-i] = byte(v)
		v >>= 8
	}
}
