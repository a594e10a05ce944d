// Package codec is layer 1: numbers and texts as bytes, the lowest byte first.
package codec

import (
	"garret/api"
)

const (
	numberBytes = 8 // the most that a number has
	lengthBytes = 4 // of a text's length
	byteBits    = 8
)

// Put answers b with the n lowest bytes of v behind it; n is held from 0 to 8.
func Put(b []byte, v uint64, n int) []byte {
	n = min(max(n, 0), numberBytes)
	return appendNumber(copyWithRoom(b, n), v, n)
}

// Get answers the number of n bytes that stands at at.
func Get(b []byte, at, n int) (uint64, api.Errno) {
	if at < 0 || n < 1 || n > numberBytes {
		return 0, api.ErrArg
	}
	// n is taken from the length, not added to at: that sum could go round.
	if at > len(b)-n {
		return 0, api.ErrShort
	}
	var v uint64
	for i, x := range b[at : at+n] {
		v |= uint64(x) << (byteBits * i)
	}
	return v, api.OK
}

// PutInt answers b with v behind it, in eight bytes; below 0 it goes round.
func PutInt(b []byte, v int) []byte {
	return Put(b, uint64(v), numberBytes)
}

// GetInt answers the number that PutInt put at at.
func GetInt(b []byte, at int) (int, api.Errno) {
	v, e := Get(b, at, numberBytes)
	return int(v), e
}

// PutText answers b with the length of s, and s, behind it.
func PutText(b []byte, s string) []byte {
	out := copyWithRoom(b, lengthBytes+len(s))
	out = appendNumber(out, uint64(len(s)), lengthBytes)
	return append(out, s...)
}

// GetText answers the text that PutText put at at, and the place behind it.
func GetText(b []byte, at int) (string, int, api.Errno) {
	length, e := Get(b, at, lengthBytes)
	if e != api.OK {
		return "", 0, e
	}
	rest := b[at+lengthBytes:]
	// The length is held against what is there ahead of becoming an int: it comes from bytes that may say anything.
	if length > uint64(len(rest)) {
		return "", 0, api.ErrShort
	}
	n := int(length)
	return string(rest[:n]), at + lengthBytes + n, api.OK
}

// copyWithRoom keeps an append from writing into the room behind b's end, which is the caller's.
func copyWithRoom(b []byte, n int) []byte {
	return append(make([]byte, 0, len(b)+n), b...)
}

func appendNumber(b []byte, v uint64, n int) []byte {
	for i := range n {
		b = append(b, byte(v>>(byteBits*i)))
	}
	return b
}
