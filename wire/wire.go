// Package wire: numbers and frames as bytes.
package wire

import (
	"strings"

	"ferryman/api"
)

const (
	more     = 128 // the highest bit: set in each byte of a number but the last one
	maxBytes = 9   // nine times seven bits are just those of an int that is not below 0
	sumStart = 1<<32 - 1
	sumTurn  = 3988292384
	headSize = 4
	sumSize  = 4
)

// Num as bytes: seven bits each, the lowest first; all but the last have the highest bit.
func Num(n int) (string, error) {
	if n < 0 {
		return "", api.ErrBound
	}
	var b []byte
	for n >= more {
		b = append(b, byte(n%more+more))
		n /= more
	}
	return string(append(b, byte(n))), nil
}

// Take a number from where bytes begin: it, and what stands behind it.
func Take(s string) (int, string, error) {
	n := 0
	for i := range len(s) {
		if i == maxBytes {
			return 0, "", api.ErrBound
		}
		n += int(s[i]%more) << (7 * i)
		if s[i] >= more {
			continue
		}
		// A last byte of 0 could have been left out: each number has one way to be written.
		if s[i] == 0 && i > 0 {
			return 0, "", api.ErrForm
		}
		return n, fresh(s[i+1:]), nil
	}
	return 0, "", api.ErrEnd
}

// Sum of bytes.
func Sum(s string) uint32 {
	x := uint32(sumStart)
	for i := range len(s) {
		x ^= uint32(s[i])
		for range 8 {
			odd := x%2 == 1
			x /= 2
			if odd {
				x ^= sumTurn
			}
		}
	}
	return x ^ sumStart
}

// Frame around a body.
func Frame(kind byte, body string) string {
	s := head(kind) + body
	return s + sumBytes(Sum(s))
}

// Open a frame: its body.
func Open(kind byte, s string) (string, error) {
	if len(s) < headSize+sumSize {
		return "", api.ErrEnd
	}
	if s[:headSize] != head(kind) {
		return "", api.ErrVersion
	}
	end := len(s) - sumSize
	if s[end:] != sumBytes(Sum(s[:end])) {
		return "", api.ErrSum
	}
	return fresh(s[headSize:end]), nil
}

func head(kind byte) string {
	return string([]byte{'F', 'Y', '1', kind})
}

func sumBytes(x uint32) string {
	return string([]byte{byte(x), byte(x >> 8), byte(x >> 16), byte(x >> 24)})
}

// fresh: an answer shares no memory with what was handed in, nor does it keep that alive.
func fresh(s string) string {
	return strings.Clone(s)
}
