// Package codec: numbers and texts as bytes.
package codec

import (
	"strings"

	"tackroom/api"
)

const (
	digitBits = 7
	// more is what a digit has on top when another one follows.
	more = 1 << digitBits
	// maxDigits is how many digits MaxNumber needs.
	maxDigits = 6
	// sealBase is the greatest prime below 2^16, so that either sum fits two bytes.
	sealBase = 65521
)

// Number as bytes: digits of seven bits, the lowest ones first, each but the last one with 128.
func Number(n int) (string, api.Errno) {
	if n < 0 || n > api.MaxNumber {
		return "", api.ErrRange
	}
	var digits []byte
	for n >= more {
		digits = append(digits, byte(n%more+more))
		n /= more
	}
	return string(append(digits, byte(n))), api.OK
}

// Text as bytes: its length, and it.
func Text(s string) (string, api.Errno) {
	if len(s) > api.MaxBytes {
		return "", api.ErrSize
	}
	// MaxBytes is far below MaxNumber: a length that came so far is not refused.
	length, _ := Number(len(s))
	return length + s, api.OK
}

// ReadNumber from the front of bytes; and what is left: a copy, as an answer shares no memory with what was handed in.
func ReadNumber(s string) (int, string, api.Errno) {
	n, size, e := number(s)
	if e != api.OK {
		return 0, "", e
	}
	return n, strings.Clone(s[size:]), api.OK
}

// ReadText from the front of bytes; and what is left: copies, both of them.
func ReadText(s string) (string, string, api.Errno) {
	length, start, e := number(s)
	if e != api.OK {
		return "", "", e
	}
	if length > api.MaxBytes {
		return "", "", api.ErrSize
	}
	if length > len(s)-start {
		return "", "", api.ErrShort
	}
	end := start + length
	return strings.Clone(s[start:end]), strings.Clone(s[end:]), api.OK
}

// Seal of bytes: four of them.
func Seal(s string) string {
	first, second := 1, 0
	for i := range len(s) {
		first = (first + int(s[i])) % sealBase
		second = (second + first) % sealBase
	}
	return string([]byte{byte(second >> 8), byte(second), byte(first >> 8), byte(first)})
}

// number at the front of bytes, and how many bytes it has.
func number(s string) (int, int, api.Errno) {
	size := countDigits(s)
	// ErrShort goes ahead of ErrForm: bytes that end within a number are short, however many they are.
	if size == 0 {
		return 0, 0, api.ErrShort
	}
	// A last digit 0 adds nothing, so the number would do without it.
	if size > maxDigits || size > 1 && s[size-1] == 0 {
		return 0, 0, api.ErrForm
	}
	n := 0
	for i := size - 1; i >= 0; i-- {
		n = n*more + int(s[i]%more)
	}
	if n > api.MaxNumber {
		return 0, 0, api.ErrForm
	}
	return n, size, api.OK
}

// countDigits of the number at the front of bytes; 0: the bytes end within it.
func countDigits(s string) int {
	for i := range len(s) {
		if s[i] < more {
			return i + 1
		}
	}
	return 0
}
