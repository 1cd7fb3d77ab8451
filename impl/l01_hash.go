package impl

import "strings"

const hashStart = 17
const hashTimes = 1000003
const hashRound = 2147483647

const hexDigits = "0123456789abcdef"
const hexSigns = 8
const maxHex = 4294967295
const noHex = -1

// hash has methods of its own so that each step over a text, and each sign of
// a number, can be handed on as a function.
type hash int64

// with stays below 2^51 ahead of the remainder, so that nothing wraps round.
func (h hash) with(b byte) hash {
	return (hashTimes*h + hash(b) + 1) % hashRound
}

// withHex keeps noHex to the end, so that one wrong sign spoils the whole.
func (h hash) withHex(b byte) hash {
	digit := strings.IndexByte(hexDigits, b)
	if h == noHex || digit < 0 {
		return noHex
	}
	return 16*h + hash(digit)
}

// hexSign counts places from the lowest on.
func (h hash) hexSign(place int) byte {
	return hexDigits[h>>(4*uint(place))&15]
}

func stepped(first hash, s string, step func(hash, byte) hash) hash {
	h := first
	for i := range len(s) {
		h = step(h, s[i])
	}
	return h
}

func highestFirst(places int, sign func(int) byte) string {
	signs := make([]byte, places)
	for i := range signs {
		signs[i] = sign(places - 1 - i)
	}
	return string(signs)
}

func Hash(s string) int64 {
	return int64(stepped(hashStart, s, hash.with))
}

func HexOf(n int64) string {
	if n < 0 || n > maxHex {
		return ""
	}
	return highestFirst(hexSigns, hash(n).hexSign)
}

func FromHex(s string) (int64, bool) {
	if len(s) != hexSigns {
		return 0, false
	}
	n := stepped(0, s, hash.withHex)
	if n == noHex {
		return 0, false
	}
	return int64(n), true
}

func Turned(s string, at int64, to int64) string {
	// Copied even where nothing is turned: an answer shares no memory with
	// an argument.
	bytes := []byte(s)
	if at >= 0 && at < int64(len(bytes)) && to >= 0 && to <= 255 {
		bytes[at] = byte(to)
	}
	return string(bytes)
}
