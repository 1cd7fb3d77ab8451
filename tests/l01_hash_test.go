package tests

import (
	"math"
	"strings"
	"testing"
	"unsafe"

	"loop.example/g00346/impl"
)

func allBytes() string {
	all := make([]byte, 256)
	for i := range all {
		all[i] = byte(i)
	}
	return string(all)
}

func TestHashOfTexts(t *testing.T) {
	cases := []struct {
		text string
		want int64
	}{
		{"", 17},
		{"a", 17000149},
		{"ab", 719450894},
		{"ba", 720450896},
		{"\x00", 17000052},
		{"\x00\x00", 622450505},
		{"\xff", 17000307},
		{"package main\n", 858847461},
		{"\u00e9\u00e9n", 509015168},
		{allBytes(), 448080837},
		{strings.Repeat("\xff", 20000), 1765797778},
	}
	for _, c := range cases {
		if got := impl.Hash(c.text); got != c.want {
			t.Errorf("Hash of %.20q (%d bytes) is %d, not %d", c.text, len(c.text), got, c.want)
		}
	}
}

// Promise 1, with every byte of each text turned to every other one.
func TestTurnedInOneByteHasAnotherHash(t *testing.T) {
	texts := []string{"a", "\x00", "\xff", "ab", "\x00\x00\x00", "package main\n", "\u00e9\u00e9n", allBytes()}
	for _, s := range texts {
		for at := range int64(len(s)) {
			for to := range int64(256) {
				turned := impl.Turned(s, at, to)
				if to == int64(s[at]) {
					if turned != s {
						t.Fatalf("%q turned at %d to the byte it had is %q", s, at, turned)
					}
					continue
				}
				if want := s[:at] + string([]byte{byte(to)}) + s[at+1:]; turned != want {
					t.Fatalf("%q turned at %d to %d is %q", s, at, to, turned)
				}
				if impl.Hash(turned) == impl.Hash(s) {
					t.Fatalf("%q turned at %d to %d has the same Hash", s, at, to)
				}
			}
		}
	}
}

func TestTurnedInALongTextHasAnotherHash(t *testing.T) {
	s := strings.Repeat("kiln ", 4000)
	for _, at := range []int64{0, 1, 9999, 19998, 19999} {
		for _, to := range []int64{0, 1, 127, 128, 255} {
			turned := impl.Turned(s, at, to)
			if turned == s || len(turned) != len(s) || impl.Hash(turned) == impl.Hash(s) {
				t.Errorf("turned at %d to %d", at, to)
			}
		}
	}
}

func TestHexOf(t *testing.T) {
	cases := []struct {
		n    int64
		want string
	}{
		{0, "00000000"},
		{1, "00000001"},
		{9, "00000009"},
		{10, "0000000a"},
		{15, "0000000f"},
		{16, "00000010"},
		{255, "000000ff"},
		{20000, "00004e20"},
		{305419896, "12345678"},
		{2147483646, "7ffffffe"},
		{2147483648, "80000000"},
		{2596069104, "9abcdef0"},
		{4294967294, "fffffffe"},
		{4294967295, "ffffffff"},
		{4294967296, ""},
		{-1, ""},
		{-4294967295, ""},
		{math.MinInt64, ""},
		{math.MaxInt64, ""},
	}
	for _, c := range cases {
		if got := impl.HexOf(c.n); got != c.want {
			t.Errorf("HexOf %d is %q, not %q", c.n, got, c.want)
		}
	}
}

func TestFromHexOfHexOf(t *testing.T) {
	numbers := []int64{0, 1, 4294967295, 4294967294, 305419896, 2596069104, impl.Hash("ab")}
	for place := range 32 {
		numbers = append(numbers, 1<<place, 1<<place-1)
	}
	for _, n := range numbers {
		if got, is := impl.FromHex(impl.HexOf(n)); got != n || !is {
			t.Errorf("FromHex of HexOf %d is %d, %v", n, got, is)
		}
	}
}

func TestFromHexOfOthers(t *testing.T) {
	others := []string{
		"", "0", "fffffff", "0000000", "000000000", "0ffffffff", "100000000", "00000001\n",
		"0000010A", "FFFFFFFF", "fffffffF", "Affffffff",
		"0000000g", "0000000G", "0000000/", "0000000:", "0000000`", "0000000@", "g0000000", "000g0000",
		"-0000001", "+0000001", " 0000001", "0000001 ", "0x000001", "0000_001", "0000000.",
		"0000000\x00", "\x00\x00\x00\x00\x00\x00\x00\x00", "0000000\xff", "000000\u00e9", "0000000\u00e9",
		strings.Repeat("0", 20000),
	}
	for _, s := range others {
		if got, is := impl.FromHex(s); got != 0 || is {
			t.Errorf("FromHex of %.20q is %d, %v", s, got, is)
		}
	}
}

// Each byte at each place: only the sixteen signs that HexOf writes are read.
func TestFromHexTakesSixteenSigns(t *testing.T) {
	for at := range int64(8) {
		for to := range int64(256) {
			s := impl.Turned("00000000", at, to)
			n, is := impl.FromHex(s)
			wanted := strings.ContainsRune("0123456789abcdef", rune(to))
			if is != wanted || is && impl.HexOf(n) != s || !is && n != 0 {
				t.Errorf("FromHex of %q is %d, %v", s, n, is)
			}
		}
	}
}

func TestTurnedAtTheEdges(t *testing.T) {
	cases := []struct {
		text   string
		at, to int64
		want   string
	}{
		{"abc", 0, 120, "xbc"},
		{"abc", 1, 120, "axc"},
		{"abc", 2, 120, "abx"},
		{"abc", 2, 99, "abc"},
		{"abc", 3, 120, "abc"},
		{"abc", 4, 120, "abc"},
		{"abc", -1, 120, "abc"},
		{"abc", math.MinInt64, 120, "abc"},
		{"abc", math.MaxInt64, 120, "abc"},
		{"abc", 1 << 32, 120, "abc"},
		{"abc", 0, -1, "abc"},
		{"abc", 0, 0, "\x00bc"},
		{"abc", 2, 255, "ab\xff"},
		{"abc", 2, 256, "abc"},
		{"abc", 1, 376, "abc"},
		{"abc", 1, math.MinInt64, "abc"},
		{"abc", 1, math.MaxInt64, "abc"},
		{"abc", -1, -1, "abc"},
		{"abc", 3, 256, "abc"},
		{"", 0, 120, ""},
		{"", -1, 120, ""},
		{"", 0, 256, ""},
		{"\u00e9", 1, 97, "\xc3a"},
	}
	for _, c := range cases {
		if got := impl.Turned(c.text, c.at, c.to); got != c.want {
			t.Errorf("Turned of %q at %d to %d is %q, not %q", c.text, c.at, c.to, got, c.want)
		}
	}
}

// Promise 21: the text is laid over bytes of the test's own, so that a write
// into it, or into the room behind it, would be seen.
func TestTurnedIsNewMemoryAndTheTextStays(t *testing.T) {
	room := []byte("abcdefgh")
	s := unsafe.String(&room[0], 4)
	for _, at := range []int64{-1, 0, 3, 4, 7} {
		for _, to := range []int64{-1, 120, 256} {
			turned := impl.Turned(s, at, to)
			if unsafe.StringData(turned) == unsafe.StringData(s) {
				t.Errorf("turned at %d to %d shares memory with the text", at, to)
			}
			if string(room) != "abcdefgh" {
				t.Fatalf("turned at %d to %d left %q", at, to, room)
			}
		}
	}
}
