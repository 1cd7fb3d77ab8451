package tests

import (
	"bytes"
	"math"
	"slices"
	"strconv"
	"strings"
	"testing"
	"unsafe"

	"loop.example/g00346/impl"
)

// piecedTexts are all texts of up to 6 of these signs, and longer ones of any
// bytes.
func piecedTexts() []string {
	texts := manyTexts()
	short := []string{""}
	for range 6 {
		longer := []string{}
		for _, s := range short {
			for _, sign := range []string{"a", " ", "\n", "\r"} {
				longer = append(longer, s+sign)
			}
		}
		texts = append(texts, longer...)
		short = longer
	}
	return append(texts, strings.Repeat("\n", 5000), strings.Repeat(" ", 5000), strings.Repeat("a \n", 5000),
		allBytes()+"\n", "\n"+allBytes()+" ", " "+allBytes()+allBytes())
}

func mustBePieces(t *testing.T, name, s string, got []string, want ...string) {
	t.Helper()
	if !slices.Equal(got, want) {
		t.Errorf("%s of %.40q is %.80q, not %.80q", name, s, got, want)
	}
}

func mustBeMany(t *testing.T, s string, pieces []string, many int, mark string) {
	t.Helper()
	if len(pieces) != many {
		t.Errorf("of %.40q there are %d pieces, not %d", s, len(pieces), many)
	}
	for _, piece := range pieces {
		if strings.Contains(piece, mark) {
			t.Errorf("of %.40q the piece %.40q has %q in it", s, piece, mark)
		}
	}
}

func TestLinesOrdinary(t *testing.T) {
	for _, c := range []struct {
		s    string
		want []string
	}{
		{"", nil},
		{"\n", []string{""}},
		{"\n\n", []string{"", ""}},
		{"\n\n\n", []string{"", "", ""}},
		{"a", []string{"a"}},
		{"a\n", []string{"a"}},
		{"a\n\n", []string{"a", ""}},
		{"\na", []string{"", "a"}},
		{"a\nb", []string{"a", "b"}},
		{"a\nb\n", []string{"a", "b"}},
		{"a\n\n\nb", []string{"a", "", "", "b"}},
		{"package main\nfunc main 1 $0\n", []string{"package main", "func main 1 $0"}},
		{" \n ", []string{" ", " "}},
		{"a\r\nb\r", []string{"a\r", "b\r"}},
		{"a\x0bb\x0cc\x00d\u0085e\u2028f", []string{"a\x0bb\x0cc\x00d\u0085e\u2028f"}},
		{"\xff\n\x80\n\x0a\x8a", []string{"\xff", "\x80", "", "\x8a"}},
		{"\u010a\nb", []string{"\u010a", "b"}},
	} {
		mustBePieces(t, "Lines", c.s, impl.Lines(c.s), c.want...)
	}
}

// Promise 5.
func TestLinesJoinedAreTheText(t *testing.T) {
	for _, s := range piecedTexts() {
		lines := impl.Lines(s)
		joined := strings.Join(lines, "\n")
		if strings.HasSuffix(s, "\n") {
			joined += "\n"
		}
		if joined != s {
			t.Errorf("Lines of %.40q joined are %.40q", s, joined)
		}
		many := strings.Count(s, "\n")
		if s != "" && !strings.HasSuffix(s, "\n") {
			many++
		}
		mustBeMany(t, s, lines, many, "\n")
	}
}

func TestWordsOrdinary(t *testing.T) {
	for _, c := range []struct {
		s    string
		want []string
	}{
		{"", nil},
		{" ", []string{"", ""}},
		{"  ", []string{"", "", ""}},
		{"a", []string{"a"}},
		{" a", []string{"", "a"}},
		{"a ", []string{"a", ""}},
		{"  a", []string{"", "", "a"}},
		{"a  ", []string{"a", "", ""}},
		{"a b", []string{"a", "b"}},
		{"a  b", []string{"a", "", "b"}},
		{"a   b", []string{"a", "", "", "b"}},
		{" a b ", []string{"", "a", "b", ""}},
		{"func main 1 + $0 -2", []string{"func", "main", "1", "+", "$0", "-2"}},
		{"\n", []string{"\n"}},
		{"a\tb\nc\rd\x0be\x0cf\x00g", []string{"a\tb\nc\rd\x0be\x0cf\x00g"}},
		{"a\u00a0b\u2003c\u3000d\u0085e", []string{"a\u00a0b\u2003c\u3000d\u0085e"}},
		{"\t \n", []string{"\t", "\n"}},
		{"\xff \xa0 \x20\x80", []string{"\xff", "\xa0", "", "\x80"}},
		{"\u0120 b", []string{"\u0120", "b"}},
	} {
		mustBePieces(t, "Words", c.s, impl.Words(c.s), c.want...)
	}
}

// Promise 5.
func TestWordsJoinedAreTheText(t *testing.T) {
	for _, s := range piecedTexts() {
		words := impl.Words(s)
		if joined := strings.Join(words, " "); joined != s {
			t.Errorf("Words of %.40q joined are %.40q", s, joined)
		}
		many := strings.Count(s, " ") + 1
		if s == "" {
			many = 0
		}
		mustBeMany(t, s, words, many, " ")
	}
}

func TestNameOkByLength(t *testing.T) {
	for _, letter := range []string{"a", "b", "m", "y", "z"} {
		for n := range 20 {
			name := strings.Repeat(letter, n)
			if impl.NameOk(name) != (n >= 1 && n <= 8) {
				t.Errorf("NameOk of %q is %v", name, impl.NameOk(name))
			}
		}
	}
	for _, name := range []string{"main", "lib", "az", "za", "abcdefgh", "stuvwxyz", "ijklmnop"} {
		if !impl.NameOk(name) {
			t.Errorf("%q is a name", name)
		}
	}
	if impl.NameOk("abcdefghi") || impl.NameOk(strings.Repeat("kiln", 5000)) {
		t.Error("of more than 8 letters there is no name")
	}
}

// Each byte there is, at each place of a name of each length.
func TestNameOkByByte(t *testing.T) {
	for n := 1; n <= 9; n++ {
		for at := range n {
			for b := range 256 {
				name := []byte("kilnkilnk"[:n])
				name[at] = byte(b)
				want := n <= 8 && b >= 'a' && b <= 'z'
				if got := impl.NameOk(string(name)); got != want {
					t.Errorf("NameOk of %q is %v, not %v", name, got, want)
				}
			}
		}
	}
	for _, name := range []string{"a`", "{z", "aZ", "Main", "a1", "1", "a b", " a", "a ", "a.b", "a-b", "a_b", "a\n", "\x00", "\u00e9", "a\u00e9", "\uff41", "\xe1"} {
		if impl.NameOk(name) {
			t.Errorf("%q is no name", name)
		}
	}
}

func mustBeNumber(t *testing.T, s string, want int64) {
	t.Helper()
	if got, is := impl.NumberOf(s); got != want || !is {
		t.Errorf("NumberOf %q is %d, %v, not %d, true", s, got, is, want)
	}
}

func mustBeNoNumber(t *testing.T, s string) {
	t.Helper()
	if got, is := impl.NumberOf(s); got != 0 || is {
		t.Errorf("NumberOf %.40q is %d, %v, not 0, false", s, got, is)
	}
}

func TestNumberOfNumbers(t *testing.T) {
	for s, want := range map[string]int64{
		"0": 0, "1": 1, "9": 9, "10": 10, "12": 12, "-1": -1, "-9": -9, "-10": -10, "-12": -12, "100": 100,
		"1234567890": 1234567890, "-1234567890": -1234567890, "999999999": 999999999, "1000000000": 1000000000,
		"2147483646": greatestWord - 1, "2147483647": greatestWord, "-2147483647": leastWord + 1, "-2147483648": leastWord,
	} {
		mustBeNumber(t, s, want)
	}
	for _, n := range edgeWords {
		mustBeNumber(t, strconv.FormatInt(n, 10), n)
	}
	for n := int64(-3000); n <= 3000; n++ {
		mustBeNumber(t, strconv.FormatInt(n, 10), n)
	}
}

func TestNumberOfAnyNumberIsAWordOrNone(t *testing.T) {
	for _, n := range manyNumbers() {
		s := strconv.FormatInt(n, 10)
		if n >= leastWord && n <= greatestWord {
			mustBeNumber(t, s, n)
		} else {
			mustBeNoNumber(t, s)
		}
	}
}

func TestNumberOfWhatHasNotTheForm(t *testing.T) {
	for _, s := range []string{
		"", "-", "--", "-0", "--0", "00", "000", "-00", "01", "-01", "012", "-012", "001", "0000000000", "0000000001",
		"00000000000", "+", "+0", "+1", "+12", "-+1", "+-1", "--1", "---1", "1-", "1-2", "-1-", "1+", "1+2", "0-", "0-1",
		" 1", "1 ", " ", "- 1", "1 2", "\n1", "1\n", "\t1", "1\t", "1\r", "-1\n", "\x001", "1\x00",
		"a", "a1", "1a", "1a2", "-a", "-1a", "0x1", "0b1", "0o1", "1_0", "1,0", "1.0", "1.", ".1", "1e3", "1E3", "Inf", "NaN", "nil",
		"/", ":", "1/", "1:", "-/", "-:", "\u0661", "\uff11", "1\uff11", "\xb1", "1\xb1", "\u22121", "\u2013" + "1",
	} {
		mustBeNoNumber(t, s)
	}
}

// Each byte there is, ahead of digits, among them, and behind.
func TestNumberOfByByte(t *testing.T) {
	for b := range 256 {
		digit := b >= '0' && b <= '9'
		for _, s := range []string{"\x00", "\x0012", "1\x002", "12\x00", "-\x00", "-\x0012", "-1\x002", "-12\x00"} {
			text := string(bytes.Replace([]byte(s), []byte{0}, []byte{byte(b)}, 1))
			want, err := strconv.ParseInt(text, 10, 64)
			switch {
			case text == "-12" || digit && err == nil && strconv.FormatInt(want, 10) == text:
				mustBeNumber(t, text, want)
			default:
				mustBeNoNumber(t, text)
			}
		}
	}
}

func TestNumberOfWhatIsNoWord(t *testing.T) {
	for _, s := range []string{
		"2147483648", "-2147483649", "2147483649", "-2147483650", "2147483650", "2147483700", "3000000000", "-3000000000",
		"4294967295", "4294967296", "-4294967296", "4294967297", "9999999999", "-9999999999",
		"10000000000", "-10000000000", "99999999999", "21474836470", "-21474836480", "02147483647", "-02147483648",
		strconv.FormatInt(math.MaxInt64, 10), strconv.FormatInt(math.MinInt64, 10),
		"9223372036854775808", "-9223372036854775809", "18446744073709551615", "18446744073709551616", "18446744073709551617",
		"-18446744073709551615", "36893488147419103233", "340282366920938463463374607431768211457",
		strings.Repeat("9", 100), "-" + strings.Repeat("1", 20000), "1" + strings.Repeat("0", 64), strings.Repeat("0", 20000),
		strings.Repeat("0", 19) + "1",
	} {
		mustBeNoNumber(t, s)
	}
}

// Promise 21: the text is laid over bytes of the test's own, with room behind
// it, so that a write into either would be seen.
func TestTextsAreNewMemoryAndArgumentsStay(t *testing.T) {
	held := []byte("package main\n\nfunc main 1  $0\n -12" + "room behind")
	room := slices.Clone(held)
	s := unsafe.String(&room[0], len(held)-len("room behind"))
	for _, cut := range []func(string) []string{impl.Lines, impl.Words} {
		first, again := cut(s), cut(s)
		want := slices.Clone(again)
		for i, a := range first {
			if sharing(a, s) {
				t.Errorf("the piece %q shares the text's memory", a)
			}
			for j, b := range again {
				if sharing(a, b) {
					t.Errorf("the pieces %d and %d of two answers share memory", i, j)
				}
				if i != j && sharing(a, first[j]) {
					t.Errorf("the pieces %d and %d share memory", i, j)
				}
			}
			first[i] = "written over"
		}
		if !slices.Equal(again, want) {
			t.Error("two answers share their list")
		}
	}
	impl.NameOk(s)
	impl.NumberOf(s)
	impl.NameOk(s[:7])
	impl.NumberOf(s[len(s)-3:])
	if !bytes.Equal(room, held) {
		t.Error("a text, or the room behind it, was written into")
	}
}

// Promise 21: whatever they are given, they answer.
func TestTextsAnswerAtEveryText(t *testing.T) {
	for _, s := range piecedTexts() {
		impl.Lines(s)
		impl.Words(s)
		impl.NameOk(s)
		if n, is := impl.NumberOf(s); !is && n != 0 {
			t.Errorf("NumberOf %.40q is false, and %d", s, n)
		}
	}
	for b := range 256 {
		one := string([]byte{byte(b)})
		mustBePieces(t, "Words", one+one, impl.Words(one+one), strings.Split(one+one, " ")...)
		if got := impl.Lines(one + "a" + one); b != '\n' && len(got) != 1 {
			t.Errorf("of %q there are %d Lines", one+"a"+one, len(got))
		}
	}
}
