package tests

import (
	"slices"
	"strings"
	"testing"
	"unsafe"

	"loop.example/g00346/impl"
)

// frameOf takes the signs as they are told, so that a wrong head can be laid
// ahead of a text too.
func frameOf(length, sum, text string) string { return length + sum + text }

func framesOf(texts ...string) string {
	all := ""
	for _, s := range texts {
		all += impl.Framed(s)
	}
	return all
}

func manyTexts() []string {
	return []string{
		"", "a", "hi", "\x00", "\n", "package main\n", "\u00e9\u00e9n", allBytes(),
		"000000022b4cc2eahi", impl.Framed(""), impl.Framed(impl.Framed("hi")),
		strings.Repeat("\x00", 300), strings.Repeat("kiln ", 3999) + "kiln", strings.Repeat("\xff", 20000),
	}
}

func TestFramedOfTexts(t *testing.T) {
	cases := []struct{ text, want string }{
		{"", frameOf("00000000", "00000011", "")},
		{"a", frameOf("00000001", "010366d5", "a")},
		{"hi", frameOf("00000002", "2b4cc2ea", "hi")},
		{"ab", frameOf("00000002", "2ae1f30e", "ab")},
		{"\x00", frameOf("00000001", "01036674", "\x00")},
		{allBytes(), frameOf("00000100", impl.HexOf(448080837), allBytes())},
		{strings.Repeat("\xff", 20000), frameOf("00004e20", impl.HexOf(1765797778), strings.Repeat("\xff", 20000))},
	}
	for _, c := range cases {
		if got := impl.Framed(c.text); got != c.want {
			t.Errorf("Framed of %.20q is %.40q, not %.40q", c.text, got, c.want)
		}
	}
}

func TestFramedOfTooMuch(t *testing.T) {
	if impl.MaxText != 20000 || impl.MaxFrames != 400 {
		t.Fatal("the limits are not the document's")
	}
	for _, n := range []int{impl.MaxText + 1, impl.MaxText + 2, 2 * impl.MaxText, 1 << 16, 1 << 20} {
		if got := impl.Framed(strings.Repeat("a", n)); got != "" {
			t.Errorf("Framed of %d bytes is %.20q", n, got)
		}
	}
}

// Promise 2.
func TestUnframedOfFramedIsTheText(t *testing.T) {
	for _, s := range manyTexts() {
		if got, is := impl.Unframed(impl.Framed(s)); got != s || !is {
			t.Errorf("Unframed of Framed %.20q (%d bytes) is %.20q, %v", s, len(s), got, is)
		}
	}
	for n := range 600 {
		s := strings.Repeat("kiln\n", n/5+1)[:n]
		if got, is := impl.Unframed(impl.Framed(s)); got != s || !is {
			t.Errorf("Unframed of Framed of %d bytes is %.20q, %v", n, got, is)
		}
	}
}

// Promise 2, cut ahead or behind, by every number of bytes.
func TestCutItIsNone(t *testing.T) {
	for _, s := range []string{"", "a", "hi", "package main\n", allBytes()} {
		f := impl.Framed(s)
		for n := range len(f) {
			mustBeNone(t, f[:n])
			mustBeNone(t, f[n+1:])
			mustBeNone(t, f[:n]+f[n+1:])
		}
	}
	f := impl.Framed(strings.Repeat("a", impl.MaxText))
	for _, n := range []int{0, 8, 15, 16, 17, 10000, len(f) - 2, len(f) - 1} {
		mustBeNone(t, f[:n])
	}
}

func mustBeNone(t *testing.T, s string) {
	t.Helper()
	if got, is := impl.Unframed(s); got != "" || is {
		t.Errorf("Unframed of %.60q is %.20q, %v", s, got, is)
	}
}

// Promise 2, every byte turned to every other one.
func TestTurnedItIsNone(t *testing.T) {
	for _, s := range []string{"", "a", "hi", "\x00\x00\x00", "package main\n", strings.Repeat("k", 40)} {
		f := impl.Framed(s)
		for at := range int64(len(f)) {
			for to := range int64(256) {
				turned := impl.Turned(f, at, to)
				if turned != f {
					mustBeNone(t, turned)
				}
			}
		}
	}
}

func TestALongOneTurnedIsNone(t *testing.T) {
	f := impl.Framed(strings.Repeat("kiln ", 4000))
	for _, at := range []int64{0, 4, 7, 8, 15, 16, 17, 10000, int64(len(f)) - 1} {
		for _, to := range []int64{0, 49, 65, 97, 120, 255} {
			if turned := impl.Turned(f, at, to); turned != f {
				mustBeNone(t, turned)
			}
		}
	}
}

func TestWithMoreBehindItIsNone(t *testing.T) {
	for _, s := range []string{"", "a", "hi", allBytes(), strings.Repeat("a", impl.MaxText)} {
		f := impl.Framed(s)
		for _, more := range []string{"x", "\x00", "\n", "0", f} {
			mustBeNone(t, f+more)
			mustBeNone(t, more+f)
		}
	}
}

func TestUnframedOfOthers(t *testing.T) {
	tenBytes := "abcdefghij"
	sum := impl.HexOf(impl.Hash(tenBytes))
	long := strings.Repeat("a", impl.MaxText+1)
	longSum := impl.HexOf(impl.Hash(long))
	if _, is := impl.Unframed(frameOf("0000000a", sum, tenBytes)); !is {
		t.Fatal("the right one of them is not read")
	}
	others := []string{
		"", "hi", "0000000000000000", strings.Repeat("0", 15), "00000000", "0000000000000011x",
		frameOf("0000000A", sum, tenBytes),
		frameOf("0000000a", strings.ToUpper(sum), tenBytes),
		frameOf("00000009", sum, tenBytes),
		frameOf("0000000b", sum, tenBytes),
		frameOf("00000000", sum, tenBytes),
		frameOf("00000000", "00000011", tenBytes),
		frameOf("00004e20", sum, tenBytes),
		frameOf("00004e21", sum, tenBytes),
		frameOf("7fffffff", sum, tenBytes),
		frameOf("80000000", sum, tenBytes),
		frameOf("ffffffff", sum, tenBytes),
		frameOf("fffffff6", sum, tenBytes),
		frameOf("fffffff0", sum, tenBytes),
		frameOf("00000010", sum, tenBytes),
		frameOf("      10", sum, tenBytes),
		frameOf("0000000 ", sum, tenBytes),
		frameOf("-0000001", sum, tenBytes),
		frameOf("+000000a", sum, tenBytes),
		frameOf("a", sum, tenBytes),
		frameOf("0000000a", "", tenBytes),
		frameOf("0000000a", "ffffffff", tenBytes),
		frameOf("0000000a", "00000000", tenBytes),
		frameOf(sum, "0000000a", tenBytes),
		frameOf("00004e21", longSum, long),
		frameOf("00004e20", longSum, long),
		frameOf(impl.HexOf(1<<17), impl.HexOf(impl.Hash(strings.Repeat("a", 1<<17))), strings.Repeat("a", 1<<17)),
	}
	if sum == strings.ToUpper(sum) {
		t.Fatal("the sum has no letter to write great")
	}
	for _, s := range others {
		mustBeNone(t, s)
	}
}

// The Hash of this text is 0, the number that stands beside a refusal of
// FromHex: signs that are no number must not pass for it.
func TestATextWithHashNought(t *testing.T) {
	s := "anegfnk"
	if n := impl.Hash(s); n != 0 {
		t.Fatal(n)
	}
	f := frameOf("00000007", "00000000", s)
	if got, is := impl.Unframed(f); impl.Framed(s) != f || got != s || !is {
		t.Errorf("Framed is %q, Unframed of it %q, %v", impl.Framed(s), got, is)
	}
	for _, sum := range []string{"zzzzzzzz", "0000000g", "-0000000", "        ", "0000000O"} {
		mustBeNone(t, frameOf("00000007", sum, s))
		mustBeFrames(t, frameOf("00000007", sum, s), nil, 0)
	}
}

func mustBeFrames(t *testing.T, s string, want []string, bytes int) {
	t.Helper()
	list, n := impl.Frames(s)
	if !slices.Equal(list, want) || n != int64(bytes) {
		t.Errorf("Frames of %.60q (%d bytes) are %d texts %.60q of %d bytes, not %d of %d", s, len(s), len(list), list, n, len(want), bytes)
	}
}

func TestFramesOfNone(t *testing.T) {
	for _, s := range []string{"", "x", "hi", "\x00", "0000000000000000", strings.Repeat("0", 15), allBytes(), strings.Repeat("z", 50000)} {
		mustBeFrames(t, s, nil, 0)
	}
	mustBeFrames(t, "x"+impl.Framed("hi"), nil, 0)
	mustBeFrames(t, "\n"+impl.Framed("hi"), nil, 0)
}

func TestFramesOfSeveral(t *testing.T) {
	texts := manyTexts()
	for n := range len(texts) + 1 {
		whole := framesOf(texts[:n]...)
		mustBeFrames(t, whole, texts[:n], len(whole))
		for _, behind := range []string{"x", "\x00", "0000000000000000", "00000000", allBytes()} {
			mustBeFrames(t, whole+behind, texts[:n], len(whole))
		}
	}
	mustBeFrames(t, framesOf("", "", ""), []string{"", "", ""}, 48)
	mustBeFrames(t, framesOf("hi", "hi"), []string{"hi", "hi"}, 36)
}

// Promise 2: what was whole ahead of a cut stays, wherever it is cut.
func TestCutWhatWasWholeAheadStays(t *testing.T) {
	texts := []string{"start 1", "", "done 0 17", allBytes(), "hi"}
	whole := framesOf(texts...)
	for cut := range len(whole) + 1 {
		kept, taken := 0, 0
		for kept < len(texts) && taken+16+len(texts[kept]) <= cut {
			taken += 16 + len(texts[kept])
			kept++
		}
		mustBeFrames(t, whole[:cut], texts[:kept], taken)
	}
}

// Promise 2: what is turned ends them, though whole ones stand behind it.
func TestTurnedWhatWasWholeAheadStays(t *testing.T) {
	texts := []string{"start 1", "", "done 0 17", "hi"}
	whole := framesOf(texts...)
	kept, begin := 0, 0
	for at := range len(whole) {
		if at == begin+16+len(texts[kept]) {
			begin = at
			kept++
		}
		for to := range int64(256) {
			if turned := impl.Turned(whole, int64(at), to); turned != whole {
				mustBeFrames(t, turned, texts[:kept], begin)
			}
		}
	}
}

func TestFramesWithAWrongOneInTheMiddle(t *testing.T) {
	hi, end := impl.Framed("hi"), impl.Framed("end")
	long := strings.Repeat("a", impl.MaxText+1)
	wrong := []string{
		"x", hi[:17], hi[1:], impl.Turned(hi, 17, 120), impl.Turned(hi, 8, 120), impl.Turned(hi, 7, 49),
		frameOf("0000000A", impl.HexOf(impl.Hash("abcdefghij")), "abcdefghij"),
		frameOf("00004e21", impl.HexOf(impl.Hash(long)), long),
		frameOf("ffffffff", "00000011", ""),
	}
	for _, w := range wrong {
		mustBeFrames(t, hi+w+end, []string{"hi"}, 18)
		mustBeFrames(t, hi+hi+w, []string{"hi", "hi"}, 36)
		mustBeFrames(t, w+hi+end, nil, 0)
	}
}

func TestFramesAtTheLimit(t *testing.T) {
	texts := make([]string, impl.MaxFrames+2)
	for i := range texts {
		texts[i] = strings.Repeat("k", i%7)
	}
	for _, n := range []int{impl.MaxFrames - 1, impl.MaxFrames} {
		whole := framesOf(texts[:n]...)
		mustBeFrames(t, whole, texts[:n], len(whole))
		mustBeFrames(t, whole+"x", texts[:n], len(whole))
	}
	first := framesOf(texts[:impl.MaxFrames]...)
	for _, n := range []int{impl.MaxFrames + 1, impl.MaxFrames + 2} {
		mustBeFrames(t, framesOf(texts[:n]...), texts[:impl.MaxFrames], len(first))
	}
	empty := strings.Repeat(impl.Framed(""), 1000)
	mustBeFrames(t, empty, make([]string, impl.MaxFrames), 16*impl.MaxFrames)
}

func TestFramesOfGreatTexts(t *testing.T) {
	great := strings.Repeat("b", impl.MaxText)
	whole := framesOf(great, "", great)
	mustBeFrames(t, whole, []string{great, "", great}, 2*impl.MaxText+48)
	mustBeFrames(t, whole[:len(whole)-1], []string{great, ""}, impl.MaxText+32)
}

// sharing asks whether two texts have a byte of memory in common.
func sharing(a, b string) bool {
	if len(a) == 0 || len(b) == 0 {
		return false
	}
	firstA := uintptr(unsafe.Pointer(unsafe.StringData(a)))
	firstB := uintptr(unsafe.Pointer(unsafe.StringData(b)))
	return firstA < firstB+uintptr(len(b)) && firstB < firstA+uintptr(len(a))
}

// Promise 21: the texts are laid over bytes of the test's own, so that a write
// into them, or into the room behind them, would be seen.
func TestFramesAreNewMemoryAndTheTextStays(t *testing.T) {
	held := impl.Framed("package main\n") + impl.Framed("import ab\n") + impl.Framed("import ab\n")
	room := []byte(held + "spare room")
	s := unsafe.String(&room[0], len(held))

	framed := impl.Framed(s)
	one, _ := impl.Unframed(s[:29])
	list, _ := impl.Frames(s)
	if one != "package main\n" || len(list) != 3 {
		t.Fatalf("%q, %q", one, list)
	}
	if sharing(framed, s) || sharing(one, s) {
		t.Error("an answer shares memory with the text")
	}
	for i, a := range list {
		if sharing(a, s) {
			t.Errorf("text %d shares memory with the text handed in", i)
		}
		for j, b := range list[:i] {
			if sharing(a, b) {
				t.Errorf("texts %d and %d share memory", i, j)
			}
		}
	}
	if string(room) != held+"spare room" {
		t.Errorf("the text handed in is now %q", room)
	}
	list[0] = "x"
	if again, _ := impl.Frames(s); again[0] != "package main\n" {
		t.Error("a list is handed out twice")
	}
}

// Promise 21: whatever is handed in, whole or wrong, is answered.
func TestFramesAnswerAtEveryText(t *testing.T) {
	seed := impl.Framed("hi") + impl.Framed("") + impl.Framed("kiln")
	for at := range len(seed) {
		for _, put := range []string{"", "f", "ffffffff", "00000000", "\xff", "80000000", "7fffffff"} {
			s := seed[:at] + put + seed[at:]
			list, n := impl.Frames(s)
			if n < 0 || n > int64(len(s)) || framesOf(list...) != s[:n] {
				t.Errorf("Frames of %q are %q, %d", s, list, n)
			}
			if text, is := impl.Unframed(s); is && impl.Framed(text) != s || !is && text != "" {
				t.Errorf("Unframed of %q is %q, %v", s, text, is)
			}
		}
	}
}
