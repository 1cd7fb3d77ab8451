package tests

import (
	"math"
	"regexp"
	"slices"
	"strconv"
	"strings"
	"testing"
	"unsafe"

	"loop.example/g00346/impl"
)

// insForms are how an Ins is written in these tests: a word for its Kind, and
// then what that tells.
var insForms = map[string]struct {
	kind int64
	told string
}{
	"set": {1, "RA"}, "arg": {2, "RA"}, "add": {3, "RAB"}, "sub": {4, "RAB"}, "mul": {5, "RAB"}, "div": {6, "RAB"},
	"zero": {7, "RA"}, "jump": {8, "A"}, "call": {9, "RAN"}, "end": {10, "R"},
}

func insIn(t *testing.T, text string) impl.Ins {
	t.Helper()
	said := strings.Fields(text)
	form := insForms[said[0]]
	if form.kind == 0 || len(said) != 1+len(form.told) {
		t.Fatalf("%q is no Ins", text)
	}
	i := impl.Ins{Kind: form.kind}
	for at, word := range said[1:] {
		n, err := strconv.ParseInt(word, 10, 64)
		switch form.told[at] {
		case 'R':
			i.R = n
		case 'A':
			i.A = n
		case 'B':
			i.B = n
		case 'N':
			i.Name, err = word, nil
		}
		if err != nil {
			t.Fatalf("%q is no Ins: %v", text, err)
		}
	}
	return i
}

// codeIn reads them with a , between; none of the empty text.
func codeIn(t *testing.T, text string) []impl.Ins {
	t.Helper()
	code := []impl.Ins{}
	if text == "" {
		return code
	}
	for one := range strings.SplitSeq(text, ",") {
		code = append(code, insIn(t, one))
	}
	return code
}

func insOf(kind, r, a, b int64, name string) impl.Ins {
	return impl.Ins{Kind: kind, R: r, A: a, B: b, Name: name}
}

func endOf(r int64) impl.Ins  { return insOf(10, r, 0, 0, "") }
func jumpTo(a int64) impl.Ins { return insOf(8, 0, a, 0, "") }

// ending has as many, and at the end one that gives 0.
func ending(many int, one impl.Ins) []impl.Ins {
	return append(slices.Repeat([]impl.Ins{one}, many-1), endOf(0))
}

var wholeName = regexp.MustCompile(`^[a-z]{1,8}\.[a-z]{1,8}\z`)

// insRight goes by the document's sentences.
func insRight(i impl.Ins) bool {
	within := func(n, from, to int64) bool { return n >= from && n <= to }
	register := func(n int64) bool { return within(n, 0, 63) }
	bare := i.B == 0 && i.Name == ""
	switch i.Kind {
	case 1:
		return bare && register(i.R) && within(i.A, leastWord, greatestWord)
	case 2:
		return bare && register(i.R) && within(i.A, 0, 2)
	case 3, 4, 5, 6:
		return i.Name == "" && register(i.R) && register(i.A) && register(i.B)
	case 7:
		return bare && register(i.R) && within(i.A, 0, 199)
	case 8:
		return bare && i.R == 0 && within(i.A, 0, 199)
	case 9:
		return i.B == 0 && register(i.R) && within(i.A, 0, 3) && i.R+i.A <= 64 && wholeName.MatchString(i.Name)
	case 10:
		return bare && register(i.R) && i.A == 0
	}
	return false
}

func codeRight(code []impl.Ins) bool {
	if len(code) < 1 || len(code) > 200 {
		return false
	}
	for _, i := range code {
		goes := i.Kind == 7 || i.Kind == 8
		if !insRight(i) || goes && i.A >= int64(len(code)) {
			return false
		}
	}
	return slices.Contains([]int64{8, 10}, code[len(code)-1].Kind)
}

func registersBy(code []impl.Ins) int64 {
	if !codeRight(code) {
		return 0
	}
	told := map[int64]int{-1: 1}
	for _, i := range code {
		if i.Kind != 8 {
			told[i.R]++
		}
		if i.Kind >= 3 && i.Kind <= 6 {
			told[i.A]++
			told[i.B]++
		}
		for k := int64(0); i.Kind == 9 && k < i.A; k++ {
			told[i.R+k]++
		}
	}
	most := int64(-1)
	for r := range told {
		most = max(most, r)
	}
	return most + 1
}

func mustBeIns(t *testing.T, i impl.Ins, want bool) {
	t.Helper()
	if got := impl.InsOk(i); got != want {
		t.Errorf("InsOk of %d, %d, %d, %d and %.40q is %v", i.Kind, i.R, i.A, i.B, i.Name, got)
	}
}

func mustBeCode(t *testing.T, code []impl.Ins, want bool) {
	t.Helper()
	if got := impl.CodeOk(code); got != want {
		t.Errorf("CodeOk of %d, %.300v, is %v", len(code), code[:min(len(code), 12)], got)
	}
	if got := impl.Registers(code); !want && got != 0 {
		t.Errorf("Registers of %d that are not right, %.300v, are %d", len(code), code[:min(len(code), 12)], got)
	}
}

func mustTell(t *testing.T, code []impl.Ins, want int64) {
	t.Helper()
	mustBeCode(t, code, true)
	if got := impl.Registers(code); got != want {
		t.Errorf("Registers of %v are %d, not %d", code, got, want)
	}
}

// rightIns are of each Kind, at the bounds of what it tells, and between them.
var rightIns = []string{
	"set 0 0", "set 63 0", "set 7 1", "set 0 -2147483648", "set 0 2147483647", "set 63 -1", "set 1 200",
	"arg 0 0", "arg 0 1", "arg 0 2", "arg 63 2", "arg 62 0",
	"add 0 0 0", "add 63 63 63", "add 63 0 0", "add 0 63 0", "add 0 0 63", "sub 0 0 0", "sub 63 63 63", "sub 1 2 3",
	"mul 0 0 0", "mul 63 63 63", "mul 5 4 3", "div 0 0 0", "div 63 63 63", "div 0 0 1",
	"zero 0 0", "zero 63 0", "zero 0 199", "zero 63 199", "zero 3 100",
	"jump 0", "jump 1", "jump 63", "jump 64", "jump 199",
	"call 0 0 a.f", "call 63 0 a.f", "call 0 1 a.f", "call 63 1 a.f", "call 0 2 a.f", "call 62 2 a.f", "call 0 3 a.f", "call 61 3 a.f",
	"call 0 0 abcdefgh.stuvwxyz", "call 1 2 main.main", "call 9 1 z.abcdefgh",
	"end 0", "end 1", "end 63",
}

// wrongIns are each beyond one bound, and right but for that.
var wrongIns = []string{
	"set -1 0", "set 64 0", "set 0 -2147483649", "set 0 2147483648", "set 64 2147483648", "set 0 4294967296",
	"arg -1 0", "arg 64 0", "arg 0 -1", "arg 0 3",
	"add -1 0 0", "add 64 0 0", "add 0 -1 0", "add 0 64 0", "add 0 0 -1", "add 0 0 64",
	"sub -1 0 0", "sub 64 0 0", "sub 0 -1 0", "sub 0 64 0", "sub 0 0 -1", "sub 0 0 64",
	"mul -1 0 0", "mul 64 0 0", "mul 0 -1 0", "mul 0 64 0", "mul 0 0 -1", "mul 0 0 64",
	"div -1 0 0", "div 64 0 0", "div 0 -1 0", "div 0 64 0", "div 0 0 -1", "div 0 0 64",
	"zero -1 0", "zero 64 0", "zero 0 -1", "zero 0 200",
	"jump -1", "jump 200", "jump 201", "jump 4294967296",
	"call -1 0 a.f", "call -1 1 a.f", "call -1 2 a.f", "call -1 3 a.f", "call 64 0 a.f", "call 64 1 a.f", "call 63 2 a.f", "call 64 2 a.f",
	"call 62 3 a.f", "call 63 3 a.f", "call 64 3 a.f", "call 0 -1 a.f", "call 1 -1 a.f", "call 64 -1 a.f", "call 0 4 a.f", "call 60 4 a.f",
	"end -1", "end 64",
}

func TestCodeConstants(t *testing.T) {
	kinds := []int64{
		impl.InSet, impl.InArg, impl.InAdd, impl.InSub, impl.InMul, impl.InDiv, impl.InZero, impl.InJump, impl.InCall, impl.InEnd,
	}
	if !slices.Equal(kinds, []int64{1, 2, 3, 4, 5, 6, 7, 8, 9, 10}) || impl.MaxCode != 200 {
		t.Fatal("they are not the document's")
	}
}

func TestInsOkOfEachKind(t *testing.T) {
	for _, text := range rightIns {
		mustBeIns(t, insIn(t, text), true)
	}
	for _, text := range wrongIns {
		mustBeIns(t, insIn(t, text), false)
	}
	for _, word := range edgeWords {
		mustBeIns(t, insOf(1, 5, word, 0, ""), true)
	}
	for n := int64(-3); n <= 260; n++ {
		register, place := n >= 0 && n <= 63, n >= 0 && n <= 199
		for kind := int64(3); kind <= 6; kind++ {
			mustBeIns(t, insOf(kind, n, 1, 2, ""), register)
			mustBeIns(t, insOf(kind, 1, n, 2, ""), register)
			mustBeIns(t, insOf(kind, 1, 2, n, ""), register)
		}
		for _, kind := range []int64{1, 2, 7, 10} {
			mustBeIns(t, insOf(kind, n, 0, 0, ""), register)
		}
		mustBeIns(t, insOf(2, 9, n, 0, ""), n >= 0 && n <= 2)
		mustBeIns(t, insOf(7, 9, n, 0, ""), place)
		mustBeIns(t, jumpTo(n), place)
		mustBeIns(t, insOf(9, 9, n, 0, "a.f"), n >= 0 && n <= 3)
		for args := int64(0); args <= 3; args++ {
			mustBeIns(t, insOf(9, n, args, 0, "a.f"), register && n+args-1 <= 63)
		}
	}
}

// What a Kind does not tell is zero: each of the four, when it is there.
func TestInsOkOfWhatIsNotTold(t *testing.T) {
	tried := 0
	for _, text := range rightIns {
		bare, fields := insIn(t, text), insForms[strings.Fields(text)[0]].told
		for _, n := range []int64{1, 2, -1, 63, 64, 200, 256, 1 << 32, math.MinInt64, math.MaxInt64} {
			for field, set := range map[string]func(*impl.Ins){
				"R": func(i *impl.Ins) { i.R = n },
				"A": func(i *impl.Ins) { i.A = n },
				"B": func(i *impl.Ins) { i.B = n },
			} {
				if full := bare; !strings.Contains(fields, field) {
					set(&full)
					mustBeIns(t, full, false)
					tried++
				}
			}
		}
		for _, name := range []string{"a.f", "a", "-", " ", ".", "\x00", strings.Repeat("a", 100000)} {
			if full := bare; !strings.Contains(fields, "N") {
				full.Name = name
				mustBeIns(t, full, false)
				tried++
			}
		}
	}
	if tried < 500 {
		t.Errorf("%d were tried", tried)
	}
}

func TestInsOkOfOtherKinds(t *testing.T) {
	for _, kind := range []int64{
		0, 11, 12, 13, 20, -1, -2, -3, -7, -8, -10, 255, 256, 256 + 1, 65536 + 3, 1<<32 + 8, -1<<32 + 10, 1<<33 + 10,
		math.MinInt64, math.MinInt64 + 1, math.MinInt64 + 10, math.MaxInt64 - 1, math.MaxInt64,
	} {
		for _, i := range []impl.Ins{
			insOf(kind, 0, 0, 0, ""), insOf(kind, 1, 0, 0, ""), insOf(kind, 0, 1, 0, ""), insOf(kind, 1, 1, 1, ""), insOf(kind, 1, 2, 0, "a.f"),
		} {
			mustBeIns(t, i, false)
			mustBeCode(t, []impl.Ins{i}, false)
			mustBeCode(t, []impl.Ins{i, endOf(0)}, false)
			mustBeCode(t, []impl.Ins{endOf(0), i}, false)
		}
	}
	mustBeIns(t, impl.Ins{}, false)
	mustBeIns(t, impl.Ins{Name: "a.f"}, false)
}

func TestInsOkOfNames(t *testing.T) {
	right := []string{"a", "z", "f", "main", "lib", "abcdefgh", "stuvwxyz", "zzzzzzzz"}
	for _, pack := range right {
		for _, name := range right {
			mustBeIns(t, insOf(9, 3, 2, 0, pack+"."+name), true)
			for _, mark := range []string{"", " ", "/", ",", ":", "..", ". ", " .", ".\n", "-", "\x00", "\xb7", "\u00b7", "@"} {
				mustBeIns(t, insOf(9, 3, 2, 0, pack+mark+name), false)
			}
			mustBeIns(t, insOf(9, 3, 2, 0, pack+"."+name+"."), false)
			mustBeIns(t, insOf(9, 3, 2, 0, "."+pack+"."+name), false)
			mustBeIns(t, insOf(9, 3, 2, 0, pack+"."+name+"."+name), false)
			mustBeIns(t, insOf(9, 3, 2, 0, pack+"."+name+"/2"), false)
			mustBeIns(t, insOf(9, 3, 2, 0, "@"+pack+"."+name), false)
			mustBeIns(t, insOf(9, 3, 2, 0, pack+"."+name+"\n"), false)
		}
		for _, whole := range []string{pack, pack + ".", "." + pack, pack + " ", pack + "." + strings.ToUpper(pack)} {
			mustBeIns(t, insOf(9, 3, 2, 0, whole), false)
		}
	}
	for _, name := range noNames {
		for _, whole := range []string{name + ".f", "a." + name, name + "." + name, name + ".", "." + name} {
			mustBeIns(t, insOf(9, 0, 0, 0, whole), false)
			mustBeIns(t, insOf(9, 0, 1, 0, whole), false)
		}
	}
	for _, whole := range []string{"", ".", "..", "...", "-", "af", "abcdefgh", "abcdefghi.f", "a.abcdefghi"} {
		mustBeIns(t, insOf(9, 0, 0, 0, whole), false)
	}
}

// All texts of up to 6 of three bytes.
func TestInsOkOfShortNames(t *testing.T) {
	names, right := []string{""}, 0
	for range 6 {
		longer := []string{}
		for _, s := range names {
			for _, one := range []string{"a", ".", "A"} {
				longer = append(longer, s+one)
				want := wholeName.MatchString(s + one)
				mustBeIns(t, insOf(9, 1, 1, 0, s+one), want)
				if want {
					right++
				}
			}
		}
		names = longer
	}
	if right != 10 {
		t.Errorf("%d were right", right)
	}
}

// Each Kind, with all fields at and around all bounds.
func TestInsOkByField(t *testing.T) {
	far := []int64{math.MinInt64, -1 << 32, -2, -1, 0, 1, 2, 3, 4, 1 << 32, math.MaxInt64}
	registers := append([]int64{60, 61, 62, 63, 64, 65, 256}, far...)
	numbers := append([]int64{198, 199, 200, 201, leastWord - 1, leastWord, greatestWord, greatestWord + 1}, registers...)
	right := [14]int{}
	for kind := int64(-1); kind <= 12; kind++ {
		for _, r := range registers {
			for _, a := range numbers {
				for _, b := range registers {
					for _, name := range []string{"", "a.f", "a"} {
						i := insOf(kind, r, a, b, name)
						want := insRight(i)
						mustBeIns(t, i, want)
						if want {
							right[kind+1]++
						}
					}
				}
			}
		}
	}
	// 9 are registers, 20 words, 13 places; a call may have 9 with 0 and 1, but
	// not 63 with 2, and neither 62 nor 63 with 3.
	if right != [14]int{0, 0, 9 * 20, 9 * 3, 729, 729, 729, 729, 9 * 13, 13, 9 + 9 + 8 + 7, 9, 0, 0} {
		t.Errorf("of each Kind as many were right: %v", right)
	}
}

func TestCodeOkByCount(t *testing.T) {
	mustBeCode(t, nil, false)
	mustBeCode(t, []impl.Ins{}, false)
	one := insIn(t, "set 3 7")
	for many := 1; many <= 260; many++ {
		mustBeCode(t, ending(many, one), many <= 200)
		mustBeCode(t, append(slices.Repeat([]impl.Ins{one}, many-1), jumpTo(0)), many <= 200)
		mustBeCode(t, slices.Repeat([]impl.Ins{one}, many), false)
	}
	for _, many := range []int{256 + 1, 256 + 200, 65536 + 1, 65536 + 200, 100000} {
		mustBeCode(t, ending(many, one), false)
	}
}

func TestCodeOkOfOneThatIsNotRight(t *testing.T) {
	wrong := []impl.Ins{{}, insOf(11, 0, 0, 0, ""), insOf(10, 0, 0, 1, ""), insOf(8, 1, 0, 0, ""), insOf(1, 0, 0, 0, "a.f"), insOf(9, 0, 0, 0, "af")}
	for _, text := range wrongIns {
		wrong = append(wrong, insIn(t, text))
	}
	for _, i := range wrong {
		for _, many := range []int{1, 2, 3, 200} {
			for _, at := range []int{0, many / 2, many - 1} {
				code := ending(many, insIn(t, "add 1 2 3"))
				mustBeCode(t, code, true)
				code[at] = i
				mustBeCode(t, code, false)
			}
		}
	}
	for _, text := range rightIns {
		i := insIn(t, text)
		mustBeCode(t, ending(200, i), true)
		code := ending(200, insIn(t, "set 0 0"))
		code[77] = i
		mustBeCode(t, code, true)
	}
}

// A place is there when it is below the code's own length.
func TestCodeOkOfPlaces(t *testing.T) {
	for many := 1; many <= 200; many++ {
		for _, place := range []int{0, 1, many / 2, many - 2, many - 1, many, many + 1, 199, 200, -1} {
			there := place >= 0 && place < many
			mustBeCode(t, append(slices.Repeat([]impl.Ins{endOf(1)}, many-1), jumpTo(int64(place))), there)
			for _, goes := range []impl.Ins{jumpTo(int64(place)), insOf(7, 5, int64(place), 0, "")} {
				for _, at := range []int{0, many / 2, many - 2} {
					if at >= 0 && at < many-1 {
						code := ending(many, insIn(t, "set 9 999"))
						code[at] = goes
						mustBeCode(t, code, there)
					}
				}
			}
		}
	}
	// What is no place is not asked to be there.
	for _, text := range []string{"set 63 63", "set 0 2147483647", "set 0 -1", "arg 63 2", "add 63 62 61", "call 61 3 a.f", "end 63"} {
		mustBeCode(t, codeIn(t, text+", end 0"), true)
	}
}

func TestCodeOkOfTheLast(t *testing.T) {
	for _, text := range rightIns {
		last := insIn(t, text)
		may := last.Kind == 10 || last.Kind == 8
		for _, many := range []int{1, 2, 200} {
			code := ending(many, insIn(t, "set 1 1"))
			code[many-1] = last
			there := last.Kind != 8 || last.A < int64(many)
			mustBeCode(t, code, may && there)
		}
	}
	// Neither need be there but at the end, and both may be ahead of it.
	mustBeCode(t, codeIn(t, "jump 0"), true)
	mustBeCode(t, codeIn(t, "end 63"), true)
	mustBeCode(t, codeIn(t, "end 1, jump 0, end 0, jump 3"), true)
	mustBeCode(t, codeIn(t, "end 0, set 0 1"), false)
	mustBeCode(t, codeIn(t, "jump 0, zero 0 0"), false)
}

// All code of up to 4 out of these, which are right or not by what is around.
func TestCodeOkOfAllShortCode(t *testing.T) {
	some := codeIn(t, "set 2 5, add 0 4 1, zero 3 2, jump 1, jump 3, call 1 3 a.f, call 5 0 a.f, end 0, end 6, end 64, zero 0 4, set 0 0")
	lists, right := [][]impl.Ins{{}}, 0
	for range 4 {
		longer := [][]impl.Ins{}
		for _, list := range lists {
			for _, i := range some {
				code := append(slices.Clone(list), i)
				longer = append(longer, code)
				want := codeRight(code)
				mustBeCode(t, code, want)
				if want {
					right++
					mustTell(t, code, registersBy(code))
				}
			}
		}
		lists = longer
	}
	if right < 2000 {
		t.Errorf("%d were right", right)
	}
}

func TestRegistersOfEachKind(t *testing.T) {
	for text, want := range map[string]int64{
		"jump 0": 0, "jump 0, jump 0": 0, "jump 1, jump 0": 0,
		"end 0": 1, "end 1": 2, "end 63": 64, "end 3, jump 0": 4,
		"set 0 5, jump 0": 1, "set 7 63, jump 0": 8, "set 63 -9, jump 0": 64, "set 0 2147483647, jump 1": 1,
		"arg 0 2, jump 0": 1, "arg 5 0, jump 0": 6, "arg 63 2, end 0": 64,
		"add 0 0 0, jump 0": 1, "add 5 1 2, jump 0": 6, "sub 1 5 2, jump 0": 6, "mul 1 2 5, jump 0": 6, "div 63 0 0, jump 0": 64,
		"div 0 63 0, jump 0": 64, "div 0 0 63, jump 0": 64, "sub 5 1 2, jump 0": 6, "mul 1 5 2, jump 0": 6, "add 1 2 5, jump 0": 6,
		"zero 0 1, jump 0": 1, "zero 9 1, jump 0": 10, "zero 63 0, jump 0": 64, "zero 1 0, zero 0 3, jump 0, jump 3": 2,
		"call 0 0 a.f, jump 0": 1, "call 0 1 a.f, jump 0": 1, "call 0 2 a.f, jump 0": 2, "call 0 3 a.f, jump 0": 3,
		"call 7 0 a.f, jump 0": 8, "call 7 1 a.f, jump 0": 8, "call 7 2 a.f, jump 0": 9, "call 7 3 a.f, jump 0": 10,
		"call 63 0 a.f, jump 0": 64, "call 63 1 a.f, jump 0": 64, "call 62 2 a.f, jump 0": 64, "call 61 3 a.f, jump 0": 64,
		"set 2 1, end 0": 3, "set 0 1, end 2": 3, "set 0 1, set 4 1, set 1 1, end 0": 5, "call 1 3 a.f, end 2": 4, "call 1 2 a.f, end 3": 4,
	} {
		mustTell(t, codeIn(t, text), want)
	}
	for r := int64(0); r <= 63; r++ {
		for _, code := range [][]impl.Ins{
			{endOf(r)}, {insOf(1, r, 5, 0, ""), endOf(0)}, {insOf(2, r, 2, 0, ""), jumpTo(1)}, {insOf(7, r, 1, 0, ""), jumpTo(1)},
			{insOf(3, r, 0, 0, ""), jumpTo(1)}, {insOf(4, 0, r, 0, ""), jumpTo(1)}, {insOf(5, 0, 0, r, ""), jumpTo(1)}, {insOf(6, r, r, r, ""), jumpTo(1)},
			{insOf(9, r, 0, 0, "a.f"), jumpTo(1)}, {insOf(9, r, 1, 0, "a.f"), jumpTo(1)},
		} {
			mustTell(t, code, r+1)
			mustTell(t, append(slices.Repeat([]impl.Ins{jumpTo(199)}, 200-len(code)), code...), r+1)
		}
	}
}

// The greatest is told anywhere.
func TestRegistersOfManyIns(t *testing.T) {
	c := chance(139)
	seen := map[int64]int{}
	for range 20000 {
		code := []impl.Ins{}
		many, most := int64(1+c.below(200)>>c.below(6)), 1+c.below(61)
		for range many - 1 {
			kind := int64(1 + c.below(10))
			i := insOf(kind, int64(c.below(most)), 0, 0, "")
			switch {
			case kind == 1:
				i.A = edgeWords[c.below(len(edgeWords))]
			case kind == 2:
				i.A = int64(c.below(3))
			case kind <= 6:
				i.A, i.B = int64(c.below(most)), int64(c.below(most))
			case kind == 7:
				i.A = int64(c.below(int(many)))
			case kind == 8:
				i = jumpTo(int64(c.below(int(many))))
			case kind == 9:
				i.A, i.Name = int64(c.below(4)), "lib.f"
			}
			code = append(code, i)
		}
		code = append(code, []impl.Ins{endOf(0), jumpTo(many - 1)}[c.below(2)])
		want := registersBy(code)
		mustTell(t, code, want)
		seen[want]++
		spoilt := slices.Clone(code)
		spoilt[c.below(len(code))].Kind = 0
		mustBeCode(t, spoilt, false)
		mustBeCode(t, append(slices.Clone(code), insIn(t, "set 0 0")), false)
	}
	if seen[0] < 100 || seen[1] < 100 || len(seen) < 60 {
		t.Errorf("of each number there were %v", seen)
	}
}

// stepsOf goes by the document's sentences: the code of p into r, when it
// begins at this place.
func stepsOf(p parted, r, from int64) []impl.Ins {
	code := []impl.Ins{}
	put := func(part parted, r int64) {
		code = append(code, stepsOf(part, r, from+int64(len(code)))...)
	}
	switch kind := p.node.Kind; kind {
	case 1, 2:
		return []impl.Ins{insOf(kind, r, p.node.A, 0, "")}
	case 7:
		first := stepsOf(p.parts[0], r, from)
		second := stepsOf(p.parts[1], r, from+int64(len(first))+1)
		third := from + int64(len(first)+1+len(second)+1)
		last := stepsOf(p.parts[2], r, third)
		return slices.Concat(first, []impl.Ins{insOf(7, r, third, 0, "")}, second, []impl.Ins{jumpTo(third + int64(len(last)))}, last)
	case 8:
		for i, part := range p.parts {
			put(part, r+int64(i))
		}
		return append(code, insOf(9, r, int64(len(p.parts)), 0, p.node.Package+"."+p.node.Func))
	default:
		if takingOf(p.parts[0]) >= takingOf(p.parts[1]) {
			put(p.parts[0], r)
			put(p.parts[1], r+1)
			return append(code, insOf(kind, r, r, r+1, ""))
		}
		put(p.parts[1], r)
		put(p.parts[0], r+1)
		return append(code, insOf(kind, r, r+1, r, ""))
	}
}

func compiledBy(tree []impl.Node) []impl.Ins {
	p, _ := partedOf(tree, 0)
	return append(stepsOf(p, 0, 0), endOf(0))
}

// mustBeCompiled holds also promise 13 against it: it is right, it takes just
// Need registers, and it ends once, at the end.
func mustBeCompiled(t *testing.T, tree []impl.Node, want []impl.Ins) {
	t.Helper()
	got := impl.Compiled(tree)
	if !slices.Equal(got, want) {
		t.Errorf("%q is Compiled as\n%v, not\n%v", impl.ShowTree(tree), got, want)
	}
	mustBeCode(t, got, true)
	if registers, need := impl.Registers(got), impl.Need(tree); registers != need || need != needBy(tree) {
		t.Errorf("%q, Compiled, takes %d registers, and its Need is %d", impl.ShowTree(tree), registers, need)
	}
	for at, i := range got {
		mustBeIns(t, i, true)
		if (i.Kind == 10) != (at == len(got)-1) {
			t.Errorf("%q, Compiled, has the Kind %d at %d of %d", impl.ShowTree(tree), i.Kind, at, len(got))
		}
	}
}

func mustCompile(t *testing.T, text, want string) {
	t.Helper()
	mustBeCompiled(t, treeIn(t, text), codeIn(t, want))
}

func mustCompileToNothing(t *testing.T, list []impl.Node) {
	t.Helper()
	if got := impl.Compiled(list); len(got) != 0 {
		t.Errorf("%d Nodes that are no tree are Compiled as %v", len(list), got)
	}
}

func TestCompiledOfLeaves(t *testing.T) {
	for _, word := range edgeWords {
		mustCompile(t, strconv.FormatInt(word, 10), "set 0 "+strconv.FormatInt(word, 10)+", end 0")
	}
	mustCompile(t, "$0", "arg 0 0, end 0")
	mustCompile(t, "$1", "arg 0 1, end 0")
	mustCompile(t, "$2", "arg 0 2, end 0")
	mustCompile(t, "@lib.f/0", "call 0 0 lib.f, end 0")
	mustCompile(t, "@abcdefgh.stuvwxyz/0", "call 0 0 abcdefgh.stuvwxyz, end 0")
}

func TestCompiledOfPairs(t *testing.T) {
	for sign, word := range map[string]string{"+": "add", "-": "sub", "*": "mul", "/": "div"} {
		mustCompile(t, sign+" 8 9", "set 0 8, set 1 9, "+word+" 0 0 1, end 0")
		mustCompile(t, sign+" $1 0", "arg 0 1, set 1 0, "+word+" 0 0 1, end 0")
		// The greater part goes first, and A is where the first one is all the same.
		mustCompile(t, sign+" 7 * 8 9", "set 0 8, set 1 9, mul 0 0 1, set 1 7, "+word+" 0 1 0, end 0")
		mustCompile(t, sign+" * 8 9 7", "set 0 8, set 1 9, mul 0 0 1, set 1 7, "+word+" 0 0 1, end 0")
		mustCompile(t, sign+" - 1 2 - 3 4", "set 0 1, set 1 2, sub 0 0 1, set 1 3, set 2 4, sub 1 1 2, "+word+" 0 0 1, end 0")
		mustCompile(t, sign+" $0 @a.f/1 5", "arg 0 0, set 1 5, call 1 1 a.f, "+word+" 0 0 1, end 0")
		mustCompile(t, sign+" $0 @a.f/2 5 6", "set 0 5, set 1 6, call 0 2 a.f, arg 1 0, "+word+" 0 1 0, end 0")
	}
}

func TestCompiledOfIf(t *testing.T) {
	mustCompile(t, "? 1 2 3", "set 0 1, zero 0 4, set 0 2, jump 5, set 0 3, end 0")
	mustCompile(t, "? - 1 2 + 3 4 * 5 6", "set 0 1, set 1 2, sub 0 0 1, zero 0 8, set 0 3, set 1 4, add 0 0 1, jump 11, set 0 5, set 1 6, mul 0 0 1, end 0")
	mustCompile(t, "? ? 1 2 3 4 5", "set 0 1, zero 0 4, set 0 2, jump 5, set 0 3, zero 0 8, set 0 4, jump 9, set 0 5, end 0")
	mustCompile(t, "? 1 ? 2 3 4 5", "set 0 1, zero 0 8, set 0 2, zero 0 6, set 0 3, jump 7, set 0 4, jump 9, set 0 5, end 0")
	mustCompile(t, "? 1 2 ? 3 4 5", "set 0 1, zero 0 4, set 0 2, jump 9, set 0 3, zero 0 8, set 0 4, jump 9, set 0 5, end 0")
	mustCompile(t, "+ 9 ? 1 2 3", "set 0 9, set 1 1, zero 1 5, set 1 2, jump 6, set 1 3, add 0 0 1, end 0")
	mustCompile(t, "- ? 1 2 3 9", "set 0 1, zero 0 4, set 0 2, jump 5, set 0 3, set 1 9, sub 0 0 1, end 0")
	mustCompile(t, "- 9 ? 1 / 2 3 4", "set 0 1, zero 0 6, set 0 2, set 1 3, div 0 0 1, jump 7, set 0 4, set 1 9, sub 0 1 0, end 0")
}

func TestCompiledOfCalls(t *testing.T) {
	mustCompile(t, "@lib.f/1 5", "set 0 5, call 0 1 lib.f, end 0")
	mustCompile(t, "@lib.f/2 5 6", "set 0 5, set 1 6, call 0 2 lib.f, end 0")
	mustCompile(t, "@lib.f/3 5 6 7", "set 0 5, set 1 6, set 2 7, call 0 3 lib.f, end 0")
	mustCompile(t, "@lib.f/3 $2 $1 $0", "arg 0 2, arg 1 1, arg 2 0, call 0 3 lib.f, end 0")
	// Parts go in order, whichever is the greatest.
	mustCompile(t, "@lib.f/2 1 + 2 3", "set 0 1, set 1 2, set 2 3, add 1 1 2, call 0 2 lib.f, end 0")
	mustCompile(t, "@lib.f/3 1 2 + 3 4", "set 0 1, set 1 2, set 2 3, set 3 4, add 2 2 3, call 0 3 lib.f, end 0")
	mustCompile(t, "@lib.f/3 + 1 2 3 4", "set 0 1, set 1 2, add 0 0 1, set 1 3, set 2 4, call 0 3 lib.f, end 0")
	mustCompile(t, "@a.f/2 @b.g/0 @c.h/1 @d.i/0", "call 0 0 b.g, call 1 0 d.i, call 1 1 c.h, call 0 2 a.f, end 0")
	mustCompile(t, "@a.f/2 9 ? 1 2 3", "set 0 9, set 1 1, zero 1 5, set 1 2, jump 6, set 1 3, call 0 2 a.f, end 0")
	mustCompile(t, "+ @a.f/0 @a.g/0", "call 0 0 a.f, call 1 0 a.g, add 0 0 1, end 0")
}

func TestCompiledSeveralDeep(t *testing.T) {
	mustCompile(t, "? $0 - 1 * 2 3 @a.f/1 4",
		"arg 0 0, zero 0 8, set 0 2, set 1 3, mul 0 0 1, set 1 1, sub 0 1 0, jump 10, set 0 4, call 0 1 a.f, end 0")
	mustCompile(t, "+ 1 + + 2 3 + 4 5", "set 0 2, set 1 3, add 0 0 1, set 1 4, set 2 5, add 1 1 2, add 0 0 1, set 1 1, add 0 1 0, end 0")
	mustCompile(t, "- 1 - 2 - 3 4", "set 0 3, set 1 4, sub 0 0 1, set 1 2, sub 0 1 0, set 1 1, sub 0 1 0, end 0")
	mustCompile(t, "- - - 1 2 3 4", "set 0 1, set 1 2, sub 0 0 1, set 1 3, sub 0 0 1, set 1 4, sub 0 0 1, end 0")
	mustCompile(t, "/ + 1 2 - 3 * 4 5",
		"set 0 1, set 1 2, add 0 0 1, set 1 4, set 2 5, mul 1 1 2, set 2 3, sub 1 2 1, div 0 0 1, end 0")
	mustCompile(t, "@a.f/2 - 1 * 2 3 ? @b.g/2 4 / 5 + 6 $1 $2 7",
		"set 0 2, set 1 3, mul 0 0 1, set 1 1, sub 0 1 0, "+
			"set 1 4, set 2 6, arg 3 1, add 2 2 3, set 3 5, div 2 3 2, call 1 2 b.g, zero 1 15, arg 1 2, jump 16, set 1 7, call 0 2 a.f, end 0")
	mustCompile(t, "? @a.f/3 1 ? 2 3 4 - 5 - 6 7 8 9",
		"set 0 1, set 1 2, zero 1 5, set 1 3, jump 6, set 1 4, set 2 6, set 3 7, sub 2 2 3, set 3 5, sub 2 3 2, call 0 3 a.f, "+
			"zero 0 15, set 0 8, jump 16, set 0 9, end 0")
}

// Each limit of 60 Nodes is met; the longest code is of Ifs.
func TestCompiledOfTheGreatest(t *testing.T) {
	ifs := treeIn(t, "@lib.f/2 0 "+strings.Repeat("? 1 2 ", 19)+"3")
	right, left := strings.Repeat("+ 1 ", 29)+"1", strings.Repeat("+ ", 29)+"1"+strings.Repeat(" 1", 29)
	calls := treeIn(t, strings.Repeat("@lib.f/3 1 1 ", 19)+"+ 1 1")
	for _, tree := range [][]impl.Node{
		chained(60), ifs, treeIn(t, right), treeIn(t, left), calls, treeIn(t, strings.Repeat("? ", 19)+"1"+strings.Repeat(" 2 3", 19)),
		treeIn(t, strings.Repeat("@lib.f/2 1 ", 29)+"1"), treeIn(t, "@lib.f/2 1 "+strings.Repeat("@lib.f/3 1 1 ", 19)+"1"),
	} {
		mustBeCompiled(t, tree, compiledBy(tree))
	}
	if got := impl.Compiled(ifs); len(ifs) != 60 || len(got) != 60+19+1 {
		t.Errorf("of %d Nodes there are %d Ins", len(ifs), len(got))
	}
	if got := impl.Registers(impl.Compiled(calls)); len(calls) != 60 || got != 40 {
		t.Errorf("of %d Nodes there are %d registers", len(calls), got)
	}
	if got := impl.Compiled(chained(60)); len(got) != 61 || impl.Registers(got) != 1 {
		t.Errorf("of 60 Nodes, one within the other, there are %d Ins with %d registers", len(got), impl.Registers(got))
	}
}

func TestCompiledOfWhatIsNotTreeOk(t *testing.T) {
	mustCompileToNothing(t, nil)
	mustCompileToNothing(t, []impl.Node{})
	mustCompileToNothing(t, []impl.Node{num(1), num(2)})
	mustCompileToNothing(t, []impl.Node{sign(3), num(1)})
	mustCompileToNothing(t, []impl.Node{sign(3), num(1), num(2), num(3)})
	mustCompileToNothing(t, []impl.Node{sign(7), num(1), num(2)})
	mustCompileToNothing(t, []impl.Node{call("lib", "f", 1)})
	for _, many := range []int{61, 62, 100, 200, 201, 100000} {
		mustCompileToNothing(t, chained(many))
	}
	mustCompileToNothing(t, append(slices.Repeat([]impl.Node{sign(3), num(0)}, 30), num(0)))
	for _, n := range wrongNodes() {
		mustCompileToNothing(t, []impl.Node{n})
		mustCompileToNothing(t, []impl.Node{n, num(1)})
		mustCompileToNothing(t, []impl.Node{n, num(1), num(2)})
		mustCompileToNothing(t, []impl.Node{n, num(1), num(2), num(3)})
		mustCompileToNothing(t, []impl.Node{sign(3), n, num(0)})
		mustCompileToNothing(t, []impl.Node{sign(3), num(0), n})
		mustCompileToNothing(t, []impl.Node{sign(7), num(0), n, num(5)})
		mustCompileToNothing(t, []impl.Node{call("lib", "f", 2), num(0), n})
	}
	for _, g := range manyTrees() {
		list := g.nodes()
		mustCompileToNothing(t, list[:len(list)-1])
		mustCompileToNothing(t, append(slices.Clone(list), num(1)))
		mustCompileToNothing(t, append([]impl.Node{num(1)}, list...))
	}
}

// Promise 13: all trees of up to 6 Nodes, and less short ones of fewer kinds.
func TestCompiledOfAllShortTrees(t *testing.T) {
	for _, trees := range [][][]impl.Node{
		allTrees(6, num(1), arg(0), sign(3), sign(6), sign(7), call("lib", "f", 0), call("lib", "f", 1), call("lib", "f", 2), call("lib", "f", 3)),
		allTrees(11, num(1), sign(4), sign(7), call("lib", "f", 2), call("lib", "f", 3)),
		allTrees(15, num(1), sign(6)),
	} {
		if len(trees) < 600 {
			t.Fatalf("there were %d trees", len(trees))
		}
		for _, tree := range trees {
			mustBeCompiled(t, tree, compiledBy(tree))
		}
	}
}

// Promise 13, of trees of each size.
func TestCompiledOfManyTrees(t *testing.T) {
	c := chance(149)
	trees := [][]impl.Node{}
	for _, g := range manyTrees() {
		trees = append(trees, g.nodes())
	}
	for len(trees) < 3000 {
		if tree := pairedTree(&c, 3+c.below(4)); len(tree) > 5 && len(tree) <= 60 {
			trees = append(trees, tree)
		}
	}
	seen, swapped := map[int64]int{}, 0
	for _, tree := range trees {
		mustBeCompiled(t, tree, compiledBy(tree))
		got := impl.Compiled(tree)
		seen[impl.Registers(got)]++
		ifs := 0
		for _, n := range tree {
			if n.Kind == 7 {
				ifs++
			}
		}
		if len(got) != len(tree)+ifs+1 {
			t.Errorf("%q of %d Nodes with %d Ifs has %d Ins", impl.ShowTree(tree), len(tree), ifs, len(got))
		}
		for _, i := range got {
			if i.Kind >= 3 && i.Kind <= 6 && i.B == i.R {
				swapped++
			}
		}
	}
	if seen[1] < 20 || seen[2] < 100 || seen[3] < 400 || seen[4] < 400 || seen[5] < 100 || seen[6] < 10 || swapped < 2000 {
		t.Errorf("of each number of registers there were %v, and %d pairs went the other way", seen, swapped)
	}
}

// A runner does the steps one after the other, so that they are held against
// what the tree means. All registers hold something at first that no step
// may ask for.
type runner struct {
	codes map[string][]impl.Ins
	left  int
}

func runnerOf(list []impl.Package) *runner {
	r := &runner{codes: map[string][]impl.Ins{}, left: 200000}
	for _, p := range list {
		for _, f := range p.Funcs {
			r.codes[p.Name+"."+f.Name] = impl.Compiled(f.Tree)
		}
	}
	return r
}

// run answers the code too, as Meant does.
func (r *runner) run(name string, args []int64) (int64, int64) {
	row := [64]int64{}
	for i := range row {
		row[i] = 1000003*int64(i) + 77
	}
	code := r.codes[name]
	for at := int64(0); ; at++ {
		i := code[at]
		if r.left--; r.left < 0 {
			return 0, impl.MnFuel
		}
		switch i.Kind {
		case 1:
			row[i.R] = i.A
		case 2:
			row[i.R] = args[i.A]
		case 7:
			if row[i.R] == 0 {
				at = i.A - 1
			}
		case 8:
			at = i.A - 1
		case 9:
			value, why := r.run(i.Name, slices.Clone(row[i.R:i.R+i.A]))
			if why != impl.MnOk {
				return 0, why
			}
			row[i.R] = value
		case 10:
			return row[i.R], impl.MnOk
		default:
			if i.Kind == 6 && row[i.B] == 0 {
				return 0, impl.MnZero
			}
			row[i.R] = reckoned(i.Kind, row[i.A], row[i.B])
		}
	}
}

func TestCompiledMeansTheSame(t *testing.T) {
	c := chance(151)
	seen, swapped := [4]int{}, 0
	for range 150 {
		list := busyProject(&c, 1+c.below(8))
		for _, p := range list {
			for _, f := range p.Funcs {
				args := chosenWords(&c, f.Args)
				value, code := impl.Meant(list, p.Name, f.Name, args, impl.MaxFuel)
				seen[code]++
				if code == impl.MnFuel {
					continue
				}
				r := runnerOf(list)
				if got, why := r.run(p.Name+"."+f.Name, args); got != value || why != code {
					t.Errorf("%s.%s by %d gives %d, %d, and means %d, %d:\n%s", p.Name, f.Name, args, got, why, value, code, shownProject(list))
				}
				if slices.Contains(firstOrders(f.Tree), 1) {
					swapped++
				}
			}
		}
	}
	if seen[0] < 500 || seen[1] < 100 || seen[3] > 0 || swapped < 100 {
		t.Errorf("of each code there were %v, and %d with a pair that goes the other way", seen, swapped)
	}
}

// What a kind of leaf or pair is does not matter to where things are.
func TestCompiledAsksShapesAlone(t *testing.T) {
	c := chance(157)
	for _, g := range manyTrees() {
		tree := g.nodes()
		other := slices.Clone(tree)
		for at, n := range tree {
			switch {
			case isOfTwo(n):
				other[at] = sign(3 + int64(c.below(4)))
			case n.Kind <= 2:
				other[at] = []impl.Node{num(0), num(leastWord), arg(2), call("a", "b", 0)}[c.below(4)]
			case n.Kind == 8:
				other[at].Package, other[at].Func = chosenName(&c), chosenName(&c)
			}
		}
		mustBeCompiled(t, other, compiledBy(other))
		a, b := impl.Compiled(tree), impl.Compiled(other)
		if len(a) != len(b) {
			t.Fatalf("%q and %q are Compiled as %d and %d Ins", impl.ShowTree(tree), impl.ShowTree(other), len(a), len(b))
		}
		for at := range a {
			same := a[at].R == b[at].R
			if a[at].Kind > 2 && b[at].Kind > 2 && a[at].Kind != 9 {
				same = same && a[at].A == b[at].A && a[at].B == b[at].B
			}
			if !same {
				t.Errorf("%q and %q have %v and %v at %d", impl.ShowTree(tree), impl.ShowTree(other), a[at], b[at], at)
			}
		}
	}
}

func codeOverwritten(code []impl.Ins) {
	for at := range code[:cap(code)] {
		code[:cap(code)][at] = insOf(-7, -7, -7, -7, "none")
	}
}

func mustBeNewCompiled(t *testing.T, tree []impl.Node) {
	t.Helper()
	first, again := impl.Compiled(tree), impl.Compiled(tree)
	want := slices.Clone(again)
	if !slices.Equal(first, again) {
		t.Errorf("%q is Compiled as %v, and then as %v", impl.ShowTree(tree), first, again)
	}
	names, others := []string{}, []string{}
	for at, i := range first {
		mustShareNoText(t, "within one answer", []string{i.Name}, names)
		names, others = append(names, i.Name), append(others, again[at].Name)
	}
	mustShareNoText(t, "with another answer", names, others)
	for _, n := range tree {
		mustShareNoText(t, "with the tree", names, []string{n.Package, n.Func})
	}
	if len(first) > 0 && unsafe.SliceData(first) == unsafe.SliceData(again) {
		t.Error("two answers are in one memory")
	}
	codeOverwritten(first)
	if !slices.Equal(again, want) || !slices.Equal(impl.Compiled(tree), want) {
		t.Errorf("the code of %q is handed out twice", impl.ShowTree(tree))
	}
}

// Promise 21: names are laid over bytes of the test's own, and there is room
// behind the lists, so that a write into any of them would be seen.
func TestCompiledIsNewMemoryAndTreesStay(t *testing.T) {
	room := make([]byte, 60)
	texts := laidOver(room, "package", "name", "lib", "f", "spare room")
	x, y := call(texts[0], texts[1], 2), call(texts[2], texts[3], 0)
	for _, tree := range [][]impl.Node{
		{y}, {num(7)}, {arg(1)}, {x, y, y}, {sign(3), y, num(0)}, {sign(3), num(0), sign(6), y, num(2)}, {sign(5), x, y, y, x, num(1), y},
		{sign(7), num(1), x, y, y, y}, {x, sign(3), y, y, sign(4), y, x, y, y}, {x}, {y, y}, {sign(3), y}, {num(7), num(8)}, {}, {{}},
	} {
		held := string(room)
		whole := append(slices.Clone(tree), num(100), y, sign(3), num(101))
		before := slices.Clone(whole)
		for range 2 {
			mustBeNewCompiled(t, whole[:len(tree)])
		}
		if string(room) != held || !slices.Equal(whole, before) {
			t.Errorf("%q, or the room behind it, was written into", impl.ShowTree(tree))
		}
	}
}

// Promise 21, for those who ask code.
func TestCodeStays(t *testing.T) {
	room := make([]byte, 60)
	texts := laidOver(room, "lib.f", "abcdefgh.z", "lib", "spare room")
	x, y, z := insOf(9, 4, 3, 0, texts[0]), insOf(9, 2, 0, 0, texts[1]), insOf(9, 2, 0, 0, texts[2])
	for _, told := range []struct {
		code []impl.Ins
		many int64
	}{
		{[]impl.Ins{x, y, endOf(0)}, 7}, {[]impl.Ins{y, endOf(1)}, 3}, {[]impl.Ins{y, x, jumpTo(2)}, 7}, {[]impl.Ins{insOf(7, 9, 1, 0, ""), jumpTo(0)}, 10},
		{[]impl.Ins{jumpTo(0)}, 0}, {[]impl.Ins{x, y, z, endOf(0)}, 0}, {[]impl.Ins{x, y}, 0}, {[]impl.Ins{x, jumpTo(2)}, 0}, {[]impl.Ins{}, 0}, {[]impl.Ins{{}}, 0},
	} {
		held := string(room)
		whole := append(slices.Clone(told.code), x, endOf(60), insOf(3, 50, 51, 52, ""), endOf(53))
		before := slices.Clone(whole)
		code := whole[:len(told.code)]
		is := impl.CodeOk(code)
		for range 3 {
			if got := impl.Registers(code); impl.CodeOk(code) != is || got != told.many {
				t.Errorf("Registers of %v are %d, not %d", code, got, told.many)
			}
			for _, i := range code {
				mustBeIns(t, i, insRight(i))
			}
		}
		if string(room) != held || !slices.Equal(whole, before) {
			t.Errorf("%v, or the room behind it, was written into", code)
		}
	}
}

// Promise 21: nothing is kept of what was asked ahead, though the same memory
// holds another one now.
func TestCodeKeepsNothing(t *testing.T) {
	tree := treeIn(t, "+ 1 * 2 3")
	mustBeCompiled(t, tree, codeIn(t, "set 0 2, set 1 3, mul 0 0 1, set 1 1, add 0 1 0, end 0"))
	tree[0] = call("lib", "f", 2)
	mustBeCompiled(t, tree, codeIn(t, "set 0 1, set 1 2, set 2 3, mul 1 1 2, call 0 2 lib.f, end 0"))
	tree[1], tree[2] = sign(4), num(7)
	mustBeCompiled(t, tree, codeIn(t, "set 0 7, set 1 2, sub 0 0 1, set 1 3, call 0 2 lib.f, end 0"))
	tree[4] = impl.Node{}
	mustCompileToNothing(t, tree)
	code := codeIn(t, "set 5 1, zero 2 0, end 0")
	mustTell(t, code, 6)
	code[0].R = 1
	mustTell(t, code, 3)
	code[1].A = 3
	mustBeCode(t, code, false)
	code[1].A = 2
	mustTell(t, code, 3)
	code[2] = insIn(t, "set 0 0")
	mustBeCode(t, code, false)
	code[2] = jumpTo(1)
	mustTell(t, code, 3)
}

// Promise 21: whatever they are given, they answer.
func TestCodeAnswersAtEveryArgument(t *testing.T) {
	c := chance(163)
	nodes := wrongNodes()
	for _, r := range rightNodes {
		nodes = append(nodes, r.node)
	}
	trees, others := 0, 0
	for range 20000 {
		list := []impl.Node{}
		for range c.below(8) {
			list = append(list, nodes[len(nodes)-1-c.below(len(rightNodes)+1)])
		}
		before := slices.Clone(list)
		if impl.TreeOk(list) {
			trees++
			mustBeCompiled(t, list, compiledBy(list))
		} else {
			others++
			mustCompileToNothing(t, list)
		}
		if !slices.Equal(list, before) {
			t.Error("a list is another one now")
		}
	}
	if trees < 1000 || others < 1000 {
		t.Errorf("%d were trees, %d were not", trees, others)
	}
	numbers, right := manyNumbers(), 0
	few := func() int64 {
		return []int64{int64(c.below(5)), int64(c.below(70)), numbers[c.below(len(numbers))]}[c.below(8)/3]
	}
	for range 50000 {
		code := []impl.Ins{}
		for range c.below(4) {
			i := insOf(int64(c.below(12)), few(), few(), few(), []string{"", "a.f", "a"}[c.below(3)])
			if c.below(2) == 0 {
				i = insIn(t, rightIns[c.below(len(rightIns))])
			}
			mustBeIns(t, i, insRight(i))
			code = append(code, i)
		}
		before := slices.Clone(code)
		mustBeCode(t, code, codeRight(code))
		if codeRight(code) {
			right++
			mustTell(t, code, registersBy(code))
		}
		if !slices.Equal(code, before) {
			t.Error("code is another one now")
		}
	}
	if right < 500 {
		t.Errorf("%d were right", right)
	}
}

func TestCodeAnswersAtGreatArguments(t *testing.T) {
	mustCompileToNothing(t, chained(1000000))
	mustCompileToNothing(t, slices.Repeat([]impl.Node{sign(7)}, 1000000))
	mustCompileToNothing(t, slices.Repeat([]impl.Node{num(1)}, 1000000))
	mustCompileToNothing(t, []impl.Node{call(strings.Repeat("a", 1000000), "f", 0)})
	mustBeCode(t, slices.Repeat([]impl.Ins{endOf(0)}, 1000000), false)
	for _, name := range []string{strings.Repeat("a", 1000000), strings.Repeat("a.", 500000), strings.Repeat(".", 1000000), "a." + strings.Repeat("f", 1000000)} {
		i := insOf(9, 0, 0, 0, name)
		mustBeIns(t, i, false)
		mustBeCode(t, []impl.Ins{i, endOf(0)}, false)
	}
	for _, n := range manyNumbers() {
		for kind := int64(1); kind <= 10; kind++ {
			for _, i := range []impl.Ins{
				insOf(kind, n, 0, 0, ""), insOf(kind, 0, n, 0, ""), insOf(kind, 0, 0, n, ""), insOf(kind, n, n, n, ""),
				insOf(kind, n, 3, 0, "a.f"), insOf(kind, 3, n, 0, "a.f"), insOf(kind, n, 2-n, 0, "a.f"), insOf(kind, n, 64-n, 0, "a.f"), insOf(n, 0, 0, 0, ""),
			} {
				mustBeIns(t, i, insRight(i))
			}
		}
	}
}
