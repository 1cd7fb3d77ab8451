package tests

import (
	"fmt"
	"math"
	"regexp"
	"slices"
	"strconv"
	"strings"
	"testing"
	"unsafe"

	"loop.example/g00346/impl"
)

// routineIn reads a Name, Args, a : and its code.
func routineIn(t *testing.T, text string) impl.Routine {
	t.Helper()
	head, code, is := strings.Cut(text, ":")
	said := strings.Fields(head)
	if !is || len(said) != 2 {
		t.Fatalf("%q is no Routine", text)
	}
	args, err := strconv.ParseInt(said[1], 10, 64)
	if err != nil {
		t.Fatalf("%q is no Routine: %v", text, err)
	}
	return impl.Routine{Name: said[0], Args: args, Code: codeIn(t, strings.TrimSpace(code))}
}

func imageIn(t *testing.T, texts ...string) impl.Image {
	t.Helper()
	m := impl.Image{}
	for _, text := range texts {
		m.Routines = append(m.Routines, routineIn(t, text))
	}
	return m
}

// manyRoutines are of Names that rise.
func manyRoutines(many int) impl.Image {
	m := impl.Image{}
	for i := range many {
		name := "a." + string([]byte{byte('a' + i/26/26%26), byte('a' + i/26%26), byte('a' + i%26)})
		m.Routines = append(m.Routines, impl.Routine{Name: name, Args: int64(i % 4), Code: ending(1+i%5, insOf(1, 0, int64(i), 0, ""))})
	}
	return m
}

// imageCopied shares neither lists nor texts with what it was made of.
func imageCopied(m impl.Image) impl.Image {
	list := []impl.Routine{}
	for _, r := range m.Routines {
		code := []impl.Ins{}
		for _, i := range r.Code {
			code = append(code, insOf(i.Kind, i.R, i.A, i.B, strings.Clone(i.Name)))
		}
		list = append(list, impl.Routine{Name: strings.Clone(r.Name), Args: r.Args, Code: code})
	}
	return impl.Image{Routines: list}
}

func sameRoutine(a, b impl.Routine) bool {
	return a.Name == b.Name && a.Args == b.Args && slices.Equal(a.Code, b.Code)
}

func sameImage(a, b impl.Image) bool {
	return slices.EqualFunc(a.Routines, b.Routines, sameRoutine)
}

func routineRight(r impl.Routine) bool {
	for _, i := range r.Code {
		if i.Kind == 2 && i.A >= r.Args {
			return false
		}
	}
	return wholeName.MatchString(r.Name) && r.Args >= 0 && r.Args <= 3 && codeRight(r.Code)
}

// imageRight goes by the document's sentences.
func imageRight(m impl.Image) bool {
	if len(m.Routines) < 1 || len(m.Routines) > 64 {
		return false
	}
	args := map[string]int64{}
	for at, r := range m.Routines {
		if !routineRight(r) || at > 0 && m.Routines[at-1].Name >= r.Name {
			return false
		}
		args[r.Name] = r.Args
	}
	for _, r := range m.Routines {
		for _, i := range r.Code {
			if many, is := args[i.Name]; i.Kind == 9 && (!is || many != i.A) {
				return false
			}
		}
	}
	return true
}

func imageText(m impl.Image) string {
	text := strings.Builder{}
	for _, r := range m.Routines {
		fmt.Fprintf(&text, "routine %s %d %d\n", r.Name, r.Args, len(r.Code))
		for _, i := range r.Code {
			name := i.Name
			if name == "" {
				name = "-"
			}
			fmt.Fprintf(&text, "%d %d %d %d %s\n", i.Kind, i.R, i.A, i.B, name)
		}
	}
	return text.String()
}

const numberForm = `(0|-?[1-9][0-9]{0,9})`

var headForm = regexp.MustCompile(`^routine ([a-z.]+) ` + numberForm + ` ` + numberForm + `\n`)
var insForm = regexp.MustCompile(`^` + numberForm + ` ` + numberForm + ` ` + numberForm + ` ` + numberForm + ` (-|[a-z.]+)\n`)

func parsed(s string) int64 {
	n, _ := strconv.ParseInt(s, 10, 64)
	return n
}

// routinesOfText is strict: line by line, as many Ins as are told.
func routinesOfText(text string) ([]impl.Routine, bool) {
	list := []impl.Routine{}
	for text != "" {
		head := headForm.FindStringSubmatch(text)
		if head == nil {
			return nil, false
		}
		text = text[len(head[0]):]
		r := impl.Routine{Name: head[1], Args: parsed(head[2])}
		for range parsed(head[3]) {
			said := insForm.FindStringSubmatch(text)
			if said == nil {
				return nil, false
			}
			text = text[len(said[0]):]
			r.Code = append(r.Code, insOf(parsed(said[1]), parsed(said[2]), parsed(said[3]), parsed(said[4]), strings.TrimPrefix(said[5], "-")))
		}
		list = append(list, r)
	}
	return list, true
}

func imageOfText(text string) (impl.Image, bool) {
	list, is := routinesOfText(text)
	if m := (impl.Image{Routines: list}); is && imageRight(m) {
		return m, true
	}
	return impl.Image{}, false
}

// A machine has a heap of what was called, one on top of the other, and no
// register is there ahead of being written into.
type machine struct {
	code []impl.Ins
	args []int64
	held map[int64]int64
	at   int64
}

// ranBy wants a right image, a Routine that is there, and its args.
func ranBy(m impl.Image, name string, args []int64, fuel int64) answer {
	found := map[string][]impl.Ins{}
	for _, r := range m.Routines {
		found[r.Name] = r.Code
	}
	heap := []*machine{{code: found[name], args: args, held: map[int64]int64{}}}
	for burnt := int64(1); burnt <= fuel; burnt++ {
		top := heap[len(heap)-1]
		i := top.code[top.at]
		top.at++
		switch i.Kind {
		case 1:
			top.held[i.R] = i.A
		case 2:
			top.held[i.R] = top.args[i.A]
		case 7:
			if top.held[i.R] == 0 {
				top.at = i.A
			}
		case 8:
			top.at = i.A
		case 9:
			given := []int64{}
			for k := range i.A {
				given = append(given, top.held[i.R+k])
			}
			heap = append(heap, &machine{code: found[i.Name], args: given, held: map[int64]int64{}})
		case 10:
			heap = heap[:len(heap)-1]
			if len(heap) == 0 {
				return ok(top.held[i.R], burnt)
			}
			below := heap[len(heap)-1]
			below.held[below.code[below.at-1].R] = top.held[i.R]
		default:
			if i.Kind == 6 && top.held[i.B] == 0 {
				return zero(burnt)
			}
			top.held[i.R] = reckoned(i.Kind, top.held[i.A], top.held[i.B])
		}
	}
	return short(fuel)
}

func toldImage(m impl.Image) string {
	return fmt.Sprintf("%.600q", imageText(impl.Image{Routines: m.Routines[:min(len(m.Routines), 10)]}))
}

func mustBeImage(t *testing.T, m impl.Image, want bool) {
	t.Helper()
	if got := impl.ImageOk(m); got != want {
		t.Errorf("ImageOk of %d, %s, is %v", len(m.Routines), toldImage(m), got)
	}
	if want {
		return
	}
	if got := impl.ShowImage(m); got != "" {
		t.Errorf("ShowImage of what is not right is %.300q", got)
	}
	names := []string{"a.f", "main.main", ""}
	for _, r := range m.Routines[:min(len(m.Routines), 3)] {
		names = append(names, r.Name)
	}
	for _, name := range names {
		for _, args := range [][]int64{nil, {1}, {1, 2}, {1, 2, 3}} {
			mustRun(t, m, name, args, 100, 0, impl.MnBad)
		}
	}
}

// mustRun asks twice: an image is run alike each time.
func mustRun(t *testing.T, m impl.Image, name string, args []int64, fuel, value, code int64) {
	t.Helper()
	for range 2 {
		got, why := impl.RunImage(m, name, args, fuel)
		if got != value || why != code {
			t.Errorf("%.40q of %s by %d with %d gives %d, %d, not %d, %d", name, toldImage(m), args[:min(len(args), 8)], fuel, got, why, value, code)
		}
	}
}

func mustBeBadImage(t *testing.T, m impl.Image, name string, args []int64, fuels ...int64) {
	t.Helper()
	for _, fuel := range fuels {
		mustRun(t, m, name, args, fuel, 0, impl.MnBad)
	}
}

// mustGive runs it with each fuel up to what it takes, and with more.
func mustGive(t *testing.T, m impl.Image, name string, args []int64, want answer) {
	t.Helper()
	mustBeImage(t, m, true)
	for fuel := range want.burnt {
		mustRun(t, m, name, args, fuel, 0, impl.MnFuel)
	}
	for _, fuel := range []int64{want.burnt, want.burnt + 1, want.burnt + 2, 2 * want.burnt, 10000, impl.MaxFuel - 1, impl.MaxFuel} {
		if fuel >= want.burnt && fuel <= impl.MaxFuel {
			mustRun(t, m, name, args, fuel, want.value, want.code)
		}
	}
}

// mustGiveAlone has one Routine, of as many Args as there are args.
func mustGiveAlone(t *testing.T, code string, args []int64, want answer) {
	t.Helper()
	mustGive(t, imageIn(t, fmt.Sprintf("a.f %d: %s", len(args), code)), "a.f", args, want)
}

func mustShow(t *testing.T, m impl.Image, want string) {
	t.Helper()
	mustBeImage(t, m, true)
	if got := impl.ShowImage(m); got != want {
		t.Errorf("ShowImage is %.600q, not %.600q", got, want)
	}
	mustReadImage(t, want, m)
}

func mustReadImage(t *testing.T, text string, want impl.Image) {
	t.Helper()
	for range 2 {
		got, is := impl.ReadImage(text)
		if !is || !sameImage(got, want) {
			t.Errorf("ReadImage of %.600q is %v and %s", text, is, toldImage(got))
		}
	}
	if shown := impl.ShowImage(want); shown != text {
		t.Errorf("%.600q is read, and is shown as %.600q", text, shown)
	}
}

func mustNotReadImage(t *testing.T, text string) {
	t.Helper()
	got, is := impl.ReadImage(text)
	if is || len(got.Routines) != 0 {
		t.Errorf("ReadImage of %d bytes, %.600q, is %v and %s", len(text), text, is, toldImage(got))
	}
}

// mustReadImageAsTold says whether it was read.
func mustReadImageAsTold(t *testing.T, text string) bool {
	t.Helper()
	want, is := imageOfText(text)
	if is {
		mustReadImage(t, text, want)
	} else {
		mustNotReadImage(t, text)
	}
	return is
}

func TestImageOkByNumberOfRoutines(t *testing.T) {
	mustBeImage(t, impl.Image{}, false)
	mustBeImage(t, impl.Image{Routines: []impl.Routine{}}, false)
	mustBeImage(t, impl.Image{Routines: []impl.Routine{{}}}, false)
	for many := 1; many <= 130; many++ {
		mustBeImage(t, manyRoutines(many), many <= 64)
	}
	for _, many := range []int{256, 256 + 1, 256 + 64, 1000, 10000} {
		mustBeImage(t, manyRoutines(many), false)
	}
	// The last of 64 is asked as the first one is.
	for _, at := range []int{0, 1, 31, 62, 63} {
		m := manyRoutines(64)
		m.Routines[at].Args = 4
		mustBeImage(t, m, false)
		m.Routines[at].Args = 3
		mustBeImage(t, m, true)
		m.Routines[at].Code = nil
		mustBeImage(t, m, false)
	}
}

func namedRoutines(names ...string) impl.Image {
	m := impl.Image{}
	for _, name := range names {
		m.Routines = append(m.Routines, impl.Routine{Name: name, Code: []impl.Ins{endOf(0)}})
	}
	return m
}

func TestImageOkOfNamesThatRiseOrNot(t *testing.T) {
	names := []string{
		"a.a", "a.aa", "a.ab", "a.b", "a.f", "a.z", "a.zz", "aa.a", "aa.b", "ab.a", "abcdefgh.a", "abcdefgh.abcdefgh", "b.a", "b.f", "main.main", "z.a", "zz.a", "zz.zz",
	}
	for i, a := range names {
		mustBeImage(t, namedRoutines(a), true)
		for k, b := range names {
			mustBeImage(t, namedRoutines(a, b), i < k)
			mustBeImage(t, namedRoutines("a.a", a, b, "zz.zz"), 0 < i && i < k && k < len(names)-1)
			for l, c := range names {
				mustBeImage(t, namedRoutines(a, b, c), i < k && k < l)
			}
		}
	}
	mustBeImage(t, namedRoutines(names...), true)
	// Two that are alike are wrong wherever they stand, and with whatever Args
	// and Code.
	for at := range names {
		mustBeImage(t, namedRoutines(slices.Insert(slices.Clone(names), at, names[at])...), false)
		if at > 0 {
			changed := slices.Clone(names)
			changed[at-1], changed[at] = changed[at], changed[at-1]
			mustBeImage(t, namedRoutines(changed...), false)
		}
	}
	mustBeImage(t, imageIn(t, "a.f 0: end 0", "a.f 1: arg 0 0, end 0"), false)
	mustBeImage(t, imageIn(t, "a.f 0: end 0", "b.f 0: end 0", "a.f 2: end 0"), false)
}

func TestImageOkOfNames(t *testing.T) {
	for _, pack := range []string{"a", "z", "main", "lib", "abcdefgh", "zzzzzzzz"} {
		for _, name := range []string{"a", "f", "z", "main", "abcdefgh", "zzzzzzzz"} {
			mustBeImage(t, namedRoutines(pack+"."+name), true)
			for _, mark := range []string{"", " ", "/", ",", ":", "..", ". ", " .", ".\n", "-", "\x00", "@"} {
				mustBeImage(t, namedRoutines(pack+mark+name), false)
			}
			for _, wrong := range []string{"." + pack + "." + name, pack + "." + name + ".", pack + "." + name + "." + name, pack + "." + name + " ", " " + pack + "." + name, pack + "." + name + "\n", pack, pack + ".", "." + name} {
				mustBeImage(t, namedRoutines(wrong), false)
				mustBeImage(t, namedRoutines("a.a", wrong), false)
				mustBeImage(t, namedRoutines(wrong, "zzzzzzzz.zzzzzzzz"), false)
			}
		}
	}
	for _, name := range noNames {
		for _, wrong := range []string{name, name + ".f", "a." + name, name + "." + name, name + ".", "." + name} {
			if !wholeName.MatchString(wrong) {
				mustBeImage(t, namedRoutines(wrong), false)
				mustBeImage(t, namedRoutines("a.a", wrong), false)
			}
		}
	}
	for _, wrong := range []string{"", ".", "..", "-", "abcdefghi.f", "a.abcdefghi", "a.B", "A.b", "a.f1"} {
		mustBeImage(t, namedRoutines(wrong), false)
	}
}

func TestImageOkByArgs(t *testing.T) {
	for _, args := range append([]int64{-2, -1, 0, 1, 2, 3, 4, 5, 63, 64, 255, 256, 257, 1<<32 - 1, 1 << 32, 1<<32 + 1, -1 << 32}, manyNumbers()[:400]...) {
		for _, at := range []int{0, 1, 2} {
			m := namedRoutines("a.f", "b.f", "c.f")
			m.Routines[at].Args = args
			mustBeImage(t, m, args >= 0 && args <= 3)
		}
	}
}

func TestImageOkOfCodeThatIsNotRight(t *testing.T) {
	for _, code := range []string{
		"", "set 0 1", "end 0, set 0 1", "jump 1", "jump -1", "zero 0 0", "zero 0 2, end 0", "zero 0 -1, end 0", "end 64", "end -1", "set 64 0, end 0",
		"set 0 2147483648, end 0", "arg 0 3, end 0", "arg 0 -1, end 0", "jump 2, end 0", "call 0 0 a.f", "add 0 64 0, end 0", "add 0 0 1",
	} {
		wrong := impl.Routine{Name: "b.f", Args: 3, Code: codeIn(t, code)}
		mustBeImage(t, impl.Image{Routines: []impl.Routine{wrong}}, false)
		m := namedRoutines("a.f", "b.f", "c.f")
		m.Routines[1] = wrong
		mustBeImage(t, m, false)
	}
	for many := 1; many <= 210; many++ {
		m := namedRoutines("a.f", "b.f", "c.f")
		for _, at := range []int{0, 1, 2} {
			m.Routines[at].Code = ending(many, insIn(t, "set 3 7"))
			mustBeImage(t, m, many <= 200)
		}
	}
	// A place is one of its own Routine, not of another one, nor of all.
	m := imageIn(t, "a.f 0: set 0 1, jump 2, end 0", "b.f 0: set 0 1, set 0 2, set 0 3, jump 4, end 0")
	mustBeImage(t, m, true)
	m.Routines[0].Code[1].A = 3
	mustBeImage(t, m, false)
	for _, text := range wrongIns {
		m := namedRoutines("a.f", "b.f")
		m.Routines[1].Args = 3
		m.Routines[1].Code = []impl.Ins{insIn(t, text), endOf(0)}
		mustBeImage(t, m, false)
	}
	for _, i := range []impl.Ins{{}, insOf(11, 0, 0, 0, ""), insOf(10, 0, 1, 0, ""), insOf(8, 1, 0, 0, ""), insOf(1, 0, 0, 0, "a.f"), insOf(9, 0, 0, 1, "a.f")} {
		m := namedRoutines("a.f", "b.f")
		m.Routines[1].Code = []impl.Ins{i, endOf(0)}
		mustBeImage(t, m, false)
	}
}

func TestImageOkOfCalls(t *testing.T) {
	names := []string{"a.f", "a.g", "b.f", "c.f", "c.h"}
	for from := range names {
		for to, called := range names {
			for args := int64(0); args <= 3; args++ {
				for many := int64(-1); many <= 4; many++ {
					m := namedRoutines(names...)
					m.Routines[to].Args = args
					m.Routines[from].Code = []impl.Ins{insOf(9, 5, many, 0, called), endOf(0)}
					mustBeImage(t, m, many == args)
				}
			}
		}
		for _, none := range []string{"a.a", "a.ff", "a.h", "aa.f", "b.g", "c.g", "d.f", "f.a", "z.z", "a.", ".f", "a", "f", "", "-"} {
			m := namedRoutines(names...)
			for _, code := range [][]impl.Ins{{insOf(9, 0, 0, 0, none), endOf(0)}, {insOf(9, 0, 0, 0, "a.f"), insOf(9, 0, 0, 0, none), endOf(0)}, {endOf(0), insOf(9, 0, 0, 0, none), endOf(0)}} {
				m.Routines[from].Code = code
				mustBeImage(t, m, false)
			}
		}
	}
	// Each of several is asked, in each Routine; Args of another one don't help.
	right := []string{"a.f 1: call 0 2 b.g, end 0", "b.g 2: call 0 1 a.f, call 9 3 c.h, call 0 0 d.i, end 0", "c.h 3: end 0", "d.i 0: call 1 1 a.f, call 2 2 b.g, end 0"}
	mustBeImage(t, imageIn(t, right...), true)
	for at, r := range imageIn(t, right...).Routines {
		m := imageIn(t, right...)
		m.Routines = slices.Delete(m.Routines, at, at+1)
		mustBeImage(t, m, false)
		for _, args := range []int64{0, 1, 2, 3} {
			m := imageIn(t, right...)
			m.Routines[at].Args = args
			mustBeImage(t, m, args == r.Args)
		}
		for place, i := range r.Code {
			for _, many := range []int64{0, 1, 2, 3} {
				m := imageIn(t, right...)
				if m.Routines[at].Code[place].Kind == 9 {
					m.Routines[at].Code[place].A = many
					mustBeImage(t, m, many == i.A)
				}
			}
		}
	}
	// All 64 may call each other.
	m := manyRoutines(64)
	for at := range m.Routines {
		code := []impl.Ins{}
		for _, r := range m.Routines {
			code = append(code, insOf(9, 0, r.Args, 0, r.Name))
		}
		m.Routines[at].Code = append(code, endOf(0))
	}
	mustBeImage(t, m, true)
	m.Routines[63].Code[63].A--
	mustBeImage(t, m, false)
}

func TestImageOkOfArguments(t *testing.T) {
	for args := int64(0); args <= 3; args++ {
		for a := int64(-1); a <= 4; a++ {
			is := a >= 0 && a < args
			for _, code := range [][]impl.Ins{
				{insOf(2, 7, a, 0, ""), endOf(7)}, {endOf(0), insOf(2, 0, a, 0, ""), jumpTo(0)}, ending(200, insOf(2, 1, a, 0, "")),
			} {
				mustBeImage(t, impl.Image{Routines: []impl.Routine{{Name: "a.f", Args: args, Code: code}}}, is)
				for _, others := range []int64{0, 3} {
					m := namedRoutines("a.f", "b.f", "c.f")
					m.Routines[0].Args, m.Routines[2].Args = others, others
					m.Routines[1].Args, m.Routines[1].Code = args, code
					mustBeImage(t, m, is)
				}
			}
		}
	}
	// What is at the second place of a word, a register or a place is no
	// argument.
	for _, text := range []string{"set 0 3", "add 0 3 3", "zero 0 3", "jump 3", "set 0 0", "add 0 0 0"} {
		m := namedRoutines("a.f")
		m.Routines[0].Code = append([]impl.Ins{insIn(t, text)}, ending(4, endOf(0))...)
		mustBeImage(t, m, true)
	}
	mustBeImage(t, imageIn(t, "a.f 3: arg 0 0, arg 1 1, arg 2 2, end 0"), true)
	mustBeImage(t, imageIn(t, "a.f 2: arg 0 0, arg 1 1, arg 2 2, end 0"), false)
	mustBeImage(t, imageIn(t, "a.f 2: arg 2 2, arg 1 1, arg 0 0, end 0"), false)
}

func TestRunImageOfEachKind(t *testing.T) {
	for _, word := range edgeWords {
		set := fmt.Sprintf("set 0 %d", word)
		mustGiveAlone(t, set+", end 0", nil, ok(word, 2))
		mustGiveAlone(t, "set 63 5, "+fmt.Sprintf("set 63 %d", word)+", set 0 7, end 63", nil, ok(word, 4))
		mustGiveAlone(t, "arg 0 0, end 0", words(word), ok(word, 2))
		mustGiveAlone(t, "arg 9 2, end 9", words(1, 2, word), ok(word, 2))
		mustGiveAlone(t, "arg 9 1, end 9", words(1, word, 3), ok(word, 2))
		for _, other := range edgeWords {
			for kind := int64(3); kind <= 6; kind++ {
				m := imageIn(t, "a.f 2: arg 3 0, arg 4 1, add 5 3 4, end 5")
				m.Routines[0].Code[2].Kind = kind
				if kind == 6 && other == 0 {
					mustRun(t, m, "a.f", words(word, other), 4, 0, impl.MnZero)
				} else {
					mustRun(t, m, "a.f", words(word, other), 4, reckoned(kind, word, other), impl.MnOk)
				}
			}
		}
		where := ok(8, 4)
		if word == 0 {
			where = ok(9, 4)
		}
		mustGiveAlone(t, "arg 1 0, zero 1 4, set 0 8, end 0, set 0 9, end 0", words(word), where)
	}
	mustGiveAlone(t, "set 0 7, set 1 2, add 0 0 1, end 0", nil, ok(9, 4))
	mustGiveAlone(t, "set 0 7, set 1 2, sub 0 0 1, end 0", nil, ok(5, 4))
	mustGiveAlone(t, "set 0 7, set 1 2, sub 0 1 0, end 0", nil, ok(-5, 4))
	mustGiveAlone(t, "set 0 7, set 1 2, mul 0 0 1, end 0", nil, ok(14, 4))
	mustGiveAlone(t, "set 0 -7, set 1 2, div 0 0 1, end 0", nil, ok(-3, 4))
	mustGiveAlone(t, "set 0 -7, set 1 2, div 0 1 0, end 1", nil, ok(2, 4))
	mustGiveAlone(t, "set 0 2147483647, set 1 1, add 2 0 1, end 2", nil, ok(leastWord, 4))
	mustGiveAlone(t, "set 0 -2147483648, set 1 -1, div 2 0 1, end 2", nil, ok(leastWord, 4))
	mustGiveAlone(t, "set 0 65536, mul 0 0 0, end 0", nil, ok(0, 3))
	mustGiveAlone(t, "set 62 6, set 63 7, mul 61 62 63, end 61", nil, ok(42, 4))
	mustGiveAlone(t, "jump 1, end 0", nil, ok(0, 2))
	mustGiveAlone(t, "end 0", nil, ok(0, 1))
	mustGiveAlone(t, "end 63", nil, ok(0, 1))
	mustGiveAlone(t, "end 0", words(5, 6, 7), ok(0, 1))
}

func TestRunImageWritesJustWhereItIsTold(t *testing.T) {
	for _, text := range []string{"set 20 99", "arg 20 0", "add 20 1 2", "sub 20 1 2", "mul 20 1 2", "div 20 1 2", "zero 20 70", "zero 21 65", "jump 70", "call 20 0 b.none", "call 20 1 b.one", "call 20 2 b.two", "call 20 3 b.three"} {
		for at := range int64(64) {
			m := imageIn(t, "a.f 1: end 0", "b.none 0: set 20 50, end 20", "b.one 1: arg 1 0, end 1", "b.three 3: arg 0 2, end 0", "b.two 2: arg 7 1, end 7")
			code := []impl.Ins{}
			for r := range int64(64) {
				code = append(code, insOf(1, r, 1000+r, 0, ""))
			}
			code[20] = insIn(t, text)
			code[20], code[63] = code[63], code[20]
			code = append(code, slices.Repeat([]impl.Ins{endOf(at)}, 10)...)
			m.Routines[0].Code = code
			mustBeImage(t, m, true)
			want := ranBy(m, "a.f", words(3), 1000)
			mustRun(t, m, "a.f", words(3), 1000, want.value, impl.MnOk)
			if at != 20 && want.value != 1000+at || want.code != impl.MnOk {
				t.Fatalf("%q gives %d of %d", text, want.value, at)
			}
		}
	}
}

func TestRunImageOfJumps(t *testing.T) {
	// Ahead, back, to itself but once, and to the first.
	mustGiveAlone(t, "jump 2, end 1, set 0 5, end 0", nil, ok(5, 3))
	mustGiveAlone(t, "jump 3, set 0 6, end 0, jump 1", nil, ok(6, 4))
	mustGiveAlone(t, "set 0 1, zero 1 3, end 0, set 1 4, jump 0", nil, ok(1, 7))
	mustGiveAlone(t, "zero 0 2, end 0, set 0 8, jump 0", nil, ok(8, 5))
	mustGiveAlone(t, "jump 1, jump 2, jump 3, jump 4, end 0", nil, ok(0, 5))
	mustGiveAlone(t, "jump 4, end 0, jump 1, jump 2, jump 3", nil, ok(0, 5))
	// Behind an end nothing is done, unless it is gone to.
	mustGiveAlone(t, "set 0 1, end 0, set 0 2, end 0", nil, ok(1, 2))
	// 10 added up to 1, with the loop's end in its midst.
	loop := "arg 0 0, set 1 1, zero 0 6, add 2 2 0, sub 0 0 1, jump 2, end 2"
	mustGiveAlone(t, loop, words(0), ok(0, 4))
	mustGiveAlone(t, loop, words(1), ok(1, 8))
	mustGiveAlone(t, loop, words(10), ok(55, 44))
	mustGiveAlone(t, loop, words(100), ok(5050, 404))
	mustRun(t, imageIn(t, "a.f 1: "+loop), "a.f", words(-1), impl.MaxFuel, 0, impl.MnFuel)
	// A farthest jump there and back.
	code := ending(200, insIn(t, "set 0 1"))
	code[0], code[198], code[199] = jumpTo(199), endOf(3), jumpTo(197)
	code[197] = insIn(t, "set 3 77")
	mustGive(t, impl.Image{Routines: []impl.Routine{{Name: "a.f", Code: code}}}, "a.f", nil, ok(77, 4))
}

func TestRunImageOfZero(t *testing.T) {
	for _, word := range []int64{0, 1, -1, 2, 256, 65536, leastWord, greatestWord} {
		want, there := int64(7), ok(7, 5)
		if word == 0 {
			want, there = 8, ok(8, 4)
		}
		mustGiveAlone(t, "arg 5 0, zero 5 4, set 5 7, jump 5, set 5 8, end 5", words(word), there)
		// One that is not 0 in whichever register, where all others are.
		for r := range 64 {
			text := fmt.Sprintf("arg %d 0, zero %d 4, set %d 7, end %d, set %d 8, end %d", r, r, r, r, r, r)
			mustGiveAlone(t, text, words(word), ok(want, 4))
		}
	}
	// To the next, to itself, and back.
	mustGiveAlone(t, "zero 0 1, set 0 3, end 0", nil, ok(3, 3))
	mustGiveAlone(t, "set 0 1, zero 0 1, end 0", nil, ok(1, 3))
	mustGiveAlone(t, "zero 1 2, end 2, set 1 1, set 2 9, zero 3 0, end 0", nil, ok(9, 6))
	mustRun(t, imageIn(t, "a.f 0: zero 0 0, end 0"), "a.f", nil, impl.MaxFuel, 0, impl.MnFuel)
}

func TestRunImageOfCalls(t *testing.T) {
	m := imageIn(t,
		"a.none 0: set 9 5, end 9",
		"a.one 1: arg 0 0, add 0 0 0, end 0",
		"a.three 3: arg 7 0, arg 8 1, arg 9 2, sub 7 7 8, mul 7 7 9, end 7",
		"a.two 2: arg 1 0, arg 0 1, sub 0 1 0, end 0",
		"b.none 0: call 3 0 a.none, end 3",
		"b.one 1: arg 3 0, call 3 1 a.one, end 3",
		"b.three 3: arg 61 0, arg 62 1, arg 63 2, call 61 3 a.three, end 61",
		"b.two 2: arg 0 0, arg 1 1, call 0 2 a.two, end 0",
		"c.all 3: arg 0 0, arg 1 1, arg 2 2, call 0 3 b.three, arg 1 1, call 0 2 b.two, call 0 1 b.one, call 63 0 b.none, add 0 0 63, end 0",
	)
	mustGive(t, m, "a.none", nil, ok(5, 2))
	mustGive(t, m, "a.one", words(4), ok(8, 3))
	mustGive(t, m, "a.two", words(9, 4), ok(5, 4))
	mustGive(t, m, "a.three", words(9, 4, 3), ok(15, 6))
	mustGive(t, m, "b.none", nil, ok(5, 4))
	mustGive(t, m, "b.one", words(4), ok(8, 6))
	mustGive(t, m, "b.two", words(9, 4), ok(5, 8))
	mustGive(t, m, "b.three", words(9, 4, 3), ok(15, 11))
	// 15 - 4 = 11, twice is 22, and 5.
	mustGive(t, m, "c.all", words(9, 4, 3), ok(27, 39))
	// What is given comes to R; the other arguments stay.
	m = imageIn(t, "a.f 3: set 0 50, set 1 60, set 2 70, end 0", "b.g 0: set 5 1, set 6 2, set 7 3, call 5 3 a.f, mul 5 5 6, mul 5 5 7, end 5")
	mustGive(t, m, "b.g", nil, ok(300, 11))
	// One that asks for nothing of what it is called by.
	m = imageIn(t, "a.f 2: set 1 3, end 1", "b.g 0: set 0 7, call 0 2 a.f, add 0 0 1, end 0")
	mustGive(t, m, "b.g", nil, ok(3, 6))
	// What was never written into is 0, and so are arguments made of it.
	m = imageIn(t, "a.f 3: arg 0 0, arg 1 1, arg 2 2, add 0 0 1, add 0 0 2, end 0", "b.g 0: set 11 4, call 10 3 a.f, end 10", "c.h 0: call 10 3 a.f, end 10")
	mustGive(t, m, "b.g", nil, ok(4, 9))
	mustGive(t, m, "c.h", nil, ok(0, 8))
	// Called behind the one that calls, and ahead of it.
	m = imageIn(t, "a.f 1: arg 0 0, call 0 1 z.g, end 0", "m.h 1: arg 0 0, call 0 1 a.f, call 0 1 z.g, end 0", "z.g 1: arg 0 0, mul 0 0 0, end 0")
	mustGive(t, m, "m.h", words(3), ok(81, 13))
}

// Of 64 Routines each is found by its Name.
func TestRunImageFindsEachRoutine(t *testing.T) {
	for many := 1; many <= 64; many++ {
		m := manyRoutines(many)
		for at := range m.Routines {
			m.Routines[at].Code = []impl.Ins{insOf(1, 0, int64(1000+at), 0, ""), endOf(0)}
		}
		for at, r := range m.Routines {
			mustRun(t, m, r.Name, make([]int64, r.Args), 2, int64(1000+at), impl.MnOk)
		}
		if many < 3 {
			continue
		}
		callers := imageCopied(m)
		for at := range callers.Routines {
			called := m.Routines[(at*7+3)%many]
			callers.Routines[at].Code = []impl.Ins{insOf(9, 0, called.Args, 0, called.Name), endOf(0)}
			if called.Name == callers.Routines[at].Name {
				continue
			}
			// Only this one calls.
			one := imageCopied(m)
			one.Routines[at].Code = callers.Routines[at].Code
			mustRun(t, one, one.Routines[at].Name, make([]int64, one.Routines[at].Args), 4, int64(1000+(at*7+3)%many), impl.MnOk)
		}
		mustBeImage(t, callers, true)
	}
}

func TestRunImageOfNamesThatAreAlike(t *testing.T) {
	m := imageIn(t, "a.a 0: set 0 1, end 0", "a.aa 0: set 0 2, end 0", "a.b 0: set 0 3, end 0", "aa.a 0: set 0 4, end 0", "aa.aa 0: set 0 5, end 0", "b.a 0: set 0 6, end 0", "b.b 0: set 0 7, end 0")
	for at, name := range []string{"a.a", "a.aa", "a.b", "aa.a", "aa.aa", "b.a", "b.b"} {
		mustGive(t, m, name, nil, ok(int64(at+1), 2))
	}
}

func TestRunImageOfOneThatCallsItself(t *testing.T) {
	factorial := "a.f 1: arg 0 0, zero 0 7, set 1 1, sub 1 0 1, call 1 1 a.f, mul 0 0 1, end 0, set 0 1, end 0"
	m := imageIn(t, factorial)
	mustGive(t, m, "a.f", words(0), ok(1, 4))
	mustGive(t, m, "a.f", words(1), ok(1, 11))
	mustGive(t, m, "a.f", words(5), ok(120, 39))
	mustGive(t, m, "a.f", words(12), ok(479001600, 88))
	mustGive(t, m, "a.f", words(13), ok(1932053504, 95))
	fibonacci := "a.f 1: arg 0 0, zero 0 11, set 1 1, sub 1 0 1, zero 1 11, call 1 1 a.f, set 3 2, sub 2 0 3, call 2 1 a.f, add 0 1 2, end 0, end 0"
	m = imageIn(t, fibonacci)
	for n, want := range []int64{0, 1, 1, 2, 3, 5, 8, 13, 21, 34, 55} {
		mustGive(t, m, "a.f", words(int64(n)), ok(want, ranBy(m, "a.f", words(int64(n)), 20000).burnt))
	}
	// Two that call each other.
	m = imageIn(t, "a.even 1: arg 0 0, zero 0 6, set 1 1, sub 0 0 1, call 0 1 b.odd, end 0, set 0 1, end 0", "b.odd 1: arg 0 0, zero 0 5, set 1 1, sub 0 0 1, call 0 1 a.even, end 0")
	for n := range int64(30) {
		mustGive(t, m, "a.even", words(n), ok(1-n%2, ranBy(m, "a.even", words(n), 20000).burnt))
		mustGive(t, m, "b.odd", words(n), ok(n%2, ranBy(m, "b.odd", words(n), 20000).burnt))
	}
}

// Each time anew all registers are 0: of one called twice, of one that calls
// itself, and of one that is run again.
func TestRunImageWithRegistersAnew(t *testing.T) {
	for r := range 64 {
		m := imageIn(t,
			fmt.Sprintf("a.f 0: set 0 1, add %d %d 0, set 1 0, end %d", 2+r%62, 2+r%62, 2+r%62),
			"b.g 0: call 0 0 a.f, call 1 0 a.f, call 2 0 a.f, add 0 0 1, add 0 0 2, end 0",
		)
		mustGive(t, m, "a.f", nil, ok(1, 4))
		mustGive(t, m, "b.g", nil, ok(3, 18))
		left := imageIn(t, "a.f 0: end 0", "b.g 0: call 0 0 a.f, end 0")
		left.Routines[0].Code[0].R = int64(r)
		code := []impl.Ins{}
		for at := range int64(64) {
			code = append(code, insOf(1, at, 7+at, 0, ""))
		}
		left.Routines[1].Code = append(code, left.Routines[1].Code...)
		// What is called does not see what the one that calls holds.
		mustRun(t, left, "b.g", nil, impl.MaxFuel, 0, impl.MnOk)
		mustRun(t, left, "a.f", nil, impl.MaxFuel, 0, impl.MnOk)
	}
	// What the called one wrote is not seen behind the call.
	m := imageIn(t, "a.f 1: set 0 9, set 1 9, set 2 9, set 3 9, set 63 9, arg 4 0, end 4", "b.g 0: set 0 1, call 0 1 a.f, add 0 0 1, add 0 0 2, add 0 0 3, add 0 0 63, end 0")
	mustGive(t, m, "b.g", nil, ok(1, 14))
	// Each of those that are called one within the other has its own.
	m = imageIn(t, "a.f 1: arg 0 0, zero 0 7, set 1 1, sub 1 0 1, call 1 1 a.f, add 5 5 0, add 0 5 1, end 0")
	mustGive(t, m, "a.f", words(0), ok(0, 3))
	mustGive(t, m, "a.f", words(4), ok(10, 35))
}

func TestRunImageOfWhicheverComesFirst(t *testing.T) {
	mustGiveAlone(t, "div 0 0 0, end 0", nil, zero(1))
	mustGiveAlone(t, "set 0 7, div 0 0 1, end 0", nil, zero(2))
	mustGiveAlone(t, "set 1 7, set 0 5, div 0 0 2, jump 0", nil, zero(3))
	mustGiveAlone(t, "set 0 7, set 1 0, div 5 0 1, end 0", nil, zero(3))
	mustGiveAlone(t, "set 0 0, set 1 7, div 5 0 1, end 5", nil, ok(0, 4))
	mustGiveAlone(t, "arg 0 0, set 1 1, div 2 1 0, end 0", words(0), zero(3))
	mustGiveAlone(t, "arg 0 0, set 1 1, div 2 1 0, end 0", words(2), ok(2, 4))
	// What is passed over does not stop it.
	mustGiveAlone(t, "jump 2, div 0 0 0, end 0", nil, ok(0, 2))
	mustGiveAlone(t, "end 0, div 0 0 0, end 0", nil, ok(0, 1))
	mustGiveAlone(t, "zero 0 2, div 0 0 0, set 0 4, end 0", nil, ok(4, 3))
	// Add, Sub and Mul don't mind.
	mustGiveAlone(t, "add 0 0 1, sub 0 0 1, mul 0 0 1, end 0", nil, ok(0, 4))
	// However deep within, and nothing is done behind it.
	m := imageIn(t, "a.f 1: arg 0 0, set 1 100, div 0 1 0, end 0", "b.g 1: arg 0 0, call 0 1 a.f, end 0", "c.h 1: arg 0 0, call 0 1 b.g, set 0 5, end 0", "d.i 0: jump 0")
	mustGive(t, m, "c.h", words(0), zero(7))
	mustGive(t, m, "c.h", words(7), ok(5, 11))
	mustGive(t, m, "b.g", words(7), ok(14, 7))
	mustRun(t, m, "d.i", nil, impl.MaxFuel, 0, impl.MnFuel)
	// A division by 0 for which the fuel is not left is MnFuel, and one that
	// comes ahead of code without end is MnZero.
	m = imageIn(t, "a.f 0: jump 1, jump 2, div 0 0 0, end 0", "b.g 0: call 0 0 a.f, jump 1")
	mustRun(t, m, "a.f", nil, 2, 0, impl.MnFuel)
	mustRun(t, m, "a.f", nil, 3, 0, impl.MnZero)
	mustRun(t, m, "b.g", nil, 3, 0, impl.MnFuel)
	mustRun(t, m, "b.g", nil, 4, 0, impl.MnZero)
	mustRun(t, m, "b.g", nil, impl.MaxFuel, 0, impl.MnZero)
}

// The value is 0 though a register that would be given holds something.
func TestRunImageOfCodeWithoutEnd(t *testing.T) {
	for _, texts := range [][]string{
		{"a.f 0: jump 0"}, {"a.f 0: set 0 5, jump 0"}, {"a.f 0: set 0 5, set 1 1, jump 1, end 0"}, {"a.f 0: zero 5 0, end 0"}, {"a.f 0: jump 3, end 0, end 0, jump 4, jump 3"},
		{"a.f 0: call 0 0 a.f, end 0"}, {"a.f 0: set 0 7, call 63 0 a.f, jump 1"}, {"a.f 0: call 0 0 b.g, end 0", "b.g 0: set 0 3, call 1 0 a.f, end 0"},
		{"a.f 0: set 0 1, call 0 3 b.g, end 0", "b.g 3: arg 0 0, arg 1 1, arg 2 2, set 3 1, add 0 0 3, call 0 3 b.g, end 0"}, {"a.f 0: call 0 0 b.g, jump 0", "b.g 0: set 0 5, end 0"},
	} {
		m := imageIn(t, texts...)
		mustBeImage(t, m, true)
		for _, fuel := range []int64{0, 1, 2, 3, 4, 5, 10, 99, 1000, 19999, 20000} {
			mustRun(t, m, "a.f", nil, fuel, 0, impl.MnFuel)
		}
	}
}

func TestRunImageByFuel(t *testing.T) {
	m := imageIn(t, "a.f 1: arg 0 0, set 1 1, zero 0 5, sub 0 0 1, jump 2, set 0 7, end 0", "b.g 0: end 0", "c.h 0: div 0 0 0, end 0")
	for _, fuel := range []int64{
		-1, -2, -20000, -1 << 32, math.MinInt64, math.MinInt64 + 1, 20001, 20002, 40000, 65536, 1 << 31, 1<<32 - 1, 1 << 32, 1<<32 + 1, 1<<32 + 100, math.MaxInt64,
	} {
		mustBeBadImage(t, m, "a.f", words(1), fuel)
		mustBeBadImage(t, m, "b.g", nil, fuel)
		mustBeBadImage(t, m, "c.h", nil, fuel)
	}
	mustRun(t, m, "b.g", nil, 0, 0, impl.MnFuel)
	mustRun(t, m, "b.g", nil, 1, 0, impl.MnOk)
	// Just all of MaxFuel is taken: 5, and 3 for each.
	mustRun(t, m, "a.f", words(6665), impl.MaxFuel, 7, impl.MnOk)
	mustRun(t, m, "a.f", words(6665), impl.MaxFuel-1, 0, impl.MnFuel)
	mustRun(t, m, "a.f", words(6666), impl.MaxFuel, 0, impl.MnFuel)
	mustRun(t, m, "a.f", words(6664), impl.MaxFuel-3, 7, impl.MnOk)
	mustRun(t, m, "a.f", words(6664), impl.MaxFuel-4, 0, impl.MnFuel)
}

func TestRunImageOfTheDeepest(t *testing.T) {
	// As deep as fuel lets it: 5 on the way in, 1 on the way out, and 3 at the
	// bottom.
	m := imageIn(t, "a.f 1: arg 0 0, zero 0 6, set 1 1, sub 0 0 1, call 0 1 a.f, end 0, end 2")
	many := int64(20000-3) / 6
	mustRun(t, m, "a.f", words(many), 3+6*many, 0, impl.MnOk)
	mustRun(t, m, "a.f", words(many), 2+6*many, 0, impl.MnFuel)
	mustRun(t, m, "a.f", words(many+1), impl.MaxFuel, 0, impl.MnFuel)
	m = imageIn(t, "a.f 3: call 61 3 a.f, end 61")
	mustRun(t, m, "a.f", words(1, 2, 3), impl.MaxFuel, 0, impl.MnFuel)
	m = imageIn(t, "a.f 1: arg 0 0, add 63 63 0, set 1 1, sub 0 0 1, zero 0 6, call 0 1 a.f, add 63 63 0, end 63")
	mustRun(t, m, "a.f", words(2000), impl.MaxFuel, 2001000, impl.MnOk)
}

func TestRunImageByNumberOfArgs(t *testing.T) {
	m := imageIn(t, "a.none 0: set 0 5, end 0", "a.one 1: arg 0 0, end 0", "a.three 3: arg 0 2, end 0", "a.two 2: arg 0 1, end 0")
	for at, name := range []string{"a.none", "a.one", "a.two", "a.three"} {
		for many := range 10 {
			args := words(5, 6, 7, 8, 9, 10, 11, 12, 13, 14)[:many]
			if many != at {
				mustBeBadImage(t, m, name, args, 0, 1, 2, 3, impl.MaxFuel)
				continue
			}
			mustRun(t, m, name, args, 2, words(5, 5, 6, 7)[at], impl.MnOk)
		}
		mustBeBadImage(t, m, name, make([]int64, 256+at), 100)
		mustBeBadImage(t, m, name, make([]int64, 65536+at), 100)
	}
	mustRun(t, m, "a.none", nil, 2, 5, impl.MnOk)
	mustRun(t, m, "a.none", []int64{}, 2, 5, impl.MnOk)
}

func TestRunImageByArgsThatAreNoWords(t *testing.T) {
	// The last one asks for none of them.
	m := imageIn(t, "a.one 1: arg 0 0, end 0", "a.three 3: arg 0 2, end 0", "a.two 2: arg 0 1, end 0", "b.three 3: set 0 3, end 0")
	for _, n := range append([]int64{leastWord - 1, greatestWord + 1, 1 << 32, 1<<32 + 5, -1 << 32, math.MinInt64, math.MaxInt64}, manyNumbers()...) {
		if n >= leastWord && n <= greatestWord {
			mustRun(t, m, "a.one", words(n), 2, n, impl.MnOk)
			mustRun(t, m, "a.three", words(0, 0, n), 2, n, impl.MnOk)
			continue
		}
		mustBeBadImage(t, m, "a.one", words(n), 0, 1, 2, 20000)
		mustBeBadImage(t, m, "a.two", words(n, 1), 0, 2)
		mustBeBadImage(t, m, "a.two", words(1, n), 0, 2)
		for at := range 3 {
			args := words(1, 2, 3)
			args[at] = n
			mustBeBadImage(t, m, "a.three", args, 0, 2)
			mustBeBadImage(t, m, "b.three", args, 0, 2)
		}
	}
}

func TestRunImageOfWhatIsNotThere(t *testing.T) {
	m := imageIn(t, "a.f 0: set 0 5, end 0", "b.g 0: call 0 0 a.f, end 0", "main.main 0: call 0 0 b.g, end 0")
	for _, name := range append([]string{"a.a", "a.g", "b.f", "b.h", "z.z", "a", "f", "a.", ".f", ".", "a.f ", " a.f", "a.f\n", "A.f", "a.F", "a.ff", "aa.f", "a.f/0", "main", "main.mai", "main.mainn", "a..f", "a-f", "a.f\x00"}, noNames...) {
		mustBeBadImage(t, m, name, nil, 0, 1, 100, impl.MaxFuel)
		mustBeBadImage(t, m, name, words(1), 100)
	}
	mustRun(t, m, "main.main", nil, 6, 5, impl.MnOk)
	for _, m := range []impl.Image{{}, {Routines: []impl.Routine{}}, {Routines: []impl.Routine{{}}}} {
		mustBeBadImage(t, m, "", nil, 0, 1, 100)
		mustBeBadImage(t, m, "a.f", nil, 0, 1, 100)
	}
}

// What is wrong in a Routine that is not reached is wrong all the same, and is
// told ahead of all else.
func TestRunImageIsBadAheadOfAllElse(t *testing.T) {
	right := []string{"a.f 0: set 0 5, end 0", "b.g 1: arg 0 0, end 0", "c.h 0: div 0 0 0, end 0", "d.i 0: jump 0"}
	mustBeImage(t, imageIn(t, right...), true)
	for _, wrong := range []string{"e.j 4: end 0", "e.j -1: end 0", "e.j 0:", "e.j 0: set 0 1", "e.j 0: jump 1", "e.j 0: arg 0 0, end 0", "e.j 0: call 0 0 x.y, end 0", "e.j 0: call 0 0 b.g, end 0", "d.i 0: end 0", "a.a 0: end 0", "e 0: end 0"} {
		m := imageIn(t, append(slices.Clone(right), wrong)...)
		mustBeImage(t, m, false)
		mustBeBadImage(t, m, "a.f", nil, -1, 0, 1, 2, 3, 20000, 20001)
		mustBeBadImage(t, m, "b.g", words(1), 0, 1, 2, 3)
		mustBeBadImage(t, m, "c.h", nil, 0, 1, 2)
		mustBeBadImage(t, m, "d.i", nil, 0, 1, 20000)
		mustBeBadImage(t, m, "e.j", nil, 0, 1, 20000)
	}
	m := imageIn(t, right...)
	mustBeBadImage(t, m, "c.h", words(1), 0, 1, 20000)
	mustBeBadImage(t, m, "d.i", words(1), 0, 1, 20000)
	mustBeBadImage(t, m, "b.g", nil, 0, 1, 20000)
	mustBeBadImage(t, m, "x.y", nil, 0, 1, 20000)
}

// All code of up to 4 out of these, with each small fuel.
func TestRunImageOfAllShortCode(t *testing.T) {
	some := codeIn(t, "set 0 3, set 1 0, arg 1 0, sub 0 1 0, div 1 0 1, zero 0 2, zero 1 0, jump 0, jump 3, call 0 1 a.f, call 1 1 b.g, end 0, end 1")
	helper := routineIn(t, "b.g 1: arg 5 0, set 6 1, add 5 5 6, end 5")
	codes, seen := [][]impl.Ins{{}}, [4]int{}
	for many := range 4 {
		longer := [][]impl.Ins{}
		for _, code := range codes {
			for _, i := range some {
				longer = append(longer, append(slices.Clone(code), i))
			}
		}
		codes = longer
		for at, code := range codes {
			m := impl.Image{Routines: []impl.Routine{{Name: "a.f", Args: 1, Code: code}, helper}}
			if !imageRight(m) {
				if many < 3 || at%7 == 0 {
					mustBeImage(t, m, false)
				}
				continue
			}
			for _, fuel := range []int64{0, 1, 2, 3, 4, 5, 7, 12, 60} {
				want := ranBy(m, "a.f", words(2), fuel)
				seen[want.code]++
				got, why := impl.RunImage(m, "a.f", words(2), fuel)
				if got != want.value || why != want.code {
					t.Fatalf("%s with %d gives %d, %d, not %d, %d", toldImage(m), fuel, got, why, want.value, want.code)
				}
			}
		}
	}
	if seen[0] < 5000 || seen[1] < 1000 || seen[2] < 5000 || seen[3] > 0 {
		t.Errorf("of each code there were %v", seen)
	}
}

// chosenIns is right in code of so many, in an image of these names.
func chosenIns(c *chance, many int, args int64, m impl.Image) impl.Ins {
	register := func() int64 { return []int64{0, 1, 2, 3, 3, 62, 63, int64(c.below(64))}[c.below(8)] }
	switch kind := int64(1 + c.below(10)); kind {
	case 1:
		return insOf(1, register(), chosenWords(c, 1)[0], 0, "")
	case 2:
		if args > 0 {
			return insOf(2, register(), int64(c.below(int(args))), 0, "")
		}
	case 7:
		return insOf(7, register(), int64(c.below(many)), 0, "")
	case 8:
		// Fewer, and most of them ahead: else hardly any comes to an end.
		if c.below(3) == 0 {
			return jumpTo(int64(many - 1 - c.below(many)/2))
		}
	case 9:
		called := m.Routines[c.below(len(m.Routines))]
		return insOf(9, int64(c.below(62)), called.Args, 0, called.Name)
	case 10:
		if c.below(2) == 0 {
			return endOf(register())
		}
	default:
		return insOf(kind, register(), register(), register(), "")
	}
	return insOf(int64(3+c.below(3)), register(), register(), register(), "")
}

// chosenImage is right, with Routines that call any other, and themselves.
func chosenImage(c *chance, many int) impl.Image {
	names := map[string]int{}
	for len(names) < many {
		names[chosenName(c)+"."+chosenName(c)]++
	}
	m := impl.Image{}
	for name := range names {
		m.Routines = append(m.Routines, impl.Routine{Name: name})
	}
	slices.SortFunc(m.Routines, func(a, b impl.Routine) int { return strings.Compare(a.Name, b.Name) })
	for at := range m.Routines {
		m.Routines[at].Args = int64(c.below(4))
	}
	for at, r := range m.Routines {
		length := 1 + c.below([]int{3, 12, 30}[c.below(3)])
		code := []impl.Ins{}
		for range length - 1 {
			code = append(code, chosenIns(c, length, r.Args, m))
		}
		last := endOf(int64(c.below(4)))
		if c.below(5) == 0 {
			last = jumpTo(int64(c.below(length)))
		}
		m.Routines[at].Code = append(code, last)
	}
	return m
}

// Promise 14: images of all kinds, each Routine of them, with several fuels.
func TestRunImageOfManyImages(t *testing.T) {
	c := chance(167)
	seen, kinds, deepest := [4]int{}, [11]int{}, int64(0)
	for range 400 {
		m := chosenImage(&c, 1+c.below([]int{3, 10, 64}[c.below(3)]))
		mustBeImage(t, m, true)
		if !imageRight(m) {
			t.Fatalf("%s is not right", toldImage(m))
		}
		for _, r := range m.Routines {
			for _, i := range r.Code {
				kinds[i.Kind]++
			}
			args := chosenWords(&c, r.Args)
			want := ranBy(m, r.Name, args, 3000)
			seen[want.code]++
			mustRun(t, m, r.Name, args, 3000, want.value, want.code)
			if want.code == impl.MnFuel {
				continue
			}
			deepest = max(deepest, want.burnt)
			mustRun(t, m, r.Name, args, want.burnt, want.value, want.code)
			mustRun(t, m, r.Name, args, want.burnt-1, 0, impl.MnFuel)
			mustRun(t, m, r.Name, args, impl.MaxFuel, want.value, want.code)
			mustRun(t, m, r.Name, args, int64(c.below(int(want.burnt))), 0, impl.MnFuel)
		}
	}
	if seen[0] < 1500 || seen[1] < 300 || seen[2] < 300 || slices.Min(kinds[1:]) < 500 || deepest < 30 {
		t.Errorf("of each code there were %v, of each Kind %v, and the longest took %d", seen, kinds, deepest)
	}
}

// imageOfProject has a Routine of each Func: what Compiled makes of it.
func imageOfProject(list []impl.Package) impl.Image {
	m := impl.Image{}
	for _, p := range list {
		for _, f := range p.Funcs {
			m.Routines = append(m.Routines, impl.Routine{Name: p.Name + "." + f.Name, Args: f.Args, Code: impl.Compiled(f.Tree)})
		}
	}
	slices.SortFunc(m.Routines, func(a, b impl.Routine) int { return strings.Compare(a.Name, b.Name) })
	return m
}

func TestRunImageGivesWhatItMeans(t *testing.T) {
	list := written(t, "half: f 2 / $0 $1; g 1 @half.f/2 $0 2", "main half: main 1 + ? $0 @half.g/1 $0 7 @half.f/2 100 $0")
	m := imageOfProject(list)
	mustGive(t, m, "main.main", words(10), ok(15, 22))
	mustGive(t, m, "main.main", words(0), zero(6))
	c := chance(173)
	seen, enough := [4]int{}, 0
	for range 120 {
		list := busyProject(&c, 1+c.below(8))
		m, folded := imageOfProject(list), imageOfProject(projectFolded(list))
		mustBeImage(t, m, true)
		mustBeImage(t, folded, true)
		read, _ := impl.ReadImage(impl.ShowImage(m))
		for _, p := range list {
			for _, f := range p.Funcs {
				args := chosenWords(&c, f.Args)
				value, code := impl.Meant(list, p.Name, f.Name, args, impl.MaxFuel)
				if code == impl.MnFuel {
					continue
				}
				// A Node takes two at most, and the first Routine's end 1.
				fuel := 2*impl.Burnt(list, p.Name, f.Name, args, impl.MaxFuel) + 1
				if fuel > impl.MaxFuel {
					continue
				}
				enough++
				seen[code]++
				name := p.Name + "." + f.Name
				for _, m := range []impl.Image{m, folded, read} {
					if got, why := impl.RunImage(m, name, args, impl.MaxFuel); got != value || why != code {
						t.Errorf("%s by %d gives %d, %d, and means %d, %d:\n%s", name, args, got, why, value, code, shownProject(list))
					}
					// Of a division by 0 the parts may go in another order.
					if got, why := impl.RunImage(m, name, args, fuel); code == impl.MnOk && (got != value || why != code) {
						t.Errorf("%s by %d with %d gives %d, %d, and means %d, %d:\n%s", name, args, fuel, got, why, value, code, shownProject(list))
					}
				}
			}
		}
	}
	if enough < 500 || seen[0] < 400 || seen[1] < 50 || seen[3] > 0 {
		t.Errorf("%d had fuel enough, of each code there were %v", enough, seen)
	}
}

func TestShowImageOfEachKind(t *testing.T) {
	mustShow(t, imageIn(t, "a.f 0: end 0"), "routine a.f 0 1\n10 0 0 0 -\n")
	mustShow(t, imageIn(t, "abcdefgh.stuvwxyz 3: end 63"), "routine abcdefgh.stuvwxyz 3 1\n10 63 0 0 -\n")
	mustShow(t, imageIn(t, "a.f 0: jump 0"), "routine a.f 0 1\n8 0 0 0 -\n")
	mustShow(t, imageIn(t, "a.f 3: set 1 -5, arg 2 2, add 3 4 5, sub 6 7 8, mul 9 10 11, div 12 13 14, zero 15 10, jump 9, call 16 3 a.f, end 17, jump 0"),
		"routine a.f 3 11\n1 1 -5 0 -\n2 2 2 0 -\n3 3 4 5 -\n4 6 7 8 -\n5 9 10 11 -\n6 12 13 14 -\n7 15 10 0 -\n8 0 9 0 -\n9 16 3 0 a.f\n10 17 0 0 -\n8 0 0 0 -\n")
	mustShow(t, imageIn(t, "a.f 1: arg 0 0, mul 0 0 0, end 0", "b.g 0: set 0 6, call 0 1 a.f, end 0"),
		"routine a.f 1 3\n2 0 0 0 -\n5 0 0 0 -\n10 0 0 0 -\nroutine b.g 0 3\n1 0 6 0 -\n9 0 1 0 a.f\n10 0 0 0 -\n")
	mustShow(t, imageIn(t, "a.f 0: set 63 2147483647, set 0 -2147483648, end 0", "a.g 2: call 62 2 a.g, call 63 0 a.f, end 62"),
		"routine a.f 0 3\n1 63 2147483647 0 -\n1 0 -2147483648 0 -\n10 0 0 0 -\nroutine a.g 2 3\n9 62 2 0 a.g\n9 63 0 0 a.f\n10 62 0 0 -\n")
	for _, word := range edgeWords {
		mustShow(t, imageIn(t, fmt.Sprintf("a.f 0: set 5 %d, end 0", word)), fmt.Sprintf("routine a.f 0 2\n1 5 %d 0 -\n10 0 0 0 -\n", word))
	}
	// One of each Kind alone.
	for _, text := range rightIns {
		i := insIn(t, text)
		m := namedRoutines("a.f", "b.g")
		m.Routines[1].Args, m.Routines[1].Code = 3, ending(200, endOf(0))
		if m.Routines[1].Code[7] = i; i.Kind == 9 {
			m.Routines = append(namedRoutines(i.Name).Routines, m.Routines[1:]...)
			m.Routines[0].Args = i.A
			slices.SortFunc(m.Routines, func(a, b impl.Routine) int { return strings.Compare(a.Name, b.Name) })
		}
		mustShow(t, m, imageText(m))
	}
}

func TestShowImageOfGreatOnes(t *testing.T) {
	for _, many := range []int{1, 2, 9, 10, 11, 63, 64} {
		m := manyRoutines(many)
		mustShow(t, m, imageText(m))
		for _, length := range []int{9, 10, 99, 100, 199, 200} {
			m.Routines[many-1].Code = ending(length, insIn(t, "set 9 99"))
			m.Routines[many/2].Code = ending(length, insOf(9, 0, m.Routines[0].Args, 0, m.Routines[0].Name))
			mustShow(t, m, imageText(m))
		}
	}
	m := manyRoutines(64)
	for at := range m.Routines {
		m.Routines[at].Name = "abcdefg" + string([]byte{byte('a' + at/26)}) + ".zzzzzzz" + string([]byte{byte('a' + at%26)})
	}
	for at := range m.Routines {
		called := m.Routines[63-at]
		m.Routines[at].Code = ending(200, insOf(9, 33, called.Args, 0, called.Name))
	}
	mustShow(t, m, imageText(m))
}

func TestShowImageOfWhatIsNotImageOk(t *testing.T) {
	for _, texts := range [][]string{
		{}, {"a.f 0:"}, {"a.f 0: set 0 1"}, {"a.f 4: end 0"}, {"a.f -1: end 0"}, {"a 0: end 0"}, {"a.f 0: end 64"}, {"a.f 0: arg 0 0, end 0"}, {"a.f 0: jump 1"},
		{"a.f 0: call 0 0 b.g, end 0"}, {"a.f 0: call 0 1 a.f, end 0"}, {"b.g 0: end 0", "a.f 0: end 0"}, {"a.f 0: end 0", "a.f 0: end 0"},
		{"a.f 0: end 0", "b.g 0: end 0", "c.h 0: zero 0 0"}, {"a.f 0: end 0", "b.g 1: arg 0 1, end 0", "c.h 0: end 0"},
	} {
		mustBeImage(t, imageIn(t, texts...), false)
		mustNotReadImage(t, imageText(imageIn(t, texts...)))
	}
	mustNotReadImage(t, imageText(manyRoutines(65)))
	mustReadImage(t, imageText(manyRoutines(64)), manyRoutines(64))
	long := namedRoutines("a.f")
	long.Routines[0].Code = ending(201, insIn(t, "set 0 1"))
	mustNotReadImage(t, imageText(long))
	long.Routines[0].Code = long.Routines[0].Code[1:]
	mustReadImage(t, imageText(long), long)
}

// Promise 14.
func TestReadImageOfShowImageIsTheImage(t *testing.T) {
	c := chance(179)
	for range 300 {
		m := chosenImage(&c, 1+c.below([]int{2, 10, 64}[c.below(3)]))
		mustShow(t, m, imageText(m))
		if got, is := imageOfText(imageText(m)); !is || !sameImage(got, m) {
			t.Fatalf("%s is not read", toldImage(m))
		}
	}
	for range 100 {
		m := imageOfProject(busyProject(&c, 1+c.below(8)))
		mustShow(t, m, imageText(m))
	}
}

// shownImages are of each Kind of Ins, and of several Routines; short, so that
// all their bytes can be gone through.
func shownImages(t *testing.T) []string {
	t.Helper()
	texts := []string{}
	for _, m := range []impl.Image{
		imageIn(t, "a.f 0: end 0"),
		imageIn(t, "ab.fg 2: set 1 -50, arg 2 1, zero 1 3, jump 0"),
		imageIn(t, "a.f 1: arg 0 0, div 10 0 0, call 3 2 b.g, end 10", "b.g 2: sub 0 1 2, end 0"),
		imageIn(t, "a.f 0: set 0 2147483647, jump 0", "a.g 0: call 0 0 a.f, end 0", "b.f 0: call 63 0 a.g, end 63"),
		imageIn(t, "a.f 3: add 1 2 3, mul 4 5 6, set 7 0, end 8"),
	} {
		mustBeImage(t, m, true)
		texts = append(texts, impl.ShowImage(m))
	}
	return texts
}

func TestReadImageOfTextsThatAreCut(t *testing.T) {
	mustNotReadImage(t, "")
	for _, text := range shownImages(t) {
		for at := range text {
			mustReadImageAsTold(t, text[:at])
			mustReadImageAsTold(t, text[at:])
			mustReadImageAsTold(t, text[:at]+text[at+1:])
			for to := at + 1; to <= len(text); to += 1 + to%3 {
				mustReadImageAsTold(t, text[:at]+text[to:])
			}
		}
		mustNotReadImage(t, strings.TrimSuffix(text, "\n"))
		mustNotReadImage(t, text+"\n")
		mustNotReadImage(t, "\n"+text)
		mustNotReadImage(t, text+text)
		mustNotReadImage(t, text+"x")
		mustNotReadImage(t, strings.ReplaceAll(text, "\n", "\r\n"))
		mustNotReadImage(t, strings.ReplaceAll(text, "\n", " \n"))
		mustNotReadImage(t, strings.ReplaceAll(text, " ", "  "))
		mustNotReadImage(t, strings.ReplaceAll(text, " ", "\t"))
		mustNotReadImage(t, strings.ReplaceAll(text, "\n", " "))
		mustNotReadImage(t, strings.ReplaceAll(text, " ", "\n"))
		mustNotReadImage(t, strings.ReplaceAll(text, "-\n", "\n"))
		mustNotReadImage(t, strings.ReplaceAll(text, " -\n", "\n"))
		mustNotReadImage(t, strings.ToUpper(text))
	}
}

// Each byte turned into each other one, and each put in anywhere.
func TestReadImageOfTextsWithAnotherByte(t *testing.T) {
	read, refused := 0, 0
	for _, text := range shownImages(t) {
		for at := 0; at <= len(text); at++ {
			for b := range 256 {
				one := string([]byte{byte(b)})
				others := []string{text[:at] + one + text[at:]}
				if at < len(text) && text[at] != byte(b) {
					others = append(others, text[:at]+one+text[at+1:])
				}
				for _, other := range others {
					if mustReadImageAsTold(t, other) {
						read++
					} else {
						refused++
					}
				}
			}
		}
	}
	if read < 500 || refused < 100000 {
		t.Errorf("%d were read, and %d refused", read, refused)
	}
}

func TestReadImageOfOtherLines(t *testing.T) {
	for _, text := range shownImages(t) {
		lines := strings.SplitAfter(strings.TrimSuffix(text, "\n"), "\n")
		lines[len(lines)-1] += "\n"
		for at, line := range lines {
			mustReadImageAsTold(t, strings.Join(slices.Delete(slices.Clone(lines), at, at+1), ""))
			mustNotReadImage(t, strings.Join(slices.Insert(slices.Clone(lines), at, line), ""))
			for _, more := range []string{"\n", " \n", "-\n", "routine\n", "routine a.f 0 1\n", "10 0 0 0 -\n", "1 0 0 0 -\n", "end\n", "package a\n"} {
				mustReadImageAsTold(t, strings.Join(slices.Insert(slices.Clone(lines), at, more), ""))
				mustReadImageAsTold(t, strings.Join(append(slices.Clone(lines[:at]), append([]string{more}, lines[at+1:]...)...), ""))
			}
			for to := range lines {
				changed := slices.Clone(lines)
				changed[at], changed[to] = changed[to], changed[at]
				mustReadImageAsTold(t, strings.Join(changed, ""))
				moved := slices.Insert(slices.Delete(slices.Clone(lines), at, at+1), to, line)
				mustReadImageAsTold(t, strings.Join(moved, ""))
			}
			for _, more := range []string{" ", " -", " 0", "-", "0", "\x00", "\r"} {
				mustReadImageAsTold(t, strings.Join(lines[:at], "")+strings.TrimSuffix(line, "\n")+more+"\n"+strings.Join(lines[at+1:], ""))
			}
		}
	}
	// Routines the wrong way round, and lines of one that stand in another.
	mustNotReadImage(t, "routine b.g 0 1\n10 0 0 0 -\nroutine a.f 0 1\n10 0 0 0 -\n")
	mustNotReadImage(t, "routine a.f 0 1\nroutine b.g 0 1\n10 0 0 0 -\n10 0 0 0 -\n")
	mustNotReadImage(t, "10 0 0 0 -\nroutine a.f 0 1\n10 0 0 0 -\n")
	mustNotReadImage(t, "10 0 0 0 -\nroutine a.f 0 1\n")
	mustNotReadImage(t, "routine a.f 0 0\n")
	mustNotReadImage(t, "routine a.f 0 1\n")
	mustNotReadImage(t, "10 0 0 0 -\n")
}

func TestReadImageOfOtherCounts(t *testing.T) {
	form := "routine a.f 0 %s\n1 0 5 0 -\n1 0 6 0 -\n10 0 0 0 -\nroutine b.g 1 %s\n2 0 0 0 -\n10 0 0 0 -\n"
	want := imageIn(t, "a.f 0: set 0 5, set 0 6, end 0", "b.g 1: arg 0 0, end 0")
	counts := []string{"0", "1", "2", "3", "4", "5", "6", "-1", "-3", "-2", "03", "02", "+3", "+2", "3.0", "2.0", "3 ", "", " ", "-", "259", "258", "4294967299", "4294967298", "18446744073709551619", "18446744073709551618", "three", "0x3", "0b11", "3e0", "\u0663"}
	for _, first := range counts {
		for _, second := range counts {
			text := fmt.Sprintf(form, first, second)
			if first == "3" && second == "2" {
				mustReadImage(t, text, want)
			} else {
				mustNotReadImage(t, text)
			}
		}
	}
	for many := 1; many <= 200; many++ {
		m := namedRoutines("a.f")
		m.Routines[0].Code = ending(many, insIn(t, "set 0 1"))
		text := imageText(m)
		mustReadImage(t, text, m)
		for _, other := range []int{many - 1, many + 1, 0, 10 * many} {
			mustNotReadImage(t, strings.Replace(text, fmt.Sprintf("0 %d\n", many), fmt.Sprintf("0 %d\n", other), 1))
		}
	}
}

func TestReadImageOfNumbersInAnotherForm(t *testing.T) {
	places := []string{
		"routine a.f %s 2\n1 0 0 0 -\n10 0 0 0 -\n", "routine a.f 0 2\n1 %s 0 0 -\n10 0 0 0 -\n", "routine a.f 0 2\n1 0 %s 0 -\n10 0 0 0 -\n",
		"routine a.f 0 2\n1 0 0 %s -\n10 0 0 0 -\n", "routine a.f 0 2\n1 0 0 0 -\n10 0 %s 0 -\n", "routine a.f 0 2\n1 0 0 0 -\n10 0 0 %s -\n",
		"routine a.f 0 2\n%s 0 0 0 -\n10 0 0 0 -\n", "routine a.f 0 2\n1 0 0 0 -\n%s 0 0 0 -\n",
	}
	numbers := []string{
		"00", "-0", "+0", "000", "0x0", "0.0", "0e0", "-00", "--0", "+1", "01", "-01", "1.0", "010", "+10", "0x10", "1e1", " 1", "1 ", "1_0", "1,0", "\u0660", "\uff11", "", "-", "a", "0-", "1-",
		"4294967296", "4294967297", "4294967306", "-4294967295", "18446744073709551616", "18446744073709551617", "9223372036854775808", "99999999999999999999999", "2147483648", "-2147483649", "9999999999", "-9999999999", "10000000000",
	}
	for _, place := range places {
		for _, number := range numbers {
			mustNotReadImage(t, fmt.Sprintf(place, number))
		}
		right := false
		for n := -5; n <= 70; n++ {
			right = mustReadImageAsTold(t, fmt.Sprintf(place, strconv.Itoa(n))) || right
		}
		if !right {
			t.Errorf("%q is never read", place)
		}
	}
	for _, word := range edgeWords {
		mustReadImage(t, fmt.Sprintf(places[2], strconv.FormatInt(word, 10)), imageIn(t, fmt.Sprintf("a.f 0: set 0 %d, end 0", word)))
	}
}

func TestReadImageOfNames(t *testing.T) {
	form := "routine a.f 0 2\n9 0 0 0 %s\n10 0 0 0 %s\nroutine %s 0 1\n10 0 0 0 -\n"
	for _, name := range append([]string{"a.f", "b.g", "c.h", "-", "a.g", "--", "a.", ".f", ".", "a", "a.f.", "A.f", "a.f-", "-a.f", "0"}, noNames...) {
		mustReadImageAsTold(t, fmt.Sprintf(form, name, "-", "b.g"))
		mustReadImageAsTold(t, fmt.Sprintf(form, "a.f", "-", name))
		mustReadImageAsTold(t, fmt.Sprintf(form, name, "-", name))
		if name != "-" {
			mustNotReadImage(t, fmt.Sprintf(form, "a.f", name, "b.g"))
		}
		for _, kind := range []string{"1", "2", "3", "4", "5", "6", "7", "8", "10"} {
			text := "routine a.f 1 2\n" + kind + " 0 0 0 " + name + "\n10 0 0 0 -\n"
			if mustReadImageAsTold(t, text) != (name == "-") {
				t.Errorf("%q is read or not", text)
			}
		}
	}
	mustReadImage(t, fmt.Sprintf(form, "b.g", "-", "b.g"), imageIn(t, "a.f 0: call 0 0 b.g, end 0", "b.g 0: end 0"))
	mustNotReadImage(t, fmt.Sprintf(form, "-", "-", "b.g"))
	for _, word := range []string{"Routine", "routin", "routines", " routine", "routine ", "ROUTINE", "", "object", "func", "0", "\xefroutine"} {
		mustNotReadImage(t, word+" a.f 0 1\n10 0 0 0 -\n")
		mustNotReadImage(t, "routine a.f 0 1\n10 0 0 0 -\n"+word+" b.f 0 1\n10 0 0 0 -\n")
	}
}

func namesWithin(m impl.Image) []string {
	names := []string{}
	for _, r := range m.Routines {
		names = append(names, r.Name)
		for _, i := range r.Code {
			names = append(names, i.Name)
		}
	}
	return names
}

// imageOverwritten writes into all of its lists, and into the room behind
// them.
func imageOverwritten(m impl.Image) {
	for _, r := range m.Routines {
		codeOverwritten(r.Code)
	}
	whole := m.Routines[:cap(m.Routines)]
	for at := range whole {
		whole[at] = impl.Routine{Name: "spoilt", Args: -7}
	}
}

func mustBeNewImage(t *testing.T, text string) {
	t.Helper()
	first, _ := impl.ReadImage(text)
	again, _ := impl.ReadImage(text)
	want := imageCopied(again)
	if !sameImage(first, again) {
		t.Errorf("%.300q is read as %s, and then as %s", text, toldImage(first), toldImage(again))
	}
	names := namesWithin(first)
	for at, name := range names {
		mustShareNoText(t, "within one answer", []string{name}, names[:at])
	}
	mustShareNoText(t, "with another answer", names, namesWithin(again))
	mustShareNoText(t, "with the text", names, []string{text})
	// A list that is written into, with the room behind it, leaves the others.
	for at := range first.Routines {
		codeOverwritten(first.Routines[at].Code)
		for other := at + 1; other < len(first.Routines); other++ {
			if !sameRoutine(first.Routines[other], want.Routines[other]) {
				t.Errorf("%d and %d of %.300q share memory", at, other, text)
			}
		}
	}
	imageOverwritten(first)
	if !sameImage(again, want) {
		t.Errorf("%.300q is handed out twice", text)
	}
	if third, _ := impl.ReadImage(text); !sameImage(third, want) {
		t.Errorf("%.300q is kept", text)
	}
}

func TestReadImagesAreNewMemory(t *testing.T) {
	c := chance(181)
	texts := shownImages(t)
	for range 20 {
		texts = append(texts, impl.ShowImage(chosenImage(&c, 1+c.below(5))))
	}
	for _, text := range texts {
		room := []byte(text + "spare room")
		laid := unsafe.String(&room[0], len(text))
		mustBeNewImage(t, laid)
		// What was read stays when the text's bytes are others.
		got, is := impl.ReadImage(laid)
		want := imageCopied(got)
		shown := impl.ShowImage(got)
		if string(room) != text+"spare room" {
			t.Errorf("%.300q was written into", text)
		}
		for at := range room {
			room[at] = 'x'
		}
		if !is || !sameImage(got, want) || shown != text {
			t.Errorf("%.300q is shared with what was read", text)
		}
	}
	for _, text := range []string{"", "x", "routine a.f 0 1\n", "routine a.f 0 1\n10 0 0 0 a.f\n"} {
		room := []byte(text + "spare room")
		mustNotReadImage(t, unsafe.String(&room[0], len(text)))
		if string(room) != text+"spare room" {
			t.Errorf("%.300q was written into", text)
		}
	}
}

// laidImage has names laid over bytes of the test's own, and room behind all
// of its lists, so that a write into any of them would be seen.
func laidImage(room []byte) (m, whole impl.Image) {
	texts := laidOver(room, "lib.f", "lib.g", "main.main", "lib.f", "lib.g", "lib.f", "spare room")
	spare := impl.Routine{Name: texts[6], Args: 77, Code: []impl.Ins{jumpTo(99)}}
	codes := [][]impl.Ins{
		{insOf(2, 0, 0, 0, ""), insOf(5, 0, 0, 0, ""), endOf(0), jumpTo(50), insOf(9, 1, 1, 0, texts[6])},
		{insOf(9, 0, 0, 0, texts[4]), endOf(0), jumpTo(51)},
		{insOf(2, 1, 0, 0, ""), insOf(9, 1, 1, 0, texts[3]), insOf(9, 1, 1, 0, texts[5]), endOf(1), endOf(52)},
	}
	whole.Routines = []impl.Routine{
		{Name: texts[0], Args: 1, Code: codes[0][:3]}, {Name: texts[1], Code: codes[1][:2]}, {Name: texts[2], Args: 1, Code: codes[2][:4]}, spare, spare,
	}
	return impl.Image{Routines: whole.Routines[:3]}, whole
}

// wholly is a copy of an image with the room behind each Code.
func wholly(m impl.Image) impl.Image {
	all := impl.Image{}
	for _, r := range m.Routines {
		r.Code = r.Code[:cap(r.Code)]
		all.Routines = append(all.Routines, r)
	}
	return imageCopied(all)
}

// Promise 21, for an image that is right, and for ones that are not.
func TestImagesStay(t *testing.T) {
	for spoil := range 8 {
		room := make([]byte, 80)
		m, whole := laidImage(room)
		switch spoil {
		case 1:
			m.Routines[0], m.Routines[1] = m.Routines[1], m.Routines[0]
		case 2:
			m.Routines[1].Args = 4
		case 3:
			m.Routines[2].Code = m.Routines[2].Code[:3]
		case 4:
			m.Routines[2].Code[1].A = 2
		case 5:
			m.Routines[1].Code[1].R = 64
		case 6:
			m.Routines = m.Routines[:0]
		case 7:
			m.Routines = whole.Routines[:4]
		}
		args := []int64{3, 4, 5, 6}
		before, held, shown := wholly(whole), string(room), impl.ShowImage(m)
		for range 3 {
			mustBeImage(t, m, spoil == 0)
			for _, name := range []string{"lib.f", "lib.g", "main.main", "none"} {
				for many := range 4 {
					for _, fuel := range []int64{-1, 0, 1, 5, 100, impl.MaxFuel} {
						impl.RunImage(m, name, args[:many], fuel)
					}
				}
			}
			if again := impl.ShowImage(m); again != shown || sharing(again, shown) {
				t.Errorf("it is shown as %q, and then as %q", shown, again)
			}
		}
		if string(room) != held || !sameImage(wholly(whole), before) {
			t.Errorf("%d: an image, or the room behind it, was written into", spoil)
		}
		if !slices.Equal(args, []int64{3, 4, 5, 6}) {
			t.Errorf("%d: args were written into: %d", spoil, args)
		}
		mustShareNoText(t, "what is shown", []string{shown}, append(namesWithin(m), unsafe.String(&room[0], len(room))))
	}
	m, _ := laidImage(make([]byte, 80))
	mustGive(t, m, "main.main", words(3), ok(81, 10))
	mustRun(t, m, "lib.g", nil, impl.MaxFuel, 0, impl.MnFuel)
}

// Promise 21: nothing is kept of what was asked ahead, though the same memory
// holds another image now.
func TestImagesKeepNothing(t *testing.T) {
	m := imageIn(t, "a.f 1: arg 0 0, set 1 2, mul 0 0 1, end 0", "b.g 1: arg 0 0, call 0 1 a.f, end 0")
	mustGive(t, m, "b.g", words(5), ok(10, 7))
	m.Routines[0].Code[1].A = 3
	mustGive(t, m, "b.g", words(5), ok(15, 7))
	m.Routines[0].Code[2].Kind = impl.InDiv
	mustGive(t, m, "b.g", words(7), ok(2, 7))
	m.Routines[0].Code[1].A = 0
	mustGive(t, m, "b.g", words(7), zero(5))
	mustShow(t, m, "routine a.f 1 4\n2 0 0 0 -\n1 1 0 0 -\n6 0 0 1 -\n10 0 0 0 -\nroutine b.g 1 3\n2 0 0 0 -\n9 0 1 0 a.f\n10 0 0 0 -\n")
	m.Routines[0].Name = "a.e"
	mustBeImage(t, m, false)
	m.Routines[1].Code[1].Name = "a.e"
	mustGive(t, m, "b.g", words(7), zero(5))
	mustBeBadImage(t, m, "a.f", words(7), 100)
	m.Routines[0].Args = 2
	mustBeImage(t, m, false)
	m.Routines[1].Code[1].A = 2
	mustGive(t, m, "b.g", words(7), zero(5))
	m.Routines[0].Code = codeIn(t, "arg 7 0, arg 8 1, sub 7 7 8, end 7")
	mustGive(t, m, "b.g", words(7), ok(7, 7))
	m.Routines[0].Code = codeIn(t, "jump 0")
	mustRun(t, m, "b.g", words(7), impl.MaxFuel, 0, impl.MnFuel)
	m.Routines[0].Code = codeIn(t, "end 0")
	mustGive(t, m, "b.g", words(7), ok(0, 4))
	args := words(1)
	alone := imageIn(t, "a.f 1: arg 0 0, end 0")
	for _, word := range edgeWords {
		args[0] = word
		mustGive(t, alone, "a.f", args, ok(word, 2))
	}
	room := []byte("routine a.f 0 2\n1 0 5 0 -\n10 0 0 0 -\n")
	text := unsafe.String(&room[0], len(room))
	for _, digit := range []byte("0123456789") {
		room[20] = digit
		mustReadImage(t, text, imageIn(t, fmt.Sprintf("a.f 0: set 0 %c, end 0", digit)))
	}
	room[20] = 'x'
	mustNotReadImage(t, text)
}

// imageSpoilt has one thing changed, which may be wrong or not.
func imageSpoilt(c *chance, m impl.Image) impl.Image {
	far := []int64{math.MinInt64, leastWord - 1, leastWord, -1 << 32, 1 << 32, greatestWord, greatestWord + 1, math.MaxInt64}
	few := func() int64 {
		return []int64{int64(c.below(5)), int64(c.below(5)) - 1, int64(c.below(70)), far[c.below(len(far))]}[c.below(4)]
	}
	m = imageCopied(m)
	at := c.below(len(m.Routines))
	r := &m.Routines[at]
	i := &r.Code[c.below(len(r.Code))]
	switch c.below(12) {
	case 0:
		r.Name = []string{"a", "", "a.f", "a.f.g", "zzzz.z", m.Routines[0].Name, "A.b", r.Name + "a"}[c.below(8)]
	case 1:
		r.Args = few()
	case 2:
		r.Code = r.Code[:len(r.Code)-1]
	case 3:
		r.Code = append(r.Code, insOf(int64(c.below(12)), few(), few(), few(), ""))
	case 4:
		i.Kind = int64(c.below(12))
	case 5:
		i.R = few()
	case 6:
		i.A = few()
	case 7:
		i.B = few()
	case 8:
		i.Name = []string{"a", "", "a.f", m.Routines[0].Name, "-"}[c.below(5)]
	case 9:
		m.Routines = slices.Delete(m.Routines, at, at+1)
	case 10:
		to := c.below(len(m.Routines))
		m.Routines[at], m.Routines[to] = m.Routines[to], m.Routines[at]
	case 11:
		m.Routines = append(m.Routines, *r)
	}
	return m
}

// Promise 21: whatever they are given, they answer.
func TestImagesAnswerAtEveryArgument(t *testing.T) {
	c := chance(191)
	seen, right, wrong := [4]int{}, 0, 0
	for range 6000 {
		m := imageSpoilt(&c, chosenImage(&c, 1+c.below(6)))
		before := imageCopied(m)
		is := imageRight(m)
		if got := impl.ImageOk(m); got != is {
			t.Fatalf("ImageOk of %s is %v", toldImage(m), got)
		}
		text := imageText(m)
		mustReadImageAsTold(t, text)
		if is {
			right++
			mustShow(t, m, text)
		} else {
			wrong++
			mustBeImage(t, m, false)
		}
		name, many := "a.f", int64(c.below(5))
		if len(m.Routines) > 0 && c.below(8) > 0 {
			r := m.Routines[c.below(len(m.Routines))]
			if name = r.Name; c.below(8) > 0 {
				many = max(0, min(r.Args, 5))
			}
		}
		args := chosenWords(&c, many)
		if many > 0 && c.below(8) == 0 {
			args[c.below(len(args))] = math.MaxInt64
		}
		fuel := []int64{0, 3, 10, 1000, 1000, 20000, 20001, -1}[c.below(8)]
		want := answer{code: impl.MnBad}
		at := slices.IndexFunc(m.Routines, func(r impl.Routine) bool { return r.Name == name })
		if is && at >= 0 && m.Routines[at].Args == many && !slices.Contains(args, math.MaxInt64) && fuel >= 0 && fuel <= 20000 {
			want = ranBy(m, name, args, fuel)
		}
		seen[want.code]++
		mustRun(t, m, name, args, fuel, want.value, want.code)
		if !sameImage(m, before) {
			t.Error("an image is another one now")
		}
	}
	if right < 1000 || wrong < 1000 || slices.Min(seen[:]) < 100 {
		t.Errorf("%d were right, %d wrong, and of each code there were %v", right, wrong, seen)
	}
}

// Texts of pieces of images, in any order.
func TestReadImageAnswersAtEveryText(t *testing.T) {
	c := chance(193)
	pieces := []string{
		"routine a.f 0 1\n", "routine a.f 0 2\n", "routine b.g 1 1\n", "10 0 0 0 -\n", "10 0 0 0 -\n", "1 0 5 0 -\n", "9 0 0 0 a.f\n", "8 0 0 0 -\n",
		"routine ", "a.f ", "0 ", "1 ", "10 ", "-\n", "\n", " ", "-", "0", "\x00", "\xff", "routine", "package a\n",
	}
	read, refused := 0, 0
	for range 40000 {
		text := ""
		many := len(pieces)
		if c.below(2) == 0 {
			many = 8
		}
		for range c.below(6) {
			text += pieces[c.below(many)]
		}
		if mustReadImageAsTold(t, text) {
			read++
		} else {
			refused++
		}
	}
	if read < 300 || refused < 20000 {
		t.Errorf("%d were read, and %d refused", read, refused)
	}
}

func TestImagesAnswerAtGreatArguments(t *testing.T) {
	many := slices.Repeat([]impl.Routine{{Name: "a.f", Code: []impl.Ins{endOf(0)}}}, 1000000)
	mustBeImage(t, impl.Image{Routines: many}, false)
	mustBeImage(t, impl.Image{Routines: []impl.Routine{{Name: "a.f", Code: slices.Repeat([]impl.Ins{endOf(0)}, 1000000)}}}, false)
	right := imageIn(t, "a.f 0: end 0", "b.g 3: end 0")
	for _, name := range []string{strings.Repeat("a", 1000000), strings.Repeat("a.", 500000), strings.Repeat(".", 1000000), "a." + strings.Repeat("f", 1000000)} {
		mustBeImage(t, namedRoutines(name), false)
		mustBeBadImage(t, right, name, nil, 0, 100)
		m := namedRoutines("a.f")
		m.Routines[0].Code = []impl.Ins{insOf(9, 0, 0, 0, name), endOf(0)}
		mustBeImage(t, m, false)
		mustNotReadImage(t, name)
		mustNotReadImage(t, "routine "+name+" 0 1\n10 0 0 0 -\n")
		mustNotReadImage(t, "routine a.f 0 1\n10 0 0 0 "+name+"\n")
	}
	mustBeBadImage(t, right, "a.f", make([]int64, 1000000), 0, 100)
	mustBeBadImage(t, right, "b.g", make([]int64, 1000000), 0, 100)
	for _, piece := range []string{"\n", " ", "routine\n", "routine a.f 0 1\n", "10 0 0 0 -\n", "routine a.f 0 1\n10 0 0 0 -\n", "0", "-", "\x00", "routine "} {
		mustNotReadImage(t, strings.Repeat(piece, 100000))
		mustNotReadImage(t, "routine a.f 0 1\n10 0 0 0 -\n"+strings.Repeat(piece, 100000))
	}
	for _, n := range manyNumbers() {
		if n < 0 || n > 20000 {
			mustBeBadImage(t, right, "a.f", nil, n)
		} else {
			mustRun(t, right, "a.f", nil, n, 0, map[bool]int64{true: impl.MnFuel, false: impl.MnOk}[n == 0])
		}
		m := imageCopied(right)
		m.Routines[0].Args = n
		mustBeImage(t, m, n >= 0 && n <= 3)
	}
}
