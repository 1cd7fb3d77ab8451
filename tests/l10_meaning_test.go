package tests

import (
	"math"
	"slices"
	"strconv"
	"strings"
	"testing"

	"loop.example/g00346/impl"
)

// answer is what Meant and Burnt say together.
type answer struct {
	value, code, burnt int64
}

var badAnswer = answer{code: 3, burnt: -1}

func ok(value, burnt int64) answer { return answer{value: value, burnt: burnt} }

func zero(burnt int64) answer { return answer{code: 1, burnt: burnt} }

func short(fuel int64) answer { return answer{code: 2, burnt: fuel} }

func answered(list []impl.Package, name, fn string, args []int64, fuel int64) answer {
	value, code := impl.Meant(list, name, fn, args, fuel)
	return answer{value, code, impl.Burnt(list, name, fn, args, fuel)}
}

func mustAnswer(t *testing.T, list []impl.Package, name, fn string, args []int64, fuel int64, want answer) {
	t.Helper()
	if got := answered(list, name, fn, args, fuel); got != want {
		t.Errorf("%.40q.%.40q by %d with fuel %d is %v, not %v:\n%.2000s",
			name, fn, args[:min(len(args), 5)], fuel, got, want, shownProject(list[:min(len(list), 9)]))
	}
}

// mustMean holds the Func against what is wanted with each fuel: with less
// than it burns there is none left, with as much or more it is the same.
func mustMean(t *testing.T, list []impl.Package, name, fn string, args []int64, want answer) {
	t.Helper()
	if want.burnt > 0 {
		mustAnswer(t, list, name, fn, args, 0, short(0))
		mustAnswer(t, list, name, fn, args, want.burnt/2, short(want.burnt/2))
		mustAnswer(t, list, name, fn, args, want.burnt-1, short(want.burnt-1))
	}
	for _, fuel := range []int64{want.burnt, want.burnt + 1, 2*want.burnt + 7, impl.MaxFuel - 1, impl.MaxFuel} {
		if fuel >= want.burnt && fuel <= impl.MaxFuel {
			mustAnswer(t, list, name, fn, args, fuel, want)
		}
	}
}

// alone has one Func f that asks for as many words, beside main.
func alone(t *testing.T, args int, tree string) []impl.Package {
	t.Helper()
	return written(t, "main: f "+strconv.Itoa(args)+" "+tree+"; main 1 $0")
}

func mustMeanAlone(t *testing.T, tree string, args []int64, want answer) {
	t.Helper()
	mustMean(t, alone(t, len(args), tree), "main", "f", args, want)
}

func words(list ...int64) []int64 { return list }

func TestMeaningConstants(t *testing.T) {
	if !slices.Equal([]int64{impl.MnOk, impl.MnZero, impl.MnFuel, impl.MnBad}, []int64{0, 1, 2, 3}) || impl.MaxFuel != 20000 {
		t.Fatal("they are not the document's")
	}
}

func TestMeantOfNum(t *testing.T) {
	for _, word := range edgeWords {
		mustMeanAlone(t, strconv.FormatInt(word, 10), nil, ok(word, 1))
		mustMeanAlone(t, strconv.FormatInt(word, 10), words(1, 0, 2), ok(word, 1))
	}
}

func TestMeantOfArg(t *testing.T) {
	for _, word := range edgeWords {
		for many := 1; many <= 3; many++ {
			for at := range many {
				args := words(8, 9, 10)[:many]
				args[at] = word
				mustMeanAlone(t, "$"+strconv.Itoa(at), args, ok(word, 1))
			}
		}
	}
}

// Words go round, and are rounded to 0.
func TestMeantOfPairs(t *testing.T) {
	for kind := int64(3); kind <= 6; kind++ {
		list := alone(t, 2, string("+-*/"[kind-3])+" $0 $1")
		for _, a := range edgeWords {
			for _, b := range edgeWords {
				want := zero(3)
				if kind != 6 || b != 0 {
					want = ok(reckoned(kind, a, b), 3)
				}
				mustAnswer(t, list, "main", "f", words(a, b), 3, want)
				mustAnswer(t, list, "main", "f", words(a, b), impl.MaxFuel, want)
				mustAnswer(t, list, "main", "f", words(a, b), 2, short(2))
			}
		}
	}
	mustMeanAlone(t, "+ 2147483647 1", nil, ok(-2147483648, 3))
	mustMeanAlone(t, "- -2147483648 1", nil, ok(2147483647, 3))
	mustMeanAlone(t, "- 0 -2147483648", nil, ok(-2147483648, 3))
	mustMeanAlone(t, "* 65536 65536", nil, ok(0, 3))
	mustMeanAlone(t, "* 65536 32768", nil, ok(-2147483648, 3))
	mustMeanAlone(t, "/ -2147483648 -1", nil, ok(-2147483648, 3))
	mustMeanAlone(t, "/ -7 2", nil, ok(-3, 3))
	mustMeanAlone(t, "/ 7 -2", nil, ok(-3, 3))
	mustMeanAlone(t, "/ 0 5", nil, ok(0, 3))
}

func TestMeantOfPairsWithin(t *testing.T) {
	mustMeanAlone(t, "- - 10 3 2", nil, ok(5, 5))
	mustMeanAlone(t, "- 10 - 3 2", nil, ok(9, 5))
	mustMeanAlone(t, "/ / 100 5 3", nil, ok(6, 5))
	mustMeanAlone(t, "/ 100 / 15 3", nil, ok(20, 5))
	mustMeanAlone(t, "+ * $0 $1 - $1 $0", words(5, 7), ok(37, 7))
	mustMeanAlone(t, "- $2 - $1 $0", words(1, 10, 100), ok(91, 5))
	// It goes round within, not only at the end.
	mustMeanAlone(t, "/ + 2147483647 1 2", nil, ok(-1073741824, 5))
	mustMeanAlone(t, "- + 2147483647 1 1", nil, ok(2147483647, 5))
	mustMeanAlone(t, "/ * 65536 65536 65536", nil, ok(0, 5))
	mustMeanAlone(t, "/ 1 * 65536 65536", nil, zero(5))
	mustMeanAlone(t, "? * 65536 65536 1 2", nil, ok(2, 5))
}

func TestMeantOfIf(t *testing.T) {
	list := alone(t, 3, "? $0 $1 $2")
	for _, word := range edgeWords {
		want := ok(11, 3)
		if word == 0 {
			want = ok(22, 3)
		}
		mustMean(t, list, "main", "f", words(word, 11, 22), want)
	}
}

// The part that is not looked at divides by no 0, and takes no fuel.
func TestMeantOfIfPassesOver(t *testing.T) {
	long := strings.Repeat("+ 1 ", 25) + "1"
	for _, other := range []string{"/ 1 0", "/ / 1 0 / 1 0", long, "? 0 / 1 0 / 1 0", "@main.main/1 / 1 0"} {
		list := written(t, "main: main 1 $0; f 1 ? $0 5 "+other+"; g 1 ? $0 "+other+" 5")
		mustMean(t, list, "main", "f", words(1), ok(5, 3))
		mustMean(t, list, "main", "f", words(-1), ok(5, 3))
		mustMean(t, list, "main", "g", words(0), ok(5, 3))
	}
	mustMeanAlone(t, "? $0 / 1 0 5", words(1), zero(5))
	mustMeanAlone(t, "? $0 5 / 1 0", words(0), zero(5))
	mustMeanAlone(t, "? / 1 0 5 6", nil, zero(4))
	mustMeanAlone(t, "? $0 5 "+long, words(0), ok(26, 53))
}

// Behind the part that is not looked at it goes on as if it was not there.
func TestMeantGoesOnBehindAnIf(t *testing.T) {
	for _, first := range []int64{0, 1} {
		value, other := 30-10*first, 17*first
		mustMeanAlone(t, "+ ? $0 20 30 100", words(first), ok(value+100, 5))
		mustMeanAlone(t, "- 100 ? $0 20 30", words(first), ok(100-value, 5))
		mustMeanAlone(t, "+ ? $0 20 + 10 20 100", words(first), ok(value+100, 7-2*first))
		mustMeanAlone(t, "+ ? $0 + 10 10 30 100", words(first), ok(value+100, 5+2*first))
		mustMeanAlone(t, "- ? $0 20 30 ? $0 17 0", words(first), ok(value-other, 7))
		mustMeanAlone(t, "? ? $0 0 1 20 30", words(first), ok(20+10*first, 5))
		mustMeanAlone(t, "? ? $0 1 0 20 30", words(first), ok(value, 5))
		mustMeanAlone(t, "? $0 ? $0 20 1 ? $0 2 30", words(first), ok(value, 5))
		mustMeanAlone(t, "? 1 ? $0 20 30 / 1 0", words(first), ok(value, 5))
		mustMeanAlone(t, "? 0 / 1 0 ? $0 20 30", words(first), ok(value, 5))
		mustMeanAlone(t, "- - ? $0 ? 1 20 / 1 0 ? 0 / 1 0 30 ? $0 17 0 1", words(first), ok(value-other-1, 11))
		list := written(t, "main: f 3 - $0 - $1 $2; main 1 @main.f/3 ? $0 20 + 10 20 ? $0 + 17 0 0 7")
		mustMean(t, list, "main", "main", words(first), ok(value-(other-7), 15))
	}
}

func TestMeantOfCalls(t *testing.T) {
	list := written(t, "lib: none 0 7; one 1 - 0 $0; two 2 - $0 $1; three 3 - $0 * $1 $2; sq 1 * $0 $0",
		"main lib: none 0 8; one 1 * 2 $0; two 2 / $0 $1; three 3 ? $0 $1 $2;"+
			"a 0 @lib.none/0; b 1 @lib.one/1 $0; main 1 @lib.two/2 $0 1; last 3 @lib.three/3 $2 $0 $1")
	mustMean(t, list, "main", "a", nil, ok(7, 2))
	mustMean(t, list, "main", "b", words(5), ok(-5, 5))
	mustMean(t, list, "main", "main", words(5), ok(4, 6))
	mustMean(t, list, "main", "last", words(2, 3, 100), ok(94, 9))
	// Asked by themselves: each by its own Package.
	mustMean(t, list, "lib", "none", nil, ok(7, 1))
	mustMean(t, list, "main", "none", nil, ok(8, 1))
	mustMean(t, list, "lib", "one", words(5), ok(-5, 3))
	mustMean(t, list, "main", "one", words(5), ok(10, 3))
	mustMean(t, list, "lib", "two", words(7, 2), ok(5, 3))
	mustMean(t, list, "main", "two", words(7, 2), ok(3, 3))
	mustMean(t, list, "lib", "three", words(7, 2, 3), ok(1, 5))
	mustMean(t, list, "main", "three", words(7, 2, 3), ok(2, 3))
}

func TestMeantOfCallsAhead(t *testing.T) {
	list := written(t, "main: none 0 8; two 2 / $0 $1; three 3 - $0 * $1 $2; main 1 @main.two/2 $0 2;"+
		"a 0 + @main.none/0 @main.none/0; b 3 @main.three/3 $1 $2 $0; c 1 @main.main/1 @main.main/1 $0; d 0 @main.c/1 @main.a/0")
	mustMean(t, list, "main", "main", words(9), ok(4, 6))
	mustMean(t, list, "main", "a", nil, ok(16, 5))
	mustMean(t, list, "main", "b", words(2, 100, 3), ok(94, 9))
	mustMean(t, list, "main", "c", words(9), ok(2, 15))
	mustMean(t, list, "main", "d", nil, ok(4, 22))
}

// Each part's value goes to its own number, whatever the parts are.
func TestMeantOfCallsByPartsInOrder(t *testing.T) {
	list := written(t, "main: sum 3 + $0 + * 10 $1 * 100 $2; main 1 $0; f 3 @main.sum/3 $2 $0 $1;"+
		"g 3 @main.sum/3 + $0 1 ? $1 5 6 @main.main/1 $2; h 0 @main.sum/3 @main.sum/3 1 2 3 @main.sum/3 4 5 6 @main.sum/3 7 8 9")
	mustMean(t, list, "main", "sum", words(1, 2, 3), ok(321, 9))
	mustMean(t, list, "main", "f", words(1, 2, 3), ok(213, 13))
	mustMean(t, list, "main", "g", words(1, 2, 3), ok(352, 19))
	mustMean(t, list, "main", "g", words(1, 0, 3), ok(362, 19))
	mustMean(t, list, "main", "h", nil, ok(321+6540+98700, 49))
}

// The words of the one that calls are not those of the one that is called, nor
// are they lost by a call.
func TestMeantKeepsTheWordsOfEachCall(t *testing.T) {
	list := written(t, "lib: f 2 - $0 $1; g 2 @lib.f/2 $1 $0",
		"main lib: f 3 + @lib.g/2 $0 $1 + * 1000 $0 + * 10000 $1 * 100000 $2; main 1 + @main.f/3 3 2 1 $0")
	mustMean(t, list, "lib", "g", words(3, 5), ok(2, 6))
	mustMean(t, list, "main", "f", words(3, 5, 1), ok(2+3000+50000+100000, 21))
	mustMean(t, list, "main", "main", words(7), ok(-1+3000+20000+100000+7, 27))
}

// A part is looked at though the Func does not ask for it.
func TestMeantOfPartsThatAreNotAskedFor(t *testing.T) {
	list := written(t, "main: f 2 5; g 1 @main.f/2 $0 / 1 $0; main 1 @main.f/2 / 1 $0 @main.g/1 $0")
	mustMean(t, list, "main", "g", words(2), ok(5, 6))
	mustMean(t, list, "main", "g", words(0), zero(5))
	mustMean(t, list, "main", "main", words(2), ok(5, 13))
	mustMean(t, list, "main", "main", words(0), zero(4))
}

// What is called may call what the one that calls has not imported.
func TestMeantOfCallsSeveralDeep(t *testing.T) {
	list := written(t, "a: f 1 * $0 2; g 1 @a.f/1 @a.f/1 $0", "b a: f 1 + 1 @a.g/1 $0; h 1 @b.f/1 $0",
		"c b: f 1 - @b.f/1 $0 @b.h/1 - 0 $0", "d c: f 1 * @c.f/1 $0 10", "main c d: main 1 @d.f/1 $0; f 1 + @main.main/1 $0 @c.f/1 $0")
	mustMean(t, list, "a", "f", words(3), ok(6, 3))
	mustMean(t, list, "a", "g", words(3), ok(12, 9))
	mustMean(t, list, "b", "f", words(3), ok(13, 13))
	mustMean(t, list, "b", "h", words(3), ok(13, 15))
	mustMean(t, list, "c", "f", words(3), ok(24, 35))
	mustMean(t, list, "d", "f", words(3), ok(240, 39))
	mustMean(t, list, "main", "main", words(3), ok(240, 41))
	mustMean(t, list, "main", "f", words(3), ok(264, 81))
}

// Names of Packages and of Funcs that are alike are told apart, and so are
// those which begin like another.
func TestMeantOfNamesThatAreAlike(t *testing.T) {
	list := written(t, "a: main 1 1; f 0 2; a 0 3; ff 0 4", "aa: f 0 5; a 0 6", "f: f 0 7; a 0 8; main 2 9",
		"main a aa f: a 0 10; f 0 + @a.f/0 * 10 + @aa.f/0 * 10 + @f.f/0 * 10 @main.a/0; main 1 + @a.main/1 0 * 10 + @f.main/2 0 0 * 10 @a.a/0; ff 0 11")
	mustMean(t, list, "a", "main", words(0), ok(1, 1))
	mustMean(t, list, "a", "f", nil, ok(2, 1))
	mustMean(t, list, "a", "a", nil, ok(3, 1))
	mustMean(t, list, "a", "ff", nil, ok(4, 1))
	mustMean(t, list, "aa", "f", nil, ok(5, 1))
	mustMean(t, list, "aa", "a", nil, ok(6, 1))
	mustMean(t, list, "f", "f", nil, ok(7, 1))
	mustMean(t, list, "f", "a", nil, ok(8, 1))
	mustMean(t, list, "f", "main", words(0, 0), ok(9, 1))
	mustMean(t, list, "main", "a", nil, ok(10, 1))
	mustMean(t, list, "main", "f", nil, ok(10752, 17))
	mustMean(t, list, "main", "main", words(0), ok(391, 15))
	mustMean(t, list, "main", "ff", nil, ok(11, 1))
}

// Whichever comes first: the Node of a pair is looked at ahead of its parts,
// so what is made of an inner pair comes when all around it is paid for.
func TestMeantOfWhicheverComesFirst(t *testing.T) {
	for tree, at := range map[string]int64{
		"/ 1 0":                         3,
		"/ 1 $0":                        3,
		"+ / 1 0 5":                     4,
		"+ 5 / 1 0":                     5,
		"+ + + / 1 0 5 6 7":             6,
		"/ / 1 0 0":                     4,
		"/ / 0 0 / 1 0":                 4,
		"/ 5 / 1 0":                     5,
		"/ 5 / 0 1":                     5,
		"/ 5 - 3 3":                     5,
		"? 1 / 1 0 + 1 1":               5,
		"? 0 + 1 1 / 1 0":               5,
		"? / 1 0 1 1":                   4,
		"+ ? 0 + 1 1 5 / 1 0":           7,
		"@main.g/2 / 1 0 5":             4,
		"@main.g/2 5 / 1 0":             5,
		"@main.g/2 5 0":                 6,
		"+ @main.g/2 5 0 / 1 0":         7,
		"+ @main.g/2 5 1 / 1 0":         10,
		"+ / 1 0 @main.g/2 5 0":         4,
		"@main.g/2 @main.g/2 5 0 / 1 0": 7,
	} {
		list := written(t, "main: g 2 / $0 $1; f 1 "+tree+"; main 1 1")
		for fuel := range at + 5 {
			want := short(fuel)
			if fuel >= at {
				want = zero(at)
			}
			mustAnswer(t, list, "main", "f", words(0), fuel, want)
		}
	}
}

// term is a part that burns so much.
type term struct {
	text         string
	burns, value int64
}

// doubling has two Packages whose Funcs each add what the one ahead of them
// gives to itself, and the terms that call them, behind a 1.
func doubling() (texts []string, terms []term) {
	texts, terms = []string{"a:", "b a:"}, []term{{"1", 1, 1}}
	tree, burns, value := "1", int64(1), int64(1)
	for k := range 16 {
		name := "f" + string(rune('a'+k%8))
		texts[k/8] += []string{" ", "; "}[min(k%8, 1)] + name + " 0 " + tree
		called := "@" + string("ab"[k/8]) + "." + name + "/0"
		terms = append(terms, term{called, 1 + burns, value})
		tree, burns, value = "+ "+called+" "+called, 1+2*(1+burns), 2*value
	}
	return texts, terms
}

// burning has a main that burns just so much, and tells its value.
func burning(t *testing.T, much int64) ([]impl.Package, int64) {
	t.Helper()
	texts, terms := doubling()
	chosen, value := []string{}, int64(0)
	// Each term takes one sum more, but the first: nothing burns a 1 that is
	// left.
	for left := much + 1; left > 0; {
		at := len(terms) - 1
		for terms[at].burns+1 != left && terms[at].burns+1 > left-2 {
			at--
		}
		chosen, value, left = append(chosen, terms[at].text), value+terms[at].value, left-terms[at].burns-1
	}
	tree := strings.Repeat("+ ", len(chosen)-1) + strings.Join(chosen, " ")
	return written(t, append(texts, "main a b: main 1 "+tree)...), value
}

func TestMeantWithEachFuel(t *testing.T) {
	for much := int64(1); much <= 60; much++ {
		list, value := burning(t, much)
		for fuel := range much + 10 {
			want := short(fuel)
			if fuel >= much {
				want = ok(value, much)
			}
			mustAnswer(t, list, "main", "main", words(0), fuel, want)
		}
	}
}

func TestMeantWithMuchFuel(t *testing.T) {
	for _, much := range []int64{100, 255, 256, 257, 1000, 4095, 9999, 10000, 15000, 19990, 19997, 19998, 19999, 20000} {
		list, value := burning(t, much)
		mustMean(t, list, "main", "main", words(0), ok(value, much))
	}
	for _, much := range []int64{20001, 20002, 20003, 20010, 25000, 39999, 40000, 40001, 65536} {
		list, _ := burning(t, much)
		mustMean(t, list, "main", "main", words(0), short(impl.MaxFuel))
	}
}

// parted is a tree taken apart, with the number of each Node.
type parted struct {
	at    int
	node  impl.Node
	parts []parted
}

func partedOf(tree []impl.Node, at int) (parted, int) {
	p := parted{at: at, node: tree[at]}
	kids := map[int64]int{3: 2, 4: 2, 5: 2, 6: 2, 7: 3, 8: int(tree[at].A)}[tree[at].Kind]
	at++
	for range kids {
		part, end := partedOf(tree, at)
		p.parts, at = append(p.parts, part), end
	}
	return p, at
}

type funcKey struct{ pack, name string }

type nodeKey struct {
	in funcKey
	at int
}

// looker looks at Nodes as if fuel had no end, but for one more than there may
// be; it writes down what it has looked at.
type looker struct {
	funcs map[funcKey]parted
	seen  map[nodeKey]int
	many  int64
}

func lookerOf(list []impl.Package) *looker {
	l := &looker{funcs: map[funcKey]parted{}, seen: map[nodeKey]int{}}
	for _, p := range list {
		for _, f := range p.Funcs {
			l.funcs[funcKey{p.Name, f.Name}], _ = partedOf(f.Tree, 0)
		}
	}
	return l
}

// look says false where it could not go on.
func (l *looker) look(in funcKey, p parted, args []int64) (int64, bool) {
	l.many++
	l.seen[nodeKey{in, p.at}]++
	if l.many > 20000 {
		return 0, false
	}
	if p.node.Kind == 7 {
		first, is := l.look(in, p.parts[0], args)
		if !is {
			return 0, false
		}
		if first != 0 {
			return l.look(in, p.parts[1], args)
		}
		return l.look(in, p.parts[2], args)
	}
	values := []int64{}
	for _, part := range p.parts {
		value, is := l.look(in, part, args)
		if !is {
			return 0, false
		}
		values = append(values, value)
	}
	switch p.node.Kind {
	case 1:
		return p.node.A, true
	case 2:
		return args[p.node.A], true
	case 8:
		called := funcKey{p.node.Package, p.node.Func}
		return l.look(called, l.funcs[called], values)
	}
	if p.node.Kind == 6 && values[1] == 0 {
		return 0, false
	}
	return reckoned(p.node.Kind, values[0], values[1]), true
}

func badBy(list []impl.Package, name, fn string, args []int64, fuel int64) bool {
	if fuel < 0 || fuel > 20000 || len(faultsBy(list)) > 0 {
		return true
	}
	for _, word := range args {
		if word != int64(int32(word)) {
			return true
		}
	}
	for _, p := range list {
		for _, f := range p.Funcs {
			if p.Name == name && f.Name == fn && f.Args == int64(len(args)) {
				return false
			}
		}
	}
	return true
}

// rightBy tells of what is as told, by how many Nodes there are to be looked
// at.
func rightBy(list []impl.Package, name, fn string, args []int64, fuel int64) (answer, *looker) {
	l, in := lookerOf(list), funcKey{name, fn}
	value, is := l.look(in, l.funcs[in], args)
	switch {
	case l.many > fuel:
		return short(fuel), l
	case !is:
		return zero(l.many), l
	}
	return ok(value, l.many), l
}

func answerBy(list []impl.Package, name, fn string, args []int64, fuel int64) answer {
	if badBy(list, name, fn, args, fuel) {
		return badAnswer
	}
	told, _ := rightBy(list, name, fn, args, fuel)
	return told
}

// chosenWords has a 0 now and then, on which an If or a division may hang.
func chosenWords(c *chance, many int64) []int64 {
	list := []int64{}
	for range many {
		switch c.below(3) {
		case 0:
			list = append(list, edgeWords[c.below(len(edgeWords))])
		case 1:
			list = append(list, int64(c.below(3))-1)
		default:
			list = append(list, int64(c.below(1000))-500)
		}
	}
	return list
}

// callable are all Funcs that this one may call.
func callable(list []impl.Package, p impl.Package, at int) []impl.Node {
	calls := callsOf(p)[:at]
	for _, name := range p.Imports {
		calls = append(calls, callsOf(list[placeBy(list, name)])...)
	}
	return calls
}

// busyProject has greater trees, with more calls.
func busyProject(c *chance, many int) []impl.Package {
	list := rightProject(c, many)
	for i, p := range list {
		for at, f := range p.Funcs {
			for range 5 {
				tree := calling(c, f.Args, callable(list, p, at), 5)
				if len(tree) <= 60 && len(tree) > len(list[i].Funcs[at].Tree) {
					list[i].Funcs[at].Tree = tree
				}
			}
		}
	}
	return list
}

// Promise 10: of each Func of many projects, by several words.
func TestMeantOfManyProjects(t *testing.T) {
	c := chance(53)
	seen := [4]int{}
	for i := range 300 {
		list := rightProject(&c, 1+c.below(8))
		if i%3 == 0 {
			list = busyProject(&c, 1+c.below(8))
		}
		if impl.FaultOf(list) != (impl.Fault{}) || len(faultsBy(list)) > 0 {
			t.Fatalf("it has a Fault:\n%s", shownProject(list))
		}
		for _, p := range list {
			for _, f := range p.Funcs {
				args := chosenWords(&c, f.Args)
				want, _ := rightBy(list, p.Name, f.Name, args, impl.MaxFuel)
				mustMean(t, list, p.Name, f.Name, args, want)
				seen[want.code]++
			}
		}
	}
	if seen[0] < 1000 || seen[1] < 300 || seen[2] < 20 {
		t.Errorf("of each code there were %v", seen)
	}
}

// Promise 10: with less fuel than it takes there is none left, with each that
// is more it means the same and burns the same.
func TestMeantOfManyProjectsWithEachFuel(t *testing.T) {
	c := chance(59)
	seen := [4]int{}
	for range 150 {
		list := busyProject(&c, 1+c.below(8))
		p := list[c.below(len(list))]
		f := p.Funcs[c.below(len(p.Funcs))]
		args := chosenWords(&c, f.Args)
		whole := answered(list, p.Name, f.Name, args, impl.MaxFuel)
		if most, _ := rightBy(list, p.Name, f.Name, args, impl.MaxFuel); whole != most {
			t.Errorf("%q.%q by %d is %v, not %v:\n%s", p.Name, f.Name, args, whole, most, shownProject(list))
		}
		seen[whole.code]++
		for fuel := range min(whole.burnt, 100) {
			mustAnswer(t, list, p.Name, f.Name, args, fuel, short(fuel))
		}
		for range 10 {
			if whole.burnt > 0 {
				less := int64(c.below(int(whole.burnt)))
				mustAnswer(t, list, p.Name, f.Name, args, less, short(less))
			}
			more := whole.burnt + int64(c.below(int(impl.MaxFuel-whole.burnt)+1))
			mustAnswer(t, list, p.Name, f.Name, args, more, whole)
		}
	}
	if seen[0] < 50 || seen[1] < 20 {
		t.Errorf("of each code there were %v", seen)
	}
}

// calledBy are all Funcs that are called, from this one on, whether they are
// come to or not.
func calledBy(l *looker, in funcKey, found map[funcKey]int) {
	found[in]++
	if found[in] > 1 {
		return
	}
	var each func(p parted)
	each = func(p parted) {
		if p.node.Kind == 8 {
			calledBy(l, funcKey{p.node.Package, p.node.Func}, found)
		}
		for _, part := range p.parts {
			each(part)
		}
	}
	each(l.funcs[in])
}

// onlyReached leaves out all that is not reached from there, but for a main,
// which no project is without.
func onlyReached(list []impl.Package, name string) []impl.Package {
	c, left := closureOf(list), []impl.Package{}
	for _, p := range list {
		switch {
		case p.Name == name || c.has(name, p.Name):
			left = append(left, p)
		case p.Name == "main":
			left = append(left, pack("main", nil, fn("main", 1, sign(6), num(1), arg(0))))
		}
	}
	return left
}

// Promise 10: Packages that are not reached may go, come, and be others.
func TestMeantDoesNotAskOtherPackages(t *testing.T) {
	c := chance(61)
	fewer := 0
	for range 120 {
		list := rightProject(&c, 2+c.below(7))
		for _, p := range list {
			left := onlyReached(list, p.Name)
			fewer += len(list) - len(left)
			more := projectCopied(left)
			for i := 0; len(more) < 8; i++ {
				more = append(more, pack("zzzzzzz"+string(rune('a'+i)), []string{p.Name}, fn("f", 0, sign(6), num(1), num(0))))
			}
			for _, f := range p.Funcs {
				args := chosenWords(&c, f.Args)
				want, _ := rightBy(list, p.Name, f.Name, args, impl.MaxFuel)
				mustMean(t, list, p.Name, f.Name, args, want)
				mustMean(t, left, p.Name, f.Name, args, want)
				mustMean(t, more, p.Name, f.Name, args, want)
			}
		}
	}
	if fewer < 200 {
		t.Errorf("%d Packages could go", fewer)
	}
}

// Promise 10: Funcs that are not called may be others.
func TestMeantDoesNotAskOtherFuncs(t *testing.T) {
	c := chance(67)
	others := 0
	for range 300 {
		list := rightProject(&c, 1+c.below(8))
		p := list[c.below(len(list))]
		f := p.Funcs[c.below(len(p.Funcs))]
		args := chosenWords(&c, f.Args)
		want, l := rightBy(list, p.Name, f.Name, args, impl.MaxFuel)
		called := map[funcKey]int{}
		calledBy(l, funcKey{p.Name, f.Name}, called)
		other := projectCopied(list)
		for i := range other {
			for at, was := range other[i].Funcs {
				if called[funcKey{other[i].Name, was.Name}] == 0 {
					other[i].Funcs[at].Tree = calling(&c, was.Args, nil, 3)
					others++
				}
			}
		}
		mustMean(t, list, p.Name, f.Name, args, want)
		mustMean(t, other, p.Name, f.Name, args, want)
	}
	if others < 1000 {
		t.Errorf("%d Funcs were others", others)
	}
}

// Promise 10: Nodes that are not looked at may be others, with as many parts.
func TestMeantDoesNotAskOtherNodes(t *testing.T) {
	c := chance(71)
	others := 0
	for range 300 {
		list := busyProject(&c, 1+c.below(4))
		p := list[c.below(len(list))]
		f := p.Funcs[c.below(len(p.Funcs))]
		args := chosenWords(&c, f.Args)
		want, l := rightBy(list, p.Name, f.Name, args, impl.MaxFuel)
		other := projectCopied(list)
		for _, q := range other {
			for _, g := range q.Funcs {
				for at, n := range g.Tree {
					if l.seen[nodeKey{funcKey{q.Name, g.Name}, at}] > 0 {
						continue
					}
					switch n.Kind {
					case 1, 2:
						g.Tree[at] = num(int64(c.below(3)))
					case 3, 4, 5, 6:
						g.Tree[at] = sign(3 + int64(c.below(4)))
					}
					others++
				}
			}
		}
		mustMean(t, list, p.Name, f.Name, args, want)
		mustMean(t, other, p.Name, f.Name, args, want)
	}
	if others < 1000 {
		t.Errorf("%d Nodes were others", others)
	}
}

// kin has a Func of each number of Args in each Package, which all mean
// something.
func kin(t *testing.T) []impl.Package {
	t.Helper()
	funcs := "none 0 5; two 2 - $0 $1; three 3 ? $0 $1 $2; main 1 + $0 1"
	return written(t, "a: "+funcs, "b a: "+funcs, "main b: "+funcs)
}

var kinFuncs = []string{"none", "main", "two", "three"}

func mustBeBad(t *testing.T, list []impl.Package, name, fn string, args []int64, fuels ...int64) {
	t.Helper()
	for _, fuel := range append(fuels, 0, 1, 100, impl.MaxFuel) {
		mustAnswer(t, list, name, fn, args, fuel, badAnswer)
	}
}

func TestMeantByNumberOfArgs(t *testing.T) {
	list := kin(t)
	for _, p := range list {
		for wanted, fn := range kinFuncs {
			for many := range 8 {
				args := words(7, 6, 5, 4, 3, 2, 1)[:many]
				if many == wanted {
					mustAnswer(t, list, p.Name, fn, args, 100, answerBy(list, p.Name, fn, args, 100))
					mustAnswer(t, list, p.Name, fn, args, 100, ok([]int64{5, 8, 1, 6}[many], []int64{1, 3, 3, 3}[many]))
				} else {
					mustBeBad(t, list, p.Name, fn, args)
				}
			}
			mustBeBad(t, list, p.Name, fn, make([]int64, 100000))
		}
		mustAnswer(t, list, p.Name, "none", nil, 1, ok(5, 1))
		mustAnswer(t, list, p.Name, "none", []int64{}, 1, ok(5, 1))
		mustBeBad(t, list, p.Name, "main", nil)
		mustBeBad(t, list, p.Name, "main", []int64{})
	}
}

func TestMeantByArgsThatAreNoWords(t *testing.T) {
	list := kin(t)
	none := []int64{leastWord - 1, greatestWord + 1, 1 << 32, -1 << 32, 1<<32 + 1, math.MinInt64, math.MaxInt64}
	for _, n := range none {
		for many, fn := range kinFuncs {
			for at := range many {
				args := words(1, 1, 1)[:many]
				args[at] = n
				mustBeBad(t, list, "main", fn, args)
			}
		}
	}
	for _, n := range manyNumbers() {
		want := badAnswer
		if n >= leastWord && n <= greatestWord {
			want = ok(n, 3)
		}
		mustAnswer(t, list, "a", "three", words(1, n, 0), 3, want)
		mustAnswer(t, list, "a", "three", words(0, 1, n), 3, want)
	}
}

// A word that is none is refused though it is not looked at.
func TestMeantByArgsThatAreNotAskedFor(t *testing.T) {
	list := written(t, "main: f 3 ? $0 1 $2; main 1 1")
	mustAnswer(t, list, "main", "f", words(1, 1, 1), 100, ok(1, 3))
	mustBeBad(t, list, "main", "f", words(1, 1<<31, 1))
	mustBeBad(t, list, "main", "f", words(1, 1, 1<<31))
	mustBeBad(t, list, "main", "main", words(1<<31))
	mustAnswer(t, list, "main", "main", words(1<<31-1), 100, ok(1, 1))
}

func TestMeantByFuelThatIsOutOfRange(t *testing.T) {
	list := kin(t)
	edges := []int64{-2, -1, 0, 1, 2, 3, 4, 19999, 20000, 20001, 20002, 40000, 1 << 16, 1 << 31, 1 << 32, 1<<32 + 3, math.MinInt64, math.MinInt64 + 3, math.MaxInt64}
	for _, fuel := range append(edges, manyNumbers()...) {
		want := badAnswer
		switch {
		case fuel >= 0 && fuel < 3:
			want = short(fuel)
		case fuel >= 3 && fuel <= 20000:
			want = ok(8, 3)
		}
		mustAnswer(t, list, "main", "main", words(7), fuel, want)
	}
}

func TestMeantOfWhatIsNotThere(t *testing.T) {
	list := kin(t)
	for _, name := range append([]string{"zz", "c", "aa", "mai", "mains", "none", "two", "A"}, noNames...) {
		for many, fn := range kinFuncs {
			mustBeBad(t, list, name, fn, words(1, 1, 1)[:many])
		}
		mustBeBad(t, list, name, name, nil)
		if name == "none" || name == "two" {
			continue
		}
		for many := range 4 {
			mustBeBad(t, list, "main", name, words(1, 1, 1)[:many])
			mustBeBad(t, list, "a", name, words(1, 1, 1)[:many])
		}
	}
	// A Func of another Package is not this one's, though it is imported.
	other := written(t, "a: f 0 1; g 0 2", "main a: g 0 3; main 1 @a.f/0")
	mustAnswer(t, other, "a", "f", nil, 100, ok(1, 1))
	mustBeBad(t, other, "main", "f", nil)
	mustBeBad(t, other, "a", "main", words(1))
	mustBeBad(t, other, "f", "a", nil)
	mustBeBad(t, other, "main", "a.f", nil)
	mustBeBad(t, other, "a.f", "", nil)
}

// A Fault anywhere is one of all: also where it is not reached, and of a Func
// that is not called.
func TestMeantOfProjectsWithAFault(t *testing.T) {
	for code, texts := range map[int64][]string{
		0: {"a: f 0 1; g 0 2; main 1 $0", "main a: f 0 1; main 1 $0; last 0 1", "z: f 0 1"},
		1: {"a: f 0 1; g 0 2; main 1 $0", "main a: f 0 1; main 1 $0; last 0 1", "z y: f 0 1"},
		2: {"a: f 0 1; g 0 2; main 1 $0", "main a: f 0 1; main 1 $0; last 0 1", "z z: f 0 1"},
		3: {"a: f 0 1; g 0 2; main 1 $0", "main a: f 0 1; main 1 $0; last 0 $0", "z: f 0 1"},
		4: {"a: f 0 1; g 0 @a.g/0; main 1 $0", "main a: f 0 1; main 1 $0; last 0 1", "z: f 0 1"},
		5: {"a: f 0 1; g 0 2; main 1 $0", "mai a: f 0 1; main 1 $0; last 0 1", "z: f 0 1"},
		6: {"main a: f 0 1; main 1 $0; last 0 1", "a: f 0 1; g 0 2; main 1 $0", "z: f 0 1"},
	} {
		list := written(t, texts...)
		if got := impl.FaultOf(list); got.Code != code {
			t.Fatalf("the Fault is %v, not of Code %d", got, code)
		}
		for _, p := range list {
			for _, f := range p.Funcs {
				args := words(5)[:f.Args]
				if code > 0 {
					mustBeBad(t, list, p.Name, f.Name, args)
				} else {
					mustMean(t, list, p.Name, f.Name, args, answerBy(list, p.Name, f.Name, args, impl.MaxFuel))
				}
			}
		}
	}
}

// MnBad is said of all that could be MnZero or MnFuel else.
func TestMeantIsBadAheadOfAllElse(t *testing.T) {
	list := written(t, "main: f 1 / 1 $0; main 1 1")
	mustAnswer(t, list, "main", "f", words(0), 0, short(0))
	mustAnswer(t, list, "main", "f", words(0), 3, zero(3))
	mustBeBad(t, list, "main", "f", words(0, 0))
	mustBeBad(t, list, "main", "f", words(1<<32))
	mustAnswer(t, list, "main", "f", words(0), -1, badAnswer)
	mustAnswer(t, list, "main", "f", words(0), 20001, badAnswer)
	list[0].Funcs[1].Args = 2
	mustBeBad(t, list, "main", "f", words(0), -1, 20001)
}

func TestMeantOfWhatIsNotProjectOk(t *testing.T) {
	mustBeBad(t, nil, "main", "main", words(1), -1, 20001)
	mustBeBad(t, []impl.Package{}, "", "", nil)
	mustBeBad(t, []impl.Package{{}}, "", "", nil)
	for why, spoil := range spoilers {
		for at := range 3 {
			list := kin(t)
			spoil(&list[at])
			for _, p := range list {
				for many, fn := range kinFuncs {
					if got := answered(list, p.Name, fn, words(1, 1, 1)[:many], 100); got != badAnswer {
						t.Errorf("%s in number %d: it is %v", why, at, got)
					}
				}
			}
		}
	}
}

// deep has a project of the most Packages, each with the most Funcs, each of
// which calls the one ahead of it from within so many Nodes.
func deep(t *testing.T, around string, many int) []impl.Package {
	t.Helper()
	texts, last := []string{}, "$0"
	for _, name := range []string{"a", "b", "c", "d", "e", "f", "g", "main"} {
		text := name + ":"
		if name != "a" {
			text = name + " " + last[1:2] + ":"
		}
		for i, fn := range []string{"s", "t", "u", "v", "w", "x", "y", "main"} {
			text += []string{" ", "; "}[min(i, 1)] + fn + " 1 " + strings.Repeat(around, many) + last
			last = "@" + name + "." + fn + "/1 $0"
		}
		texts = append(texts, text)
	}
	return written(t, texts...)
}

func TestMeantOfTheDeepest(t *testing.T) {
	list := deep(t, "+ 1 ", 29)
	mustMean(t, list, "main", "main", words(7), ok(7+64*29, 64*59+63))
	list = deep(t, "? 0 0 ", 19)
	mustMean(t, list, "main", "main", words(7), answerBy(list, "main", "main", words(7), impl.MaxFuel))
	// Each calls itself, so to say, again and again: there is no fuel for it.
	list = written(t, "main: a 1 $0; main 1 "+strings.Repeat("@main.a/1 ", 59)+"$0; b 1 "+strings.Repeat("@main.main/1 ", 59)+"$0;"+
		"c 1 "+strings.Repeat("@main.b/1 ", 59)+"$0; d 1 "+strings.Repeat("@main.c/1 ", 59)+"$0")
	mustMean(t, list, "main", "main", words(7), ok(7, 60+59))
	mustMean(t, list, "main", "b", words(7), ok(7, 60+59*119))
	mustMean(t, list, "main", "c", words(7), short(impl.MaxFuel))
	mustMean(t, list, "main", "d", words(7), short(impl.MaxFuel))
}

// Promise 21.
func TestMeaningLeavesItsArguments(t *testing.T) {
	room := make([]byte, 1000)
	for _, list := range laidChecks(t, room) {
		held, before := string(room), projectCopied(list)
		imports, funcs, nodes := behind(list)
		for range 2 {
			for _, p := range list {
				for _, f := range p.Funcs {
					all := words(5, 0, 7, 9)
					for _, fuel := range []int64{-1, 0, 1, 5, impl.MaxFuel} {
						mustAnswer(t, list, p.Name, f.Name, all[:f.Args], fuel, answerBy(list, p.Name, f.Name, all[:f.Args], fuel))
						mustAnswer(t, list, p.Name, f.Name, all[:f.Args+1], fuel, badAnswer)
					}
					if !slices.Equal(all, words(5, 0, 7, 9)) {
						t.Errorf("the words, or the room behind them, were written into: %d", all)
					}
				}
				mustBeBad(t, list, p.Name, "spare", nil)
			}
		}
		importsNow, funcsNow, nodesNow := behind(list)
		if string(room) != held || !slices.EqualFunc(list, before, samePackage) ||
			!slices.Equal(imports, importsNow) || !slices.EqualFunc(funcs, funcsNow, sameFunc) || !slices.Equal(nodes, nodesNow) {
			t.Error("an argument, or the room behind it, was written into")
		}
	}
}

// Promise 21: nothing is kept of what was asked ahead, though the same memory
// holds another project now.
func TestMeaningKeepsNothing(t *testing.T) {
	list := kin(t)
	args := words(7)
	mustAnswer(t, list, "main", "main", args, 100, ok(8, 3))
	args[0] = 9
	mustAnswer(t, list, "main", "main", args, 100, ok(10, 3))
	list[2].Funcs[3].Tree[2] = num(5)
	mustAnswer(t, list, "main", "main", args, 100, ok(14, 3))
	list[2].Funcs[3].Tree[0] = sign(6)
	mustAnswer(t, list, "main", "main", args, 100, ok(1, 3))
	list[2].Funcs[3].Tree[2] = num(0)
	mustAnswer(t, list, "main", "main", args, 100, zero(3))
	list[2].Funcs[3].Tree[2] = arg(1)
	mustAnswer(t, list, "main", "main", args, 100, badAnswer)
	list[2].Funcs[3].Tree[2] = call("b", "none", 0)
	mustAnswer(t, list, "main", "main", args, 100, ok(1, 4))
	list[1].Funcs[0].Tree[0] = num(3)
	mustAnswer(t, list, "main", "main", args, 100, ok(3, 4))
	mustAnswer(t, list, "main", "main", args, 3, short(3))
	mustAnswer(t, list, "main", "main", args, 4, ok(3, 4))
}

// Promise 21: whatever they are given, they answer.
func TestMeaningAnswersAtEveryArgument(t *testing.T) {
	c := chance(73)
	nodes, seen := wrongNodes(), [4]int{}
	numbers := append(manyNumbers()[:300], edgeWords...)
	for range 1500 {
		list := busyProject(&c, 1+c.below(4))
		if c.below(4) == 0 {
			mistaken(&c, list)
		}
		p := &list[c.below(len(list))]
		f := p.Funcs[c.below(len(p.Funcs))]
		name, fn, args, fuel := p.Name, f.Name, chosenWords(&c, f.Args), int64(c.below(200))
		switch c.below(18) {
		case 0:
			p.Name = noNames[c.below(len(noNames))]
		case 1:
			f.Tree[c.below(len(f.Tree))] = nodes[c.below(len(nodes))]
		case 2:
			list = append(list, list...)
		case 3:
			p.Funcs = nil
		case 4:
			name = []string{"", "zz", noNames[c.below(len(noNames))]}[c.below(3)]
		case 5:
			fn = []string{"", "zz", noNames[c.below(len(noNames))]}[c.below(3)]
		case 6:
			args = chosenWords(&c, int64(c.below(5)))
		case 7:
			args = append(args, numbers[c.below(len(numbers))])[1:]
		case 8:
			fuel = numbers[c.below(len(numbers))]
		}
		want := answerBy(list, name, fn, args, fuel)
		mustAnswer(t, list, name, fn, args, fuel, want)
		seen[want.code]++
	}
	if slices.Min(seen[:]) < 50 {
		t.Errorf("of each code there were %v", seen)
	}
}

func TestMeaningAnswersAtGreatArguments(t *testing.T) {
	long := strings.Repeat("a", 1000000)
	list := kin(t)
	mustBeBad(t, list, long, "main", words(1))
	mustBeBad(t, list, "main", long, words(1))
	mustBeBad(t, list, "main", "main", make([]int64, 1000000))
	mustBeBad(t, slices.Repeat(list, 100000), "main", "main", words(1))
	list[0].Funcs = slices.Repeat(list[0].Funcs, 100000)
	mustBeBad(t, list, "main", "main", words(1))
	list = kin(t)
	list[0].Funcs[0].Tree = chained(1000000)
	mustBeBad(t, list, "main", "main", words(1))
	mustBeBad(t, list, "a", "none", nil)
}
