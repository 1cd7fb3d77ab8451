package tests

import (
	"math"
	"regexp"
	"slices"
	"strconv"
	"strings"
	"testing"
	"unsafe"

	"loop.example/g00346/impl"
)

func num(n int64) impl.Node     { return impl.Node{Kind: impl.NdNum, A: n} }
func arg(n int64) impl.Node     { return impl.Node{Kind: impl.NdArg, A: n} }
func sign(kind int64) impl.Node { return impl.Node{Kind: kind} }
func call(pack, name string, parts int64) impl.Node {
	return impl.Node{Kind: impl.NdCall, A: parts, Package: pack, Func: name}
}

// A told Node is one of which the document tells the word and the parts.
type told struct {
	node impl.Node
	word string
	kids int
}

// rightNodes are of each Kind, and at and next to each end of what it allows.
var rightNodes = []told{
	{num(0), "0", 0}, {num(1), "1", 0}, {num(-1), "-1", 0}, {num(10), "10", 0}, {num(-120), "-120", 0},
	{num(greatestWord), "2147483647", 0}, {num(greatestWord - 1), "2147483646", 0},
	{num(leastWord), "-2147483648", 0}, {num(leastWord + 1), "-2147483647", 0},
	{arg(0), "$0", 0}, {arg(1), "$1", 0}, {arg(2), "$2", 0},
	{sign(impl.NdAdd), "+", 2}, {sign(impl.NdSub), "-", 2}, {sign(impl.NdMul), "*", 2}, {sign(impl.NdDiv), "/", 2},
	{sign(impl.NdIf), "?", 3},
	{call("lib", "f", 0), "@lib.f/0", 0}, {call("lib", "f", 1), "@lib.f/1", 1},
	{call("lib", "f", 2), "@lib.f/2", 2}, {call("lib", "f", 3), "@lib.f/3", 3},
	{call("a", "z", 0), "@a.z/0", 0}, {call("main", "main", 1), "@main.main/1", 1},
	{call("abcdefgh", "stuvwxyz", 3), "@abcdefgh.stuvwxyz/3", 3}, {call("z", "abcdefgh", 2), "@z.abcdefgh/2", 2},
}

// fullNodes tell one thing each that their Kind does not.
func fullNodes() []impl.Node {
	full := []impl.Node{}
	for _, r := range rightNodes {
		packed, named, both, counted := r.node, r.node, r.node, r.node
		packed.Package, named.Func = "lib", "f"
		both.Package, both.Func = "lib", "f"
		switch r.node.Kind {
		case impl.NdCall:
		case impl.NdNum, impl.NdArg:
			full = append(full, packed, named, both)
		default:
			for _, a := range []int64{1, -1, 2, 3, math.MinInt64, math.MaxInt64} {
				counted.A = a
				full = append(full, counted)
			}
			full = append(full, packed, named, both)
		}
	}
	return full
}

func wrongNodes() []impl.Node {
	wrong := append(fullNodes(), impl.Node{}, call("", "", 0), impl.Node{Kind: impl.NdNum, Func: " "})
	for _, kind := range []int64{
		0, 9, 10, -1, -2, -3, -8, 1 + 256, 3 + 65536, 1 + 1<<32, 2 - 1<<32, 7 + 1<<33, 8 + 1<<32,
		math.MinInt64, math.MinInt64 + 1, math.MinInt64 + 3, math.MaxInt64 - 1, math.MaxInt64,
	} {
		wrong = append(wrong, sign(kind), impl.Node{Kind: kind, A: 1}, impl.Node{Kind: kind, Package: "lib", Func: "f"})
	}
	for _, n := range []int64{
		greatestWord + 1, leastWord - 1, 4294967295, 4294967296, -4294967296, math.MinInt64, math.MaxInt64,
	} {
		wrong = append(wrong, num(n), arg(n), call("lib", "f", n))
	}
	for _, a := range []int64{-1, -2, 3, 4, 256, 1 << 32, -1 << 32, 1 + 1<<32} {
		wrong = append(wrong, arg(a))
		if a != 3 {
			wrong = append(wrong, call("lib", "f", a))
		}
	}
	for _, name := range []string{
		"", " ", "Lib", "liB", "lib1", "1", "a b", "a.b", "a/b", "lib/", ".f", "@a", "$0", "a\n", "\x00", "a\x00", "\u00e9", "\xe1",
		"abcdefghi", strings.Repeat("kiln", 5000),
	} {
		wrong = append(wrong, call(name, "f", 1), call("lib", name, 1), call(name, name, 0))
	}
	return wrong
}

func TestTreeConstants(t *testing.T) {
	kinds := []int64{impl.NdNum, impl.NdArg, impl.NdAdd, impl.NdSub, impl.NdMul, impl.NdDiv, impl.NdIf, impl.NdCall}
	if !slices.Equal(kinds, []int64{1, 2, 3, 4, 5, 6, 7, 8}) || impl.MaxNodes != 60 {
		t.Fatal("they are not the document's")
	}
}

func TestNodeOkAndKidsOfRightNodes(t *testing.T) {
	for _, r := range rightNodes {
		if !impl.NodeOk(r.node) {
			t.Errorf("%+v is not NodeOk", r.node)
		}
		if got := impl.KidsOf(r.node); got != int64(r.kids) {
			t.Errorf("KidsOf %+v is %d, not %d", r.node, got, r.kids)
		}
	}
	for _, n := range edgeWords {
		if !impl.NodeOk(num(n)) || impl.KidsOf(num(n)) != 0 {
			t.Errorf("the number %d is not NodeOk, or has parts", n)
		}
	}
}

func TestNodeOkAndKidsOfWrongNodes(t *testing.T) {
	for _, n := range wrongNodes() {
		if impl.NodeOk(n) {
			t.Errorf("%.80q of Kind %d, A %d is NodeOk", []string{n.Package, n.Func}, n.Kind, n.A)
		}
		if got := impl.KidsOf(n); got != -1 {
			t.Errorf("KidsOf %.80q of Kind %d, A %d is %d", []string{n.Package, n.Func}, n.Kind, n.A, got)
		}
	}
}

// Each Kind with each A around what they allow, and with or without names.
func TestNodeOkOfEachKindByField(t *testing.T) {
	for kind := int64(-2); kind <= 12; kind++ {
		for _, a := range append(manyNumbers()[:300], 3, 4, leastWord-1, greatestWord+1) {
			word := a >= leastWord && a <= greatestWord
			bare := kind == 1 && word || kind == 2 && a >= 0 && a <= 2 || kind >= 3 && kind <= 7 && a == 0
			for _, names := range [][2]string{{"", ""}, {"p", ""}, {"", "f"}, {"p", "f"}} {
				n := impl.Node{Kind: kind, A: a, Package: names[0], Func: names[1]}
				want := bare && names == [2]string{} || kind == 8 && a >= 0 && a <= 3 && names == [2]string{"p", "f"}
				if impl.NodeOk(n) != want {
					t.Errorf("NodeOk of %+v is not %v", n, want)
				}
				if (impl.KidsOf(n) == -1) == want {
					t.Errorf("KidsOf %+v is %d", n, impl.KidsOf(n))
				}
			}
		}
	}
}

// A grown tree has its parts in itself, so that where they are is told without
// the program.
type grown struct {
	told
	parts []grown
}

func (g grown) nodes() []impl.Node {
	list := []impl.Node{g.node}
	for _, part := range g.parts {
		list = append(list, part.nodes()...)
	}
	return list
}

func (g grown) text() string {
	text := g.word
	for _, part := range g.parts {
		text += " " + part.text()
	}
	return text
}

// each tells of this one and all in it where it stands, where its parts do,
// and where it ends, which it answers.
func (g grown) each(at int64, tell func(at int64, parts []int64, end int64)) int64 {
	end, parts := at+1, []int64{}
	for _, part := range g.parts {
		parts = append(parts, end)
		end = part.each(end, tell)
	}
	tell(at, parts, end)
	return end
}

type chance uint64

func (c *chance) below(n int) int {
	*c = *c*6364136223846793005 + 1442695040888963407
	return int(uint64(*c) >> 33 % uint64(n))
}

// treeOf grows one of just this many nodes.
func treeOf(c *chance, many int) grown {
	for {
		r := rightNodes[c.below(len(rightNodes))]
		if r.kids >= many || r.kids == 0 && many > 1 {
			continue
		}
		g, left := grown{told: r}, many-1
		for part := range r.kids {
			size := left
			if behind := r.kids - 1 - part; behind > 0 {
				size = 1 + c.below(left-behind)
			}
			g.parts = append(g.parts, treeOf(c, size))
			left -= size
		}
		return g
	}
}

// manyTrees are of each number of nodes that there may be.
func manyTrees() []grown {
	trees := []grown{}
	for _, r := range rightNodes {
		g := grown{told: r}
		for i := range r.kids {
			g.parts = append(g.parts, grown{told: rightNodes[i]})
		}
		trees = append(trees, g)
	}
	c := chance(17)
	for many := 1; many <= 60; many++ {
		for range 6 {
			trees = append(trees, treeOf(&c, many))
		}
	}
	return trees
}

// chained are nodes one within the other, and a leaf.
func chained(many int) []impl.Node {
	list := make([]impl.Node, many)
	for i := range list {
		list[i] = call("lib", "f", 1)
	}
	list[many-1] = num(7)
	return list
}

func mustEnd(t *testing.T, list []impl.Node, at, want int64) {
	t.Helper()
	if got := impl.EndOf(list, at); got != want {
		t.Errorf("EndOf a list of %d at %d is %d, not %d", len(list), at, got, want)
	}
}

func mustHaveParts(t *testing.T, list []impl.Node, at int64, want ...int64) {
	t.Helper()
	if got := impl.PartsOf(list, at); !slices.Equal(got, want) {
		t.Errorf("PartsOf a list of %d at %d are %v, not %v", len(list), at, got, want)
	}
}

// outside are places that no list of this many has.
func outside(many int) []int64 {
	return []int64{
		-1, -2, -int64(many), -int64(many) - 1, int64(many), int64(many) + 1, int64(many) + 60, 1 << 32, -1 << 32,
		math.MinInt64, math.MinInt64 + 1, math.MaxInt64 - 1, math.MaxInt64,
	}
}

func mustEndNowhereOutside(t *testing.T, list []impl.Node) {
	t.Helper()
	for _, at := range outside(len(list)) {
		if at < 0 || at >= int64(len(list)) {
			mustEnd(t, list, at, -1)
			mustHaveParts(t, list, at)
		}
	}
}

// Promise 6: parts are one behind the other.
func TestPartsAreOneBehindTheOther(t *testing.T) {
	for _, g := range manyTrees() {
		list := g.nodes()
		g.each(0, func(at int64, parts []int64, end int64) {
			mustEnd(t, list, at, end)
			mustHaveParts(t, list, at, parts...)
			next := at + 1
			got := impl.PartsOf(list, at)
			if int64(len(got)) != impl.KidsOf(list[at]) {
				t.Errorf("there are %d PartsOf, but KidsOf says %d", len(got), impl.KidsOf(list[at]))
			}
			for _, part := range got {
				if part != next {
					t.Errorf("a part begins at %d, not at %d", part, next)
				}
				next = impl.EndOf(list, part)
			}
			if next != end {
				t.Errorf("the last part ends at %d, not at %d", next, end)
			}
		})
		mustEndNowhereOutside(t, list)
	}
}

// endBy tells EndOf by parts that ask for their parts; of those that are not
// among the given ones it is -1.
func endBy(list []impl.Node, at int, kids map[impl.Node]int) int {
	if at < 0 || at >= len(list) {
		return -1
	}
	many, is := kids[list[at]]
	if !is {
		return -1
	}
	end := at + 1
	for range many {
		if end = endBy(list, end, kids); end == -1 {
			return -1
		}
	}
	return end
}

// All lists of up to 6 of a node with each number of parts, and of one that is
// not right: trees, and what lacks a part, has one too many or a wrong one.
func TestEndOfAndTreeOkOfAllShortLists(t *testing.T) {
	kids := map[impl.Node]int{num(7): 0, call("lib", "f", 1): 1, sign(impl.NdSub): 2, sign(impl.NdIf): 3}
	nodes := []impl.Node{num(7), call("lib", "f", 1), sign(impl.NdSub), sign(impl.NdIf), arg(3)}
	lists := [][]impl.Node{{}}
	for from, many := 0, 0; many < 6; many++ {
		until := len(lists)
		for ; from < until; from++ {
			for _, n := range nodes {
				lists = append(lists, append(slices.Clone(lists[from]), n))
			}
		}
	}
	trees := 0
	for _, list := range lists {
		mustEndNowhereOutside(t, list)
		for at := range list {
			want := endBy(list, at, kids)
			mustEnd(t, list, int64(at), int64(want))
			if want == -1 {
				mustHaveParts(t, list, int64(at))
			} else if got := impl.PartsOf(list, int64(at)); len(got) != kids[list[at]] {
				t.Errorf("PartsOf at %d of %v are %v", at, list, got)
			}
		}
		right := len(list) > 0 && endBy(list, 0, kids) == len(list)
		if impl.TreeOk(list) != right || (impl.ShowTree(list) != "") != right {
			t.Errorf("TreeOk of %v is %v, and it is shown as %q", list, impl.TreeOk(list), impl.ShowTree(list))
		}
		if right {
			trees++
		}
	}
	// Of 1 to 6 nodes there are 1, 1, 2, 5, 13 and 36 ways to be a tree.
	if trees != 58 {
		t.Errorf("there were %d trees among them", trees)
	}
}

func TestEndOfEmptyLists(t *testing.T) {
	for _, list := range [][]impl.Node{nil, {}, make([]impl.Node, 0, 5), chained(5)[:0]} {
		mustEnd(t, list, 0, -1)
		mustHaveParts(t, list, 0)
		mustEndNowhereOutside(t, list)
	}
}

func TestEndOfListsThatLackAPart(t *testing.T) {
	for _, g := range manyTrees() {
		list := g.nodes()
		for cut := range list {
			// What was cut off stands in the room behind: it is no part.
			short := list[:cut]
			g.each(0, func(at int64, parts []int64, end int64) {
				if end > int64(cut) {
					mustEnd(t, short, at, -1)
					mustHaveParts(t, short, at)
				} else {
					mustEnd(t, short, at, end)
					mustHaveParts(t, short, at, parts...)
				}
			})
			if impl.TreeOk(short) || impl.ShowTree(short) != "" {
				t.Errorf("%q cut to %d nodes is a tree", g.text(), cut)
			}
		}
	}
}

// What is asked for is the node there and its parts: one that is not right
// ahead of them or behind them changes nothing.
func TestEndOfListsWithAWrongNode(t *testing.T) {
	wrongs := wrongNodes()
	for i, g := range manyTrees() {
		for bad := range g.nodes() {
			list := g.nodes()
			list[bad] = wrongs[(7*i+bad)%len(wrongs)]
			g.each(0, func(at int64, parts []int64, end int64) {
				if at <= int64(bad) && int64(bad) < end {
					mustEnd(t, list, at, -1)
					mustHaveParts(t, list, at)
				} else {
					mustEnd(t, list, at, end)
					mustHaveParts(t, list, at, parts...)
				}
			})
			if impl.TreeOk(list) || impl.ShowTree(list) != "" {
				t.Errorf("%q with a wrong node at %d is a tree", g.text(), bad)
			}
		}
	}
	for _, wrong := range wrongs {
		list := []impl.Node{wrong, sign(impl.NdAdd), num(1), arg(0), wrong, sign(impl.NdAdd), num(1), wrong}
		for at, want := range []int64{-1, 4, 3, 4, -1, -1, 7, -1} {
			mustEnd(t, list, int64(at), want)
		}
		mustHaveParts(t, list, 1, 2, 3)
		mustHaveParts(t, list, 5)
	}
}

// The number of nodes is TreeOk's matter alone, and so is what stands behind.
func TestEndOfListsThatAreNoTrees(t *testing.T) {
	for _, many := range []int{61, 62, 100, 1000, 300000} {
		list := chained(many)
		mustEnd(t, list, 0, int64(many))
		mustEnd(t, list, int64(many)-1, int64(many))
		mustHaveParts(t, list, 0, 1)
		mustHaveParts(t, list, int64(many)-1)
		mustEnd(t, list[:many-1], 0, -1)
		if impl.TreeOk(list) || impl.ShowTree(list) != "" {
			t.Errorf("%d nodes are a tree", many)
		}
	}
	ifs := []impl.Node{}
	for range 300000 {
		ifs = append(ifs, sign(impl.NdIf))
	}
	mustEnd(t, ifs, 0, -1)
	mustHaveParts(t, ifs, 0)
	list := append(chained(3), chained(2)...)
	mustEnd(t, list, 0, 3)
	mustEnd(t, list, 3, 5)
	mustHaveParts(t, list, 3, 4)
}

func TestTreeOkByNumberOfNodes(t *testing.T) {
	if impl.TreeOk(nil) || impl.TreeOk([]impl.Node{}) {
		t.Error("an empty list is a tree")
	}
	for many := 1; many <= 130; many++ {
		if list := chained(many); impl.TreeOk(list) != (many <= 60) {
			t.Errorf("TreeOk of %d nodes is %v", many, impl.TreeOk(list))
		}
	}
	c := chance(5)
	for range 50 {
		if !impl.TreeOk(treeOf(&c, 60).nodes()) || impl.TreeOk(treeOf(&c, 61).nodes()) {
			t.Error("it is not just 60 nodes that are a tree")
		}
	}
}

func TestTreeOkWithANodeTooManyOrTooFew(t *testing.T) {
	for _, g := range manyTrees() {
		list := g.nodes()
		if !impl.TreeOk(list) {
			t.Errorf("%q is no tree", g.text())
		}
		for _, r := range rightNodes {
			if more := append(slices.Clone(list), r.node); impl.TreeOk(more) || impl.ShowTree(more) != "" {
				t.Errorf("%q and %q behind it are a tree", g.text(), r.word)
			}
		}
		if impl.TreeOk(list[:len(list)-1]) {
			t.Errorf("%q without the last node is a tree", g.text())
		}
		if twice := append(slices.Clone(list), list...); impl.TreeOk(twice) {
			t.Errorf("%q twice is a tree", g.text())
		}
	}
}

func TestShowTreeOfTrees(t *testing.T) {
	for _, c := range []struct {
		list []impl.Node
		want string
	}{
		{[]impl.Node{num(0)}, "0"},
		{[]impl.Node{num(leastWord)}, "-2147483648"},
		{[]impl.Node{arg(2)}, "$2"},
		{[]impl.Node{call("lib", "f", 0)}, "@lib.f/0"},
		{[]impl.Node{sign(impl.NdSub), num(-1), num(1)}, "- -1 1"},
		{[]impl.Node{sign(impl.NdDiv), arg(0), num(0)}, "/ $0 0"},
		{[]impl.Node{sign(impl.NdIf), arg(0), sign(impl.NdAdd), num(1), call("lib", "f", 1), num(-2), num(7)}, "? $0 + 1 @lib.f/1 -2 7"},
		{[]impl.Node{call("a", "b", 3), num(1), sign(impl.NdMul), num(2), num(3), arg(1)}, "@a.b/3 1 * 2 3 $1"},
		{chained(4), "@lib.f/1 @lib.f/1 @lib.f/1 7"},
		{nil, ""}, {[]impl.Node{}, ""}, {[]impl.Node{{}}, ""}, {[]impl.Node{num(1), num(2)}, ""}, {[]impl.Node{sign(impl.NdAdd), num(1)}, ""},
	} {
		if got := impl.ShowTree(c.list); got != c.want {
			t.Errorf("ShowTree of %v is %q, not %q", c.list, got, c.want)
		}
	}
	for _, n := range wrongNodes() {
		for _, list := range [][]impl.Node{{n}, {n, num(1)}, {n, num(1), num(2)}, {n, num(1), num(2), num(3)}, {sign(impl.NdAdd), num(1), n}} {
			if got := impl.ShowTree(list); impl.TreeOk(list) || got != "" {
				t.Errorf("with a wrong node of Kind %d it is shown as %.40q", n.Kind, got)
			}
		}
	}
}

func mustRead(t *testing.T, s string, want []impl.Node) {
	t.Helper()
	if got, is := impl.ReadTree(s); !is || !slices.Equal(got, want) {
		t.Errorf("ReadTree of %.80q is %v, %v", s, got, is)
	}
}

func mustNotRead(t *testing.T, s string) {
	t.Helper()
	if got, is := impl.ReadTree(s); is || len(got) != 0 {
		t.Errorf("ReadTree of %.80q is %v, %v, not nothing and false", s, got, is)
	}
}

// Promise 6.
func TestReadTreeOfShowTreeIsTheTree(t *testing.T) {
	for _, g := range manyTrees() {
		list := g.nodes()
		shown := impl.ShowTree(list)
		if shown != g.text() {
			t.Errorf("ShowTree is %q, not %q", shown, g.text())
		}
		mustRead(t, shown, list)
	}
	for _, n := range edgeWords {
		mustRead(t, impl.ShowTree([]impl.Node{num(n)}), []impl.Node{num(n)})
	}
	mustRead(t, impl.ShowTree(chained(60)), chained(60))
	longest := slices.Repeat([]impl.Node{call("abcdefgh", "stuvwxyz", 1)}, 60)
	longest[59].A = 0
	mustRead(t, impl.ShowTree(longest), longest)
}

func TestReadTreeOfBlanks(t *testing.T) {
	for _, s := range []string{"", " ", "  ", "\n", " \n", strings.Repeat(" ", 59), strings.Repeat(" ", 60), strings.Repeat(" ", 20000)} {
		mustNotRead(t, s)
	}
	for _, g := range manyTrees()[:200] {
		s := g.text()
		for _, blanks := range []string{" ", "  ", "\n", "\t", "\r", "\x00", "\u00a0"} {
			mustNotRead(t, blanks+s)
			mustNotRead(t, s+blanks)
			for at := range len(s) {
				if s[at] == ' ' && blanks != " " {
					mustNotRead(t, s[:at]+blanks+s[at+1:])
				}
			}
		}
	}
}

// wrongWords are read as no node, wherever they stand.
var wrongWords = []string{
	"00", "-0", "01", "-01", "+1", "+0", "--1", "1-", "-1-", "1.0", "1e3", "0x1", "1_0", "1\n", "\u0661", "x", "nil",
	"2147483648", "-2147483649", "4294967296", "4294967297", "9999999999", "10000000000", "02147483647", "18446744073709551617",
	"$", "$3", "$-1", "$-0", "$00", "$01", "$+1", "$1x", "$x", "$ 1", "$$1", "$12", "$4294967296", "$4294967297", "1$", "0$0", "$0$", "$0\n", "$2147483648",
	"++", "--", "**", "//", "??", "+-", "+*", "-*/", "+-*/", "*/", "?+", "+?", "%", "^", "&", "<", "=", "!", ",", "#", "(", "+\n", "?\n", "?1", "*1", "/1", "\u2212", "\u00d7",
	"@", "@/", "@.", "@./", "@./0", "@a", "@a/0", "@a.b", "@a.b/", "@.b/0", "@a./0", "a.b/0", "@ab/0", "@a.b/4", "@a.b/-1", "@a.b/-0", "@a.b/00", "@a.b/01",
	"@a.b/+1", "@a.b/x", "@a.b/1x", "@a.b/0/0", "@a.b//0", "@a..b/0", "@a.b.c/0", "@@a.b/0", "@a.b/0@", "@A.b/0", "@a.B/0", "@a1.b/0", "@a.b1/0",
	"@abcdefghi.b/0", "@a.abcdefghi/0", "@a/b.0", "@a/0.b", "@a.b/10", "@a.b/4294967296", "@a.b/4294967297", "@a.b/2147483648", "@\u00e9.b/0", "@a.b/0\n", "@a\n.b/0", "@a.b\x00/0",
	"@a .b/0", "@a. b/0", "@a.b /0", "@a.b/ 0", "@ a.b/0",
}

func TestReadTreeOfWrongWords(t *testing.T) {
	for _, word := range wrongWords {
		mustNotRead(t, word)
		for many := 1; many <= 4; many++ {
			mustNotRead(t, word+strings.Repeat(" 1", many))
		}
		mustNotRead(t, "+ 1 "+word)
		mustNotRead(t, "+ "+word+" 1")
		mustNotRead(t, "? $0 "+word+" @lib.f/1 -2")
	}
	for _, n := range manyNumbers() {
		s := strconv.FormatInt(n, 10)
		if n >= leastWord && n <= greatestWord {
			mustRead(t, s, []impl.Node{num(n)})
		} else {
			mustNotRead(t, s)
		}
		if n < 0 || n > 2 {
			mustNotRead(t, "$"+s)
		}
		if n != 0 {
			mustNotRead(t, "@a.b/"+s)
		}
	}
}

func TestReadTreeOfTooFewAndTooManyWords(t *testing.T) {
	for _, g := range manyTrees() {
		words := strings.Split(g.text(), " ")
		for cut := range words {
			mustNotRead(t, strings.Join(words[:cut], " "))
		}
		for _, r := range rightNodes {
			mustNotRead(t, g.text()+" "+r.word)
		}
		mustNotRead(t, g.text()+" "+g.text())
	}
	c := chance(11)
	for _, many := range []int{61, 62, 63, 100, 1000} {
		mustNotRead(t, treeOf(&c, many).text())
	}
	mustNotRead(t, strings.Repeat("@lib.f/1 ", 60)+"7")
	mustNotRead(t, strings.Repeat("@lib.f/1 ", 100000)+"7")
}

var nodeWord = regexp.MustCompile(`^(?:(0|-?[1-9][0-9]{0,9})|\$([0-2])|([-+*/])|(\?)|@([a-z]{1,8})\.([a-z]{1,8})/([0-3]))$`)

// nodeBy tells a word's node by the forms that there are.
func nodeBy(word string) (impl.Node, bool) {
	m := nodeWord.FindStringSubmatch(word)
	switch {
	case m == nil:
		return impl.Node{}, false
	case m[1] != "":
		n, _ := strconv.ParseInt(m[1], 10, 64)
		return num(n), n >= leastWord && n <= greatestWord
	case m[2] != "":
		return arg(int64(m[2][0] - '0')), true
	case m[3] != "":
		return sign(map[string]int64{"+": 3, "-": 4, "*": 5, "/": 6}[m[3]]), true
	case m[4] != "":
		return sign(7), true
	}
	return call(m[5], m[6], int64(m[7][0]-'0')), true
}

// readBy tells the tree of a text by those forms and by endBy.
func readBy(s string) ([]impl.Node, bool) {
	list, kids := []impl.Node{}, map[impl.Node]int{}
	for _, word := range strings.Split(s, " ") {
		n, is := nodeBy(word)
		if !is {
			return nil, false
		}
		many := []int{0, 0, 0, 2, 2, 2, 2, 3, int(n.A)}
		kids[n] = many[n.Kind]
		list = append(list, n)
	}
	return list, len(list) <= 60 && endBy(list, 0, kids) == len(list)
}

func mustReadAsTold(t *testing.T, s string) {
	t.Helper()
	if want, is := readBy(s); is {
		mustRead(t, s, want)
		if shown := impl.ShowTree(want); shown != s {
			t.Errorf("%q is read, but shown as %q", s, shown)
		}
	} else {
		mustNotRead(t, s)
	}
}

// Each byte there is in place of each byte, and ahead of it; and each byte
// left out.
func TestReadTreeByByte(t *testing.T) {
	for _, s := range []string{"0", "-", "$0", "-12", "2147483647", "-2147483648", "? $0 + 1 @lib.f/1 -2 7", "@a.b/0", "@abcdefgh.stuvwxyz/2 * 1 $2 / 0 10", "- - 1 -1 @a.b/3 1 2 3"} {
		mustReadAsTold(t, s)
		for at := range len(s) + 1 {
			if at < len(s) {
				mustReadAsTold(t, s[:at]+s[at+1:])
				mustReadAsTold(t, s[:at])
			}
			for b := range 256 {
				one := string([]byte{byte(b)})
				mustReadAsTold(t, s[:at]+one+s[at:])
				if at < len(s) {
					mustReadAsTold(t, s[:at]+one+s[at+1:])
				}
			}
		}
	}
}

// All texts of up to 5 of the signs that words are made of.
func TestReadTreeOfAllShortTexts(t *testing.T) {
	texts := []string{""}
	for range 5 {
		longer := []string{}
		for _, s := range texts {
			for _, one := range []string{"0", "1", "-", "+", "/", "?", "$", "@", ".", "a", " "} {
				longer = append(longer, s+one)
				mustReadAsTold(t, s+one)
			}
		}
		texts = longer
	}
}

// Promise 21: the texts and names are laid over bytes of the test's own, and
// the list has room behind it, so that a write into any of them would be seen.
func TestTreesAreNewMemoryAndArgumentsStay(t *testing.T) {
	room := make([]byte, 80)
	texts := laidOver(room, "? $0 @lib.f/1 @main.g/0 @lib.f/1 7", "package", "name", "spare room")
	held := string(room)
	nodes := []impl.Node{call(texts[1], texts[2], 2), num(100), call(texts[1], texts[2], 0), num(1), sign(impl.NdAdd), arg(1)}
	list := nodes[:3:6]
	before := slices.Clone(nodes)
	for range 2 {
		for at := int64(-1); at <= 4; at++ {
			impl.EndOf(list, at)
			mustBeNewParts(t, list, at)
		}
		impl.TreeOk(list)
		if shown := impl.ShowTree(list); shown != "@package.name/2 100 @package.name/0" {
			t.Errorf("it is shown as %q", shown)
		}
		one := []impl.Node{list[2]}
		if shown := impl.ShowTree(one); sharing(shown, texts[1]) || sharing(shown, texts[2]) {
			t.Error("what is shown shares memory with a name")
		}
		for _, n := range nodes {
			impl.NodeOk(n)
			impl.KidsOf(n)
		}
		mustBeNewTree(t, texts[0])
		mustNotRead(t, texts[0][1:])
		mustNotRead(t, texts[1])
	}
	if string(room) != held || !slices.Equal(nodes, before) {
		t.Error("an argument, or the room behind it, was written into")
	}
}

func mustBeNewParts(t *testing.T, list []impl.Node, at int64) {
	t.Helper()
	first, again := impl.PartsOf(list, at), impl.PartsOf(list, at)
	want := slices.Clone(again)
	for i := range first {
		first[i] = -7
	}
	_ = append(first, -7)
	if !slices.Equal(again, want) || !slices.Equal(impl.PartsOf(list, at), want) {
		t.Errorf("PartsOf at %d hands out a list twice", at)
	}
}

func mustBeNewTree(t *testing.T, s string) {
	t.Helper()
	first, _ := impl.ReadTree(s)
	again, is := impl.ReadTree(s)
	if !is || len(first) != len(again) {
		t.Fatalf("%q is not read twice alike", s)
	}
	for i, a := range first {
		for _, name := range []string{a.Package, a.Func} {
			if sharing(name, s) || sharing(name, again[i].Package) || sharing(name, again[i].Func) {
				t.Errorf("the name %q shares memory", name)
			}
			for _, b := range first[:i] {
				if sharing(name, b.Package) || sharing(name, b.Func) {
					t.Errorf("two nodes share the name %q", name)
				}
			}
		}
		first[i] = num(-7)
	}
	if third, _ := impl.ReadTree(s); !slices.Equal(third, again) || unsafe.SliceData(first) == unsafe.SliceData(again) {
		t.Errorf("the tree of %q is handed out twice", s)
	}
}

// Promise 21: whatever they are given, they answer.
func TestTreesAnswerAtEveryArgument(t *testing.T) {
	for _, s := range piecedTexts() {
		mustNotRead(t, s)
	}
	nodes := wrongNodes()
	for _, r := range rightNodes {
		nodes = append(nodes, r.node)
	}
	c := chance(3)
	for range 1000 {
		list := []impl.Node{}
		for range c.below(70) {
			list = append(list, nodes[len(nodes)-1-c.below(len(rightNodes)+2)])
		}
		before := slices.Clone(list)
		mustEndNowhereOutside(t, list)
		for at := range list {
			if end := impl.EndOf(list, int64(at)); end != -1 && (end <= int64(at) || end > int64(len(list))) {
				t.Errorf("EndOf at %d of %d is %d", at, len(list), end)
			}
			impl.PartsOf(list, int64(at))
		}
		if read, is := impl.ReadTree(impl.ShowTree(list)); is != impl.TreeOk(list) || is && !slices.Equal(read, list) {
			t.Errorf("%v is a tree: %v, but read: %v", list, impl.TreeOk(list), is)
		}
		if !slices.Equal(list, before) {
			t.Error("a list is another one now")
		}
	}
}
