package tests

import (
	"slices"
	"strconv"
	"strings"
	"testing"
	"unsafe"

	"loop.example/g00346/impl"
)

// treeIn reads by the test's own forms, so that what is folded hangs on
// FoldedTree alone.
func treeIn(t *testing.T, text string) []impl.Node {
	t.Helper()
	tree, is := readBy(text)
	if !is {
		t.Fatalf("%q is no tree", text)
	}
	return tree
}

// mustFoldTo asks also that what is folded is as it is, folded again.
func mustFoldTo(t *testing.T, tree, want []impl.Node) {
	t.Helper()
	got := impl.FoldedTree(tree)
	if !slices.Equal(got, want) {
		t.Errorf("%q folded is %q, not %q", impl.ShowTree(tree), impl.ShowTree(got), impl.ShowTree(want))
	}
	if len(got) > len(tree) {
		t.Errorf("%q folded has more Nodes: %q", impl.ShowTree(tree), impl.ShowTree(got))
	}
	if again := impl.FoldedTree(got); !slices.Equal(again, got) {
		t.Errorf("%q folded is %q, and folded again %q", impl.ShowTree(tree), impl.ShowTree(got), impl.ShowTree(again))
	}
}

func mustFold(t *testing.T, text, want string) {
	t.Helper()
	mustFoldTo(t, treeIn(t, text), treeIn(t, want))
}

func mustStay(t *testing.T, texts ...string) {
	t.Helper()
	for _, text := range texts {
		mustFold(t, text, text)
	}
}

func mustFoldToNothing(t *testing.T, tree []impl.Node) {
	t.Helper()
	if got := impl.FoldedTree(tree); len(got) != 0 {
		t.Errorf("%d Nodes that are no tree are %q, folded", len(tree), impl.ShowTree(got))
	}
	if impl.Pure(tree) {
		t.Errorf("%d Nodes that are no tree are Pure", len(tree))
	}
}

// unfoldable are trees of each kind of first Node, none of them an NdNum, that
// stay as they are.
var unfoldable = []string{
	"$0", "$1", "$2", "@lib.f/0", "@lib.f/1 $0", "@lib.f/2 1 0", "@lib.f/3 0 1 0", "+ $0 $0", "- $1 $1", "* $2 0", "/ $0 0", "/ 4 0", "/ 0 0", "/ 1 0",
	"- 0 $0", "/ 1 $0", "/ 0 $0", "* 0 $0", "+ 1 $0", "+ $0 1", "? $0 1 0", "? $0 5 5", "? / 1 0 0 1", "+ * $0 2 / $1 3",
}

func TestFoldedTreeOfLeaves(t *testing.T) {
	for _, word := range edgeWords {
		mustStay(t, strconv.FormatInt(word, 10))
	}
	mustStay(t, "$0", "$1", "$2", "@lib.f/0", "@abcdefgh.stuvwxyz/0")
	mustStay(t, unfoldable...)
}

func TestFoldedTreeOfTwoNumbers(t *testing.T) {
	for kind := int64(3); kind <= 6; kind++ {
		for _, a := range edgeWords {
			for _, b := range edgeWords {
				tree := []impl.Node{sign(kind), num(a), num(b)}
				if kind == 6 && b == 0 {
					mustFoldTo(t, tree, tree)
				} else {
					mustFoldTo(t, tree, []impl.Node{num(reckoned(kind, a, b))})
				}
			}
		}
	}
	mustFold(t, "+ 2 3", "5")
	mustFold(t, "- 2 3", "-1")
	mustFold(t, "* 2 3", "6")
	mustFold(t, "/ 7 2", "3")
	mustFold(t, "/ -7 2", "-3")
	mustFold(t, "/ 7 -2", "-3")
	mustFold(t, "/ 0 5", "0")
	mustFold(t, "+ 2147483647 1", "-2147483648")
	mustFold(t, "- -2147483648 1", "2147483647")
	mustFold(t, "- 0 -2147483648", "-2147483648")
	mustFold(t, "* 65536 65536", "0")
	mustFold(t, "* 65536 32768", "-2147483648")
	mustFold(t, "/ -2147483648 -1", "-2147483648")
	// Of two numbers one that would leave the other as it is makes no odds.
	mustFold(t, "- 0 1", "-1")
	mustFold(t, "/ 1 1", "1")
	mustFold(t, "/ 1 2", "0")
	mustFold(t, "+ 0 0", "0")
	mustFold(t, "* 1 1", "1")
	mustStay(t, "/ 4 0", "/ 0 0", "/ 1 0", "/ -2147483648 0")
}

func TestFoldedTreeOfASecondPartThatDoesNothing(t *testing.T) {
	for _, other := range unfoldable {
		mustFold(t, "+ "+other+" 0", other)
		mustFold(t, "- "+other+" 0", other)
		mustFold(t, "* "+other+" 1", other)
		mustFold(t, "/ "+other+" 1", other)
	}
}

func TestFoldedTreeOfAFirstPartThatDoesNothing(t *testing.T) {
	for _, other := range unfoldable {
		mustFold(t, "+ 0 "+other, other)
		mustFold(t, "* 1 "+other, other)
		mustStay(t, "- 0 "+other, "/ 1 "+other)
	}
}

// No other word does nothing, though a product with 0 could be told.
func TestFoldedTreeOfOtherWords(t *testing.T) {
	for _, word := range edgeWords {
		n := strconv.FormatInt(word, 10)
		for _, other := range unfoldable {
			if word != 0 {
				mustStay(t, "+ "+other+" "+n, "- "+other+" "+n, "+ "+n+" "+other)
			}
			if word != 1 {
				mustStay(t, "* "+other+" "+n, "/ "+other+" "+n, "* "+n+" "+other)
			}
			mustStay(t, "- "+n+" "+other, "/ "+n+" "+other)
		}
	}
}

// Two parts of which neither is a number stay, though they are alike.
func TestFoldedTreeOfPairsWithoutANumber(t *testing.T) {
	for _, first := range unfoldable {
		for _, second := range unfoldable {
			for _, pair := range []string{"+ ", "- ", "* ", "/ "} {
				mustStay(t, pair+first+" "+second)
			}
		}
	}
}

func TestFoldedTreeOfIf(t *testing.T) {
	for _, word := range edgeWords {
		n := strconv.FormatInt(word, 10)
		for _, other := range unfoldable {
			if word == 0 {
				mustFold(t, "? 0 5 "+other, other)
				mustFold(t, "? 0 "+other+" 5", "5")
			} else {
				mustFold(t, "? "+n+" 5 "+other, "5")
				mustFold(t, "? "+n+" "+other+" 5", other)
			}
		}
	}
	for _, first := range unfoldable {
		mustStay(t, "? "+first+" 1 0", "? "+first+" 0 1", "? "+first+" 5 5", "? "+first+" $1 $1", "? "+first+" @lib.f/1 $0 / 1 0")
		mustFold(t, "? "+first+" + 1 1 - 3 0", "? "+first+" 2 3")
	}
}

func TestFoldedTreeOfAnIfThatIsDecidedOnlyWhenFolded(t *testing.T) {
	for first, second := range map[string]bool{
		"+ 1 1": true, "- 3 3": false, "* 65536 65536": false, "/ 1 2": false, "/ 2 1": true, "+ 2147483647 1": true,
		"? 1 0 7": false, "? 0 0 7": true, "? - 3 3 0 + 0 1": true, "+ 0 - 2 2": false, "+ 1 * 1 -1": false, "- 0 - 0 1": true,
	} {
		want := "$2"
		if second {
			want = "$1"
		}
		mustFold(t, "? "+first+" $1 $2", want)
		mustFold(t, "? "+first+" + $1 0 * 1 $2", want)
	}
	mustFold(t, "? + 0 $0 $1 $2", "? $0 $1 $2")
	mustFold(t, "? - $0 $0 $1 $2", "? - $0 $0 $1 $2")
	mustFold(t, "? * 0 $0 $1 $2", "? * 0 $0 $1 $2")
	mustFold(t, "? / 1 - 1 1 $1 $2", "? / 1 0 $1 $2")
}

// What is not chosen goes, whatever it is: a call, a division by 0.
func TestFoldedTreeLeavesOutWhatIsNotChosen(t *testing.T) {
	for _, other := range []string{"/ 1 0", "@lib.f/2 / 1 0 $2", "? / 1 0 / 1 0 / 1 0", strings.Repeat("+ $0 ", 12) + "$0"} {
		mustFold(t, "? 1 5 "+other, "5")
		mustFold(t, "? 0 "+other+" 5", "5")
		mustFold(t, "+ ? 1 5 "+other+" $0", "+ 5 $0")
		mustFold(t, "+ ? 0 "+other+" 5 6", "11")
		mustFold(t, "? ? 1 0 "+other+" "+other+" 5", "5")
	}
}

func TestFoldedTreeOfCalls(t *testing.T) {
	mustStay(t, "@lib.f/0", "@lib.f/1 5", "@lib.f/2 1 0", "@lib.f/3 0 0 0", "@a.b/2 $0 / 1 0")
	mustFold(t, "@lib.f/1 + 1 1", "@lib.f/1 2")
	mustFold(t, "@lib.f/2 + 1 1 * 1 $0", "@lib.f/2 2 $0")
	mustFold(t, "@lib.f/3 - $0 0 ? 1 $1 $2 / 9 3", "@lib.f/3 $0 $1 3")
	mustFold(t, "@abcdefgh.stuvwxyz/1 @main.g/2 + 0 @a.b/0 - 0 7", "@abcdefgh.stuvwxyz/1 @main.g/2 @a.b/0 -7")
	mustFold(t, "+ 0 @lib.f/1 * 2 3", "@lib.f/1 6")
	mustFold(t, "? 0 @lib.f/0 @lib.g/0", "@lib.g/0")
	mustFold(t, "+ @lib.f/0 * 0 1", "@lib.f/0")
}

// What is made of a part lets more be made.
func TestFoldedTreeSeveralDeep(t *testing.T) {
	mustFold(t, "+ * 1 $0 ? - 3 3 5 / 4 0", "+ $0 / 4 0")
	mustFold(t, "+ + 1 2 + 3 4", "10")
	mustFold(t, "- - 10 3 2", "5")
	mustFold(t, "- 10 - 3 2", "9")
	mustFold(t, "/ + 2147483647 1 2", "-1073741824")
	mustFold(t, "+ $0 - 3 3", "$0")
	mustFold(t, "+ - 3 3 $0", "$0")
	mustFold(t, "- $0 * 0 5", "$0")
	mustFold(t, "* $0 / 3 2", "$0")
	mustFold(t, "* - 3 2 $0", "$0")
	mustFold(t, "/ $0 ? 5 1 2", "$0")
	mustFold(t, "/ $0 + 0 1", "$0")
	mustFold(t, "/ $0 - 1 1", "/ $0 0")
	mustFold(t, "- - 1 1 $0", "- 0 $0")
	mustFold(t, "/ + 0 1 $0", "/ 1 $0")
	mustFold(t, "/ 4 - 1 1", "/ 4 0")
	mustFold(t, "+ / 4 - 1 1 0", "/ 4 0")
	mustFold(t, "* 1 + 0 - / $0 1 0", "$0")
	mustFold(t, "+ 0 + 0 + 0 5", "5")
	mustFold(t, "+ ? $0 + 1 1 * 2 2 ? 0 / 1 0 0", "? $0 2 4")
	mustFold(t, "? $0 ? 1 $1 $2 ? 0 $1 $2", "? $0 $1 $2")
	mustFold(t, "+ + $0 1 1", "+ + $0 1 1")
	mustFold(t, "+ 1 + 1 $0", "+ 1 + 1 $0")
	mustFold(t, "- + $0 5 5", "- + $0 5 5")
	mustFold(t, "* 0 @lib.f/1 + 1 1", "* 0 @lib.f/1 2")
}

func TestFoldedTreeOfTheGreatest(t *testing.T) {
	mustFold(t, strings.Repeat("+ 1 ", 29)+"1", "30")
	mustFold(t, strings.Repeat("+ ", 29)+strings.TrimSpace(strings.Repeat("1 ", 30)), "30")
	mustFold(t, strings.Repeat("+ 0 ", 29)+"$0", "$0")
	mustFold(t, strings.Repeat("* ", 29)+"$0"+strings.Repeat(" 1", 29), "$0")
	mustFold(t, strings.Repeat("* 2 ", 29)+"2", "1073741824")
	mustFold(t, strings.Repeat("? 0 $1 ", 19)+"$0", "$0")
	mustStay(t, strings.Repeat("+ 1 ", 29)+"$0", strings.Repeat("- 0 ", 29)+"$0", strings.Repeat("? $0 1 ", 19)+"$0")
	mustFoldTo(t, chained(60), chained(60))
	mustFold(t, strings.Repeat("@lib.f/1 ", 57)+"+ 1 1", strings.Repeat("@lib.f/1 ", 57)+"2")
}

func TestFoldedTreeOfWhatIsNotTreeOk(t *testing.T) {
	mustFoldToNothing(t, nil)
	mustFoldToNothing(t, []impl.Node{})
	mustFoldToNothing(t, []impl.Node{num(1), num(2)})
	mustFoldToNothing(t, []impl.Node{sign(3), num(1)})
	mustFoldToNothing(t, []impl.Node{sign(3), num(1), num(2), num(3)})
	mustFoldToNothing(t, []impl.Node{sign(7), num(1), num(2)})
	mustFoldToNothing(t, []impl.Node{call("lib", "f", 1)})
	for _, many := range []int{61, 62, 100, 100000} {
		mustFoldToNothing(t, chained(many))
	}
	// Folded it would be small enough.
	mustFoldToNothing(t, append(slices.Repeat([]impl.Node{sign(3), num(0)}, 30), num(0)))
	for _, n := range wrongNodes() {
		mustFoldToNothing(t, []impl.Node{n})
		mustFoldToNothing(t, []impl.Node{n, num(1)})
		mustFoldToNothing(t, []impl.Node{n, num(1), num(2)})
		mustFoldToNothing(t, []impl.Node{n, num(1), num(2), num(3)})
		mustFoldToNothing(t, []impl.Node{sign(3), n, num(0)})
		mustFoldToNothing(t, []impl.Node{sign(3), num(0), n})
		// Though it would not be chosen.
		mustFoldToNothing(t, []impl.Node{sign(7), num(1), num(5), n})
		mustFoldToNothing(t, []impl.Node{sign(7), num(0), n, num(5)})
	}
	for _, g := range manyTrees() {
		list := g.nodes()
		mustFoldToNothing(t, list[:len(list)-1])
		mustFoldToNothing(t, append(slices.Clone(list), num(1)))
	}
}

// ruled is what the document makes of the Node there, by the parts as they
// stand; false where it makes nothing.
func ruled(list []impl.Node, p parted, end int) ([]impl.Node, bool) {
	if p.node.Kind < 3 || p.node.Kind > 7 {
		return nil, false
	}
	second := p.parts[1].at
	is := func(part int, word int64) bool { return p.parts[part].node == num(word) }
	a, b := p.parts[0].node, p.parts[1].node
	switch kind := p.node.Kind; {
	case kind == 7 && is(0, 0):
		return list[p.parts[2].at:end], true
	case kind == 7 && a.Kind == 1:
		return list[second:p.parts[2].at], true
	case kind == 7:
		return nil, false
	case a.Kind == 1 && b.Kind == 1 && (kind != 6 || b.A != 0):
		return []impl.Node{num(reckoned(kind, a.A, b.A))}, true
	case kind <= 4 && is(1, 0), (kind == 5 || kind == 6) && is(1, 1):
		return list[p.at+1 : second], true
	case kind == 3 && is(0, 0), kind == 5 && is(0, 1):
		return list[second:end], true
	}
	return nil, false
}

// foldBy makes what can be made, anywhere, until there is nothing left: in
// whatever order, it comes to the same.
func foldBy(c *chance, list []impl.Node) []impl.Node {
	list = slices.Clone(list)
	for {
		made := [][]impl.Node{}
		for at := range list {
			p, end := partedOf(list, at)
			if smaller, is := ruled(list, p, end); is {
				made = append(made, slices.Concat(list[:at], smaller, list[end:]))
			}
		}
		if len(made) == 0 {
			return list
		}
		list = made[c.below(len(made))]
	}
}

// All trees of up to 6 of a few Nodes.
func TestFoldedTreeOfAllShortTrees(t *testing.T) {
	c := chance(79)
	leaves := []impl.Node{num(0), num(1), num(2), arg(0)}
	pairs := []impl.Node{sign(3), sign(4), sign(5), sign(6)}
	trees := map[int][][]impl.Node{}
	for many := 1; many <= 6; many++ {
		if many == 1 {
			for _, n := range leaves {
				trees[1] = append(trees[1], []impl.Node{n})
			}
		}
		for _, part := range trees[many-1] {
			trees[many] = append(trees[many], append([]impl.Node{call("lib", "f", 1)}, part...))
		}
		for first := 1; first < many-1; first++ {
			for _, a := range trees[first] {
				for _, b := range trees[many-1-first] {
					for _, n := range pairs {
						trees[many] = append(trees[many], slices.Concat([]impl.Node{n}, a, b))
					}
				}
			}
		}
		for first := 1; first < many-2; first++ {
			for second := 1; second < many-1-first; second++ {
				for _, a := range trees[first] {
					for _, b := range trees[second] {
						for _, d := range trees[many-1-first-second] {
							trees[many] = append(trees[many], slices.Concat([]impl.Node{sign(7)}, a, b, d))
						}
					}
				}
			}
		}
		for _, tree := range trees[many] {
			mustFoldTo(t, tree, foldBy(&c, tree))
		}
	}
	if len(trees[5]) < 2000 || len(trees[6]) < 10000 {
		t.Errorf("there were %d and %d trees", len(trees[5]), len(trees[6]))
	}
}

var smallWords = []int64{0, 0, 0, 1, 1, 1, 2, -1, greatestWord, leastWord}

// smallened has words in place of its own with which more can be made.
func smallened(c *chance, tree []impl.Node) []impl.Node {
	tree = slices.Clone(tree)
	for i, n := range tree {
		if n.Kind == impl.NdNum {
			tree[i] = num(smallWords[c.below(len(smallWords))])
		}
	}
	return tree
}

// Of trees of each size: of what can be made nothing is left, and nothing else
// is made.
func TestFoldedTreeOfManyTrees(t *testing.T) {
	c := chance(83)
	fewer, same := 0, 0
	for range 20 {
		for _, g := range manyTrees() {
			for _, tree := range [][]impl.Node{g.nodes(), smallened(&c, g.nodes())} {
				want := foldBy(&c, tree)
				mustFoldTo(t, tree, want)
				if !impl.TreeOk(impl.FoldedTree(tree)) {
					t.Errorf("%q folded is no tree", impl.ShowTree(tree))
				}
				if len(want) < len(tree) {
					fewer++
				} else {
					same++
				}
			}
		}
	}
	if fewer < 2000 || same < 2000 {
		t.Errorf("%d trees became smaller, %d did not", fewer, same)
	}
}

func packageFoldedBy(c *chance, p impl.Package) impl.Package {
	p = packageCopied(p)
	for i, f := range p.Funcs {
		p.Funcs[i].Tree = foldBy(c, f.Tree)
	}
	return p
}

func mustFoldPackage(t *testing.T, p, want impl.Package) {
	t.Helper()
	if got := impl.FoldedPackage(p); !samePackage(got, want) {
		t.Errorf("folded it is\n%.2000s, not\n%.2000s", impl.ShowPackage(got), impl.ShowPackage(want))
	}
}

func TestFoldedPackage(t *testing.T) {
	list := written(t, "lib a bc: f 2 + + 1 1 $1; g 0 * 3 5; h 3 @bc.k/2 - 0 1 @lib.f/0; a 1 ? 1 $0 @a.a/0; b 3 / 4 0",
		"lib a bc: f 2 + 2 $1; g 0 15; h 3 @bc.k/2 -1 @lib.f/0; a 1 $0; b 3 / 4 0")
	mustFoldPackage(t, list[0], list[1])
	mustFoldPackage(t, list[1], list[1])
	mustFoldPackage(t, lib(), lib())
	mustFoldPackage(t, pack("z", nil, fn("f", 0, num(1))), pack("z", []string{}, fn("f", 0, num(1))))
	mustFoldPackage(t, pack("z", []string{}, fn("f", 3, sign(3), num(0), arg(2))), pack("z", nil, fn("f", 3, arg(2))))
}

// Imports and Args stay, though nothing asks for them any more.
func TestFoldedPackageKeepsAllElse(t *testing.T) {
	list := written(t, "a b main zz: f 3 ? 0 @zz.f/1 $2 1; a 1 * 1 ? 1 2 $0", "a b main zz: f 3 1; a 1 2")
	mustFoldPackage(t, list[0], list[1])
	c := chance(89)
	for _, s := range manyShown() {
		p := packageCopied(s.p)
		mustFoldPackage(t, p, packageFoldedBy(&c, p))
		for i, f := range p.Funcs {
			p.Funcs[i].Tree = smallened(&c, f.Tree)
		}
		want := packageFoldedBy(&c, p)
		mustFoldPackage(t, p, want)
		mustFoldPackage(t, want, want)
	}
}

func TestFoldedPackageOfWhatIsNotPackageOk(t *testing.T) {
	mustFoldPackage(t, impl.Package{}, impl.Package{})
	for why, spoil := range spoilers {
		p := lib()
		spoil(&p)
		mustBeNoPackage(t, p, why)
	}
	for at := range 3 {
		for _, n := range wrongNodes() {
			p := lib()
			// Though it would not be chosen.
			p.Funcs[at].Tree = []impl.Node{sign(7), num(1), num(5), n}
			mustFoldPackage(t, p, impl.Package{})
		}
	}
	for _, name := range noNames {
		p := lib()
		p.Name = name
		mustFoldPackage(t, p, impl.Package{})
		p = lib()
		p.Imports[1] = name
		mustFoldPackage(t, p, impl.Package{})
		p = lib()
		p.Funcs[1].Name = name
		mustFoldPackage(t, p, impl.Package{})
	}
}

func mustBePure(t *testing.T, want bool, texts ...string) {
	t.Helper()
	for _, text := range texts {
		if impl.Pure(treeIn(t, text)) != want {
			t.Errorf("Pure of %q is not %v", text, want)
		}
	}
}

func TestPure(t *testing.T) {
	mustBePure(t, true, "0", "1", "-2147483648", "$0", "$2", "+ 1 2", "- $0 $1", "* $0 0", "? 0 1 2", "? $0 + $1 1 * $2 $2",
		"/ $0 2", "/ 1 1", "/ 0 -1", "/ $0 2147483647", "/ $0 -2147483648", "/ / $0 2 3", "/ + / $0 2 1 3", "+ / $0 2 / $1 3", "? / $0 2 / $0 3 / $0 4")
	mustBePure(t, false, "@lib.f/0", "@lib.f/1 1", "@lib.f/3 1 2 3", "+ 1 @lib.f/0", "+ @lib.f/0 1", "? 1 1 @lib.f/0", "? 0 @lib.f/0 1", "/ @lib.f/0 2")
	mustBePure(t, false, "/ 1 0", "/ $0 0", "/ 0 0", "/ 1 $0", "/ $0 $0", "/ 1 + 1 1", "/ 1 - 2 1", "/ 1 * 1 1", "/ 1 / 1 1", "/ 1 ? 1 1 1", "/ 1 @lib.f/0",
		"/ 0 $0", "/ 2 / $0 2", "/ / 1 0 2", "+ / 1 0 1", "+ 1 / 1 $0", "? 1 1 / 1 0", "? 0 / 1 0 1", "? / 1 0 1 1", "* 0 / 1 0", "/ + / 1 $0 1 3", "/ 1 ? 2 3 4")
	for _, word := range edgeWords {
		n := strconv.FormatInt(word, 10)
		mustBePure(t, word != 0, "/ $0 "+n, "/ 5 "+n, "/ / 1 2 "+n, "+ / + 1 2 "+n+" 7", "? $0 0 / 1 "+n, "/ / 1 "+n+" 2")
		mustBePure(t, true, n, "+ $0 "+n, "* "+n+" 0", "/ "+n+" 2")
		mustBePure(t, false, "/ "+n+" $0", "/ "+n+" 0", "/ 1 + 0 "+n)
	}
	// What is folded may be Pure where it was not, never the other way round.
	for _, text := range []string{"/ 1 + 1 1", "? 1 $0 @lib.f/0", "? 0 / 1 0 $0", "/ $0 / 2 2"} {
		mustBePure(t, false, text)
		if !impl.Pure(impl.FoldedTree(treeIn(t, text))) {
			t.Errorf("%q is not Pure, folded", text)
		}
	}
}

func TestPureByNumberOfNodes(t *testing.T) {
	for many := 1; many <= 130; many++ {
		list := slices.Repeat([]impl.Node{sign(6)}, many)
		list = append(append(list, arg(0)), slices.Repeat([]impl.Node{num(3)}, many)...)
		if impl.Pure(list) != (2*many+1 <= 60) {
			t.Errorf("Pure of %d Nodes is %v", 2*many+1, impl.Pure(list))
		}
	}
}

// pureBy asks of each Node what stands where its second part begins.
func pureBy(tree []impl.Node) bool {
	for at := range tree {
		p, _ := partedOf(tree, at)
		if p.node.Kind == 8 || p.node.Kind == 6 && (p.parts[1].node.Kind != 1 || p.parts[1].node.A == 0) {
			return false
		}
	}
	return true
}

// pureTree divides by numbers alone, and calls nothing.
func pureTree(c *chance, args int64, deep int) []impl.Node {
	n, kids := num(smallWords[c.below(len(smallWords))]), 0
	switch pick := c.below(8); {
	case pick < 2 && args > 0:
		n = arg(int64(c.below(int(args))))
	case pick < 5 && deep > 0:
		n, kids = sign(3+int64(c.below(3))), 2
	case pick < 6 && deep > 0:
		by := num([]int64{1, -1, 2, 3, -7, leastWord, greatestWord}[c.below(7)])
		return append(append([]impl.Node{sign(6)}, pureTree(c, args, deep-1)...), by)
	case pick < 7 && deep > 0:
		n, kids = sign(7), 3
	}
	tree := []impl.Node{n}
	for range kids {
		tree = append(tree, pureTree(c, args, deep-1)...)
	}
	return tree
}

func TestPureOfManyTrees(t *testing.T) {
	c := chance(97)
	pure, other := 0, 0
	for range 20 {
		trees := [][]impl.Node{pureTree(&c, 3, 4)}
		for _, g := range manyTrees() {
			trees = append(trees, smallened(&c, g.nodes()), pureTree(&c, 3, 3))
		}
		for _, tree := range trees {
			if len(tree) > impl.MaxNodes {
				continue
			}
			want := pureBy(tree)
			if impl.Pure(tree) != want {
				t.Errorf("Pure of %q is not %v", impl.ShowTree(tree), want)
			}
			if folded := impl.FoldedTree(tree); want && !impl.Pure(folded) || impl.Pure(folded) != pureBy(folded) {
				t.Errorf("Pure of %q folded, %q, is %v", impl.ShowTree(tree), impl.ShowTree(folded), impl.Pure(folded))
			}
			if want {
				pure++
			} else {
				other++
			}
		}
	}
	if pure < 2000 || other < 2000 {
		t.Errorf("%d trees were Pure, %d were not", pure, other)
	}
}

// A Pure tree is stopped by fuel alone, by whatever words.
func TestPureIsNeverStoppedButByFuel(t *testing.T) {
	c := chance(101)
	for range 1500 {
		args := int64(c.below(4))
		tree := pureTree(&c, args, 4)
		if len(tree) > impl.MaxNodes {
			continue
		}
		if !impl.Pure(tree) {
			t.Errorf("%q is not Pure", impl.ShowTree(tree))
		}
		list := []impl.Package{pack("main", nil, fn("f", args, tree...), fn("main", 1, arg(0)))}
		for range 5 {
			given := chosenWords(&c, args)
			whole := answered(list, "main", "f", given, impl.MaxFuel)
			if whole.code != impl.MnOk || whole.burnt > int64(len(tree)) {
				t.Errorf("%q by %d is %v", impl.ShowTree(tree), given, whole)
			}
			mustMean(t, list, "main", "f", given, whole)
		}
	}
}

// A Pure tree without an NdArg is one NdNum, folded: its value.
func TestPureWithoutAnArgumentIsOneNumber(t *testing.T) {
	c := chance(103)
	greater := 0
	for range 1500 {
		tree := pureTree(&c, 0, 4)
		if len(tree) > impl.MaxNodes {
			continue
		}
		list := []impl.Package{pack("main", nil, fn("f", 0, tree...), fn("main", 1, arg(0)))}
		value, code := impl.Meant(list, "main", "f", nil, impl.MaxFuel)
		if code != impl.MnOk {
			t.Errorf("%q is stopped by %d", impl.ShowTree(tree), code)
		}
		mustFoldTo(t, tree, []impl.Node{num(value)})
		if len(tree) > 5 {
			greater++
		}
	}
	if greater < 300 {
		t.Errorf("%d had more than 5 Nodes", greater)
	}
}

func projectFolded(list []impl.Package) []impl.Package {
	folded := []impl.Package{}
	for _, p := range list {
		folded = append(folded, impl.FoldedPackage(p))
	}
	return folded
}

// mustMeanFolded holds the Func against itself in the folded project: stopped
// by no lack of fuel it is the same, with no more fuel.
func mustMeanFolded(t *testing.T, list, folded []impl.Package, name, fn string, args []int64) (was, is answer) {
	t.Helper()
	was, is = answered(list, name, fn, args, impl.MaxFuel), answered(folded, name, fn, args, impl.MaxFuel)
	if was == badAnswer {
		t.Errorf("%q.%q by %d is MnBad:\n%s", name, fn, args, shownProject(list))
	}
	if is.burnt > was.burnt || was.code != impl.MnFuel && (was.value != is.value || was.code != is.code) {
		t.Errorf("%q.%q by %d is %v, folded it is %v:\n%s, folded\n%s", name, fn, args, was, is, shownProject(list), shownProject(folded))
	}
	for _, fuel := range []int64{0, 1, is.burnt - 1, is.burnt, was.burnt - 1, was.burnt} {
		if fuel < 0 {
			continue
		}
		with, less := answered(list, name, fn, args, fuel), answered(folded, name, fn, args, fuel)
		if less.burnt > with.burnt || with.code != impl.MnFuel && (less.code != with.code || less.value != with.value) {
			t.Errorf("%q.%q by %d with fuel %d is %v, folded it is %v:\n%s", name, fn, args, fuel, with, less, shownProject(list))
		}
	}
	return was, is
}

// Promise 11, with what it means and burns told by hand.
func TestFoldedItMeansTheSame(t *testing.T) {
	list := written(t, "lib: f 2 + * 1 $0 + 0 $1; g 1 ? - 3 3 / 1 0 / 8 $0; h 0 / 4 - 2 2; k 1 * 0 @lib.f/2 $0 / 1 0; r 0 + 2147483647 + 1 1",
		"main lib: main 1 + @lib.f/2 + 1 1 $0 @lib.g/1 - $0 0; a 1 ? 1 $0 @lib.h/0; b 1 - 0 @lib.f/2 $0 + 2 3; d 0 @lib.h/0; e 0 @lib.r/0")
	folded := projectFolded(list)
	for _, c := range []struct {
		pack, fn string
		args     []int64
		was, is  answer
	}{
		{"lib", "f", words(7, 8), ok(15, 7), ok(15, 3)},
		{"lib", "g", words(3), ok(2, 7), ok(2, 3)},
		{"lib", "g", words(0), zero(7), zero(3)},
		{"lib", "h", nil, zero(5), zero(3)},
		{"lib", "k", words(7), zero(7), zero(7)},
		{"lib", "r", nil, ok(-2147483647, 5), ok(-2147483647, 1)},
		{"main", "main", words(4), ok(8, 24), ok(8, 12)},
		{"main", "main", words(0), zero(24), zero(12)},
		{"main", "a", words(9), ok(9, 3), ok(9, 1)},
		{"main", "b", words(9), ok(-14, 14), ok(-14, 8)},
		{"main", "d", nil, zero(6), zero(4)},
		{"main", "e", nil, ok(-2147483647, 6), ok(-2147483647, 2)},
	} {
		mustMean(t, list, c.pack, c.fn, c.args, c.was)
		mustMean(t, folded, c.pack, c.fn, c.args, c.is)
		mustMeanFolded(t, list, folded, c.pack, c.fn, c.args)
	}
}

// calledByCount has a Func t of that tree in lib, where a call of f is one of
// a Func ahead of it with that many Args.
func calledByCount(t *testing.T, text string) []impl.Package {
	t.Helper()
	text = strings.NewReplacer("@lib.f/0", "@lib.none/0", "@lib.f/1", "@lib.one/1", "@lib.f/2", "@lib.two/2", "@lib.f/3", "@lib.three/3").Replace(text)
	return written(t, "lib: none 0 - 3 1; one 1 - $0 * 1 1; two 2 / $0 + 0 $1; three 3 ? + $0 0 $1 ? 1 $2 / 1 0; t 3 "+text, "main: main 1 1")
}

// Promise 11: of pairs and Ifs of each kind of part, by several words.
func TestFoldedTreesMeanTheSame(t *testing.T) {
	given := [][]int64{words(0, 0, 0), words(1, 0, -1), words(0, 5, 1), words(leastWord, -1, greatestWord)}
	arounds := []string{"+ # %", "- # %", "* # %", "/ # %", "+ % #", "- % #", "* % #", "/ % #", "? % # 1", "? # % 0", "? * 1 % - # 0 + # 0"}
	seen := [4]int{}
	for _, first := range unfoldable {
		for _, second := range append([]string{"0", "1", "-1", "- 3 3"}, unfoldable[:12]...) {
			for _, around := range arounds {
				list := calledByCount(t, strings.NewReplacer("#", first, "%", second).Replace(around))
				folded := projectFolded(list)
				for _, args := range given {
					was, _ := mustMeanFolded(t, list, folded, "lib", "t", args)
					seen[was.code]++
				}
			}
		}
	}
	if seen[0] < 5000 || seen[1] < 5000 {
		t.Errorf("of each code there were %v", seen)
	}
}

// wordsSmallened makes a project's numbers such that more can be folded.
func wordsSmallened(c *chance, list []impl.Package) []impl.Package {
	list = projectCopied(list)
	for _, p := range list {
		for i, f := range p.Funcs {
			p.Funcs[i].Tree = smallened(c, f.Tree)
		}
	}
	return list
}

// Promise 11: of each Func of many projects, by several words; also where some
// Packages alone are folded.
func TestManyProjectsFoldedMeanTheSame(t *testing.T) {
	c := chance(107)
	seen, less, nodes := [4]int{}, 0, 0
	for i := range 150 {
		list := rightProject(&c, 1+c.below(8))
		if i%3 == 0 {
			list = busyProject(&c, 1+c.below(8))
		}
		if i%2 == 0 {
			list = wordsSmallened(&c, list)
		}
		folded, some := projectFolded(list), projectCopied(list)
		for k := range list {
			if c.below(2) == 0 {
				some[k] = folded[k]
			}
			for at, f := range list[k].Funcs {
				nodes += len(f.Tree) - len(folded[k].Funcs[at].Tree)
			}
		}
		if impl.FaultOf(folded) != (impl.Fault{}) || impl.FaultOf(some) != (impl.Fault{}) {
			t.Fatalf("folded it has a Fault:\n%s, folded\n%s", shownProject(list), shownProject(folded))
		}
		for _, p := range list {
			for _, f := range p.Funcs {
				args := chosenWords(&c, f.Args)
				was, is := mustMeanFolded(t, list, folded, p.Name, f.Name, args)
				mustMeanFolded(t, list, some, p.Name, f.Name, args)
				mustMeanFolded(t, some, folded, p.Name, f.Name, args)
				seen[was.code]++
				if is.burnt < was.burnt {
					less++
				}
			}
		}
	}
	if seen[0] < 800 || seen[1] < 200 || seen[2] < 5 || less < 400 || nodes < 1500 {
		t.Errorf("of each code there were %v, %d burnt less, there were %d Nodes fewer", seen, less, nodes)
	}
}

// What there was no fuel for may have enough of it, folded.
func TestFoldedItMayHaveFuelEnough(t *testing.T) {
	list := written(t, "main: a 1 "+strings.Repeat("+ 0 ", 29)+"$0; b 1 "+strings.Repeat("@main.a/1 ", 59)+"$0; d 1 "+strings.Repeat("@main.b/1 ", 9)+"$0; main 1 @main.d/1 $0")
	folded := projectFolded(list)
	mustMean(t, list, "main", "b", words(7), ok(7, 59*60+1))
	mustMean(t, folded, "main", "b", words(7), ok(7, 59*2+1))
	mustMean(t, list, "main", "main", words(7), short(impl.MaxFuel))
	mustMean(t, folded, "main", "main", words(7), ok(7, 2+9*120+1))
	mustMeanFolded(t, list, folded, "main", "main", words(7))
}

// mustBeNewFolded asks that two answers, and the argument, share no memory.
func mustBeNewFolded(t *testing.T, tree []impl.Node) {
	t.Helper()
	first, again := impl.FoldedTree(tree), impl.FoldedTree(tree)
	want := slices.Clone(again)
	given, one, other := textsIn(impl.Func{Tree: tree}), textsIn(impl.Func{Tree: first}), textsIn(impl.Func{Tree: again})
	mustShareNoText(t, "folded, with the tree", one, given)
	mustShareNoText(t, "folded, with another answer", one, other)
	for i, text := range one {
		mustShareNoText(t, "folded, within one answer", []string{text}, one[:i])
	}
	if len(first) > 0 && (unsafe.SliceData(first) == unsafe.SliceData(tree) || unsafe.SliceData(first) == unsafe.SliceData(again)) {
		t.Error("folded it is in the memory of another")
	}
	treeOverwritten(first)
	if !slices.Equal(again, want) || !slices.Equal(impl.FoldedTree(tree), want) {
		t.Errorf("%q folded is handed out twice", impl.ShowTree(want))
	}
}

// Promise 21: names are laid over bytes of the test's own, and there is room
// behind the list, so that a write into any of them would be seen.
func TestFoldedTreesAreNewMemoryAndArgumentsStay(t *testing.T) {
	room := make([]byte, 60)
	texts := laidOver(room, "package", "name", "lib", "f", "spare room")
	x, y := call(texts[0], texts[1], 1), call(texts[2], texts[3], 0)
	for _, tree := range [][]impl.Node{
		{y}, {num(7)}, {arg(1)}, {x, y}, {x, x, y}, {sign(3), y, num(0)}, {sign(3), num(0), y}, {sign(5), num(1), x, y}, {sign(6), x, y, num(1)},
		{sign(7), num(1), x, y, y}, {sign(7), num(0), y, x, y}, {sign(7), arg(0), x, y, y}, {sign(3), num(1), num(2)}, {sign(6), num(1), num(0)}, {sign(4), y, y},
		{x}, {y, y}, {sign(3), y}, {num(7), num(8)}, {}, {{}},
	} {
		held := string(room)
		whole := append(slices.Clone(tree), num(100), y, sign(3), num(101))
		before := slices.Clone(whole)
		list := whole[:len(tree)]
		for range 2 {
			mustBeNewFolded(t, list)
			impl.Pure(list)
		}
		if string(room) != held || !slices.Equal(whole, before) {
			t.Errorf("%q, or the room behind it, was written into", impl.ShowTree(tree))
		}
	}
}

func mustBeNewPackage(t *testing.T, p impl.Package) {
	t.Helper()
	first, again := impl.FoldedPackage(p), impl.FoldedPackage(p)
	want := packageCopied(again)
	texts := textsOfPackage(first)
	mustShareNoText(t, "folded, with the Package", texts, textsOfPackage(p))
	mustShareNoText(t, "folded, with another answer", texts, textsOfPackage(again))
	for i, text := range texts {
		mustShareNoText(t, "folded, within one answer", []string{text}, texts[:i])
	}
	for i := range first.Funcs {
		treeOverwritten(first.Funcs[i].Tree)
		for k := i + 1; k < len(first.Funcs); k++ {
			if !sameFunc(first.Funcs[k], want.Funcs[k]) {
				t.Errorf("the Trees %d and %d share memory", i, k)
			}
		}
	}
	overwritten(first)
	if !samePackage(again, want) || !samePackage(impl.FoldedPackage(p), want) {
		t.Error("a folded Package is handed out twice")
	}
}

// Promise 21.
func TestFoldedPackagesAreNewMemoryAndArgumentsStay(t *testing.T) {
	room := make([]byte, 1000)
	for _, list := range laidChecks(t, room) {
		held, before := string(room), projectCopied(list)
		imports, funcs, nodes := behind(list)
		for range 2 {
			for _, p := range list {
				mustBeNewPackage(t, p)
				spoilt := p
				spoilt.Name = "Main"
				mustFoldPackage(t, spoilt, impl.Package{})
			}
		}
		importsNow, funcsNow, nodesNow := behind(list)
		if string(room) != held || !slices.EqualFunc(list, before, samePackage) ||
			!slices.Equal(imports, importsNow) || !slices.EqualFunc(funcs, funcsNow, sameFunc) || !slices.Equal(nodes, nodesNow) {
			t.Error("an argument, or the room behind it, was written into")
		}
	}
	mustBeNewPackage(t, lib())
	mustBeNewPackage(t, impl.Package{})
}

// Promise 21: nothing is kept of what was folded ahead, though the same memory
// holds another tree now.
func TestFoldKeepsNothing(t *testing.T) {
	tree := treeIn(t, "+ 1 2")
	mustFoldTo(t, tree, treeIn(t, "3"))
	tree[0] = sign(5)
	mustFoldTo(t, tree, treeIn(t, "2"))
	tree[2] = arg(0)
	mustFoldTo(t, tree, treeIn(t, "$0"))
	tree[0] = sign(6)
	mustFoldTo(t, tree, treeIn(t, "/ 1 $0"))
	tree[2] = num(0)
	mustFoldTo(t, tree, treeIn(t, "/ 1 0"))
	if impl.Pure(tree) {
		t.Error("by 0 it is Pure")
	}
	tree[2] = num(1)
	mustFoldTo(t, tree, treeIn(t, "1"))
	if !impl.Pure(tree) {
		t.Error("by 1 it is not Pure")
	}
	tree[2] = impl.Node{}
	mustFoldToNothing(t, tree)
}

// Promise 21: whatever they are given, they answer.
func TestFoldAnswersAtEveryArgument(t *testing.T) {
	c := chance(109)
	nodes := wrongNodes()
	for _, r := range rightNodes {
		nodes = append(nodes, r.node)
	}
	trees, others := 0, 0
	for range 20000 {
		list := []impl.Node{}
		for range c.below(8) {
			list = append(list, nodes[len(nodes)-1-c.below(len(rightNodes)+1)])
		}
		before := slices.Clone(list)
		if impl.TreeOk(list) {
			trees++
			mustFoldTo(t, list, foldBy(&c, list))
			if impl.Pure(list) != pureBy(list) {
				t.Errorf("Pure of %q is not %v", impl.ShowTree(list), pureBy(list))
			}
		} else {
			others++
			mustFoldToNothing(t, list)
		}
		if !slices.Equal(list, before) {
			t.Error("a list is another one now")
		}
	}
	if trees < 1000 || others < 1000 {
		t.Errorf("%d were trees, %d were not", trees, others)
	}
	for range 2000 {
		list := rightProject(&c, 1+c.below(4))
		if c.below(3) == 0 {
			mistaken(&c, list)
		}
		for i, p := range list {
			f := &list[i].Funcs[c.below(len(p.Funcs))]
			switch c.below(8) {
			case 0:
				f.Tree[c.below(len(f.Tree))] = nodes[c.below(len(nodes))]
			case 1:
				f.Name = noNames[c.below(len(noNames))]
			case 2:
				f.Args = int64(c.below(7)) - 1
			}
			want := impl.Package{}
			if impl.PackageOk(list[i]) {
				want = packageFoldedBy(&c, list[i])
			}
			mustFoldPackage(t, list[i], want)
		}
	}
}

func TestFoldAnswersAtGreatArguments(t *testing.T) {
	mustFoldToNothing(t, chained(1000000))
	mustFoldToNothing(t, slices.Repeat([]impl.Node{sign(7)}, 1000000))
	mustFoldToNothing(t, slices.Repeat([]impl.Node{num(1)}, 1000000))
	mustFoldToNothing(t, []impl.Node{call(strings.Repeat("a", 1000000), "f", 0)})
	p := lib()
	p.Funcs = slices.Repeat(p.Funcs, 100000)
	mustFoldPackage(t, p, impl.Package{})
	p = lib()
	p.Imports = slices.Repeat(p.Imports, 100000)
	mustFoldPackage(t, p, impl.Package{})
	p = lib()
	p.Funcs[1].Tree = chained(1000000)
	mustFoldPackage(t, p, impl.Package{})
	p = lib()
	p.Name = strings.Repeat("a", 1000000)
	mustFoldPackage(t, p, impl.Package{})
}
