package tests

import (
	"math"
	"slices"
	"strconv"
	"strings"
	"testing"

	"loop.example/g00346/impl"
)

// someOrders are numbers that an order may be: 0, 1, and others, which are as
// 1 is, though some of them would be 0 in fewer bits.
var someOrders = []int64{0, 1, 2, -1, -2, 7, 256, 65536, 1 << 32, -1 << 32, 1 << 62, math.MinInt64, math.MaxInt64}

func isOfTwo(n impl.Node) bool {
	return slices.Contains([]int64{3, 4, 5, 6}, n.Kind)
}

// takingOf goes by the document's sentence for Need.
func takingOf(p parted) int64 {
	all := []int64{1}
	for i, part := range p.parts {
		much := takingOf(part)
		if p.node.Kind == 8 {
			much += int64(i)
		}
		all = append(all, much)
	}
	if isOfTwo(p.node) && all[1] == all[2] {
		return all[1] + 1
	}
	return slices.Max(all)
}

// touched works it out register by register: what p gives comes into r, and
// what comes next keeps off what is held there. It answers the highest
// register that was written to.
func touched(p parted, orders []int64, r int64) int64 {
	highest := r
	into := func(part parted, r int64) {
		highest = max(highest, touched(part, orders, r))
	}
	switch {
	case isOfTwo(p.node) && orders[p.at] == 0:
		into(p.parts[0], r)
		into(p.parts[1], r+1)
	case isOfTwo(p.node):
		into(p.parts[1], r)
		into(p.parts[0], r+1)
	case p.node.Kind == 8:
		for i, part := range p.parts {
			into(part, r+int64(i))
		}
	default:
		for _, part := range p.parts {
			into(part, r)
		}
	}
	return highest
}

func needBy(tree []impl.Node) int64 {
	p, _ := partedOf(tree, 0)
	return takingOf(p)
}

func needByOrders(tree []impl.Node, orders []int64) int64 {
	p, _ := partedOf(tree, 0)
	return touched(p, orders, 0) + 1
}

func firstBy(tree []impl.Node, at int) int64 {
	p, _ := partedOf(tree, at)
	switch {
	case !isOfTwo(p.node):
		return -1
	case takingOf(p.parts[0]) >= takingOf(p.parts[1]):
		return 0
	}
	return 1
}

// firstOrders are FirstPart of each Node; what it says of other kinds stands
// there too, as it must not matter.
func firstOrders(tree []impl.Node) []int64 {
	orders := []int64{}
	for at := range tree {
		orders = append(orders, impl.FirstPart(tree, int64(at)))
	}
	return orders
}

func mustTakeTree(t *testing.T, tree []impl.Node, want int64) {
	t.Helper()
	if got := impl.Need(tree); got != want {
		t.Errorf("Need of %q is %d, not %d", impl.ShowTree(tree), got, want)
	}
}

func mustTake(t *testing.T, text string, want int64) {
	t.Helper()
	mustTakeTree(t, treeIn(t, text), want)
}

func mustTakeTreeBy(t *testing.T, tree []impl.Node, orders []int64, want int64) {
	t.Helper()
	if got := impl.NeedBy(tree, orders); got != want {
		t.Errorf("NeedBy of %q and %v is %d, not %d", impl.ShowTree(tree), orders, got, want)
	}
}

func mustTakeBy(t *testing.T, text string, want int64, orders ...int64) {
	t.Helper()
	mustTakeTreeBy(t, treeIn(t, text), orders, want)
}

func mustGoFirst(t *testing.T, text string, want ...int64) {
	t.Helper()
	tree := treeIn(t, text)
	if got := firstOrders(tree); !slices.Equal(got, want) {
		t.Errorf("FirstPart of each Node of %q is %v, not %v", text, got, want)
	}
	mustHaveNoneOutside(t, tree)
}

func mustHaveNoneOutside(t *testing.T, tree []impl.Node) {
	t.Helper()
	for _, at := range outside(len(tree)) {
		if at >= 0 && at < int64(len(tree)) {
			continue
		}
		if got := impl.FirstPart(tree, at); got != -1 {
			t.Errorf("FirstPart of %d Nodes at %d is %d", len(tree), at, got)
		}
	}
}

// mustTakeNothing asks each of the three of what is no tree.
func mustTakeNothing(t *testing.T, list []impl.Node) {
	t.Helper()
	mustTakeTree(t, list, 0)
	for _, many := range []int{len(list), len(list) - 1, len(list) + 1, 0} {
		mustTakeTreeBy(t, list, make([]int64, max(many, 0)), 0)
		mustTakeTreeBy(t, list, slices.Repeat([]int64{1}, max(many, 0)), 0)
	}
	mustTakeTreeBy(t, list, nil, 0)
	for at := range min(len(list), 100) {
		if got := impl.FirstPart(list, int64(at)); got != -1 {
			t.Errorf("FirstPart of %d Nodes that are no tree, at %d, is %d", len(list), at, got)
		}
	}
	mustHaveNoneOutside(t, list)
}

// takers are trees of which it is told by hand how many registers they take,
// whatever the order.
var takers = map[int64][]string{
	1: {"0", "-2147483648", "$2", "@lib.f/0", "@lib.f/1 1", "? 1 2 3", "? $0 ? 1 2 3 @lib.f/1 4"},
	2: {"+ 1 2", "/ $0 0", "- * 1 2 3", "@lib.f/2 1 2", "@lib.f/1 + 1 2", "? 1 * 1 2 3", "? - 1 2 3 4", "? 1 2 / 3 4"},
	3: {"+ + 1 2 * 3 4", "- @lib.f/2 1 2 / 3 4", "@lib.f/3 1 2 3", "@lib.f/2 1 + 2 3", "? 1 2 @lib.f/3 1 2 3"},
	4: {"@lib.f/3 1 2 + 3 4", "@lib.f/2 1 @lib.f/3 1 2 3", "+ @lib.f/3 1 2 3 @lib.f/3 4 5 6"},
	5: {"@lib.f/3 1 2 @lib.f/3 3 4 5", "? @lib.f/2 1 @lib.f/3 1 2 + 3 4 5 6"},
}

func TestNeedOfLeaves(t *testing.T) {
	leaves := []string{"$0", "$1", "$2", "@lib.f/0"}
	for _, word := range edgeWords {
		leaves = append(leaves, strconv.FormatInt(word, 10))
	}
	for _, leaf := range leaves {
		mustTake(t, leaf, 1)
		mustGoFirst(t, leaf, -1)
		for _, order := range someOrders {
			mustTakeBy(t, leaf, 1, order)
		}
	}
}

func TestNeedOfTakers(t *testing.T) {
	for want, texts := range takers {
		for _, text := range texts {
			mustTake(t, text, want)
			tree := treeIn(t, text)
			mustTakeTreeBy(t, tree, firstOrders(tree), want)
		}
	}
}

// eachTakers tells of two trees, and how many each of them takes.
func eachTakers(tell func(a, b string, takesA, takesB int64)) {
	for takesA, as := range takers {
		for takesB, bs := range takers {
			for _, a := range as {
				for _, b := range bs {
					tell(a, b, takesA, takesB)
				}
			}
		}
	}
}

func TestNeedOfPairs(t *testing.T) {
	eachTakers(func(a, b string, takesA, takesB int64) {
		want, first := max(takesA, takesB), int64(0)
		if takesA == takesB {
			want++
		}
		if takesA < takesB {
			first = 1
		}
		for _, pair := range []string{"+ ", "- ", "* ", "/ "} {
			mustTake(t, pair+a+" "+b, want)
			if got := impl.FirstPart(treeIn(t, pair+a+" "+b), 0); got != first {
				t.Errorf("FirstPart of %q is %d, not %d", pair+a+" "+b, got, first)
			}
		}
	})
	mustTake(t, "+ 1 2", 2)
	mustTake(t, "- + 1 2 3", 2)
	mustTake(t, "* 1 + 2 3", 2)
	mustTake(t, "/ + 1 2 + 3 4", 3)
	mustTake(t, "+ + + 1 2 + 3 4 + 5 6", 3)
	mustTake(t, "+ + 5 6 + + 1 2 + 3 4", 3)
	mustTake(t, "+ + + 1 2 + 3 4 + + 5 6 + 7 8", 4)
}

func TestNeedByOfPairs(t *testing.T) {
	eachTakers(func(a, b string, takesA, takesB int64) {
		for _, pair := range []string{"+ ", "- ", "* ", "/ "} {
			tree := treeIn(t, pair+a+" "+b)
			orders := firstOrders(tree)
			for _, order := range someOrders {
				orders[0] = order
				want := max(takesB, takesA+1)
				if order == 0 {
					want = max(takesA, takesB+1)
				}
				mustTakeTreeBy(t, tree, orders, want)
			}
		}
	})
	mustTakeBy(t, "+ + 1 2 3", 2, 0, 0, 0, 0, 0)
	mustTakeBy(t, "+ + 1 2 3", 3, 1, 0, 0, 0, 0)
	mustTakeBy(t, "+ + 1 2 3", 3, -1, 1, 0, 0, 0)
	mustTakeBy(t, "+ 1 + 2 3", 3, 0, 0, 0, 0, 0)
	mustTakeBy(t, "+ 1 + 2 3", 2, 1, 0, 0, 0, 0)
	mustTakeBy(t, "+ 1 + 2 3", 2, 2, 0, 1, 0, 0)
	mustTakeBy(t, "+ 1 + + 2 3 + 4 5", 4, 0, 0, 0, 0, 0, 0, 0, 0, 0)
	mustTakeBy(t, "+ 1 + + 2 3 + 4 5", 3, 1, 0, 0, 0, 0, 0, 0, 0, 0)
	mustTakeBy(t, "+ 1 - 2 * 3 / 4 5", 5, 0, 0, 0, 0, 0, 0, 0, 0, 0)
	mustTakeBy(t, "+ 1 - 2 * 3 / 4 5", 4, 0, 0, 0, 0, 1, 0, 0, 0, 0)
	mustTakeBy(t, "+ 1 - 2 * 3 / 4 5", 4, 1, 0, 0, 0, 0, 0, 0, 0, 0)
	mustTakeBy(t, "+ 1 - 2 * 3 / 4 5", 2, 1, 0, 1, 0, 1, 0, 1, 0, 0)
}

func TestNeedOfIf(t *testing.T) {
	eachTakers(func(a, b string, takesA, takesB int64) {
		for _, c := range []string{"5", "+ $0 6", "@lib.f/3 1 2 3"} {
			want := max(takesA, takesB, needBy(treeIn(t, c)))
			for _, text := range []string{"? " + a + " " + b + " " + c, "? " + a + " " + c + " " + b, "? " + c + " " + a + " " + b} {
				mustTake(t, text, want)
				tree := treeIn(t, text)
				orders := firstOrders(tree)
				for _, order := range someOrders {
					orders[0] = order
					mustTakeTreeBy(t, tree, orders, want)
				}
				if got := impl.FirstPart(tree, 0); got != -1 {
					t.Errorf("FirstPart of %q is %d", text, got)
				}
			}
		}
	})
	mustTake(t, "? 1 2 3", 1)
	mustTake(t, "? + 1 2 + 3 4 + 5 6", 2)
	mustTake(t, "+ ? 1 2 3 ? 4 5 6", 2)
	mustTake(t, "? ? ? 1 2 3 4 5 6 7", 1)
}

func TestNeedOfCalls(t *testing.T) {
	eachTakers(func(a, b string, takesA, takesB int64) {
		for text, want := range map[string]int64{
			"@lib.f/1 " + a:                  takesA,
			"@lib.f/2 " + a + " " + b:        max(takesA, takesB+1),
			"@lib.f/3 " + a + " " + b + " 1": max(takesA, takesB+1, 3),
			"@lib.f/3 " + a + " 1 " + b:      max(takesA, takesB+2),
			"@lib.f/3 1 " + a + " " + b:      max(takesA+1, takesB+2),
		} {
			mustTake(t, text, want)
			tree := treeIn(t, text)
			orders := firstOrders(tree)
			for _, order := range someOrders {
				orders[0] = order
				mustTakeTreeBy(t, tree, orders, want)
			}
			if got := impl.FirstPart(tree, 0); got != -1 {
				t.Errorf("FirstPart of %q is %d", text, got)
			}
		}
	})
	mustTake(t, "@lib.f/0", 1)
	mustTake(t, "@lib.f/1 5", 1)
	mustTake(t, "@lib.f/2 5 6", 2)
	mustTake(t, "@lib.f/3 5 6 7", 3)
	mustTake(t, "@lib.f/3 + 1 2 6 7", 3)
	mustTake(t, "@lib.f/3 5 + 1 2 7", 3)
	mustTake(t, "@lib.f/3 5 6 + 1 2", 4)
	mustTake(t, "@lib.f/3 + + 1 2 + 3 4 6 7", 3)
	mustTake(t, "@lib.f/3 5 + + 1 2 + 3 4 7", 4)
	mustTake(t, "@lib.f/3 @a.b/0 @a.b/0 @a.b/0", 3)
	mustTake(t, "+ @lib.f/0 @lib.f/0", 2)
}

func TestNeedSeveralDeep(t *testing.T) {
	mustTake(t, "+ 1 + + 2 3 + 4 5", 3)
	mustTake(t, "+ * 1 $0 ? - 3 3 5 / 4 0", 3)
	mustTake(t, "? $0 + 1 @lib.f/1 -2 7", 2)
	mustTake(t, "- @lib.f/2 + 1 2 + 3 4 ? $0 * + 1 2 + 3 4 5", 4)
	mustTake(t, "@lib.f/2 ? 1 2 3 @lib.f/2 ? 1 2 3 @lib.f/2 ? 1 2 3 4", 4)
	mustTake(t, "@lib.f/2 @lib.f/2 @lib.f/2 1 2 3 4", 2)
	mustTake(t, "+ 1 @lib.f/3 1 2 @lib.f/3 3 4 5", 5)
	mustTake(t, "+ @lib.f/3 1 2 @lib.f/3 3 4 5 @lib.f/3 1 2 @lib.f/3 3 4 5", 6)
	mustGoFirst(t, "+ 1 + + 2 3 + 4 5", 1, -1, 0, 0, -1, -1, 0, -1, -1)
	mustGoFirst(t, "- - 1 2 3", 0, 0, -1, -1, -1)
	mustGoFirst(t, "* 1 / 2 3", 1, -1, 0, -1, -1)
	mustGoFirst(t, "/ 1 ? 2 3 4", 0, -1, -1, -1, -1, -1)
	mustGoFirst(t, "? + 1 2 / $0 @lib.f/2 1 2 @lib.f/1 - 3 * 4 5", -1, 0, -1, -1, 1, -1, -1, -1, -1, -1, 1, -1, 0, -1, -1)
}

// What a greater part goes to is never more than it has Nodes; and each limit
// of 60 Nodes is met.
func TestNeedOfTheGreatest(t *testing.T) {
	mustTakeTree(t, chained(60), 1)
	mustTake(t, strings.Repeat("? 1 2 ", 19)+"3", 1)
	right, left := strings.Repeat("+ 1 ", 29)+"1", strings.Repeat("+ ", 29)+"1"+strings.Repeat(" 1", 29)
	mustTake(t, right, 2)
	mustTake(t, left, 2)
	zeros, ones := make([]int64, 59), slices.Repeat([]int64{1}, 59)
	mustTakeBy(t, right, 30, zeros...)
	mustTakeBy(t, right, 2, ones...)
	mustTakeBy(t, left, 2, zeros...)
	mustTakeBy(t, left, 30, ones...)
	whole := "1"
	for want := int64(2); want <= 5; want++ {
		whole = "- " + whole + " " + whole
		mustTake(t, whole, want)
		mustTakeBy(t, whole, want, make([]int64, 1<<want-1)...)
		mustTakeBy(t, whole, want, slices.Repeat([]int64{-1}, 1<<want-1)...)
	}
	mustTake(t, strings.Repeat("@lib.f/2 1 ", 29)+"1", 30)
	mustTake(t, strings.Repeat("@lib.f/3 1 1 ", 19)+"1", 39)
	mustTake(t, strings.Repeat("@lib.f/3 1 1 ", 19)+"+ 1 1", 40)
	mustTakeBy(t, strings.Repeat("@lib.f/3 1 1 ", 19)+"+ 1 1", 40, make([]int64, 60)...)
	mustTake(t, "@lib.f/2 1 "+strings.Repeat("@lib.f/3 1 1 ", 19)+"1", 40)
}

func TestNeedOfWhatIsNotTreeOk(t *testing.T) {
	mustTakeNothing(t, nil)
	mustTakeNothing(t, []impl.Node{})
	mustTakeNothing(t, []impl.Node{num(1), num(2)})
	mustTakeNothing(t, []impl.Node{sign(3), num(1)})
	mustTakeNothing(t, []impl.Node{sign(3), num(1), num(2), num(3)})
	mustTakeNothing(t, []impl.Node{num(3), sign(3), num(1), num(2)})
	mustTakeNothing(t, []impl.Node{sign(7), num(1), num(2)})
	mustTakeNothing(t, []impl.Node{call("lib", "f", 1)})
	for _, many := range []int{61, 62, 100, 100000} {
		mustTakeNothing(t, chained(many))
	}
	mustTakeNothing(t, append(slices.Repeat([]impl.Node{sign(3), num(0)}, 30), num(0)))
	for _, n := range wrongNodes() {
		mustTakeNothing(t, []impl.Node{n})
		mustTakeNothing(t, []impl.Node{n, num(1)})
		mustTakeNothing(t, []impl.Node{n, num(1), num(2)})
		mustTakeNothing(t, []impl.Node{n, num(1), num(2), num(3)})
		mustTakeNothing(t, []impl.Node{sign(3), n, num(0)})
		mustTakeNothing(t, []impl.Node{sign(3), num(0), n})
		// Though the pair there has right parts.
		mustTakeNothing(t, []impl.Node{sign(4), sign(3), num(1), num(2), n})
		mustTakeNothing(t, []impl.Node{sign(7), num(0), n, num(5)})
	}
	for _, g := range manyTrees() {
		list := g.nodes()
		mustTakeNothing(t, list[:len(list)-1])
		mustTakeNothing(t, append(slices.Clone(list), num(1)))
		mustTakeNothing(t, append([]impl.Node{num(1)}, list...))
	}
}

func TestNeedByOfOtherCounts(t *testing.T) {
	trees := [][]impl.Node{{num(1)}, treeIn(t, "+ 1 2"), treeIn(t, "@lib.f/3 1 2 3"), chained(60)}
	for _, g := range manyTrees() {
		trees = append(trees, g.nodes())
	}
	for _, tree := range trees {
		for _, many := range []int{0, 1, len(tree) - 1, len(tree), len(tree) + 1, 2 * len(tree), 59, 60, 61, 256 + len(tree), 65536 + len(tree)} {
			orders := make([]int64, many)
			want := int64(0)
			if many == len(tree) {
				want = needByOrders(tree, orders)
			}
			if got := impl.NeedBy(tree, orders); got != want {
				t.Errorf("NeedBy of %q and %d orders is %d, not %d", impl.ShowTree(tree), many, got, want)
			}
		}
		mustTakeTreeBy(t, tree, nil, 0)
	}
}

// allTrees are all trees of up to this many Nodes out of these.
func allTrees(most int, nodes ...impl.Node) [][]impl.Node {
	// rows[n][k] are k trees one behind the other, with n Nodes in all.
	rows := make([][4][][]impl.Node, most+1)
	rows[0][0] = [][]impl.Node{{}}
	all := [][]impl.Node{}
	for many := 1; many <= most; many++ {
		trees := [][]impl.Node{}
		for _, n := range nodes {
			kids := []int{0, 0, 0, 2, 2, 2, 2, 3, int(n.A)}[n.Kind]
			for _, row := range rows[many-1][kids] {
				trees = append(trees, append([]impl.Node{n}, row...))
			}
		}
		rows[many][1] = trees
		for kids := 2; kids <= 3; kids++ {
			for first := 1; first < many; first++ {
				for _, a := range rows[first][1] {
					for _, row := range rows[many-first][kids-1] {
						rows[many][kids] = append(rows[many][kids], slices.Concat(a, row))
					}
				}
			}
		}
		all = append(all, trees...)
	}
	return all
}

// placesOfTwo are where orders matter.
func placesOfTwo(tree []impl.Node) []int {
	places := []int{}
	for at, n := range tree {
		if isOfTwo(n) {
			places = append(places, at)
		}
	}
	return places
}

// mustTakeNoFewer tries all orders of 0 and 1 at these places: none takes
// fewer than Need, one of them just as many, and so does that by FirstPart.
func mustTakeNoFewer(t *testing.T, tree []impl.Node, places []int) {
	t.Helper()
	need, least := impl.Need(tree), int64(math.MaxInt64)
	orders := make([]int64, len(tree))
	for bits := range 1 << len(places) {
		for i, at := range places {
			orders[at] = int64(bits >> i & 1)
		}
		takes := impl.NeedBy(tree, orders)
		if takes < need {
			t.Errorf("by %v %q takes %d, fewer than %d", orders, impl.ShowTree(tree), takes, need)
		}
		if want := needByOrders(tree, orders); takes != want {
			t.Errorf("by %v %q takes %d, not %d", orders, impl.ShowTree(tree), takes, want)
		}
		least = min(least, takes)
	}
	if least != need {
		t.Errorf("%q takes %d at least, and Need is %d", impl.ShowTree(tree), least, need)
	}
	mustTakeTreeBy(t, tree, firstOrders(tree), need)
}

// Promise 12: all trees of up to 6 Nodes, with all orders at all Nodes.
func TestNoOrderOfShortTreesTakesFewerThanNeed(t *testing.T) {
	trees := allTrees(6, num(1), arg(0), sign(3), sign(6), sign(7), call("lib", "f", 0), call("lib", "f", 1), call("lib", "f", 2), call("lib", "f", 3))
	if len(trees) < 5000 {
		t.Fatalf("there were %d trees", len(trees))
	}
	for _, tree := range trees {
		places := []int{}
		for at := range tree {
			places = append(places, at)
		}
		mustTakeNoFewer(t, tree, places)
	}
}

// Promise 12: trees of one leaf that are less short.
func TestNoOrderOfTreesTakesFewerThanNeed(t *testing.T) {
	for _, trees := range [][][]impl.Node{
		allTrees(11, num(1), sign(4), sign(7), call("lib", "f", 2), call("lib", "f", 3)),
		allTrees(15, num(1), sign(5)),
		allTrees(10, num(1), sign(3), call("lib", "f", 1)),
	} {
		if len(trees) < 600 {
			t.Fatalf("there were %d trees", len(trees))
		}
		for _, tree := range trees {
			mustTakeNoFewer(t, tree, placesOfTwo(tree))
		}
	}
}

// mustGoAsTold holds FirstPart of each Node against what it is of parts that
// are cut out of the tree: the one that goes first needs no less.
func mustGoAsTold(t *testing.T, tree []impl.Node) {
	t.Helper()
	for at, first := range firstOrders(tree) {
		if want := firstBy(tree, at); first != want {
			t.Errorf("FirstPart of %q at %d is %d, not %d", impl.ShowTree(tree), at, first, want)
		}
		if !isOfTwo(tree[at]) {
			continue
		}
		p, end := partedOf(tree, at)
		second := p.parts[1].at
		needs := []int64{impl.Need(tree[at+1 : second]), impl.Need(tree[second:end])}
		if needs[0] < 1 || needs[1] < 1 || first == 0 && needs[0] < needs[1] || first == 1 && needs[1] <= needs[0] {
			t.Errorf("of %q at %d part %d goes first, and they need %v", impl.ShowTree(tree), at, first, needs)
		}
	}
	mustHaveNoneOutside(t, tree)
}

// pairedTree is mostly of pairs and calls, so that it takes more than most.
func pairedTree(c *chance, deep int) []impl.Node {
	n := num(int64(c.below(9)))
	kids := 0
	switch pick := c.below(10); {
	case deep == 0:
	case pick < 7:
		n, kids = sign(3+int64(c.below(4))), 2
	case pick < 8:
		n, kids = sign(7), 3
	case pick < 9:
		kids = c.below(4)
		n = call("lib", "f", int64(kids))
	}
	tree := []impl.Node{n}
	for range kids {
		tree = append(tree, pairedTree(c, deep-1)...)
	}
	return tree
}

// Promise 12, of trees of each size, by orders of any numbers.
func TestNeedOfManyTrees(t *testing.T) {
	c := chance(113)
	trees := [][]impl.Node{}
	for _, g := range manyTrees() {
		trees = append(trees, g.nodes())
	}
	for len(trees) < 1500 {
		if tree := pairedTree(&c, 3+c.below(4)); len(tree) > 5 && len(tree) <= 60 {
			trees = append(trees, tree)
		}
	}
	seen, more := map[int64]int{}, 0
	for _, tree := range trees {
		need := needBy(tree)
		seen[need]++
		mustTakeTree(t, tree, need)
		mustGoAsTold(t, tree)
		mustTakeTreeBy(t, tree, firstOrders(tree), need)
		for range 10 {
			orders := []int64{}
			for range tree {
				orders = append(orders, someOrders[c.below(len(someOrders))*c.below(2)])
			}
			want := needByOrders(tree, orders)
			mustTakeTreeBy(t, tree, orders, want)
			if want < need {
				t.Errorf("by %v %q takes %d, fewer than %d", orders, impl.ShowTree(tree), want, need)
			}
			if want > need {
				more++
			}
		}
	}
	if seen[1] < 20 || seen[2] < 100 || seen[3] < 200 || seen[4] < 200 || seen[5] < 50 || seen[6] < 10 || more < 2000 {
		t.Errorf("of each Need there were %v, and %d took more by their orders", seen, more)
	}
}

// What stands at other kinds does not matter, nor which of the numbers that
// are not 0 it is.
func TestNeedByAsksPairsAlone(t *testing.T) {
	c := chance(127)
	for _, g := range manyTrees() {
		tree := g.nodes()
		bare := make([]int64, len(tree))
		for _, at := range placesOfTwo(tree) {
			bare[at] = int64(c.below(2))
		}
		want := impl.NeedBy(tree, bare)
		for range 5 {
			orders := slices.Clone(bare)
			for at, n := range tree {
				if !isOfTwo(n) {
					orders[at] = someOrders[c.below(len(someOrders))]
				} else if bare[at] == 1 {
					orders[at] = someOrders[1+c.below(len(someOrders)-1)]
				}
			}
			mustTakeTreeBy(t, tree, orders, want)
		}
	}
}

// Which of the four kinds it is, and which leaf, does not matter.
func TestNeedAsksShapesAlone(t *testing.T) {
	c := chance(131)
	for _, g := range manyTrees() {
		tree := g.nodes()
		other := slices.Clone(tree)
		for at, n := range tree {
			switch {
			case isOfTwo(n):
				other[at] = sign(3 + int64(c.below(4)))
			case n.Kind <= 2:
				other[at] = []impl.Node{num(0), num(leastWord), arg(2), call("a", "b", 0)}[c.below(4)]
			}
		}
		mustTakeTree(t, other, impl.Need(tree))
		if !slices.Equal(firstOrders(other), firstOrders(tree)) {
			t.Errorf("of %q and %q other parts go first", impl.ShowTree(tree), impl.ShowTree(other))
		}
	}
}

// Promise 21: names are laid over bytes of the test's own, and there is room
// behind the lists, so that a write into any of them would be seen.
func TestNeedArgumentsStay(t *testing.T) {
	room := make([]byte, 60)
	texts := laidOver(room, "package", "name", "lib", "f", "spare room")
	x, y := call(texts[0], texts[1], 2), call(texts[2], texts[3], 0)
	for _, tree := range [][]impl.Node{
		{y}, {num(7)}, {arg(1)}, {x, y, y}, {sign(3), y, num(0)}, {sign(3), num(0), sign(6), y, num(2)}, {sign(5), x, y, y, x, num(1), y},
		{sign(7), num(1), x, y, y, y}, {x, sign(3), y, y, sign(4), y, x, y, y}, {x}, {y, y}, {sign(3), y}, {num(7), num(8)}, {}, {{}},
	} {
		held := string(room)
		whole := append(slices.Clone(tree), num(100), y, sign(3), num(101))
		orders := append(slices.Repeat([]int64{1, 0, -5}, 20)[:len(tree)], 103, 104, 105, 106)
		before, ordersBefore := slices.Clone(whole), slices.Clone(orders)
		need, by, first := impl.Need(whole[:len(tree)]), impl.NeedBy(whole[:len(tree)], orders[:len(tree)]), firstOrders(whole[:len(tree)])
		for range 2 {
			mustTakeTree(t, whole[:len(tree)], need)
			mustTakeTreeBy(t, whole[:len(tree)], orders[:len(tree)], by)
			mustTakeTreeBy(t, whole[:len(tree)], orders[:len(tree)+1], 0)
			if again := firstOrders(whole[:len(tree)]); !slices.Equal(again, first) {
				t.Errorf("FirstPart of each Node of %q is %v, and then %v", impl.ShowTree(tree), first, again)
			}
		}
		if string(room) != held || !slices.Equal(whole, before) || !slices.Equal(orders, ordersBefore) {
			t.Errorf("%q, its orders, or the room behind them, was written into", impl.ShowTree(tree))
		}
	}
}

// Promise 21: nothing is kept of what was asked ahead, though the same memory
// holds another tree now.
func TestNeedKeepsNothing(t *testing.T) {
	tree, orders := treeIn(t, "+ 1 + 2 3"), make([]int64, 5)
	mustTakeTree(t, tree, 2)
	mustTakeTreeBy(t, tree, orders, 3)
	orders[0] = 1
	mustTakeTreeBy(t, tree, orders, 2)
	tree[2] = call("lib", "f", 2)
	mustTakeTree(t, tree, 2)
	tree[0] = call("lib", "f", 2)
	mustTakeTree(t, tree, 3)
	mustTakeTreeBy(t, tree, orders, 3)
	tree[0], tree[1], tree[2] = sign(6), sign(6), num(2)
	mustTakeTree(t, tree, 2)
	mustTakeTreeBy(t, tree, orders, 3)
	if impl.FirstPart(tree, 0) != 0 || impl.FirstPart(tree, 1) != 0 || impl.FirstPart(tree, 2) != -1 {
		t.Errorf("FirstPart of each Node of %q is %v", impl.ShowTree(tree), firstOrders(tree))
	}
	tree[4] = impl.Node{}
	mustTakeNothing(t, tree)
}

// Promise 21: whatever they are given, they answer.
func TestNeedAnswersAtEveryArgument(t *testing.T) {
	c := chance(137)
	nodes := wrongNodes()
	for _, r := range rightNodes {
		nodes = append(nodes, r.node)
	}
	trees, others := 0, 0
	for range 20000 {
		list, orders := []impl.Node{}, []int64{}
		for range c.below(8) {
			list = append(list, nodes[len(nodes)-1-c.below(len(rightNodes)+1)])
		}
		for range len(list) + c.below(3)*c.below(2) {
			orders = append(orders, someOrders[c.below(len(someOrders))])
		}
		before, ordersBefore := slices.Clone(list), slices.Clone(orders)
		if impl.TreeOk(list) {
			trees++
			mustTakeTree(t, list, needBy(list))
			mustGoAsTold(t, list)
			want := int64(0)
			if len(orders) == len(list) {
				want = needByOrders(list, orders)
			}
			mustTakeTreeBy(t, list, orders, want)
		} else {
			others++
			mustTakeNothing(t, list)
			mustTakeTreeBy(t, list, orders, 0)
		}
		if !slices.Equal(list, before) || !slices.Equal(orders, ordersBefore) {
			t.Error("a list is another one now")
		}
	}
	if trees < 1000 || others < 1000 {
		t.Errorf("%d were trees, %d were not", trees, others)
	}
}

func TestNeedAnswersAtGreatArguments(t *testing.T) {
	mustTakeNothing(t, chained(1000000))
	mustTakeNothing(t, slices.Repeat([]impl.Node{sign(7)}, 1000000))
	mustTakeNothing(t, slices.Repeat([]impl.Node{num(1)}, 1000000))
	mustTakeNothing(t, []impl.Node{call(strings.Repeat("a", 1000000), "f", 0)})
	mustTakeTreeBy(t, []impl.Node{num(1)}, nil, 0)
	if got := impl.NeedBy([]impl.Node{num(1)}, make([]int64, 1000000)); got != 0 {
		t.Errorf("by a million orders it takes %d", got)
	}
}
