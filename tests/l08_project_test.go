package tests

import (
	"slices"
	"strconv"
	"strings"
	"testing"

	"loop.example/g00346/impl"
)

// project has a Package of each line: its Name, and behind it its Imports.
func project(lines ...string) []impl.Package {
	list := []impl.Package{}
	for _, line := range lines {
		names := strings.Fields(line)
		list = append(list, pack(names[0], names[1:], fn("f", 0, num(1))))
	}
	return list
}

func projectCopied(list []impl.Package) []impl.Package {
	copied := []impl.Package{}
	for _, p := range list {
		copied = append(copied, packageCopied(p))
	}
	return copied
}

func linesOf(list []impl.Package) string {
	lines := []string{}
	for _, p := range list {
		lines = append(lines, strings.Join(append([]string{p.Name}, p.Imports...), " "))
	}
	return strings.Join(lines, "; ")
}

func mustBeNames(t *testing.T, what string, list []impl.Package, got []string, want string) {
	t.Helper()
	if !slices.Equal(got, strings.Fields(want)) {
		t.Errorf("%s of %.200q is %q, not %q", what, linesOf(list), got, want)
	}
}

func mustOrder(t *testing.T, want string, lines ...string) {
	t.Helper()
	list := project(lines...)
	mustBeProject(t, list, linesOf(list))
	mustBeNames(t, "Order", list, impl.Order(list), want)
}

func mustReach(t *testing.T, list []impl.Package, name, want string) {
	t.Helper()
	mustBeNames(t, "Reaches from "+name, list, impl.Reaches(list, name), want)
}

func mustNeed(t *testing.T, list []impl.Package, name, want string) {
	t.Helper()
	mustBeNames(t, "Needs of "+name, list, impl.Needs(list, name), want)
}

func mustBeProject(t *testing.T, list []impl.Package, why string) {
	t.Helper()
	if !impl.ProjectOk(list) {
		t.Errorf("%.200s: it is not ProjectOk", why)
	}
}

// mustBeNoProject asks all that hangs on ProjectOk.
func mustBeNoProject(t *testing.T, list []impl.Package, why string) {
	t.Helper()
	if impl.ProjectOk(list) {
		t.Errorf("%.200s: it is ProjectOk", why)
	}
	if got := impl.Order(list); len(got) != 0 {
		t.Errorf("%.200s: Order is %q", why, got)
	}
	names := []string{"", "a", "main"}
	for _, p := range list[:min(len(list), 10)] {
		names = append(names, p.Name)
	}
	for _, name := range names {
		if got := impl.Reaches(list, name); len(got) != 0 {
			t.Errorf("%.200s: Reaches of %q is %q", why, name, got)
		}
		if got := impl.Needs(list, name); len(got) != 0 {
			t.Errorf("%.200s: Needs of %q is %q", why, name, got)
		}
		if got := impl.CallCode(list, name, 0, call("a", "f", 0)); got != -1 {
			t.Errorf("%.200s: CallCode from %q is %d", why, name, got)
		}
		if got := answered(list, name, "f", nil, 100); got != badAnswer {
			t.Errorf("%.200s: Meant and Burnt of %q are %v", why, name, got)
		}
	}
	if got := impl.FaultOf(list); got != (impl.Fault{Code: impl.FaBad}) {
		t.Errorf("%.200s: FaultOf is %v", why, got)
	}
}

func TestProjectOkByNumberOfPackages(t *testing.T) {
	mustBeNoProject(t, nil, "nil")
	for many := range 26 {
		list := project(namesOf("p", many)...)
		if many >= 1 && many <= 8 {
			mustBeProject(t, list, strconv.Itoa(many)+" Packages")
		} else {
			mustBeNoProject(t, list, strconv.Itoa(many)+" Packages")
		}
	}
}

// All lists of up to 3 of these: alike, the wrong way round, and in order. A
// name that another one begins with stands ahead of it, whatever its length.
func TestProjectOkOfNamesThatRiseOrNot(t *testing.T) {
	rising := []string{"a", "aa", "ab", "abcdefgh", "ac", "b", "bb", "main", "z", "zzzzzzzz"}
	for i, a := range rising {
		mustBeProject(t, project(a), a)
		for j, b := range rising {
			mustBeAsItRises(t, i < j, a, b)
			for k, c := range rising {
				mustBeAsItRises(t, i < j && j < k, a, b, c)
			}
		}
	}
	for at := range 7 {
		alike, turned := namesOf("x", 8), namesOf("x", 8)
		alike[at+1] = alike[at]
		turned[at], turned[at+1] = turned[at+1], turned[at]
		mustBeAsItRises(t, false, alike...)
		mustBeAsItRises(t, false, turned...)
	}
	mustBeAsItRises(t, false, slices.Repeat([]string{"a"}, 8)...)
}

func mustBeAsItRises(t *testing.T, rises bool, names ...string) {
	t.Helper()
	if rises {
		mustBeProject(t, project(names...), strings.Join(names, ", "))
	} else {
		mustBeNoProject(t, project(names...), strings.Join(names, ", "))
	}
}

// spoilers make what is no Package of one, each by one thing alone; its Name
// stays.
var spoilers = map[string]func(*impl.Package){
	"no Funcs":         func(p *impl.Package) { p.Funcs = nil },
	"9 Funcs":          func(p *impl.Package) { p.Funcs = funcsOf(9) },
	"7 Imports":        func(p *impl.Package) { p.Imports = namesOf("p", 7) },
	"an Import twice":  func(p *impl.Package) { p.Imports = []string{"pa", "pa"} },
	"Imports turned":   func(p *impl.Package) { p.Imports = []string{"pb", "pa"} },
	"an Import's name": func(p *impl.Package) { p.Imports = []string{"Pa"} },
	"an empty Import":  func(p *impl.Package) { p.Imports = []string{""} },
	"two Funcs alike":  func(p *impl.Package) { p.Funcs = append(p.Funcs, p.Funcs[0]) },
	"a Func's Name":    func(p *impl.Package) { p.Funcs[0].Name = "F" },
	"Args 4":           func(p *impl.Package) { p.Funcs[0].Args = 4 },
	"Args -1":          func(p *impl.Package) { p.Funcs[0].Args = -1 },
	"no Tree":          func(p *impl.Package) { p.Funcs[0].Tree = nil },
	"61 nodes":         func(p *impl.Package) { p.Funcs[0].Tree = chained(61) },
	"a wrong node":     func(p *impl.Package) { p.Funcs[0].Tree = []impl.Node{arg(3)} },
}

func TestProjectOkOfOneThatIsNoPackage(t *testing.T) {
	for why, spoil := range spoilers {
		for many := 1; many <= 8; many++ {
			for at := range many {
				list := project(namesOf("p", many)...)
				spoil(&list[at])
				mustBeNoProject(t, list, why)
			}
		}
	}
	for at := range 3 {
		list := project("a", "b", "c")
		list[at] = impl.Package{}
		mustBeNoProject(t, list, "the zero Package")
	}
	mustBeNoProject(t, make([]impl.Package, 1), "the zero Package alone")
	mustBeNoProject(t, make([]impl.Package, 8), "8 zero Packages")
}

// Names that would rise, but are none.
func TestProjectOkOfWhatIsNoName(t *testing.T) {
	for _, name := range noNames {
		one := lib()
		one.Name = name
		mustBeNoProject(t, []impl.Package{one}, name)
		list := append(project("ab", "zz"), one)
		slices.SortFunc(list, func(a, b impl.Package) int { return strings.Compare(a.Name, b.Name) })
		mustBeNoProject(t, list, name)
	}
}

func TestProjectOkOfGreatPackages(t *testing.T) {
	list := []impl.Package{}
	for i, name := range namesOf("p", 8) {
		tree := chained(60 - i)
		p := pack(name, namesOf("p", 6))
		for _, f := range namesOf("f", 8) {
			p.Funcs = append(p.Funcs, fn(f, 3, tree...))
		}
		list = append(list, p)
	}
	mustBeProject(t, list, "8 Packages with 6 Imports and 8 Funcs each")
	list[7].Funcs[7].Tree = append(list[7].Funcs[7].Tree, num(1))
	mustBeNoProject(t, list, "the last node of it is one too many")
}

// Whether an Import is there, or makes a ring, is not asked.
func TestProjectOkAsksNoFurther(t *testing.T) {
	mustBeProject(t, project("a zz", "b"), "an Import that is not there")
	mustBeProject(t, project("a a"), "an Import of itself")
	mustBeProject(t, project("a b", "b a"), "a ring")
	mustBeProject(t, project("a"), "no main")
}

func TestOrderWithoutImports(t *testing.T) {
	mustOrder(t, "main", "main")
	mustOrder(t, "a", "a")
	for many := 1; many <= 8; many++ {
		names := namesOf("p", many)
		mustOrder(t, strings.Join(names, " "), names...)
	}
	mustOrder(t, "a aa ab abcdefgh ac b", "a", "aa", "ab", "abcdefgh", "ac", "b")
}

func TestOrderOfChains(t *testing.T) {
	mustOrder(t, "b a", "a b", "b")
	mustOrder(t, "a b", "a", "b a")
	mustOrder(t, "c b a", "a b", "b c", "c")
	mustOrder(t, "a b c", "a", "b a", "c b")
	mustOrder(t, "b c a", "a c", "b", "c b")
	mustOrder(t, "c a b", "a c", "b a", "c")
	mustOrder(t, "h g f e d c b a", "a b", "b c", "c d", "d e", "e f", "f g", "g h", "h")
	mustOrder(t, "a b c d e f g h", "a", "b a", "c b", "d c", "e d", "f e", "g f", "h g")
	mustOrder(t, "d a e b main", "a d", "b e", "d", "e a", "main b")
}

// One that has just become free goes ahead of those behind it by name, however
// long they have been free.
func TestOrderOfSeveralThatCouldBeNext(t *testing.T) {
	mustOrder(t, "b c a", "a c", "b", "c")
	mustOrder(t, "b a c", "a b", "b", "c")
	mustOrder(t, "a c b d", "a", "b c", "c", "d")
	mustOrder(t, "c a b d", "a c", "b c", "c", "d c")
	mustOrder(t, "b c d a", "a b c d", "b", "c", "d")
	mustOrder(t, "c d a b", "a c d", "b c d", "c", "d")
	mustOrder(t, "d b c a", "a b c", "b d", "c d", "d")
	mustOrder(t, "b d c a", "a b c", "b", "c d", "d")
	mustOrder(t, "c b e d a", "a d", "b c", "c", "d e", "e")
	mustOrder(t, "g h a b c d e f", "a g h", "b g h", "c g h", "d g h", "e g h", "f g h", "g", "h")
	mustOrder(t, "h g f e d c a b", "a c d e f g h", "b c d e f g h", "c d e f g h", "d e f g h", "e f g h", "f g h", "g h", "h")
	mustOrder(t, "b c d e f g h a", "a h", "b", "c", "d", "e", "f", "g", "h")
	mustOrder(t, "ab abc b a", "a b", "ab", "abc ab", "b")
}

func TestOrderOfImportsThatAreNotThere(t *testing.T) {
	mustOrder(t, "a", "a b")
	mustOrder(t, "a b", "a zz", "b")
	mustOrder(t, "a b c", "a x y z", "b x y z", "c x y z")
	mustOrder(t, "c a main", "a c zz", "c far", "main a zz")
	mustOrder(t, "a b", "a aa bb", "b ba")
	mustOrder(t, "ab b", "ab a abc", "b a")
	mustOrder(t, "b a c", "a b f", "b f", "c d e f g h i")
}

func TestOrderOfOneThatImportsItself(t *testing.T) {
	mustOrder(t, "", "a a")
	mustOrder(t, "b", "a a", "b")
	mustOrder(t, "a", "a", "b b")
	mustOrder(t, "a c", "a", "b a b", "c a")
	mustOrder(t, "a", "a", "b b", "c b")
	mustOrder(t, "", "a a b", "b b")
	mustOrder(t, "c a main", "a c", "b b", "c", "main a zz")
}

func TestOrderOfRings(t *testing.T) {
	mustOrder(t, "", "a b", "b a")
	mustOrder(t, "c", "a b", "b a", "c")
	mustOrder(t, "a", "a", "b a c", "c a b")
	mustOrder(t, "", "a b", "b c", "c a")
	mustOrder(t, "", "a c", "b a", "c b")
	mustOrder(t, "b", "a c", "b", "c b d", "d a")
	mustOrder(t, "a e", "a", "b c", "c d", "d a b", "e a")
	mustOrder(t, "e", "a b", "b a", "c d", "d c", "e")
	mustOrder(t, "", "a b", "b a c", "c b")
	mustOrder(t, "", "a b", "b c", "c d", "d e", "e f", "f g", "g h", "h a")
	mustOrder(t, "", "a h", "b a", "c b", "d c", "e d", "f e", "g f", "h g")
}

// Who is behind a ring is left out; who is ahead of one is not.
func TestOrderOfWhatIsBehindARing(t *testing.T) {
	mustOrder(t, "", "a b", "b b")
	mustOrder(t, "", "a a", "b a", "c b", "d c")
	mustOrder(t, "", "a b", "b c", "c b")
	mustOrder(t, "d", "a b", "b c", "c b", "d")
	mustOrder(t, "d", "a b d", "b c d", "c b", "d")
	mustOrder(t, "a d", "a", "b a c", "c b", "d a", "e b d")
	mustOrder(t, "f e g", "a b", "b c", "c d", "d b", "e f", "f", "g e", "h a g")
	mustOrder(t, "b", "a b c", "b", "c c", "main a")
	mustOrder(t, "a c", "a", "b b", "c a zz", "d b zz")
}

func TestOrderOfAllOnARing(t *testing.T) {
	mustOrder(t, "", "a a", "b b", "c c")
	mustOrder(t, "", "a b", "b a", "c d", "d c")
	mustOrder(t, "", "a b c", "b a c", "c a b")
	mustOrder(t, "", "a a b c", "b a b c", "c a b c")
	mustOrder(t, "", "a b", "b c", "c a", "d e", "e f", "f d", "g h", "h g")
}

func TestReachesOfOneThatImportsNothing(t *testing.T) {
	mustReach(t, project("a"), "a", "a")
	for many := 1; many <= 8; many++ {
		list := project(namesOf("p", many)...)
		for _, p := range list {
			mustReach(t, list, p.Name, p.Name)
			mustNeed(t, list, p.Name, "")
		}
	}
	list := project("a b c", "b", "c b")
	mustReach(t, list, "b", "b")
	mustNeed(t, list, "b", "")
}

func TestReachesOfChains(t *testing.T) {
	down := project("a b", "b c", "c d", "d e", "e f", "f g", "g h", "h")
	up := project("a", "b a", "c b", "d c", "e d", "f e", "g f", "h g")
	for i := range 8 {
		name := down[i].Name
		mustReach(t, down, name, "a b c d e f g h"[2*i:])
		mustNeed(t, down, name, "h g f e d c b a"[:2*(7-i)])
		mustReach(t, up, name, "a b c d e f g h"[:2*i+1])
		mustNeed(t, up, name, "a b c d e f g h"[:2*i])
	}
	mixed := project("a d", "b e", "d", "e a", "main b")
	mustReach(t, mixed, "main", "a b d e main")
	mustNeed(t, mixed, "main", "d a e b")
	mustReach(t, mixed, "e", "a d e")
	mustNeed(t, mixed, "e", "d a")
}

func TestReachesOfRings(t *testing.T) {
	list := project("a a", "b c", "c b", "d e", "e f", "f d g", "g", "h d")
	mustReach(t, list, "a", "a")
	mustReach(t, list, "b", "b c")
	mustReach(t, list, "c", "b c")
	for _, name := range []string{"d", "e", "f"} {
		mustReach(t, list, name, "d e f g")
	}
	mustReach(t, list, "g", "g")
	mustReach(t, list, "h", "d e f g h")
	whole := project("a b", "b c", "c d", "d e", "e f", "f g", "g h", "h a")
	for _, p := range whole {
		mustReach(t, whole, p.Name, "a b c d e f g h")
		mustNeed(t, whole, p.Name, "")
	}
	mustReach(t, project("a b", "b b"), "a", "a b")
}

func TestReachesOfTwoWaysToOne(t *testing.T) {
	list := project("a b c", "b d", "c d", "d", "e")
	mustReach(t, list, "a", "a b c d")
	mustNeed(t, list, "a", "d b c")
	mustReach(t, list, "b", "b d")
	mustNeed(t, list, "c", "d")
	long := project("a b h", "b c h", "c h", "h", "main a c h")
	mustReach(t, long, "main", "a b c h main")
	mustNeed(t, long, "main", "h c b a")
	mustReach(t, long, "b", "b c h")
	mustNeed(t, long, "b", "h c")
}

func TestReachesOfImportsThatAreNotThere(t *testing.T) {
	list := project("a c zz", "b x y z", "c far", "main a near zz")
	mustReach(t, list, "main", "a c main")
	mustNeed(t, list, "main", "c a")
	mustReach(t, list, "b", "b")
	mustNeed(t, list, "b", "")
	mustReach(t, list, "c", "c")
	mustReach(t, list, "a", "a c")
	mustNeed(t, list, "a", "c")
}

func TestReachesOfNamesThatAreNotThere(t *testing.T) {
	list := project("a c zz", "bc a", "c", "main a zz")
	for _, name := range append([]string{"zz", "b", "ab", "bcc", "f", "d", "A", "Main", "mai", "mainx", "main ", " main", "main\n", "a c", "ac"}, noNames...) {
		mustReach(t, list, name, "")
		mustNeed(t, list, name, "")
	}
	for _, name := range namesOf("x", 26) {
		mustReach(t, list, name, "")
		mustNeed(t, list, name, "")
	}
}

// It is all, or nothing: also of those that are right and ahead of the wrong
// one.
func TestReachesOfWhatIsNotProjectOk(t *testing.T) {
	for why, lines := range map[string][]string{
		"9 Packages":    {"a b", "b", "c", "d", "e", "f", "g", "h", "i"},
		"two alike":     {"a b", "b", "b"},
		"one way round": {"b", "a b"},
		"the last two":  {"a b", "b", "d", "c"},
	} {
		mustBeNoProject(t, project(lines...), why)
	}
	for why, spoil := range spoilers {
		list := project("a b c", "b", "c b", "d")
		spoil(&list[3])
		mustBeNoProject(t, list, why)
	}
}

func TestNeedsIsInOrder(t *testing.T) {
	list := project("a c", "b", "c", "d a b e", "e h", "f d", "g", "h")
	mustBeNames(t, "Order", list, impl.Order(list), "b c a g h e d f")
	mustReach(t, list, "f", "a b c d e f h")
	mustNeed(t, list, "f", "b c a h e d")
	mustNeed(t, list, "d", "b c a h e")
	mustNeed(t, list, "e", "h")
	mustNeed(t, list, "a", "c")
	mustNeed(t, list, "g", "")
}

// Who is left out of Order is not in Needs either, though it is reached.
func TestNeedsWhereSomeAreOnARing(t *testing.T) {
	list := project("a b c", "b b", "c", "d e", "e d h", "f a d g", "g h", "h")
	mustBeNames(t, "Order", list, impl.Order(list), "c h g")
	mustReach(t, list, "a", "a b c")
	mustNeed(t, list, "a", "c")
	mustReach(t, list, "b", "b")
	mustNeed(t, list, "b", "")
	mustReach(t, list, "d", "d e h")
	mustNeed(t, list, "d", "h")
	mustNeed(t, list, "e", "h")
	mustReach(t, list, "f", "a b c d e f g h")
	mustNeed(t, list, "f", "c h g")
	mustNeed(t, list, "g", "h")
	mustNeed(t, list, "h", "")
}

// A closure tells of each two whether the one imports the other, at once or
// by others in between.
type closure map[[2]string]int

func closureOf(list []impl.Package) closure {
	c := closure{}
	for _, p := range list {
		for _, name := range p.Imports {
			c[[2]string{p.Name, name}] = 1
		}
	}
	for _, by := range list {
		for _, from := range list {
			for _, to := range list {
				if c[[2]string{from.Name, by.Name}]*c[[2]string{by.Name, to.Name}] == 1 {
					c[[2]string{from.Name, to.Name}] = 1
				}
			}
		}
	}
	return c
}

func (c closure) has(from, to string) bool { return c[[2]string{from, to}] == 1 }

func (c closure) ringed(list []impl.Package, name string) bool {
	return c.has(name, name) || slices.ContainsFunc(list, func(p impl.Package) bool {
		return c.has(name, p.Name) && c.has(p.Name, p.Name)
	})
}

// mustBeInOrder holds Order against each word of what is said of it, without
// making one.
func mustBeInOrder(t *testing.T, list []impl.Package, c closure) []string {
	t.Helper()
	order := impl.Order(list)
	for i, p := range list {
		at := slices.Index(order, p.Name)
		if (at == -1) != c.ringed(list, p.Name) || slices.Index(order[at+1:], p.Name) != -1 {
			t.Errorf("Order of %q is %q: %q is there twice, or is not there, or should not be", linesOf(list), order, p.Name)
		}
		for _, other := range list {
			behind := slices.Index(order, other.Name)
			if at != -1 && slices.Contains(p.Imports, other.Name) && (behind == -1 || behind >= at) {
				t.Errorf("Order of %q is %q: %q is not behind %q", linesOf(list), order, p.Name, other.Name)
			}
		}
		// One that stands behind another, though it is ahead by name, could not
		// be next where that one was.
		for _, first := range list[i+1:] {
			ahead := slices.Index(order, first.Name)
			if at != -1 && ahead != -1 && ahead < at && couldBeNext(list, p, order[:ahead]) {
				t.Errorf("Order of %q is %q: %q could be ahead of %q", linesOf(list), order, p.Name, first.Name)
			}
		}
	}
	mustImportOneLeftOut(t, list, order)
	if !slices.Equal(order, impl.Order(list)) {
		t.Errorf("Order of %q is another one the second time", linesOf(list))
	}
	return order
}

// couldBeNext asks of one that is not in these yet.
func couldBeNext(list []impl.Package, p impl.Package, order []string) bool {
	for _, other := range list {
		if slices.Contains(p.Imports, other.Name) && !slices.Contains(order, other.Name) {
			return false
		}
	}
	return true
}

func mustImportOneLeftOut(t *testing.T, list []impl.Package, order []string) {
	t.Helper()
	out := []string{}
	for _, p := range list {
		if !slices.Contains(order, p.Name) {
			out = append(out, p.Name)
		}
	}
	if len(out)+len(order) != len(list) {
		t.Errorf("Order of %q is %q: it has others than these", linesOf(list), order)
	}
	for _, p := range list {
		imports := slices.ContainsFunc(p.Imports, func(name string) bool { return slices.Contains(out, name) })
		if slices.Contains(out, p.Name) != imports {
			t.Errorf("Order of %q is %q: %q imports one that is left out: %v", linesOf(list), order, p.Name, imports)
		}
	}
}

// mustBeAsTold asks the three of all names, by the closure alone.
func mustBeAsTold(t *testing.T, list []impl.Package) {
	t.Helper()
	if !impl.ProjectOk(list) {
		t.Fatalf("%q is not ProjectOk", linesOf(list))
	}
	before := projectCopied(list)
	c := closureOf(list)
	order := mustBeInOrder(t, list, c)
	for _, p := range list {
		reached, needed := []string{}, []string{}
		for _, other := range list {
			if other.Name == p.Name || c.has(p.Name, other.Name) {
				reached = append(reached, other.Name)
			}
		}
		for _, name := range order {
			if name != p.Name && slices.Contains(reached, name) {
				needed = append(needed, name)
			}
		}
		mustReach(t, list, p.Name, strings.Join(reached, " "))
		mustNeed(t, list, p.Name, strings.Join(needed, " "))
	}
	if !slices.EqualFunc(list, before, samePackage) {
		t.Errorf("%q is another one now", linesOf(before))
	}
}

// importing has these names, where bit number i*n+j tells whether number i
// imports number j.
func importing(names []string, bits int) []impl.Package {
	lines := slices.Clone(names)
	for i := range names {
		for j := range names {
			if bits>>(i*len(names)+j)&1 == 1 {
				lines[i] += " " + names[j]
			}
		}
	}
	return project(lines...)
}

// Promise 8, of all projects of up to 3 Packages.
func TestAllProjectsOfFew(t *testing.T) {
	for _, names := range [][]string{{"main"}, {"a", "main"}, {"a", "b", "main"}, {"ab", "abc", "b"}} {
		for bits := range 1 << (len(names) * len(names)) {
			mustBeAsTold(t, importing(names, bits))
		}
	}
}

// Promise 8, of all projects of 4 in which none imports itself, and of some
// of the others.
func TestAllProjectsOfFour(t *testing.T) {
	names := []string{"a", "b", "c", "main"}
	const selves = 1 | 1<<5 | 1<<10 | 1<<15
	for bits := range 1 << 16 {
		if bits&selves == 0 || bits%37 == 0 {
			mustBeAsTold(t, importing(names, bits))
		}
	}
}

// chosenProject has Imports that are there and some that are not, at most so
// many each. Where it is to have no ring, they import one way along a line in
// which they do not stand by name.
func chosenProject(c *chance, many, imports int, ringless bool) []impl.Package {
	along := chosenNames(c, many+3)
	names := along[3:]
	lines := []string{}
	for i, name := range names {
		could := along
		if ringless {
			could = along[:3+i]
		}
		chosen := []string{}
		for range c.below(imports + 1) {
			chosen = append(chosen, could[c.below(len(could))])
		}
		chosen = slices.Compact(slices.Sorted(slices.Values(chosen)))
		lines = append(lines, strings.Join(append([]string{name}, chosen...), " "))
	}
	list := project(lines...)
	slices.SortFunc(list, func(a, b impl.Package) int { return strings.Compare(a.Name, b.Name) })
	return list
}

// Promise 8: of each number of Packages, with few Imports or many, there or
// not.
func TestManyProjects(t *testing.T) {
	c := chance(11)
	rings, wholes := 0, 0
	for i := range 4000 {
		list := chosenProject(&c, 1+c.below(8), c.below(7), i%2 == 0)
		mustBeAsTold(t, list)
		if len(impl.Order(list)) == len(list) {
			wholes++
		} else {
			rings++
		}
	}
	if rings < 300 || wholes < 300 {
		t.Errorf("%d with a ring and %d without", rings, wholes)
	}
}

// What Funcs there are, and what they call, is no matter.
func TestOrderAsksForImportsAlone(t *testing.T) {
	list := []impl.Package{
		pack("a", nil, fn("f", 0, call("b", "f", 0)), fn("c", 3, arg(0))),
		pack("b", []string{"c"}, fn("b", 0, call("a", "f", 0))),
		pack("c", nil, fn("main", 1, call("b", "b", 0))),
	}
	mustBeAsTold(t, list)
	mustBeNames(t, "Order", list, impl.Order(list), "a c b")
	mustReach(t, list, "a", "a")
	mustNeed(t, list, "b", "c")
}

// laidProject has its texts laid over the room, and room behind each list; it
// is the first 4 of all.
func laidProject(room []byte) (list, all []impl.Package) {
	texts := laidOver(room, "a", "b", "c", "main", "spare", "f", "b", "c", "zz", "a", "c")
	tree := []impl.Node{call(texts[0], texts[5], 0), num(1), num(2)}
	all = []impl.Package{
		pack(texts[0], []string{texts[6], texts[7], texts[8]}, fn(texts[5], 0, tree...)),
		pack(texts[1], []string{texts[10], texts[8]}, fn(texts[5], 1, tree...), fn(texts[4], 2, tree...)),
		pack(texts[2], []string{texts[8], texts[0]}, fn(texts[5], 2, tree...)),
		pack(texts[3], []string{texts[9], texts[8]}, fn(texts[5], 3, tree...)),
		pack(texts[4], nil, fn(texts[5], 0, num(1))),
	}
	for i := range 4 {
		all[i].Imports = all[i].Imports[:len(all[i].Imports)-1]
		all[i].Funcs = all[i].Funcs[:1]
		all[i].Funcs[0].Tree = all[i].Funcs[0].Tree[:1]
	}
	return all[:4], all
}

// behind is what stands in the room behind the lists of these.
func behind(list []impl.Package) (imports []string, funcs []impl.Func, nodes []impl.Node) {
	for _, p := range list {
		imports = append(imports, p.Imports[:cap(p.Imports)]...)
		for _, f := range p.Funcs[:cap(p.Funcs)] {
			funcs = append(funcs, fn(f.Name, f.Args, slices.Clone(f.Tree)...))
			nodes = append(nodes, f.Tree[:cap(f.Tree)]...)
		}
	}
	return imports, funcs, nodes
}

// Promise 21.
func TestProjectFunctionsLeaveTheirArguments(t *testing.T) {
	room := make([]byte, 40)
	list, all := laidProject(room)
	held, before := string(room), projectCopied(all)
	imports, funcs, nodes := behind(all)
	for range 2 {
		mustBeProject(t, list, "it is laid over")
		mustBeNames(t, "Order", list, impl.Order(list), "c b a main")
		for i, want := range []string{"a b c", "b c", "c", "a b c main"} {
			mustReach(t, list, list[i].Name, want)
		}
		for i, want := range []string{"c b", "c", "", "c b a"} {
			mustNeed(t, list, list[i].Name, want)
		}
		mustReach(t, list, "spare", "")
		mustNeed(t, list, "spare", "")
		mustBeNoProject(t, all[1:1], "none, with room behind")
		mustBeNoProject(t, []impl.Package{list[1], list[0]}, "the wrong way round")
	}
	importsNow, funcsNow, nodesNow := behind(all)
	if string(room) != held || !slices.EqualFunc(all, before, samePackage) ||
		!slices.Equal(imports, importsNow) || !slices.EqualFunc(funcs, funcsNow, sameFunc) || !slices.Equal(nodes, nodesNow) {
		t.Error("an argument, or the room behind it, was written into")
	}
}

// Promise 21.
func TestProjectAnswersAreNewMemory(t *testing.T) {
	room := make([]byte, 40)
	list, _ := laidProject(room)
	texts := []string{}
	for _, p := range list {
		texts = append(texts, textsOfPackage(p)...)
	}
	for what, ask := range map[string]func() []string{
		"Order":           func() []string { return impl.Order(list) },
		"Reaches of main": func() []string { return impl.Reaches(list, list[3].Name) },
		"Needs of main":   func() []string { return impl.Needs(list, list[3].Name) },
		"Reaches of c":    func() []string { return impl.Reaches(list, list[2].Name) },
		"Needs of b":      func() []string { return impl.Needs(list, list[1].Name) },
		"Needs of c":      func() []string { return impl.Needs(list, list[2].Name) },
		"Reaches of none": func() []string { return impl.Reaches(list, "spare") },
		"Order of none":   func() []string { return impl.Order(nil) },
	} {
		first, again := ask(), ask()
		want := slices.Clone(again)
		mustShareNoText(t, what+", with the project", first, texts)
		mustShareNoText(t, what+", with another answer", first, again)
		for i, name := range first {
			mustShareNoText(t, what+", within one answer", []string{name}, first[:i])
		}
		for i := range first[:cap(first)] {
			first[:cap(first)][i] = "spoilt"
		}
		if !slices.Equal(again, want) || !slices.Equal(ask(), want) {
			t.Errorf("%s: the list is handed out twice", what)
		}
	}
}

// projectBy tells by itself what is a project.
func projectBy(list []impl.Package) bool {
	names := []string{}
	for _, p := range list {
		if !impl.PackageOk(p) {
			return false
		}
		names = append(names, p.Name)
	}
	rising := slices.Compact(slices.Sorted(slices.Values(names)))
	return len(list) > 0 && len(list) < 9 && slices.Equal(rising, names)
}

// Promise 21: whatever they are given, they answer.
func TestProjectsAnswerAtEveryArgument(t *testing.T) {
	c := chance(5)
	right := 0
	for range 4000 {
		list := []impl.Package{}
		for _, name := range namesOf("p", 10) {
			if c.below(3) > 0 {
				list = append(list, pack(name, namesOf("p", c.below(7)), fn("f", 0, num(1))))
			}
		}
		for c.below(3) == 0 && len(list) > 1 {
			i, j := c.below(len(list)), c.below(len(list))
			list[i], list[j] = list[j], list[i]
		}
		if c.below(6) == 0 && len(list) > 0 {
			list[c.below(len(list))] = pack(noNames[c.below(len(noNames))], nil, fn("f", 0, num(1)))
		}
		if c.below(6) == 0 && len(list) > 0 {
			list[c.below(len(list))].Imports = namesOf("p", 6+c.below(3))
		}
		if is := projectBy(list); is != impl.ProjectOk(list) {
			t.Errorf("%q is ProjectOk: %v", linesOf(list), !is)
		} else if is {
			right++
			mustBeAsTold(t, list)
		} else {
			mustBeNoProject(t, list, linesOf(list))
		}
	}
	if right < 400 || right > 3600 {
		t.Errorf("%d of 4000 were right", right)
	}
}

func TestProjectsAnswerAtEveryName(t *testing.T) {
	list := project("a b", "b b", "main a")
	for _, s := range piecedTexts() {
		if s != "a" && s != "b" && s != "main" {
			mustReach(t, list, s, "")
			mustNeed(t, list, s, "")
		}
		mustBeNoProject(t, []impl.Package{pack(s+"!", nil, fn("f", 0, num(1)))}, s)
	}
	long := strings.Repeat("a", 1000000)
	mustReach(t, list, long, "")
	mustNeed(t, list, long, "")
	mustBeNoProject(t, slices.Repeat(list, 200000), "600000 Packages")
}
