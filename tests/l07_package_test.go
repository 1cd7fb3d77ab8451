package tests

import (
	"math"
	"regexp"
	"slices"
	"strconv"
	"strings"
	"testing"

	"loop.example/g00346/impl"
)

func fn(name string, args int64, tree ...impl.Node) impl.Func {
	return impl.Func{Name: name, Args: args, Tree: tree}
}

func pack(name string, imports []string, funcs ...impl.Func) impl.Package {
	return impl.Package{Name: name, Imports: imports, Funcs: funcs}
}

// lib is an ordinary one, made anew each time so that a test may spoil it.
func lib() impl.Package {
	return pack("lib", []string{"a", "bc"},
		fn("f", 2, sign(impl.NdAdd), arg(0), arg(1)),
		fn("g", 0, num(5)),
		fn("h", 3, call("bc", "k", 2), num(-1), call("lib", "f", 0)))
}

const libText = "package lib\nimport a\nimport bc\nfunc f 2 + $0 $1\nfunc g 0 5\nfunc h 3 @bc.k/2 -1 @lib.f/0\n"

func sameFunc(a, b impl.Func) bool {
	return a.Name == b.Name && a.Args == b.Args && slices.Equal(a.Tree, b.Tree)
}

func samePackage(a, b impl.Package) bool {
	return a.Name == b.Name && slices.Equal(a.Imports, b.Imports) && slices.EqualFunc(a.Funcs, b.Funcs, sameFunc)
}

func packageCopied(p impl.Package) impl.Package {
	p.Imports, p.Funcs = slices.Clone(p.Imports), slices.Clone(p.Funcs)
	for i := range p.Funcs {
		p.Funcs[i].Tree = slices.Clone(p.Funcs[i].Tree)
	}
	return p
}

// noNames are read as no name, wherever one is wanted.
var noNames = []string{
	"", " ", "  ", "\n", "Lib", "liB", "lib1", "1", "-", "a b", " a", "a ", "a.b", "a/b", "@a", "$0", "a-b", "a_b", "a\n", "\na", "a\t", "\x00", "a\x00", "`", "{",
	"\u00e9", "a\u00e9", "\xe1", "abcdefghi", "abcdefgh ", "abcdefghijklmnop", strings.Repeat("kiln", 5000),
}

// namesOf are unlike and rise.
func namesOf(first string, many int) []string {
	names := []string{}
	for i := range many {
		names = append(names, first+string([]byte{byte('a' + i)}))
	}
	return names
}

func funcsOf(many int) []impl.Func {
	funcs := []impl.Func{}
	for i, name := range namesOf("f", many) {
		funcs = append(funcs, fn(name, int64(i%4), num(int64(i))))
	}
	return funcs
}

// A shown package is one of which the test tells the text without the program.
type shown struct {
	p    impl.Package
	text string
}

func chosenName(c *chance) string {
	letters := []byte{}
	for range 1 + c.below(8) {
		letters = append(letters, byte('a'+c.below(26)))
	}
	return string(letters)
}

// chosenNames are unlike, in any order.
func chosenNames(c *chance, many int) []string {
	names := []string{}
	for len(names) < many {
		if name := chosenName(c); !slices.Contains(names, name) {
			names = append(names, name)
		}
	}
	return names
}

func shownOf(c *chance, imports, funcs, nodes int) shown {
	s := shown{p: impl.Package{Name: chosenName(c)}}
	s.text = "package " + s.p.Name + "\n"
	s.p.Imports = slices.Sorted(slices.Values(chosenNames(c, imports)))
	for _, name := range s.p.Imports {
		s.text += "import " + name + "\n"
	}
	for _, name := range chosenNames(c, funcs) {
		args, tree := c.below(4), treeOf(c, 1+c.below(nodes))
		s.p.Funcs = append(s.p.Funcs, fn(name, int64(args), tree.nodes()...))
		s.text += "func " + name + " " + strconv.Itoa(args) + " " + tree.text() + "\n"
	}
	return s
}

// manyShown are of each number of Imports and of Funcs that there may be.
func manyShown() []shown {
	all := []shown{{lib(), libText}}
	c := chance(23)
	for imports := range 7 {
		for funcs := 1; funcs <= 8; funcs++ {
			all = append(all, shownOf(&c, imports, funcs, 4), shownOf(&c, imports, funcs, 60))
		}
	}
	return all
}

func mustBePackage(t *testing.T, p impl.Package, why string) {
	t.Helper()
	if !impl.PackageOk(p) || impl.ShowPackage(p) == "" {
		t.Errorf("%s: it is not PackageOk, or not shown", why)
	}
}

// mustBeNoPackage asks all that hangs on PackageOk.
func mustBeNoPackage(t *testing.T, p impl.Package, why string) {
	t.Helper()
	if impl.PackageOk(p) {
		t.Errorf("%s: it is PackageOk", why)
	}
	if got := impl.ShowPackage(p); got != "" {
		t.Errorf("%s: it is shown as %.80q", why, got)
	}
	if got := impl.Exports(p); len(got) != 0 {
		t.Errorf("%s: Exports are %.80q", why, got)
	}
	if got := impl.FoldedPackage(p); !samePackage(got, impl.Package{}) {
		t.Errorf("%s: folded it is %.80v", why, got)
	}
	mustHaveNoFunc(t, p, "f")
	mustHaveNoFunc(t, p, "")
	for _, f := range p.Funcs {
		mustHaveNoFunc(t, p, f.Name)
	}
}

func mustHaveNoFunc(t *testing.T, p impl.Package, name string) {
	t.Helper()
	if f, is := impl.FuncOf(p, name); is || !sameFunc(f, impl.Func{}) {
		t.Errorf("FuncOf of %.40q is %.80v, %v, not the zero Func and false", name, f, is)
	}
}

func TestPackageOkByNumberOfImports(t *testing.T) {
	mustBePackage(t, pack("lib", nil, fn("f", 0, num(1))), "no Imports")
	for many := range 20 {
		p := pack("lib", namesOf("a", many), fn("f", 0, num(1)))
		if many <= 6 {
			mustBePackage(t, p, strconv.Itoa(many)+" Imports")
		} else {
			mustBeNoPackage(t, p, strconv.Itoa(many)+" Imports")
		}
	}
}

func TestPackageOkByNumberOfFuncs(t *testing.T) {
	mustBeNoPackage(t, pack("lib", nil), "nil for Funcs")
	for many := range 20 {
		for imports := range 7 {
			p := pack("lib", namesOf("a", imports), funcsOf(many)...)
			if many >= 1 && many <= 8 {
				mustBePackage(t, p, strconv.Itoa(many)+" Funcs")
			} else {
				mustBeNoPackage(t, p, strconv.Itoa(many)+" Funcs")
			}
		}
	}
}

// All lists of up to 3 of these: alike, the wrong way round, and in order. A
// name that another one begins with stands ahead of it, whatever its length.
func TestPackageOkOfImportsThatRiseOrNot(t *testing.T) {
	rising := []string{"a", "aa", "ab", "abcdefgh", "ac", "b", "bb", "z", "zzzzzzzz"}
	lists := [][]string{{}}
	for from, many := 0, 0; many < 3; many++ {
		until := len(lists)
		for ; from < until; from++ {
			for _, name := range rising {
				lists = append(lists, append(slices.Clone(lists[from]), name))
			}
		}
	}
	for _, list := range lists {
		want := true
		for i := 1; i < len(list); i++ {
			want = want && slices.Index(rising, list[i-1]) < slices.Index(rising, list[i])
		}
		p, why := pack("lib", list, fn("f", 0, num(1))), strings.Join(list, ", ")
		if want {
			mustBePackage(t, p, why)
		} else {
			mustBeNoPackage(t, p, why)
		}
	}
	for at := range 5 {
		alike, turned := namesOf("x", 6), namesOf("x", 6)
		alike[at+1] = alike[at]
		turned[at], turned[at+1] = turned[at+1], turned[at]
		mustBeNoPackage(t, pack("lib", alike, fn("f", 0, num(1))), strings.Join(alike, ", "))
		mustBeNoPackage(t, pack("lib", turned, fn("f", 0, num(1))), strings.Join(turned, ", "))
	}
}

func TestPackageOkOfWhatIsNoName(t *testing.T) {
	for _, name := range noNames {
		p := lib()
		p.Name = name
		mustBeNoPackage(t, p, "Name")
		mustBeNoPackage(t, pack("lib", []string{name}, fn("f", 0, num(1))), "the one Import")
		for at := range 3 {
			p = lib()
			p.Imports = slices.Insert(p.Imports, at, name)
			mustBeNoPackage(t, p, "an Import")
			p = lib()
			p.Funcs[at].Name = name
			mustBeNoPackage(t, p, "a Func's Name")
		}
	}
	for _, name := range []string{"a", "z", "main", "abcdefgh", "zzzzzzzz", "package", "import", "func"} {
		p := lib()
		p.Name, p.Imports, p.Funcs[1].Name = name, []string{name}, name
		mustBePackage(t, p, name)
	}
}

func TestPackageOkByArgs(t *testing.T) {
	for _, args := range append(manyNumbers(), -2, -1, 0, 1, 2, 3, 4, 5, 1+1<<32, -1<<32, 256) {
		for at := range 3 {
			p := lib()
			p.Funcs[at].Args = args
			if args >= 0 && args <= 3 {
				mustBePackage(t, p, "Args "+strconv.FormatInt(args, 10))
			} else {
				mustBeNoPackage(t, p, "Args "+strconv.FormatInt(args, 10))
			}
		}
	}
	for _, args := range []int64{math.MinInt64, math.MaxInt64} {
		mustBeNoPackage(t, pack("lib", nil, fn("f", args, num(1))), "Args at an end")
	}
}

func TestPackageOkByTree(t *testing.T) {
	none := [][]impl.Node{
		nil, {}, {{}}, {num(1), num(2)}, {sign(impl.NdAdd), num(1)}, {sign(impl.NdAdd), num(1), num(2), num(3)},
		{arg(3)}, {arg(-1)}, {num(greatestWord + 1)}, {call("a", "", 0)}, {call("a", "k", 1)}, chained(61), chained(1000),
	}
	for at := range 3 {
		for _, tree := range none {
			p := lib()
			p.Funcs[at].Tree = tree
			mustBeNoPackage(t, p, "a Tree that is none")
		}
		for _, n := range wrongNodes() {
			p := lib()
			p.Funcs[at].Tree = []impl.Node{n}
			mustBeNoPackage(t, p, "a wrong node")
		}
		for _, g := range manyTrees() {
			p := lib()
			p.Funcs[at].Tree = g.nodes()
			mustBePackage(t, p, g.text())
		}
		p := lib()
		p.Funcs[at].Tree = chained(60)
		mustBePackage(t, p, "60 nodes")
	}
}

func TestPackageOkOfFuncsOfOneName(t *testing.T) {
	for many := 2; many <= 8; many++ {
		for first := range many {
			for second := first + 1; second < many; second++ {
				p := pack("lib", nil, funcsOf(many)...)
				p.Funcs[second].Name = p.Funcs[first].Name
				mustBeNoPackage(t, p, "two Funcs of one Name")
				p.Funcs[second] = p.Funcs[first]
				mustBeNoPackage(t, p, "one Func twice")
			}
		}
	}
	turned := pack("lib", nil, funcsOf(8)...)
	slices.Reverse(turned.Funcs)
	mustBePackage(t, turned, "Funcs in another order")
	mustBePackage(t, pack("lib", nil, fn("a", 0, num(1)), fn("ab", 0, num(1)), fn("b", 0, num(1))), "Funcs alike but for their Names")
}

// Whether what is named is there, or asked for with right Args, is no matter
// of one package.
func TestPackageOkAsksNoFurther(t *testing.T) {
	mustBePackage(t, pack("lib", []string{"lib"}, fn("f", 0, num(1))), "an Import of itself")
	mustBePackage(t, pack("lib", []string{"f"}, fn("f", 0, num(1)), fn("lib", 0, num(1))), "Names of other things")
	mustBePackage(t, pack("lib", nil, fn("f", 0, arg(2))), "an argument past Args")
	mustBePackage(t, pack("lib", nil, fn("f", 1, call("far", "k", 0))), "a call of what is not imported")
	mustBePackage(t, pack("lib", nil, fn("f", 1, call("lib", "f", 0))), "a call of itself")
}

func TestZeroPackage(t *testing.T) {
	mustBeNoPackage(t, impl.Package{}, "the zero Package")
	mustBeNoPackage(t, impl.Package{Name: "lib", Imports: []string{}, Funcs: []impl.Func{{}}}, "the zero Func")
}

func TestShowPackageOfPackages(t *testing.T) {
	for _, c := range []shown{
		{lib(), libText},
		{pack("a", nil, fn("b", 0, num(0))), "package a\nfunc b 0 0\n"},
		{pack("a", []string{}, fn("b", 3, arg(2))), "package a\nfunc b 3 $2\n"},
		{pack("main", []string{"lib"}, fn("main", 1, call("lib", "f", 1), arg(0))), "package main\nimport lib\nfunc main 1 @lib.f/1 $0\n"},
		{pack("z", []string{"a", "b", "c", "d", "e", "f"}, fn("y", 2, sign(impl.NdSub), num(-1), num(leastWord))),
			"package z\nimport a\nimport b\nimport c\nimport d\nimport e\nimport f\nfunc y 2 - -1 -2147483648\n"},
		{pack("abcdefgh", nil, fn("zz", 1, num(1)), fn("b", 0, num(2)), fn("a", 2, num(3))),
			"package abcdefgh\nfunc zz 1 1\nfunc b 0 2\nfunc a 2 3\n"},
		{pack("import", []string{"func", "package"}, fn("package", 0, num(1)), fn("func", 1, num(2)), fn("import", 2, num(3))),
			"package import\nimport func\nimport package\nfunc package 0 1\nfunc func 1 2\nfunc import 2 3\n"},
	} {
		if got := impl.ShowPackage(c.p); got != c.text {
			t.Errorf("it is shown as %q, not %q", got, c.text)
		}
		mustReadPackage(t, c.text, c.p)
	}
}

func mustReadPackage(t *testing.T, s string, want impl.Package) {
	t.Helper()
	if got, is := impl.ReadPackage(s); !is || !samePackage(got, want) {
		t.Errorf("ReadPackage of %.200q is %.200v, %v", s, got, is)
	}
}

func mustNotReadPackage(t *testing.T, s string) {
	t.Helper()
	if got, is := impl.ReadPackage(s); is || !samePackage(got, impl.Package{}) {
		t.Errorf("ReadPackage of %.200q is %.200v, %v, not the zero Package and false", s, got, is)
	}
}

// Promise 7.
func TestReadPackageOfShowPackageIsThePackage(t *testing.T) {
	for _, s := range manyShown() {
		mustBePackage(t, s.p, s.text)
		if got := impl.ShowPackage(s.p); got != s.text {
			t.Errorf("it is shown as %q, not %q", got, s.text)
		}
		mustReadPackage(t, impl.ShowPackage(s.p), s.p)
	}
}

// Promise 7, of the longest text that there is.
func TestReadPackageOfTheGreatestPackage(t *testing.T) {
	names := namesOf("abcdefg", 8)
	p := pack("stuvwxyz", names[:6])
	for _, name := range names {
		tree := slices.Repeat([]impl.Node{call("abcdefgh", "stuvwxyz", 1)}, 60)
		tree[59].A = 0
		p.Funcs = append(p.Funcs, fn(name, 3, tree...))
	}
	mustReadPackage(t, impl.ShowPackage(p), p)
}

var packageForm = regexp.MustCompile(`^package ([a-z]{1,8})\n((?:import [a-z]{1,8}\n){0,6})((?:func [a-z]{1,8} [0-3] [^\n]+\n){1,8})$`)

// packageBy tells the package of a text by the form of its lines and by
// readBy.
func packageBy(s string) (impl.Package, bool) {
	m := packageForm.FindStringSubmatch(s)
	if m == nil {
		return impl.Package{}, false
	}
	p, names := impl.Package{Name: m[1]}, map[string]int{}
	for line := range strings.Lines(m[2]) {
		p.Imports = append(p.Imports, strings.TrimSpace(strings.TrimPrefix(line, "import ")))
	}
	for line := range strings.Lines(m[3]) {
		words := strings.SplitN(strings.TrimSuffix(line, "\n"), " ", 4)
		tree, is := readBy(words[3])
		if names[words[1]]++; !is || names[words[1]] > 1 {
			return impl.Package{}, false
		}
		p.Funcs = append(p.Funcs, fn(words[1], int64(words[2][0]-'0'), tree...))
	}
	sorted := slices.Compact(slices.Sorted(slices.Values(p.Imports)))
	return p, slices.Equal(sorted, p.Imports)
}

func mustReadPackageAsTold(t *testing.T, s string) {
	t.Helper()
	want, is := packageBy(s)
	if !is {
		mustNotReadPackage(t, s)
		return
	}
	mustReadPackage(t, s, want)
	if got := impl.ShowPackage(want); got != s {
		t.Errorf("%q is read, but shown as %q", s, got)
	}
}

func TestReadPackageOfItsLastByte(t *testing.T) {
	mustNotReadPackage(t, "")
	for _, s := range manyShown() {
		bare := strings.TrimSuffix(s.text, "\n")
		for _, end := range []string{"", "\n\n", "\n\n\n", "\r\n", "\r", " \n", "\n ", "\n \n", "\x00", "\n\x00", "\nx", "\n\n" + s.text} {
			mustNotReadPackage(t, bare+end)
		}
		mustNotReadPackage(t, "\n"+s.text)
		mustNotReadPackage(t, s.text+s.text)
		mustNotReadPackage(t, strings.ReplaceAll(s.text, "\n", "\n\n"))
		mustNotReadPackage(t, strings.ReplaceAll(s.text, "\n", "\r\n"))
	}
}

// orders calls with each order of the lines.
func orders(ahead, left []string, tell func([]string)) {
	if len(left) == 0 {
		tell(ahead)
	}
	for i, line := range left {
		others := slices.Concat(left[:i], left[i+1:])
		orders(append(slices.Clone(ahead), line), others, tell)
	}
}

// Funcs may stand in any order, and nothing else.
func TestReadPackageOfLinesInAnotherOrder(t *testing.T) {
	read := 0
	orders(nil, slices.Collect(strings.Lines(libText)), func(lines []string) {
		s := strings.Join(lines, "")
		mustReadPackageAsTold(t, s)
		if _, is := impl.ReadPackage(s); is {
			read++
		}
	})
	if read != 6 {
		t.Errorf("%d orders of the lines are read, not 6", read)
	}
}

func TestReadPackageOfLinesTooFewOrTwice(t *testing.T) {
	for _, s := range manyShown() {
		lines := slices.Collect(strings.Lines(s.text))
		for i, line := range lines {
			mustReadPackageAsTold(t, strings.Join(slices.Concat(lines[:i], lines[i+1:]), ""))
			mustNotReadPackage(t, strings.Join(slices.Insert(slices.Clone(lines), i, line), ""))
			for _, other := range []string{"\n", " \n", "x\n", "# x\n", "package\n", "import\n", "func\n", "funcs f 0 1\n", "Package lib\n", "routine f.g 0 1\n"} {
				mustNotReadPackage(t, strings.Join(slices.Insert(slices.Clone(lines), i, other), ""))
			}
		}
	}
	mustNotReadPackage(t, "package lib\n")
	mustNotReadPackage(t, "package lib\nimport a\n")
	mustNotReadPackage(t, "func f 0 1\n")
	mustNotReadPackage(t, "package a\npackage b\nfunc f 0 1\n")
}

func TestReadPackageOfBlanks(t *testing.T) {
	for _, blanks := range []string{" ", "  ", "\t", "\u00a0", "\x00", "\r"} {
		mustNotReadPackage(t, blanks)
		for at := range len(libText) {
			if libText[at] == ' ' {
				mustNotReadPackage(t, libText[:at]+blanks+libText[at:])
				mustNotReadPackage(t, libText[:at+1]+blanks+libText[at+1:])
				mustReadPackageAsTold(t, libText[:at]+blanks+libText[at+1:])
			}
			if at == 0 || libText[at-1] == '\n' || libText[at] == '\n' {
				mustNotReadPackage(t, libText[:at]+blanks+libText[at:])
			}
		}
	}
}

func TestReadPackageOfWrongWords(t *testing.T) {
	for _, word := range []string{"", "Package", "PACKAGE", "packages", "packag", "pack", "package\t", "import", "func", "1", "\u00e9"} {
		mustNotReadPackage(t, strings.Replace(libText, "package ", word+" ", 1))
	}
	for _, word := range []string{"", "Import", "imports", "impor", "package", "func", "use"} {
		mustNotReadPackage(t, strings.Replace(libText, "import ", word+" ", 1))
	}
	for _, word := range []string{"", "Func", "funcs", "fun", "fn", "package", "import", "function"} {
		mustNotReadPackage(t, strings.Replace(libText, "func ", word+" ", 1))
	}
	for _, name := range noNames {
		mustNotReadPackage(t, strings.Replace(libText, "package lib", "package "+name, 1))
		mustNotReadPackage(t, strings.Replace(libText, "import a\n", "import "+name+"\n", 1))
		mustNotReadPackage(t, strings.Replace(libText, "import bc\n", "import "+name+"\n", 1))
		mustNotReadPackage(t, strings.Replace(libText, "func g ", "func "+name+" ", 1))
	}
}

func TestReadPackageOfWordsTooManyOrTooFew(t *testing.T) {
	for _, s := range []string{
		"package lib lib\nfunc f 0 1\n", "package lib 1\nfunc f 0 1\n", "package\nfunc f 0 1\n", "package \nfunc f 0 1\n", "packagelib\nfunc f 0 1\n",
		"package lib\nimport\nfunc f 0 1\n", "package lib\nimport \nfunc f 0 1\n", "package lib\nimport a b\nfunc f 0 1\n", "package lib\nimport a import b\nfunc f 0 1\n",
		"package lib import a\nfunc f 0 1\n", "package lib func f 0 1\n",
		"package lib\nfunc\n", "package lib\nfunc \n", "package lib\nfunc f\n", "package lib\nfunc f \n", "package lib\nfunc f 0\n", "package lib\nfunc f 0 \n",
		"package lib\nfunc f 1\n", "package lib\nfunc 0 1\n", "package lib\nfunc f + 1 2\n", "package lib\nfunc f 0 1 2\n", "package lib\nfunc f g 0 1\n", "package lib\nfunc f 0 0 1\n",
		"package lib\nfunc f 0 1 func g 0 1\n", "package lib\nfunc f 0 1\nfunc g\n", "package lib\nfuncf 0 1\n", "package lib\nfunc f0 1\n", "package lib\nfunc f 01\n",
	} {
		mustNotReadPackage(t, s)
	}
}

func TestReadPackageOfArgs(t *testing.T) {
	with := func(args string) string { return "package lib\nfunc f " + args + " 5\n" }
	for _, args := range []string{
		"", "-", "+", "-0", "+0", "00", "01", "02", "03", "003", "-1", "-3", "+1", "--1", "1-", "4", "5", "9", "10", "11", "30", "1.0", "1e0", "0x1", "1_0", "x", "1x", "$1", "?",
		"\u0661", "\uff11", "0\n", "\n0", "0\x00", "4294967296", "4294967297", "-4294967295", "2147483647", "2147483648", "-2147483648", "9999999999", "10000000000", "0000000001", "00000000001",
		"9223372036854775807", "-9223372036854775808", "18446744073709551616", "18446744073709551617", strings.Repeat("0", 5000),
	} {
		mustNotReadPackage(t, with(args))
	}
	for args := range int64(4) {
		mustReadPackage(t, with(strconv.FormatInt(args, 10)), pack("lib", nil, fn("f", args, num(5))))
	}
	for _, n := range manyNumbers() {
		mustReadPackageAsTold(t, with(strconv.FormatInt(n, 10)))
	}
}

func TestReadPackageOfTrees(t *testing.T) {
	with := func(tree string) string { return "package lib\nfunc f 0 " + tree + "\nfunc g 1 7\n" }
	for _, word := range wrongWords {
		mustNotReadPackage(t, with(word))
		mustNotReadPackage(t, with("+ 1 "+word))
		mustNotReadPackage(t, with("+ "+word+" 1"))
	}
	for _, tree := range []string{"", " ", "+", "+ 1", "+ 1 2 3", "1 2", "? 1 2", "@a.b/1", " 1", "1 ", "+  1 2", "func", "func g 0 1", strings.Repeat("@lib.f/1 ", 60) + "7"} {
		mustNotReadPackage(t, with(tree))
	}
	for _, g := range manyTrees() {
		mustReadPackage(t, with(g.text()), pack("lib", nil, fn("f", 0, g.nodes()...), fn("g", 1, num(7))))
		mustNotReadPackage(t, with(g.text()+" 1"))
	}
}

func TestReadPackageOfWhatIsNotPackageOk(t *testing.T) {
	imports := func(names ...string) string {
		s := "package lib\n"
		for _, name := range names {
			s += "import " + name + "\n"
		}
		return s + "func f 0 1\n"
	}
	for _, names := range [][]string{{"a", "a"}, {"b", "a"}, {"a", "c", "b"}, {"a", "b", "b"}, {"ab", "a"}, {"b", "ab"}, namesOf("x", 7), namesOf("x", 8), namesOf("x", 20)} {
		mustNotReadPackage(t, imports(names...))
	}
	for many := range 7 {
		mustReadPackage(t, imports(namesOf("x", many)...), pack("lib", namesOf("x", many), fn("f", 0, num(1))))
	}
	funcs := func(names ...string) string {
		s := "package lib\n"
		for _, name := range names {
			s += "func " + name + " 0 1\n"
		}
		return s
	}
	for _, names := range [][]string{{}, {"f", "f"}, {"f", "g", "f"}, {"g", "f", "f"}, namesOf("f", 9), namesOf("f", 10), namesOf("f", 20), slices.Repeat([]string{"f"}, 8)} {
		mustNotReadPackage(t, funcs(names...))
	}
	for many := 1; many <= 8; many++ {
		mustReadPackageAsTold(t, funcs(namesOf("f", many)...))
		if _, is := impl.ReadPackage(funcs(namesOf("f", many)...)); !is {
			t.Errorf("%d Funcs are not read", many)
		}
	}
	mustNotReadPackage(t, libText+"func f 0 1\n")
	mustNotReadPackage(t, libText+"func g 0 5\n")
}

// placesIn are all places of a text that has no more than this many, and at
// least half as many, spread over it, of a longer one.
func placesIn(s string, most int) []int {
	places := []int{}
	for at := 0; at < len(s); at += 1 + (len(s)-1)/most {
		places = append(places, at)
	}
	return places
}

func TestReadPackageOfATextCutAnywhere(t *testing.T) {
	for _, s := range manyShown() {
		for _, cut := range placesIn(s.text, 300) {
			mustReadPackageAsTold(t, s.text[:cut])
			if cut > 0 {
				mustReadPackageAsTold(t, s.text[cut:])
			}
			// Short of a whole line it is no package's text, whatever it is.
			if cut > 0 && s.text[cut-1] != '\n' {
				mustNotReadPackage(t, s.text[:cut])
			}
		}
	}
}

// Each byte there is in place of each byte, and ahead of it; and each byte
// left out.
func TestReadPackageByByte(t *testing.T) {
	for _, s := range []string{libText, "package a\nfunc b 0 0\n", "package main\nimport b\nimport d\nfunc c 1 $0\nfunc main 3 ? 1 -2 10\n"} {
		mustReadPackageAsTold(t, s)
		for at := range len(s) + 1 {
			if at < len(s) {
				mustReadPackageAsTold(t, s[:at]+s[at+1:])
			}
			for b := range 256 {
				one := string([]byte{byte(b)})
				mustReadPackageAsTold(t, s[:at]+one+s[at:])
				if at < len(s) {
					mustReadPackageAsTold(t, s[:at]+one+s[at+1:])
				}
			}
		}
	}
}

func TestReadPackageOfOneByteTurned(t *testing.T) {
	c := chance(41)
	for _, s := range manyShown() {
		for _, at := range placesIn(s.text, 100) {
			mustReadPackageAsTold(t, impl.Turned(s.text, int64(at), int64(c.below(256))))
			mustReadPackageAsTold(t, impl.Turned(s.text, int64(at), int64(" \n0123abz+-*/?$@."[c.below(17)])))
		}
	}
}

func TestFuncOfEachFunc(t *testing.T) {
	for _, s := range manyShown() {
		for _, want := range s.p.Funcs {
			if got, is := impl.FuncOf(s.p, want.Name); !is || !sameFunc(got, want) {
				t.Errorf("FuncOf of %q is %.80v, %v", want.Name, got, is)
			}
		}
	}
	if got, is := impl.FuncOf(lib(), "g"); !is || !sameFunc(got, fn("g", 0, num(5))) {
		t.Errorf("FuncOf of g is %v, %v", got, is)
	}
}

func TestFuncOfOtherNames(t *testing.T) {
	for _, name := range append([]string{"lib", "a", "bc", "k", "i", "ff", "fg", "F", "f ", " f", "f\n", "f\x00", "f 2", "func f", "lib.f", "f/2"}, noNames...) {
		mustHaveNoFunc(t, lib(), name)
	}
	c := chance(7)
	for _, s := range manyShown() {
		for _, f := range s.p.Funcs {
			for _, name := range []string{f.Name + "a", f.Name[1:], strings.ToUpper(f.Name), chosenName(&c), s.p.Name} {
				if !slices.ContainsFunc(s.p.Funcs, func(f impl.Func) bool { return f.Name == name }) {
					mustHaveNoFunc(t, s.p, name)
				}
			}
		}
	}
}

// A right Func is not told where something else is wrong, wherever that is.
func TestFuncOfWhatIsNotPackageOk(t *testing.T) {
	for why, spoil := range map[string]func(*impl.Package){
		"Name":         func(p *impl.Package) { p.Name = "Lib" },
		"an Import":    func(p *impl.Package) { p.Imports[1] = "a" },
		"more Imports": func(p *impl.Package) { p.Imports = namesOf("a", 7) },
		"more Funcs":   func(p *impl.Package) { p.Funcs = append(p.Funcs, funcsOf(6)...) },
		"a Func ahead": func(p *impl.Package) { p.Funcs[0].Args = 4 },
		"one behind":   func(p *impl.Package) { p.Funcs[2].Tree = nil },
		"one twice":    func(p *impl.Package) { p.Funcs[2].Name = "f" },
		"it twice":     func(p *impl.Package) { p.Funcs[2].Name = "g" },
		"its Tree":     func(p *impl.Package) { p.Funcs[1].Tree = chained(61) },
	} {
		p := lib()
		spoil(&p)
		mustHaveNoFunc(t, p, "g")
		mustBeNoPackage(t, p, why)
	}
}

func textsIn(f impl.Func) []string {
	texts := []string{f.Name}
	for _, n := range f.Tree {
		texts = append(texts, n.Package, n.Func)
	}
	return texts
}

func textsOfPackage(p impl.Package) []string {
	texts := append([]string{p.Name}, p.Imports...)
	for _, f := range p.Funcs {
		texts = append(texts, textsIn(f)...)
	}
	return texts
}

func mustShareNoText(t *testing.T, why string, some, others []string) {
	t.Helper()
	for _, a := range some {
		for _, b := range others {
			if sharing(a, b) {
				t.Errorf("%s: %q and %q share memory", why, a, b)
			}
		}
	}
}

// overwritten writes into all of the lists of a package, and into the room
// behind them.
func overwritten(p impl.Package) {
	for _, f := range p.Funcs {
		treeOverwritten(f.Tree)
	}
	for i := range p.Funcs[:cap(p.Funcs)] {
		p.Funcs[:cap(p.Funcs)][i] = fn("spoilt", -7)
	}
	for i := range p.Imports[:cap(p.Imports)] {
		p.Imports[:cap(p.Imports)][i] = "spoilt"
	}
}

func treeOverwritten(tree []impl.Node) {
	for i := range tree[:cap(tree)] {
		tree[:cap(tree)][i] = num(-7)
	}
}

// Promise 21.
func TestReadPackageIsNewMemory(t *testing.T) {
	room := make([]byte, len(libText)+20)
	s := laidOver(room, libText, "spare room")[0]
	held := string(room)
	first, _ := impl.ReadPackage(s)
	again, is := impl.ReadPackage(s)
	if !is {
		t.Fatal("it is not read")
	}
	texts := textsOfPackage(first)
	mustShareNoText(t, "with the text", texts, []string{s})
	mustShareNoText(t, "with another answer", texts, textsOfPackage(again))
	for i, text := range texts {
		mustShareNoText(t, "within one answer", []string{text}, texts[:i])
	}
	for i := range first.Funcs {
		treeOverwritten(first.Funcs[i].Tree)
		for j := i + 1; j < len(first.Funcs); j++ {
			if !sameFunc(first.Funcs[j], lib().Funcs[j]) {
				t.Errorf("the Trees %d and %d share memory", i, j)
			}
		}
	}
	overwritten(first)
	mustReadPackage(t, s, lib())
	mustNotReadPackage(t, s[1:])
	if !samePackage(again, lib()) || string(room) != held {
		t.Error("two answers share memory, or the text was written into")
	}
}

// laidPackage is one whose texts are laid over the room, and whose lists have
// room behind them; also whole is the same with all of that room.
func laidPackage(room []byte) (p, whole impl.Package) {
	texts := laidOver(room, "lib", "a", "bc", "f", "g", "pack", "name", "behind")
	tree := []impl.Node{call(texts[5], texts[6], 1), call(texts[5], texts[6], 0), num(1), num(2)}
	other := []impl.Node{call(texts[5], texts[6], 0), num(3)}
	funcs := []impl.Func{fn(texts[3], 1, tree...), fn(texts[4], 2, other...), fn(texts[7], 3, num(9))}
	whole = pack(texts[0], []string{texts[1], texts[2], texts[7]}, funcs...)
	p = pack(texts[0], whole.Imports[:2], slices.Clone(funcs)[:2]...)
	p.Funcs[0].Tree, p.Funcs[1].Tree = tree[:2], other[:1]
	return p, whole
}

// Promise 21.
func TestPackageFunctionsLeaveTheirArguments(t *testing.T) {
	room := make([]byte, 60)
	p, whole := laidPackage(room)
	held, before := string(room), packageCopied(whole)
	behind := p.Funcs[:3][2]
	for range 2 {
		mustBePackage(t, p, "it is laid over")
		text := impl.ShowPackage(p)
		if text != "package lib\nimport a\nimport bc\nfunc f 1 @pack.name/1 @pack.name/0\nfunc g 2 @pack.name/0\n" {
			t.Errorf("it is shown as %q", text)
		}
		mustShareNoText(t, "shown", []string{text}, append(textsOfPackage(p), impl.ShowPackage(p)))
		for _, name := range []string{p.Funcs[0].Name, p.Funcs[1].Name} {
			mustBeNewFunc(t, p, name)
		}
		mustHaveNoFunc(t, p, behind.Name)
	}
	if string(room) != held || !samePackage(whole, before) || !sameFunc(p.Funcs[:3][2], behind) {
		t.Error("an argument, or the room behind it, was written into")
	}
}

func mustBeNewFunc(t *testing.T, p impl.Package, name string) {
	t.Helper()
	first, _ := impl.FuncOf(p, name)
	again, is := impl.FuncOf(p, name)
	want := fn(name, again.Args, slices.Clone(again.Tree)...)
	if !is || !sameFunc(first, again) {
		t.Fatalf("%q is not found twice alike", name)
	}
	mustShareNoText(t, "with the package", textsIn(first), textsOfPackage(p))
	mustShareNoText(t, "with the name", textsIn(first), []string{name})
	mustShareNoText(t, "with another answer", textsIn(first), textsIn(again))
	for i, text := range textsIn(first) {
		mustShareNoText(t, "within one answer", []string{text}, textsIn(first)[:i])
	}
	treeOverwritten(first.Tree)
	if third, _ := impl.FuncOf(p, name); !sameFunc(again, want) || !sameFunc(third, want) {
		t.Errorf("the Tree of %q is handed out twice", name)
	}
}

// Promise 21: whatever they are given, they answer.
func TestPackagesAnswerAtEveryText(t *testing.T) {
	for _, s := range piecedTexts() {
		mustNotReadPackage(t, s)
		mustReadPackageAsTold(t, "package "+s)
		mustReadPackageAsTold(t, "package lib\nimport "+s)
		mustReadPackageAsTold(t, "package lib\nfunc "+s)
		mustReadPackageAsTold(t, "package lib\nfunc f 0 "+s)
		mustHaveNoFunc(t, lib(), s+"x")
	}
	mustNotReadPackage(t, "package lib\n"+strings.Repeat("import a\n", 100000)+"func f 0 1\n")
	mustNotReadPackage(t, "package lib\n"+strings.Repeat("func f 0 1\n", 100000))
	mustNotReadPackage(t, strings.Repeat("package lib\n", 100000))
	mustNotReadPackage(t, "package lib\nfunc f 0 "+strings.Repeat("@lib.f/1 ", 100000)+"7\n")
	mustNotReadPackage(t, "package "+strings.Repeat("lib", 100000)+"\nfunc f 0 1\n")
}

// Promise 21, and 7 the other way round: what is not right is not shown, and
// what is shown is read as what it was.
func TestPackagesAnswerAtEveryArgument(t *testing.T) {
	names := append([]string{"a", "ab", "b", "lib", "f", "abcdefgh"}, noNames...)
	nodes := wrongNodes()
	c := chance(3)
	right := 0
	for range 4000 {
		few := 6 + c.below(2)*c.below(len(noNames))
		p := pack(names[c.below(few+1)], nil)
		for range c.below(4) {
			p.Imports = append(p.Imports, names[c.below(few)])
		}
		for range c.below(4) {
			tree := treeOf(&c, 1+c.below(5)).nodes()
			if c.below(8) == 0 {
				tree[c.below(len(tree))] = nodes[c.below(len(nodes))]
			}
			p.Funcs = append(p.Funcs, fn(names[c.below(few)], int64(c.below(5)), tree...))
		}
		before := packageCopied(p)
		read, is := impl.ReadPackage(impl.ShowPackage(p))
		if is != impl.PackageOk(p) || is && !samePackage(read, p) {
			t.Errorf("%v is a package: %v, but read: %v", p, impl.PackageOk(p), is)
		}
		if is {
			right++
		} else {
			mustBeNoPackage(t, p, "it is not read")
		}
		if !samePackage(p, before) {
			t.Error("a package is another one now")
		}
	}
	if right < 100 || right > 3900 {
		t.Errorf("%d of 4000 were right", right)
	}
	many := pack("lib", slices.Repeat([]string{"a"}, 300000), slices.Repeat([]impl.Func{fn("f", 0, num(1))}, 300000)...)
	if impl.PackageOk(many) || impl.ShowPackage(many) != "" {
		t.Error("300000 Imports and Funcs are a package")
	}
	mustHaveNoFunc(t, many, "f")
}
