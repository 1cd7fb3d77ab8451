package tests

import (
	"fmt"
	"os"
	"os/exec"
	"path/filepath"
	"runtime"
	"slices"
	"strconv"
	"strings"
	"sync"
	"testing"
	"unsafe"

	"loop.example/g00346/impl"
)

const badText = "fault 6 - -\n"
const bigText = "fault 7 - -\n"

func sourcesOf(list []impl.Package) []string {
	sources := []string{}
	for _, p := range list {
		sources = append(sources, impl.ShowPackage(p))
	}
	return sources
}

// sourcesIn tells them as written does.
func sourcesIn(t *testing.T, texts ...string) []string {
	t.Helper()
	return sourcesOf(written(t, texts...))
}

// sortedBy goes by the tests' own reader.
func sortedBy(sources []string) ([]impl.Package, bool) {
	list := []impl.Package{}
	for _, source := range sources {
		p, is := packageBy(source)
		if !is {
			return nil, false
		}
		list = append(list, p)
	}
	slices.SortFunc(list, func(a, b impl.Package) int { return strings.Compare(a.Name, b.Name) })
	if !projectBy(list) {
		return nil, false
	}
	return list, true
}

func partsBy(list []impl.Package) []string {
	if len(faultsBy(list)) > 0 {
		return nil
	}
	return reachedBy(list)
}

// reachedBy wants a project without a Fault.
func reachedBy(list []impl.Package) []string {
	reached := closureOf(list)
	parts := slices.DeleteFunc(orderBy(list), func(name string) bool { return !reached.has("main", name) })
	return append(parts, "main")
}

func faultText(f impl.Fault) string {
	text := fmt.Sprintf("fault %d", f.Code)
	for _, name := range []string{f.Package, f.Func} {
		if name == "" {
			name = "-"
		}
		text += " " + name
	}
	return text + "\n"
}

// A building is all that is told of a list of sources.
type building struct {
	list  []impl.Package
	is    bool
	fault impl.Fault
	parts []string
	text  string
}

// buildingBy has nothing that is too long: no tree makes so many steps.
func buildingBy(c *chance, sources []string) building {
	b := building{}
	b.list, b.is = sortedBy(sources)
	if faults := faultsBy(b.list); len(faults) > 0 {
		b.fault, b.text = faults[0], faultText(faults[0])
		return b
	}
	b.parts = reachedBy(b.list)
	m := impl.Image{}
	for _, name := range b.parts {
		m.Routines = append(m.Routines, objectBy(c, b.list[placeBy(b.list, name)]).Routines...)
	}
	slices.SortFunc(m.Routines, func(a, b impl.Routine) int { return strings.Compare(a.Name, b.Name) })
	b.text = imageText(m)
	return b
}

func toldSources(sources []string) string {
	return fmt.Sprintf("%d, %.1500q", len(sources), sources[:min(len(sources), 10)])
}

// mustSort asks twice.
func mustSort(t *testing.T, sources []string, want []impl.Package, is bool) {
	t.Helper()
	for range 2 {
		if got, sorted := impl.Sorted(sources); sorted != is || !slices.EqualFunc(got, want, samePackage) {
			t.Errorf("%v, %.600q, are Sorted, not %v, %.600q, of %s", sorted, shownProject(got), is, shownProject(want), toldSources(sources))
		}
	}
}

// mustBuild asks twice.
func mustBuild(t *testing.T, sources []string, want string) {
	t.Helper()
	for range 2 {
		if got := impl.Built(sources); got != want {
			t.Errorf("%.600q is Built, not %.600q, of %s", got, want, toldSources(sources))
		}
	}
}

func mustPutIn(t *testing.T, list []impl.Package, want string) {
	t.Helper()
	for range 2 {
		mustBeNames(t, "Parts", list, impl.Parts(list), want)
	}
}

// mustBeNoSources asks all that hangs on Sorted.
func mustBeNoSources(t *testing.T, sources []string) {
	t.Helper()
	mustSort(t, sources, nil, false)
	mustBuild(t, sources, badText)
}

// mustBuildAsTold holds all three against the document's sentences, and says
// what these tell.
func mustBuildAsTold(t *testing.T, c *chance, sources []string) building {
	t.Helper()
	want := buildingBy(c, sources)
	mustSort(t, sources, want.list, want.is)
	mustBuild(t, sources, want.text)
	mustPutIn(t, want.list, strings.Join(want.parts, " "))
	if want.fault.Code != 0 {
		return want
	}
	if needs := impl.Needs(want.list, "main"); !slices.Equal(append(needs, "main"), want.parts) {
		t.Errorf("Needs are %q, but Parts %q, of %s", needs, want.parts, toldSources(sources))
	}
	m, is := imageOfText(want.text)
	if !is {
		t.Errorf("%.600q is no image, of %s", want.text, toldSources(sources))
	}
	mustReadImage(t, impl.Built(sources), m)
	return want
}

func imageBuilt(t *testing.T, sources []string) impl.Image {
	t.Helper()
	m, is := impl.ReadImage(impl.Built(sources))
	if !is || !impl.ImageOk(m) {
		t.Fatalf("%.600q is no image, of %s", impl.Built(sources), toldSources(sources))
	}
	return m
}

// mustBuildInEachOrder wants few sources.
func mustBuildInEachOrder(t *testing.T, sources []string, want string) {
	t.Helper()
	list, is := impl.Sorted(sources)
	orders(nil, sources, func(ordered []string) {
		mustSort(t, ordered, list, is)
		mustBuild(t, ordered, want)
	})
}

func sourcesShuffled(c *chance, sources []string) []string {
	other := slices.Clone(sources)
	for at := range other {
		to := c.below(at + 1)
		other[at], other[to] = other[to], other[at]
	}
	return other
}

// oneEach has a source for each name.
func oneEach(names ...string) []string {
	return sourcesOf(project(names...))
}

func TestSortedByNumberOfSources(t *testing.T) {
	mustBeNoSources(t, nil)
	mustBeNoSources(t, []string{})
	mustSort(t, []string{"package a\nfunc f 0 1\n"}, []impl.Package{pack("a", nil, fn("f", 0, num(1)))}, true)
	mustSort(t, []string{libText}, []impl.Package{lib()}, true)
	for many := 1; many <= 26; many++ {
		names := namesOf("p", many)
		sources := oneEach(names...)
		for range 2 {
			if many <= 8 {
				mustSort(t, sources, project(names...), true)
				mustBuild(t, sources, "fault 5 main main\n")
			} else {
				mustBeNoSources(t, sources)
			}
			slices.Reverse(sources)
		}
	}
	// With a main that is right, all of them are one project, or none is.
	for many := 1; many <= 12; many++ {
		sources := append(oneEach(namesOf("p", many-1)...), "package main\nfunc main 1 $0\n")
		if many <= 8 {
			mustBuild(t, sources, "routine main.main 1 2\n2 0 0 0 -\n10 0 0 0 -\n")
		} else {
			mustBeNoSources(t, sources)
		}
	}
	for _, many := range []int{255, 256, 257, 264, 512, 65536, 65537, 65544} {
		mustBeNoSources(t, slices.Repeat([]string{"package main\nfunc main 1 $0\n"}, many))
		mustBeNoSources(t, make([]string, many))
	}
}

// unreadable is read as no Package.
var unreadable = []string{
	"", "x", "\n", " ", "package", "package lib", "package lib\n", "package lib\nfunc f 0 1", "package lib\nfunc f 0 1\n\n", "\npackage lib\nfunc f 0 1\n", "package Lib\nfunc f 0 1\n",
	"package lib\r\nfunc f 0 1\r\n", "package lib\nfunc f 4 1\n", "package lib\nfunc f 0 + 1\n", "package lib\nfunc f 0 $3\n", "package lib\nfunc f 0 1\nfunc f 0 1\n", "package lib\nimport b\nimport a\nfunc f 0 1\n",
	"package lib\nimport a\nimport a\nfunc f 0 1\n", "func f 0 1\n", "package lib\nfunc f 0 1\npackage lib\nfunc f 0 1\n", "package lib\nfunc f 0 1\nimport a\n", "object lib\nroutine lib.f 0 1\n10 0 0 0 -\n",
	"fault 6 - -\n", "package lib\nfunc f 0 01\n", "package lib\nfunc f 0 2147483648\n", "package  lib\nfunc f 0 1\n", "\x00", "\xff\xfe",
}

func TestSortedOfOneThatCannotBeRead(t *testing.T) {
	for _, wrong := range unreadable {
		if _, is := impl.ReadPackage(wrong); is {
			t.Fatalf("%q is read", wrong)
		}
		mustBeNoSources(t, []string{wrong})
		mustBeNoSources(t, []string{wrong, wrong})
		for many := 2; many <= 9; many++ {
			for at := range many {
				sources := append(oneEach(namesOf("p", many-1)...), "package main\nfunc main 1 $0\n")
				sources[at] = wrong
				mustBeNoSources(t, sources)
			}
			// At the first, a middle and the last place, with all others right.
			right := append(oneEach(namesOf("p", many-2)...), "package main\nfunc main 1 $0\n")
			for _, at := range []int{0, len(right) / 2, len(right)} {
				mustBeNoSources(t, slices.Insert(slices.Clone(right), at, wrong))
			}
		}
		mustBeNoSources(t, slices.Repeat([]string{wrong}, 8))
	}
}

func TestSortedOfTwoWithOneName(t *testing.T) {
	mustBeNoSources(t, slices.Repeat([]string{"package main\nfunc main 1 $0\n"}, 2))
	mustBeNoSources(t, []string{"package main\nfunc main 1 $0\n", "package main\nfunc main 1 1\n"})
	mustBeNoSources(t, []string{"package main\nfunc main 1 $0\n", "package main\nfunc f 0 1\n"})
	mustBeNoSources(t, []string{"package a\nfunc f 0 1\n", "package main\nfunc main 1 $0\n", "package a\nimport main\nfunc g 0 1\n"})
	for many := 2; many <= 8; many++ {
		for at := range many {
			for to := range at {
				names := append(namesOf("p", many-1), "main")
				names[at] = names[to]
				mustBeNoSources(t, oneEach(names...))
				sources := oneEach(names...)
				sources[at] = strings.Replace(sources[at], "func f 0 1", "func g 2 $0", 1)
				mustBeNoSources(t, sources)
			}
		}
		mustBeNoSources(t, slices.Repeat(oneEach("a"), many))
	}
}

func TestSortedComesByName(t *testing.T) {
	// A name that another one begins with stands ahead of it, whatever its
	// length.
	rising := []string{"a", "aa", "ab", "abcdefgh", "b", "main", "zz", "zzzzzzzz"}
	for from := range rising {
		for many := 1; from+many <= len(rising) && many <= 4; many++ {
			names := rising[from : from+many]
			orders(nil, oneEach(names...), func(ordered []string) { mustSort(t, ordered, project(names...), true) })
		}
	}
	c := chance(307)
	for range 300 {
		sources := sourcesShuffled(&c, oneEach(rising...))
		mustSort(t, sources, project(rising...), true)
		list := oneEach(chosenNames(&c, 1+c.below(8))...)
		want, _ := sortedBy(list)
		mustSort(t, list, want, true)
		mustSort(t, sourcesShuffled(&c, list), want, true)
	}
}

// Promise 17: of every order of up to four sources it is the same; all that a
// Package has comes along with its Name.
func TestSortedOfEveryOrder(t *testing.T) {
	shown := manyShown()
	c, turns := chance(311), 0
	for range 60 {
		sources, list := []string{}, []impl.Package{}
		for range 1 + c.below(4) {
			if s := shown[c.below(len(shown))]; placeBy(list, s.p.Name) == -1 {
				sources, list = append(sources, s.text), append(list, s.p)
			}
		}
		slices.SortFunc(list, func(a, b impl.Package) int { return strings.Compare(a.Name, b.Name) })
		orders(nil, sources, func(ordered []string) {
			mustSort(t, ordered, list, true)
			turns++
		})
	}
	if turns < 300 {
		t.Errorf("there were %d orders", turns)
	}
}

// Sorted asks for no more than a project: what is wrong in it is for FaultOf.
func TestSortedOfProjectsWithFaults(t *testing.T) {
	for _, texts := range [][]string{
		{"a zz: f 0 1"}, {"a a: f 0 1"}, {"a b: f 0 1", "b a: f 0 1"}, {"a: f 0 $2"}, {"a: f 0 @zz.f/3 1 2 3"}, {"a: f 0 1"}, {"main: main 2 1"}, {"main main zz: main 2 @main.main/1 $2"},
	} {
		mustSort(t, sourcesIn(t, texts...), written(t, texts...), true)
		mustPutIn(t, written(t, texts...), "")
	}
}

func TestPartsOfProjectsWithoutFault(t *testing.T) {
	mustPutIn(t, written(t, "main: main 1 1"), "main")
	mustPutIn(t, written(t, "lib: f 0 1", "main lib: main 1 1"), "lib main")
	mustPutIn(t, written(t, "main zed: main 1 @zed.f/0", "zed: f 0 1"), "zed main")
	// Each behind what it needs; of all that could be next the first by name.
	mustPutIn(t, written(t, "a b: f 0 1", "b: f 0 1", "main a: main 1 1"), "b a main")
	mustPutIn(t, written(t, "a z: f 0 1", "b: f 0 1", "main a b: main 1 1", "z: f 0 1"), "b z a main")
	mustPutIn(t, written(t, "a: f 0 1", "b a: f 0 1", "c a: f 0 1", "d b c: f 0 1", "main d: main 1 1"), "a b c d main")
	mustPutIn(t, written(t, "a b c: f 0 1", "b d: f 0 1", "c d: f 0 1", "d: f 0 1", "main a: main 1 1"), "d b c a main")
	mustPutIn(t, written(t, "d c: f 0 1", "e d: f 0 1", "main e: main 1 1", "x y: f 0 1", "y: f 0 1", "z x: f 0 1"), "")
	mustPutIn(t, written(t, "d z: f 0 1", "e d: f 0 1", "main e: main 1 1", "x y: f 0 1", "y: f 0 1", "z x: f 0 1"), "y x z d e main")
	// What is imported is put in, whether it is called or not.
	mustPutIn(t, written(t, "a: f 0 1", "main a: main 1 $0"), "a main")
	// 8 in a row, both ways round.
	names := append(namesOf("a", 7), "main")
	up, down := []string{names[0]}, []string{}
	for at := range 7 {
		up = append(up, names[at+1]+" "+names[at])
	}
	for at := range 6 {
		down = append(down, names[at]+" "+names[at+1])
	}
	list := project(up...)
	list[7].Funcs = []impl.Func{fn("main", 1, num(1))}
	mustPutIn(t, list, strings.Join(names, " "))
	list = project(append(down, names[6], "main "+names[0])...)
	list[7].Funcs = []impl.Func{fn("main", 1, num(1))}
	mustPutIn(t, list, "ag af ae ad ac ab aa main")
}

func TestPartsOfWhatMainDoesNotReach(t *testing.T) {
	mustPutIn(t, written(t, "a: f 0 1", "main: main 1 1", "z: f 0 1"), "main")
	mustPutIn(t, written(t, "a: f 0 1", "b: f 0 1", "main b: main 1 1"), "b main")
	mustPutIn(t, written(t, "a b: f 0 1", "b: f 0 1", "main b: main 1 1"), "b main")
	// Those who import main, at once or by others.
	mustPutIn(t, written(t, "a main: f 0 @main.main/1 1", "main: main 1 1"), "main")
	mustPutIn(t, written(t, "a main: f 0 1", "b a: f 0 1", "c: f 0 1", "main c: main 1 1", "z a b: f 0 1"), "c main")
	// Some are reached by others alone.
	mustPutIn(t, written(t, "a b: f 0 1", "b c: f 0 1", "c: f 0 1", "d c: f 0 1", "main a: main 1 1", "x d: f 0 1"), "c b a main")
	mustPutIn(t, written(t, "a b: f 0 1", "b: f 0 1", "c a: f 0 1", "main b: main 1 1"), "b main")
}

// faulty has each Fault of one in the middle and of one that main does not
// reach, and what is told of it.
var faulty = []struct {
	text  string
	texts []string
}{
	{"fault 1 main -\n", []string{"main lib: main 1 1"}},
	{"fault 1 lib -\n", []string{"lib zz: f 0 1", "main lib: main 1 @lib.f/0"}},
	{"fault 1 far -\n", []string{"far zz: f 0 1", "main: main 1 1"}},
	{"fault 1 abcdefgh -\n", []string{"abcdefgh zz: f 0 1", "main: main 1 1"}},
	{"fault 2 main -\n", []string{"main main: main 1 1"}},
	{"fault 2 lib -\n", []string{"lib main: f 0 1", "main lib: main 1 1"}},
	{"fault 2 far -\n", []string{"far far: f 0 1", "main: main 1 1"}},
	{"fault 3 main main\n", []string{"main: main 1 $1"}},
	{"fault 3 main g\n", []string{"main: g 0 $0; main 1 1"}},
	{"fault 3 lib stuvwxyz\n", []string{"lib: f 1 $0; stuvwxyz 2 $2", "main lib: main 1 @lib.f/1 $0"}},
	{"fault 3 far f\n", []string{"far: f 0 $0", "main: main 1 1"}},
	{"fault 4 main main\n", []string{"main: main 1 @main.main/1 $0"}},
	{"fault 4 main main\n", []string{"lib: f 0 1", "main: main 1 @lib.f/0"}},
	{"fault 4 main main\n", []string{"lib: f 0 1", "main lib: main 1 @lib.g/0"}},
	{"fault 4 main main\n", []string{"lib: f 0 1", "main lib: main 1 @lib.f/1 1"}},
	{"fault 4 lib g\n", []string{"lib: g 0 @lib.f/0; f 0 1", "main lib: main 1 1"}},
	{"fault 4 far f\n", []string{"far: f 0 @main.main/1 1", "main: main 1 1"}},
	{"fault 5 main main\n", []string{"lib: main 1 1"}},
	{"fault 5 main main\n", []string{"main: f 1 1"}},
	{"fault 5 main main\n", []string{"main: main 0 1"}},
	{"fault 5 main main\n", []string{"main: main 2 1"}},
	{"fault 5 main main\n", []string{"lib: f 0 1", "main lib: main 3 @lib.f/0"}},
}

func TestPartsAndBuiltOfEachFault(t *testing.T) {
	c, seen := chance(313), [8]int{}
	for _, f := range faulty {
		list := written(t, f.texts...)
		mustPutIn(t, list, "")
		if got := faultText(impl.FaultOf(list)); got != f.text {
			t.Errorf("%q is told of %q", got, f.texts)
		}
		mustBuildInEachOrder(t, sourcesOf(list), f.text)
		seen[mustBuildAsTold(t, &c, sourcesOf(list)).fault.Code]++
		// In a greater project it is the same.
		greater := append(sourcesOf(list), "package zy\nfunc f 0 1\n", "package zx\nimport zy\nfunc f 0 @zy.f/0\n")
		mustBuildInEachOrder(t, greater, f.text)
	}
	if slices.Min(seen[1:6]) < 3 {
		t.Errorf("of each Code there were %d", seen)
	}
	// Several at once: it is the first by Order, and of one the first named.
	mustBuildInEachOrder(t, sourcesIn(t, "a zz: f 0 $0", "b: f 0 $0", "main a b: g 0 1"), "fault 1 a -\n")
	mustBuildInEachOrder(t, sourcesIn(t, "b a zz: f 0 $0", "a: f 0 $0", "main a b: g 0 1"), "fault 3 a f\n")
	mustBuildInEachOrder(t, sourcesIn(t, "a: f 0 @a.g/0; g 0 $0", "main main: g 0 1"), "fault 4 a f\n")
	mustBuildInEachOrder(t, sourcesIn(t, "a a: f 0 1", "b b zz: f 0 1", "main: g 0 @main.zz/0"), "fault 4 main g\n")
}

func TestPartsOfNoProject(t *testing.T) {
	mustPutIn(t, nil, "")
	for why, spoil := range spoilers {
		list := written(t, "lib: f 0 1", "main lib: main 1 1", "z: f 0 1")
		mustPutIn(t, list, "lib main")
		for at := range list {
			spoilt := projectCopied(list)
			spoil(&spoilt[at])
			if got := impl.Parts(spoilt); len(got) > 0 {
				t.Errorf("%s: Parts are %q", why, got)
			}
		}
	}
	list := written(t, "lib: f 0 1", "main lib: main 1 1")
	mustPutIn(t, []impl.Package{list[1], list[0]}, "")
	mustPutIn(t, []impl.Package{list[0], list[1], list[1]}, "")
	mustPutIn(t, []impl.Package{list[0], list[1], {}}, "")
	nine := append(project(namesOf("a", 8)...), written(t, "main: main 1 1")...)
	mustPutIn(t, nine, "")
	mustPutIn(t, nine[1:], "main")
}

// mainIn makes a main of the Package of that name.
func mainIn(list []impl.Package) []impl.Package {
	list[placeBy(list, "main")].Funcs = []impl.Func{fn("main", 1, arg(0))}
	return list
}

// All projects of up to 4 Packages in which none imports itself.
func TestPartsOfAllProjectsOfFew(t *testing.T) {
	whole, ringed := 0, 0
	for _, names := range [][]string{{"main"}, {"a", "main"}, {"main", "z"}, {"a", "b", "main"}, {"a", "main", "z"}, {"main", "y", "z"}, {"a", "b", "main", "z"}} {
		for bits := range 1 << (len(names) * len(names)) {
			if len(names) == 4 && bits&(1|1<<5|1<<10|1<<15) != 0 {
				continue
			}
			list := mainIn(importing(names, bits))
			want := partsBy(list)
			mustPutIn(t, list, strings.Join(want, " "))
			if len(want) > 0 {
				whole++
				mustBeParts(t, list)
			} else {
				ringed++
			}
		}
	}
	if whole < 500 || ringed < 500 {
		t.Errorf("%d were without a ring, %d with one", whole, ringed)
	}
}

// mustBeParts holds Parts against each word of what is said of them, without
// making them.
func mustBeParts(t *testing.T, list []impl.Package) {
	t.Helper()
	parts, reached := impl.Parts(list), closureOf(list)
	if len(parts) == 0 || parts[len(parts)-1] != "main" {
		t.Fatalf("Parts of %q are %q", linesOf(list), parts)
	}
	for _, p := range list {
		at := slices.Index(parts, p.Name)
		if (at >= 0) != (p.Name == "main" || reached.has("main", p.Name)) || slices.Contains(parts[at+1:], p.Name) {
			t.Errorf("Parts of %q are %q: %q is there twice, or is not there, or should not be", linesOf(list), parts, p.Name)
		}
		for _, name := range p.Imports {
			if other := slices.Index(parts, name); at >= 0 && (other < 0 || other >= at) {
				t.Errorf("Parts of %q are %q: %q is not behind %q", linesOf(list), parts, p.Name, name)
			}
		}
	}
	if !slices.Equal(parts[:len(parts)-1], impl.Needs(list, "main")) {
		t.Errorf("Parts of %q are %q, Needs are %q", linesOf(list), parts, impl.Needs(list, "main"))
	}
}

func TestPartsOfManyProjects(t *testing.T) {
	c := chance(317)
	seen, left := [8]int{}, 0
	for i := range 2000 {
		list := rightProject(&c, 1+c.below(8))
		if i%4 == 3 {
			list = mainOfChosen(&c)
		}
		for range i % 4 {
			mistaken(&c, list)
		}
		code := append(faultsBy(list), impl.Fault{})[0].Code
		seen[code]++
		mustPutIn(t, list, strings.Join(partsBy(list), " "))
		if code == 0 {
			mustBeParts(t, list)
			left += len(list) - len(impl.Parts(list))
		}
	}
	if slices.Min(seen[:6]) < 10 || left < 300 {
		t.Errorf("of each Code there were %d, and %d Packages were left out", seen, left)
	}
}

// mainOfChosen has many Imports, and no ring.
func mainOfChosen(c *chance) []impl.Package {
	list := chosenProject(c, 1+c.below(8), c.below(7), true)
	for at := range list {
		list[at].Imports = slices.DeleteFunc(list[at].Imports, func(name string) bool { return placeBy(list, name) == -1 })
	}
	name := list[c.below(len(list))].Name
	for at := range list {
		if list[at].Name == name {
			list[at].Name = "main"
		}
		for k, other := range list[at].Imports {
			if other == name {
				list[at].Imports[k] = "main"
			}
		}
		slices.Sort(list[at].Imports)
	}
	slices.SortFunc(list, func(a, b impl.Package) int { return strings.Compare(a.Name, b.Name) })
	return mainIn(list)
}

// All that is Built, by hand.
func TestBuiltOfSmallProjects(t *testing.T) {
	for _, one := range []struct {
		want  string
		texts []string
	}{
		{"routine main.main 1 2\n1 0 7 0 -\n10 0 0 0 -\n", []string{"main: main 1 7"}},
		{"routine main.main 1 2\n2 0 0 0 -\n10 0 0 0 -\n", []string{"main: main 1 $0"}},
		{"routine main.main 1 2\n1 0 -2147483648 0 -\n10 0 0 0 -\n", []string{"main: main 1 + 2147483647 1"}},
		{"routine main.main 1 4\n1 0 1 0 -\n1 1 0 0 -\n6 0 0 1 -\n10 0 0 0 -\n", []string{"main: main 1 / 1 0"}},
		{"routine main.main 1 4\n2 0 0 0 -\n1 1 3 0 -\n4 0 0 1 -\n10 0 0 0 -\n", []string{"main: main 1 - $0 + 1 2"}},
		{"routine main.main 1 6\n2 0 0 0 -\n7 0 4 0 -\n1 0 1 0 -\n8 0 5 0 -\n1 0 2 0 -\n10 0 0 0 -\n", []string{"main: main 1 ? $0 1 2"}},
		// Routines by Name, whatever place their Funcs have.
		{"routine main.a 0 2\n1 0 1 0 -\n10 0 0 0 -\nroutine main.main 1 2\n2 0 0 0 -\n10 0 0 0 -\nroutine main.z 2 2\n2 0 1 0 -\n10 0 0 0 -\n", []string{"main: z 2 $1; main 1 $0; a 0 1"}},
		// Of Parts, which come in another order than by Name.
		{"routine a.f 1 3\n2 0 0 0 -\n9 0 1 0 b.g\n10 0 0 0 -\nroutine b.g 1 4\n2 0 0 0 -\n2 1 0 0 -\n5 0 0 1 -\n10 0 0 0 -\nroutine main.main 1 3\n2 0 0 0 -\n9 0 1 0 a.f\n10 0 0 0 -\n",
			[]string{"a b: f 1 @b.g/1 $0", "b: g 1 * $0 $0", "main a: main 1 @a.f/1 $0"}},
		{"routine main.main 1 2\n9 0 0 0 zed.f\n10 0 0 0 -\nroutine zed.f 0 2\n1 0 5 0 -\n10 0 0 0 -\n", []string{"main zed: main 1 @zed.f/0", "zed: f 0 5"}},
		// What is imported is put in; what is not reached is not.
		{"routine lib.f 0 2\n1 0 1 0 -\n10 0 0 0 -\nroutine lib.g 0 2\n1 0 2 0 -\n10 0 0 0 -\nroutine main.main 1 2\n2 0 0 0 -\n10 0 0 0 -\n",
			[]string{"lib: g 0 2; f 0 1", "main lib: main 1 $0"}},
		{"routine main.main 1 2\n2 0 0 0 -\n10 0 0 0 -\n", []string{"far main: f 0 @main.main/1 1", "lib: g 0 2", "main: main 1 $0", "z far: f 0 @far.f/0"}},
	} {
		sources := sourcesIn(t, one.texts...)
		mustBuildInEachOrder(t, sources, one.want)
		c := chance(1)
		mustBuildAsTold(t, &c, sources)
	}
	mustBuild(t, []string{"x"}, badText)
	mustBuild(t, nil, badText)
	mustBuild(t, []string{""}, badText)
}

func TestBuiltRunGivesWhatItMeansByHand(t *testing.T) {
	sources := sourcesIn(t, "half: f 2 / $0 $1; g 1 @half.f/2 $0 2", "main half twice: main 1 + ? $0 @half.g/1 $0 7 @twice.f/1 @half.f/2 100 $0", "twice: f 1 * 2 $0", "zed: f 0 / 1 0")
	orders(nil, sources, func(ordered []string) {
		m := imageBuilt(t, ordered)
		mustRun(t, m, "main.main", words(10), 1000, 25, impl.MnOk)
		mustRun(t, m, "main.main", words(1), 1000, 200, impl.MnOk)
		mustRun(t, m, "main.main", words(-3), 1000, -67, impl.MnOk)
		mustRun(t, m, "main.main", words(0), 1000, 0, impl.MnZero)
		mustRun(t, m, "main.main", words(10), 3, 0, impl.MnFuel)
		mustRun(t, m, "main.main", nil, 1000, 0, impl.MnBad)
		mustRun(t, m, "zed.f", nil, 1000, 0, impl.MnBad)
		list, _ := impl.Sorted(ordered)
		for _, word := range edgeWords {
			mustGiveWhatItMeans(t, list, m, words(word))
		}
	})
}

// mustGiveWhatItMeans is promise 17 for one project without a Fault: where
// there is fuel enough for both, it is the same. It says what it means, and
// whether there was.
func mustGiveWhatItMeans(t *testing.T, list []impl.Package, m impl.Image, args []int64) (int64, bool) {
	t.Helper()
	value, code := impl.Meant(list, "main", "main", args, impl.MaxFuel)
	if told, _ := rightBy(list, "main", "main", args, impl.MaxFuel); told.value != value || told.code != code {
		t.Errorf("by %d it means %d, %d, not %v:\n%s", args, value, code, told, shownProject(list))
	}
	ran := ranBy(m, "main.main", args, impl.MaxFuel)
	mustRun(t, m, "main.main", args, impl.MaxFuel, ran.value, ran.code)
	if code == impl.MnFuel || ran.code == impl.MnFuel {
		return code, false
	}
	if ran.value != value || ran.code != code {
		t.Errorf("by %d it gives %d, %d, and means %d, %d:\n%s", args, ran.value, ran.code, value, code, shownProject(list))
	}
	// A Node takes two at most, and the end of the first Routine 1.
	if fuel := 2*impl.Burnt(list, "main", "main", args, impl.MaxFuel) + 1; code == impl.MnOk && fuel <= impl.MaxFuel {
		mustRun(t, m, "main.main", args, fuel, value, code)
	}
	return code, true
}

// drawnProject has a main that calls others, where it can.
func drawnProject(c *chance, i int) []impl.Package {
	list := rightProject(c, 1+c.below(8))
	if i%2 == 0 {
		list = busyProject(c, 1+c.below(8))
	}
	if i%3 == 0 {
		list = wordsSmallened(c, list)
	}
	return list
}

// Promise 17.
func TestBuiltRunGivesWhatItMeans(t *testing.T) {
	c := chance(331)
	seen, enough, called := [4]int{}, 0, 0
	for i := range 250 {
		list := drawnProject(&c, i)
		sources := sourcesShuffled(&c, sourcesOf(list))
		if told := mustBuildAsTold(t, &c, sources); told.fault.Code != 0 {
			t.Fatalf("it has a Fault: %q", told.text)
		}
		m := imageBuilt(t, sources)
		if main, _ := impl.FuncOf(list[placeBy(list, "main")], "main"); slices.ContainsFunc(main.Tree, func(n impl.Node) bool { return n.Kind == 8 }) {
			called++
		}
		for _, args := range [][]int64{words(0), words(1), chosenWords(&c, 1), chosenWords(&c, 1), chosenWords(&c, 1)} {
			code, is := mustGiveWhatItMeans(t, list, m, args)
			seen[code]++
			if is {
				enough++
			}
		}
		for _, args := range [][]int64{nil, words(1, 2), words(greatestWord + 1), words(leastWord - 1)} {
			mustRun(t, m, "main.main", args, 100, 0, impl.MnBad)
		}
	}
	if seen[0] < 500 || seen[1] < 50 || seen[3] > 0 || enough < 1000 || called < 50 {
		t.Errorf("of each code there were %d, %d had fuel enough, %d mains called something", seen, enough, called)
	}
}

// Promise 17: what burns much.
func TestBuiltRunOfMuch(t *testing.T) {
	for _, much := range []int64{1, 3, 50, 100, 1000, 4000, 9999} {
		list, value := burning(t, much)
		m := imageBuilt(t, sourcesOf(list))
		mustRun(t, m, "main.main", words(0), impl.MaxFuel, value, impl.MnOk)
		mustGiveWhatItMeans(t, list, m, words(5))
	}
	list, _ := burning(t, 39999)
	mustRun(t, imageBuilt(t, sourcesOf(list)), "main.main", words(0), impl.MaxFuel, 0, impl.MnFuel)
}

// Promise 17: all lists of up to four of these sources, so in every order.
func TestBuiltOfAllListsOfFewSources(t *testing.T) {
	pool := []string{
		"package main\nfunc main 1 $0\n", "package main\nimport a\nfunc main 1 @a.f/0\n", "package main\nimport a\nimport b\nfunc main 1 + @a.f/0 @b.f/1 $0\n",
		"package a\nfunc f 0 1\n", "package a\nfunc g 0 1\n", "package a\nimport b\nfunc f 0 @b.f/1 3\n", "package b\nfunc f 1 / $0 2\n", "package b\nimport a\nfunc f 1 @a.f/0\n", "package z\nfunc f 0 $0\n", "x",
	}
	c, seen := chance(337), map[string]int{}
	told := map[string]string{}
	var each func(sources []string)
	each = func(sources []string) {
		sorted := strings.Join(slices.Sorted(slices.Values(sources)), "\x00") + strconv.Itoa(len(sources))
		if _, is := told[sorted]; !is {
			told[sorted] = mustBuildAsTold(t, &c, sources).text
		}
		mustBuild(t, sources, told[sorted])
		seen[strings.Join(strings.Fields(told[sorted])[:2], " ")]++
		if len(sources) < 4 {
			for _, source := range pool {
				each(append(slices.Clone(sources), source))
			}
		}
	}
	each(nil)
	for _, kind := range []string{"routine a.f", "routine main.main", "fault 1", "fault 2", "fault 3", "fault 4", "fault 5", "fault 6"} {
		if seen[kind] < 10 {
			t.Errorf("of %q there were %d: %v", kind, seen[kind], seen)
		}
	}
}

// Promise 17, of many, whole and with mistakes, and with sources that are
// spoilt.
func TestBuiltOfManySources(t *testing.T) {
	c := chance(347)
	seen := [8]int{}
	for i := range 700 {
		list := drawnProject(&c, i)
		for range i % 4 {
			mistaken(&c, list)
		}
		sources := sourcesOf(list)
		switch c.below(12) {
		case 0:
			at := c.below(len(sources))
			if place := c.below(len(sources[at]) + 1); place < len(sources[at]) {
				sources[at] = sources[at][:place]
			}
		case 1:
			at := c.below(len(sources))
			if len(sources[at]) > 0 {
				sources[at] = impl.Turned(sources[at], int64(c.below(len(sources[at]))), int64("a0 \n$"[c.below(5)]))
			}
		case 2:
			sources = append(sources, sources[c.below(len(sources))])
		case 3:
			at := c.below(len(sources))
			sources = slices.Delete(sources, at, at+1)
		}
		told := mustBuildAsTold(t, &c, sources)
		seen[told.fault.Code]++
		for range 3 {
			mustBuild(t, sourcesShuffled(&c, sources), told.text)
		}
		if len(sources) <= 3 {
			mustBuildInEachOrder(t, sources, told.text)
		}
	}
	if slices.Min(seen[:7]) < 10 || seen[7] > 0 {
		t.Errorf("of each Code there were %d", seen)
	}
}

// Promise 17: a Package that main does not reach may go, come, and be another
// one.
func TestBuiltDoesNotAskWhatIsNotReached(t *testing.T) {
	c := chance(349)
	fewer, others := 0, 0
	for range 200 {
		list := rightProject(&c, 1+c.below(8))
		want := impl.Built(sourcesOf(list))
		if !strings.HasPrefix(want, "routine ") {
			t.Fatalf("%q is Built", want)
		}
		left, other := onlyReached(list, "main"), projectCopied(list)
		fewer += len(list) - len(left)
		mustBuild(t, sourcesOf(left), want)
		for at := range other {
			if placeBy(left, other[at].Name) == -1 {
				for k, f := range other[at].Funcs {
					other[at].Funcs[k].Tree = calling(&c, f.Args, nil, 3)
				}
				others++
			}
		}
		mustBuild(t, sourcesShuffled(&c, sourcesOf(other)), want)
		for i := 0; len(left) < 8; i++ {
			left = append(left, pack("zzzzzzz"+string(rune('a'+i)), []string{"main"}, fn("f", 0, sign(6), num(1), num(0))))
			mustBuild(t, sourcesShuffled(&c, sourcesOf(left)), want)
		}
	}
	if fewer < 200 || others < 200 {
		t.Errorf("%d Packages could go, %d were others", fewer, others)
	}
	// But a Fault is one wherever it is.
	mustBuildInEachOrder(t, sourcesIn(t, "far: f 0 $0", "main: main 1 $0"), "fault 3 far f\n")
	// And one that is reached changes what is Built, called or not.
	with, without := impl.Built(sourcesIn(t, "lib: f 0 1", "main lib: main 1 $0")), impl.Built(sourcesIn(t, "lib: f 0 2", "main lib: main 1 $0"))
	if with == without {
		t.Errorf("%q is Built of both", with)
	}
}

// greatestProject has 8 Packages of 8 Funcs, each of which has that tree, with
// the Func ahead of it where @ stands; the first one has none.
func greatestProject(t *testing.T, args int64, tree string) []impl.Package {
	t.Helper()
	names, packages := namesOf("fffffff", 8), append(namesOf("mmmmmmm", 7), "main")
	list, ahead := []impl.Package{}, ""
	for at, name := range packages {
		p := pack(name, slices.Sorted(slices.Values(packages[max(0, at-6):at])))
		for _, fname := range names {
			text := "$0"
			if ahead != "" {
				text = strings.ReplaceAll(tree, "@", "@"+ahead)
			}
			p.Funcs = append(p.Funcs, fn(fname, args, treeIn(t, text)...))
			ahead = name + "." + fname
		}
		list = append(list, p)
	}
	last := &list[7].Funcs[7]
	last.Name, last.Args = "main", 1
	slices.SortFunc(list, func(a, b impl.Package) int { return strings.Compare(a.Name, b.Name) })
	return list
}

// The longest code, the most registers and the most Routines that there can
// be are not too much.
func TestBuiltOfTheGreatest(t *testing.T) {
	c := chance(353)
	for _, one := range []struct {
		args int64
		tree string
	}{
		{2, "@/2 0 " + strings.Repeat("? $0 -2147483648 ", 19) + "$0"},
		{3, strings.Repeat("@/3 $0 $0 ", 19) + "+ $0 $0"},
		{2, strings.Repeat("@/2 $0 ", 29) + "$0"},
		{1, strings.Repeat("+ $0 ", 29) + "$0"},
	} {
		list := greatestProject(t, one.args, one.tree)
		mustFault(t, list, 0, "", "")
		sources := sourcesOf(list)
		told := mustBuildAsTold(t, &c, sources)
		if m := imageBuilt(t, sources); len(m.Routines) != 64 || len(told.parts) != 8 {
			t.Errorf("there are %d Routines of %q", len(m.Routines), told.parts)
		}
		for range 10 {
			mustBuild(t, sourcesShuffled(&c, sources), told.text)
		}
	}
}

// changedProgram takes a copy of the program with one line of it another one,
// and answers what a main with this body prints, by the copy and by what it is
// given. Some limits can't be come to in the program as it is, so that they are
// told by one that has others.
func changedProgram(t *testing.T, file, line, other, body string) func(given []string) string {
	t.Helper()
	files, err := filepath.Glob(filepath.Join("..", "impl", "*.go"))
	if err != nil || len(files) == 0 {
		t.Fatalf("the program is not here: %v", err)
	}
	copied, changed := t.TempDir(), 0
	put := func(name, text string) {
		t.Helper()
		path := filepath.Join(copied, name)
		if err := os.MkdirAll(filepath.Dir(path), 0o755); err != nil {
			t.Fatal(err)
		}
		if err := os.WriteFile(path, []byte(text), 0o644); err != nil {
			t.Fatal(err)
		}
	}
	for _, name := range files {
		text, err := os.ReadFile(name)
		if err != nil {
			t.Fatal(err)
		}
		if filepath.Base(name) == file {
			changed += strings.Count(string(text), line+"\n")
			text = []byte(strings.Replace(string(text), line+"\n", other+"\n", 1))
		}
		put(filepath.Join("impl", filepath.Base(name)), string(text))
	}
	if changed != 1 {
		t.Fatalf("%q is %d times in %s", line, changed, file)
	}
	put("go.mod", "module loop.example/g00346\n\ngo 1.27\n")
	put("main.go", "package main\n\nimport (\n\t\"fmt\"\n\t\"os\"\n\n\t\"loop.example/g00346/impl\"\n)\n\nfunc main() {\n"+body+"\n}\n")
	made := filepath.Join(copied, "made")
	build := exec.Command("go", "build", "-o", made, ".")
	build.Dir, build.Env = copied, append(os.Environ(), "GOWORK=off", "GOFLAGS=", "GOPROXY=off")
	if said, err := build.CombinedOutput(); err != nil {
		t.Fatalf("the copy is not built: %v\n%s", err, said)
	}
	return func(given []string) string {
		t.Helper()
		said, err := exec.Command(made, given...).Output()
		if err != nil {
			t.Fatal(err)
		}
		return string(said)
	}
}

// Where code may have 5 Ins at most, 6 of them are too long.
func TestBuiltOfAnObjectThatIsZero(t *testing.T) {
	built := changedProgram(t, "l13_code.go", "const MaxCode = 200", "const MaxCode = 5", "fmt.Print(impl.Built(os.Args[1:]))")
	for _, one := range []struct {
		big   bool
		texts []string
	}{
		{false, []string{"main: main 1 $0"}},
		// 5 by three parts, a call and the end; 6 by another part.
		{false, []string{"main: f 3 $0; main 1 @main.f/3 $0 1 2"}},
		{true, []string{"main: f 3 $0; main 1 @main.f/3 $0 1 / 2 $0"}},
		{true, []string{"main: main 1 ? $0 1 2"}},
		{true, []string{"main: main 1 $0; z 0 + + / 1 0 / 1 0 3"}},
		// Folded it is not too long.
		{false, []string{"main: main 1 ? + 1 1 - $0 0 ? $0 1 2"}},
		// In another Package: the first, one in the middle, each of two.
		{true, []string{"lib: f 1 ? $0 1 2", "main lib: main 1 @lib.f/1 $0"}},
		{true, []string{"lib: f 1 ? $0 1 2; g 0 1", "main lib: main 1 $0"}},
		{true, []string{"lib: f 1 $0", "main mid: main 1 @mid.f/1 $0", "mid lib: f 1 ? $0 1 @lib.f/1 3"}},
		{true, []string{"lib: f 1 ? $0 1 2", "main lib: main 1 ? $0 1 2"}},
		// What is not reached is not made.
		{false, []string{"far: f 1 ? $0 1 2", "main: main 1 $0"}},
		{false, []string{"far main: f 1 ? $0 1 @main.main/1 2", "main: main 1 $0"}},
	} {
		sources := sourcesIn(t, one.texts...)
		orders(nil, sources, func(ordered []string) {
			want := impl.Built(ordered)
			if !strings.HasPrefix(want, "routine ") {
				t.Errorf("%q is Built of %q", want, ordered)
			}
			if one.big {
				want = bigText
			}
			if got := built(ordered); got != want {
				t.Errorf("%q is Built, not %q, of %q", got, want, ordered)
			}
		})
	}
	// Each Fault that FaultOf tells goes ahead.
	for _, one := range [][]string{
		{"fault 1 lib -\n", "lib zz: f 1 ? $0 1 2", "main lib: main 1 ? $0 1 2"}, {"fault 2 main -\n", "main main: main 1 ? $0 1 2"}, {"fault 3 main main\n", "main: main 1 ? $1 1 2"},
		{"fault 4 main main\n", "main: main 1 ? $0 @main.g/0 2"}, {"fault 5 main main\n", "main: main 2 ? $0 1 2"}, {"fault 3 far f\n", "far: f 0 $0", "main: main 1 ? $0 1 2"},
	} {
		if got := built(sourcesIn(t, one[1:]...)); got != one[0] {
			t.Errorf("%q is Built of %q", got, one)
		}
	}
	if got := built([]string{"package main\nfunc main 1 ? $0 1 2\n", "x"}); got != badText {
		t.Errorf("%q is Built", got)
	}
}

// projectOverwritten writes into all of the lists, and into the room behind
// them.
func projectOverwritten(list []impl.Package) {
	for _, p := range list {
		overwritten(p)
	}
	for at := range list[:cap(list)] {
		list[:cap(list)][at] = pack("spoilt", nil)
	}
}

func textsOfProject(list []impl.Package) []string {
	texts := []string{}
	for _, p := range list {
		texts = append(texts, textsOfPackage(p)...)
	}
	return texts
}

// mustBeNewBuilding asks several times; no answer shares anything with
// another one, nor with the sources.
func mustBeNewBuilding(t *testing.T, sources []string) {
	t.Helper()
	first, _ := impl.Sorted(sources)
	again, is := impl.Sorted(sources)
	want, wantParts := projectCopied(again), strings.Join(impl.Parts(again), " ")
	texts := textsOfProject(first)
	for at, text := range texts {
		mustShareNoText(t, "within one answer", []string{text}, texts[:at])
	}
	mustShareNoText(t, "with another answer", texts, textsOfProject(again))
	mustShareNoText(t, "with the sources", texts, sources)
	mustPutInAnew(t, again)
	for at := range first {
		overwritten(first[at])
		if rest, other := first[at+1:], want[at+1:]; !slices.EqualFunc(rest, other, samePackage) {
			t.Errorf("%d and another one of %s share memory", at, toldSources(sources))
		}
	}
	projectOverwritten(first)
	mustSort(t, sources, want, is)
	if !slices.EqualFunc(again, want, samePackage) {
		t.Errorf("%s are handed out twice", toldSources(sources))
	}
	mustPutIn(t, again, wantParts)
	one, two := impl.Built(sources), impl.Built(sources)
	mustShareNoText(t, "Built, with another answer", []string{one}, []string{two})
	mustShareNoText(t, "Built, with the sources", []string{one, two}, sources)
}

func mustPutInAnew(t *testing.T, list []impl.Package) {
	t.Helper()
	first, again := impl.Parts(list), impl.Parts(list)
	want := slices.Clone(again)
	mustShareNoText(t, "Parts, with the Packages", first, textsOfProject(list))
	mustShareNoText(t, "Parts, with another answer", first, again)
	for at, name := range first {
		mustShareNoText(t, "Parts, within one answer", []string{name}, first[:at])
	}
	namesOverwritten(first)
	if !slices.Equal(again, want) || !slices.Equal(impl.Parts(list), want) {
		t.Errorf("the Parts %q are handed out twice", want)
	}
}

// Promise 21.
func TestBuildingsAreNewMemory(t *testing.T) {
	c := chance(359)
	for i := range 60 {
		list := rightProject(&c, 1+c.below(8))
		for range i % 3 {
			mistaken(&c, list)
		}
		mustBeNewBuilding(t, sourcesShuffled(&c, sourcesOf(list)))
	}
	for _, f := range faulty {
		mustBeNewBuilding(t, sourcesIn(t, f.texts...))
	}
	mustBeNewBuilding(t, nil)
	mustBeNewBuilding(t, []string{"x"})
	mustBeNewBuilding(t, oneEach(namesOf("p", 9)...))
}

// Promise 21: the sources are laid over bytes of the test's own, with room
// behind the list.
func TestSourcesStay(t *testing.T) {
	for _, one := range []struct {
		want  string
		texts []string
	}{
		{"routine lib.f 1 4\n2 0 0 0 -\n1 1 2 0 -\n3 0 0 1 -\n10 0 0 0 -\nroutine main.main 1 3\n2 0 0 0 -\n9 0 1 0 lib.f\n10 0 0 0 -\n",
			[]string{"package zed\nfunc f 0 1\n", "package main\nimport lib\nfunc main 1 @lib.f/1 $0\n", "package lib\nfunc f 1 + $0 2\n"}},
		{"fault 1 main -\n", []string{"package zed\nfunc f 0 1\n", "package main\nimport lib\nfunc main 1 @lib.f/1 $0\n"}},
		{"fault 4 lib fact\n", []string{"package main\nimport lib\nfunc main 1 @lib.f/1 $0\n", "package lib\nfunc fact 1 @lib.fact/1 $0\n"}},
		{badText, []string{"package zed\nfunc f 0 1\n", "package zed\nfunc f 0 1\n"}},
		{badText, []string{"package zed\nfunc f 0 1\n", "package main\nfunc main 1 $0"}},
	} {
		room := make([]byte, 300)
		laid := laidOver(room, append(slices.Clone(one.texts), "package spare\nfunc f 0 1\n", "room")...)
		held, many := string(room), len(one.texts)
		sources := laid[:many]
		before := slices.Clone(laid)
		for range 3 {
			mustBuild(t, sources, one.want)
			mustBeNewBuilding(t, sources)
		}
		if string(room) != held || !slices.Equal(laid, before) {
			t.Errorf("a source of %q, or the room behind it, was written into", one.texts)
		}
		want, wantIs := sortedBy(one.texts)
		list, is := impl.Sorted(sources)
		parts, text := impl.Parts(list), impl.Built(sources)
		mustShareNoText(t, "with the bytes of the sources", append(textsOfProject(list), append(parts, text)...), []string{unsafe.String(&room[0], len(room))})
		// What was answered stays, though the sources are others now.
		for at := range room {
			room[at] = 'x'
		}
		if is != wantIs || !slices.EqualFunc(list, want, samePackage) || text != one.want || !slices.Equal(parts, partsBy(want)) {
			t.Errorf("of %q there are %q, %q and %q now", one.texts, shownProject(list), parts, text)
		}
		mustBeNoSources(t, sources)
	}
}

// Promise 21, for Packages with each Fault, and without.
func TestPartsLeaveTheirArguments(t *testing.T) {
	room := make([]byte, 1000)
	for code, list := range laidChecks(t, room) {
		held, before := string(room), projectCopied(list)
		imports, funcs, nodes := behind(list)
		for range 2 {
			want := ""
			if code == 0 {
				want = "lib main"
			}
			mustPutIn(t, list, want)
			mustPutInAnew(t, list)
		}
		importsNow, funcsNow, nodesNow := behind(list)
		if string(room) != held || !slices.EqualFunc(list, before, samePackage) ||
			!slices.Equal(imports, importsNow) || !slices.EqualFunc(funcs, funcsNow, sameFunc) || !slices.Equal(nodes, nodesNow) {
			t.Errorf("%d: an argument, or the room behind it, was written into", code)
		}
	}
	list := written(t, "lib: f 0 1", "main lib: main 1 1", "z: f 0 1")
	parts := impl.Parts(list[:2])
	projectOverwritten(list)
	if !slices.Equal(parts, []string{"lib", "main"}) {
		t.Errorf("Parts are %q now", parts)
	}
}

// Promise 21: nothing is kept of what was asked ahead, though the same memory
// holds another text now.
func TestBuildingsKeepNothing(t *testing.T) {
	room := []byte("package main\nfunc main 1 + $0 2\n")
	sources := []string{unsafe.String(&room[0], len(room))}
	c := chance(367)
	was := ""
	for _, digit := range []byte("213456789 0") {
		room[len(room)-2] = digit
		mustBuildAsTold(t, &c, sources)
		if text := impl.Built(sources); text == was {
			t.Errorf("%q is Built twice", text)
		} else {
			was = text
		}
	}
	room[len(room)-2] = '2'
	room[len("package mai")] = 'd'
	mustBuild(t, sources, "fault 5 main main\n")
	room[len("package mai")] = 'n'
	mustBuild(t, sources, "routine main.main 1 4\n2 0 0 0 -\n1 1 2 0 -\n3 0 0 1 -\n10 0 0 0 -\n")
	room[0] = 'P'
	mustBeNoSources(t, sources)
	list := written(t, "lib: f 0 1", "main lib: main 1 1")
	for range 3 {
		mustPutIn(t, list, "lib main")
		list[1].Imports = nil
		mustPutIn(t, list, "main")
		list[1].Funcs[0].Args = 2
		mustPutIn(t, list, "")
		list = written(t, "lib: f 0 1", "main lib: main 1 1")
	}
}

// All that was begun is at its end when there is an answer, and askings at the
// same time are each answered for themselves.
func TestBuildingsAtTheSameTime(t *testing.T) {
	c := chance(373)
	lists, want := [][]string{}, []string{}
	for i := range 24 {
		list := rightProject(&c, 1+c.below(8))
		for range i % 3 {
			mistaken(&c, list)
		}
		lists = append(lists, sourcesOf(list))
		want = append(want, buildingBy(&c, sourcesOf(list)).text)
	}
	before := runtime.NumGoroutine()
	var asked sync.WaitGroup
	for i, sources := range lists {
		asked.Go(func() {
			for range 50 {
				if got := impl.Built(sources); got != want[i] {
					t.Errorf("%q is Built, not %q", got, want[i])
				}
			}
		})
	}
	asked.Wait()
	for range 1000 {
		impl.Sorted(lists[0])
		impl.Sorted([]string{"x", "y", "package a\nfunc f 0 1\n"})
	}
	// One that is at its end may still be counted for a while.
	for range 100000 {
		if runtime.NumGoroutine() <= before {
			return
		}
		runtime.Gosched()
	}
	t.Errorf("there were %d goroutines, and now %d", before, runtime.NumGoroutine())
}

// Promise 21: whatever they are given, they answer.
func TestBuildingsAnswerAtEveryText(t *testing.T) {
	c := chance(379)
	texts := piecedTexts()
	for at, s := range texts {
		mustBeNoSources(t, []string{s})
		if at%16 == 0 {
			mustBuildAsTold(t, &c, []string{"package main\nfunc main 1 " + s, "package lib\nfunc f 0 1\n"})
			mustBuildAsTold(t, &c, []string{"package lib\nfunc f 0 1\n", "package " + s})
			mustBuildAsTold(t, &c, []string{"package lib\nfunc f 0 1\n", s, "package main\nfunc main 1 $0\n"})
		}
	}
	for range 3000 {
		sources := []string{}
		for range c.below(11) {
			switch c.below(6) {
			case 0:
				sources = append(sources, unreadable[c.below(len(unreadable))])
			case 1:
				sources = append(sources, texts[c.below(len(texts))])
			default:
				sources = append(sources, oneEach([]string{"a", "b", "main", "main a", "c a b", "d", "e", "f"}[c.below(8)])...)
			}
		}
		mustBuildAsTold(t, &c, sources)
	}
}

func TestPartsAnswerAtEveryArgument(t *testing.T) {
	c := chance(383)
	nodes := wrongNodes()
	seen := [8]int{}
	for range 3000 {
		list := rightProject(&c, 1+c.below(8))
		for range c.below(3) {
			p := &list[c.below(len(list))]
			f := &p.Funcs[c.below(len(p.Funcs))]
			switch c.below(8) {
			case 0:
				f.Tree[c.below(len(f.Tree))] = nodes[c.below(len(nodes))]
			case 1:
				p.Name = noNames[c.below(len(noNames))]
			case 2:
				f.Args = int64(c.below(7)) - 2
			case 3:
				slices.Reverse(list)
			case 4:
				f.Tree = nil
			default:
				mistaken(&c, list)
			}
			if len(f.Tree) == 0 {
				break
			}
		}
		seen[append(faultsBy(list), impl.Fault{})[0].Code]++
		mustPutIn(t, list, strings.Join(partsBy(list), " "))
	}
	if seen[0] < 300 || seen[6] < 300 {
		t.Errorf("of each Code there were %d", seen)
	}
}

func TestBuildingsAnswerAtGreatArguments(t *testing.T) {
	main := "package main\nfunc main 1 $0\n"
	mustBeNoSources(t, slices.Repeat([]string{main}, 1000000))
	mustBeNoSources(t, make([]string, 1000000))
	for _, great := range []string{
		strings.Repeat(main, 30000), "package main\nfunc main 1 " + strings.Repeat("+ ", 500000) + "1\n", "package " + strings.Repeat("a", 1000000) + "\nfunc f 0 1\n", strings.Repeat("\n", 1000000),
		strings.Repeat(" ", 1000000), strings.Repeat("\xff", 1000000), "package lib\n" + strings.Repeat("import a\n", 100000) + "func f 0 1\n", "package lib\n" + strings.Repeat("func f 0 1\n", 100000),
	} {
		mustBeNoSources(t, []string{great})
		mustBeNoSources(t, []string{main, great})
		mustBeNoSources(t, append(slices.Repeat([]string{great}, 7), main))
	}
	if got := impl.Parts(slices.Repeat(written(t, main[8:12]+": main 1 $0"), 1000000)); len(got) > 0 {
		t.Errorf("Parts are %q", got)
	}
	if got := impl.Parts(make([]impl.Package, 1000000)); len(got) > 0 {
		t.Errorf("Parts are %q", got)
	}
}
