package tests

import (
	"fmt"
	"slices"
	"strconv"
	"strings"
	"testing"
	"unsafe"

	"loop.example/g00346/impl"
)

// A linking is all that is told of a list of Objects.
type linking struct {
	defined, missing []string
	image            impl.Image
	code             int64
}

func sameLinking(a, b linking) bool {
	return slices.Equal(a.defined, b.defined) && slices.Equal(a.missing, b.missing) && sameImage(a.image, b.image) && a.code == b.code
}

func linkingOf(list []impl.Object) linking {
	m, code := impl.Linked(list)
	return linking{impl.Defined(list), impl.Missing(list), m, code}
}

func (l linking) String() string {
	return fmt.Sprintf("%d, defined %q, missing %q, %s", l.code, l.defined, l.missing, toldImage(l.image))
}

// linkBy goes by the document's sentences, with lists alone.
func linkBy(list []impl.Object) linking {
	if len(list) > 8 || !alwaysOf(list, objectRight) {
		return linking{code: impl.LkBad}
	}
	all, calls := []impl.Routine{}, []impl.Ins{}
	names, called := []string{}, []string{}
	for _, o := range list {
		for _, r := range o.Routines {
			all, names = append(all, r), append(names, r.Name)
			for _, i := range r.Code {
				if i.Kind == 9 {
					calls, called = append(calls, i), append(called, i.Name)
				}
			}
		}
	}
	slices.Sort(names)
	slices.Sort(called)
	defined := slices.Compact(slices.Clone(names))
	missing := slices.DeleteFunc(slices.Compact(called), func(name string) bool { return slices.Contains(names, name) })
	slices.SortFunc(all, func(a, b impl.Routine) int { return strings.Compare(a.Name, b.Name) })
	other := func(i impl.Ins) bool {
		return slices.ContainsFunc(all, func(r impl.Routine) bool { return r.Name == i.Name && r.Args != i.A })
	}
	switch {
	case len(list) == 0:
		return linking{code: impl.LkBad}
	case len(defined) != len(names):
		return linking{defined, missing, impl.Image{}, impl.LkTwice}
	case len(missing) > 0:
		return linking{defined, missing, impl.Image{}, impl.LkMissing}
	case slices.ContainsFunc(calls, other):
		return linking{defined, missing, impl.Image{}, impl.LkArgs}
	}
	return linking{defined, missing, impl.Image{Routines: all}, impl.LkOk}
}

func alwaysOf[T any](list []T, is func(T) bool) bool {
	return !slices.ContainsFunc(list, func(one T) bool { return !is(one) })
}

func toldObjects(list []impl.Object) string {
	text := strconv.Itoa(len(list))
	for _, o := range list[:min(len(list), 10)] {
		text += "\n" + toldObject(o)
	}
	return text
}

// mustLink asks twice.
func mustLink(t *testing.T, list []impl.Object, want linking) {
	t.Helper()
	for range 2 {
		if got := linkingOf(list); !sameLinking(got, want) {
			t.Errorf("it is %v, not %v, of %s", got, want, toldObjects(list))
		}
	}
}

// mustLinkAsTold also holds what is Linked against what the Objects have, and
// says how it went.
func mustLinkAsTold(t *testing.T, list []impl.Object) int64 {
	t.Helper()
	mustLink(t, list, linkBy(list))
	m, code := impl.Linked(list)
	if code != impl.LkOk {
		if len(m.Routines) > 0 {
			t.Errorf("with %d there is %s", code, toldImage(m))
		}
		return code
	}
	if !impl.ImageOk(m) {
		t.Errorf("%s is not ImageOk", toldImage(m))
	}
	names := []string{}
	for _, r := range m.Routines {
		names = append(names, r.Name)
		at := slices.IndexFunc(list, func(o impl.Object) bool {
			return slices.ContainsFunc(o.Routines, func(s impl.Routine) bool { return sameRoutine(r, s) })
		})
		if at < 0 || !strings.HasPrefix(r.Name, list[at].Package+".") {
			t.Errorf("%q is not as its Object has it", r.Name)
		}
	}
	if !slices.Equal(names, impl.Defined(list)) || len(impl.Missing(list)) > 0 {
		t.Errorf("%q are Linked, %q are Defined, %q Missing", names, impl.Defined(list), impl.Missing(list))
	}
	return code
}

// inEachOrder wants few.
func inEachOrder(list []impl.Object, tell func([]impl.Object)) {
	places := []string{}
	for at := range list {
		places = append(places, strconv.Itoa(at))
	}
	orders(nil, places, func(places []string) {
		ordered := []impl.Object{}
		for _, place := range places {
			ordered = append(ordered, list[parsed(place)])
		}
		tell(ordered)
	})
}

// mustLinkInEachOrder is promise 16 for one list.
func mustLinkInEachOrder(t *testing.T, list []impl.Object, want linking) {
	t.Helper()
	inEachOrder(list, func(ordered []impl.Object) { mustLink(t, ordered, want) })
}

// A told list is one text for each Object: its head, and then behind a | each
// of its Routines.
func objectsIn(t *testing.T, texts ...string) []impl.Object {
	t.Helper()
	list := []impl.Object{}
	for _, text := range texts {
		parts := strings.Split(text, "|")
		for at := range parts {
			parts[at] = strings.TrimSpace(parts[at])
		}
		list = append(list, objectIn(t, parts[0], parts[1:]...))
	}
	return list
}

// mustLinkTo tells by names with blanks between, and the Routines of the Image
// by their texts.
func mustLinkTo(t *testing.T, list []impl.Object, code int64, defined, missing string, routines ...string) {
	t.Helper()
	want := linking{strings.Fields(defined), strings.Fields(missing), imageIn(t, routines...), code}
	if by := linkBy(list); !sameLinking(by, want) {
		t.Errorf("it is %v by the sentences, not %v", by, want)
	}
	mustLinkInEachOrder(t, list, want)
	mustLinkAsTold(t, list)
}

func mustBeBadList(t *testing.T, list []impl.Object) {
	t.Helper()
	mustLink(t, list, linking{code: impl.LkBad})
}

// manyParts are each of another Package, with one Routine that is of its own
// length.
func manyParts(many int) []impl.Object {
	list := []impl.Object{}
	for at := range many {
		o := partsOf(string([]byte{byte('a' + at/26%26), byte('a' + at%26)}), nil, "f")
		o.Routines[0].Code = ending(1+at%200, insOf(1, 0, int64(at), 0, ""))
		list = append(list, o)
	}
	return list
}

func TestLinkedCodesAreThoseOfTheDocument(t *testing.T) {
	if got := []int{impl.LkOk, impl.LkTwice, impl.LkMissing, impl.LkArgs, impl.LkBad}; !slices.Equal(got, []int{0, 1, 2, 3, 4}) {
		t.Errorf("they are %d", got)
	}
}

func TestLinkOfNoneOfEightAndOfMore(t *testing.T) {
	mustBeBadList(t, nil)
	mustBeBadList(t, []impl.Object{})
	mustLinkTo(t, manyParts(1), impl.LkOk, "aa.f", "", "aa.f 0: end 0")
	mustLinkTo(t, manyParts(2), impl.LkOk, "aa.f ab.f", "", "aa.f 0: end 0", "ab.f 0: set 0 1, end 0")
	for many := 1; many <= 8; many++ {
		names, list := []string{}, manyParts(many)
		for _, o := range list {
			names = append(names, o.Package+".f")
		}
		if got := impl.Defined(list); !slices.Equal(got, names) {
			t.Errorf("of %d there are %q", many, got)
		}
		if code := mustLinkAsTold(t, list); code != impl.LkOk {
			t.Errorf("of %d it is %d", many, code)
		}
		slices.Reverse(list)
		mustLinkAsTold(t, list)
		// With a call that no one answers, and with one twice.
		list[many-1].Routines[0].Code = codeIn(t, "call 0 0 aa.g, end 0")
		if got := impl.Missing(list); !slices.Equal(got, []string{"aa.g"}) || mustLinkAsTold(t, list) != impl.LkMissing {
			t.Errorf("of %d there are missing %q", many, got)
		}
		if many < 8 {
			if code := mustLinkAsTold(t, append(list, list[0])); code != impl.LkTwice {
				t.Errorf("of %d and one again it is %d", many, code)
			}
		}
	}
	for many := 9; many <= 40; many++ {
		list := manyParts(many)
		mustBeBadList(t, list)
		list[many-1].Routines[0].Code = codeIn(t, "call 0 0 "+list[many-1].Package+".g, end 0")
		mustBeBadList(t, list)
		mustBeBadList(t, slices.Repeat(manyParts(1), many))
	}
	for _, many := range []int{256, 257, 264, 512, 65536, 65537, 65544} {
		mustBeBadList(t, slices.Repeat(manyParts(1), many))
		mustBeBadList(t, make([]impl.Object, many))
	}
}

// wrongObjects are not ObjectOk, each by one thing.
func wrongObjects(t *testing.T) []impl.Object {
	t.Helper()
	return append(objectsIn(t,
		"lib | a.f 0: end 0", "lib | lib.f 4: end 0", "lib | lib.f -1: end 0", "lib | lib.f 0:", "lib | lib.f 0: set 0 1", "lib | lib.f 0: arg 0 0, end 0", "lib | lib.f 2: arg 0 2, end 0",
		"lib | lib.f 0: call 0 0 aa.f, end 0", "lib b | lib.f 0: call 0 0 aa.f, end 0", "lib | lib.f 0: call 0 4 lib.f, end 0", "lib | lib.f 0: jump 1", "lib | lib.f 0: end 64",
		"lib | lib.g 0: end 0 | lib.f 0: end 0", "lib | lib.f 0: end 0 | lib.f 0: end 0", "Lib | Lib.f 0: end 0", "lib b a | lib.f 0: end 0", "lib a a | lib.f 0: end 0", "lib A | lib.f 0: end 0",
		"lib", "lib | lib.f 0: end 0 | libb.f 0: end 0", "lib aa | aa.f 0: end 0", "lib | lib.f 0: call 0 0 lib, end 0", "lib | lib.f 0: end 0 | lib.g 0: end 0 | lib.h 0: call 0 0 ab.f, end 0",
	), impl.Object{}, partsOf("", nil, "f"), partsOf("lib", nil, ""), partsOf("lib", []string{""}, "f"), partsOf("lib", namesOf("m", 7), "f"), partsOf("lib", nil, namesOf("f", 9)...))
}

func TestLinkOfOneThatIsNotObjectOk(t *testing.T) {
	for _, wrong := range wrongObjects(t) {
		if impl.ObjectOk(wrong) || objectRight(wrong) {
			t.Errorf("%s is right", toldObject(wrong))
		}
		mustBeBadList(t, []impl.Object{wrong})
		mustBeBadList(t, []impl.Object{wrong, wrong})
		for many := 1; many <= 9; many++ {
			for at := range many {
				list := manyParts(many)
				list[at] = wrong
				mustBeBadList(t, list)
			}
		}
		// With all the other codes.
		twice := objectsIn(t, "a | a.f 0: call 0 0 a.g, call 0 1 a.f, end 0", "a | a.f 0: end 0")
		mustLinkTo(t, twice, impl.LkTwice, "a.f", "a.g")
		for at := range 3 {
			mustBeBadList(t, slices.Insert(slices.Clone(twice), at, wrong))
		}
	}
	for at := range 8 {
		for _, spoil := range []func(o *impl.Object){
			func(o *impl.Object) { o.Package = "zz" },
			func(o *impl.Object) { o.Package = "" },
			func(o *impl.Object) { o.Imports = []string{"b", "a"} },
			func(o *impl.Object) { o.Imports = namesOf("m", 7) },
			func(o *impl.Object) { o.Routines = nil },
			func(o *impl.Object) { o.Routines[0].Name = "zz.f" },
			func(o *impl.Object) { o.Routines[0].Args = 4 },
			func(o *impl.Object) { o.Routines[0].Code = nil },
			func(o *impl.Object) { o.Routines[0].Code = codeIn(t, "call 0 0 zz.f, end 0") },
			func(o *impl.Object) { o.Routines = append(o.Routines, o.Routines[0]) },
		} {
			list := manyParts(8)
			mustLinkAsTold(t, list)
			spoil(&list[at])
			mustBeBadList(t, list)
		}
	}
}

func TestDefinedOfObjectsThatShareNames(t *testing.T) {
	mustLinkTo(t, objectsIn(t, "a | a.f 0: end 0", "a | a.f 0: end 0"), impl.LkTwice, "a.f", "")
	mustLinkTo(t, objectsIn(t, "a | a.f 0: end 0", "a | a.f 1: arg 0 0, end 0"), impl.LkTwice, "a.f", "")
	mustLinkTo(t, objectsIn(t, "a | a.f 0: end 0 | a.g 0: end 0", "a | a.g 0: end 0 | a.h 0: end 0"), impl.LkTwice, "a.f a.g a.h", "")
	mustLinkTo(t, objectsIn(t, "a | a.f 0: end 0 | a.h 0: end 0", "b | b.f 0: end 0", "a | a.g 0: end 0 | a.h 0: end 0"), impl.LkTwice, "a.f a.g a.h b.f", "")
	mustLinkTo(t, objectsIn(t, "a | a.f 0: end 0", "a | a.f 0: end 0", "a | a.f 0: end 0", "a b | a.f 3: end 0"), impl.LkTwice, "a.f", "")
	mustLinkTo(t, objectsIn(t, "a | a.f 0: end 0", "b | b.f 0: end 0", "a | a.f 0: end 0", "b | b.f 0: end 0"), impl.LkTwice, "a.f b.f", "")
	// One Package may come in two Objects that share no Name.
	mustLinkTo(t, objectsIn(t, "a | a.f 0: end 0", "a | a.g 0: end 1"), impl.LkOk, "a.f a.g", "", "a.f 0: end 0", "a.g 0: end 1")
	mustLinkTo(t, objectsIn(t, "a | a.f 0: end 0 | a.h 0: end 2", "a b | a.g 0: end 1 | a.i 0: end 3"), impl.LkOk, "a.f a.g a.h a.i", "", "a.f 0: end 0", "a.g 0: end 1", "a.h 0: end 2", "a.i 0: end 3")
	// The same name in two Packages is two Names, and so are other ones that
	// are alike but for the dot.
	mustLinkTo(t, objectsIn(t, "a | a.f 0: end 0", "b | b.f 0: end 1"), impl.LkOk, "a.f b.f", "", "a.f 0: end 0", "b.f 0: end 1")
	mustLinkTo(t, objectsIn(t, "a | a.bc 0: end 0", "ab | ab.c 0: end 1"), impl.LkOk, "a.bc ab.c", "", "a.bc 0: end 0", "ab.c 0: end 1")
	for many := 2; many <= 8; many++ {
		for at := range many {
			for to := range many {
				list := manyParts(many)
				list[at] = list[to]
				want := int64(impl.LkTwice)
				if at == to {
					want = impl.LkOk
				}
				if code := mustLinkAsTold(t, list); code != want {
					t.Errorf("%d of %d, which is %d, gives %d", at, many, to, code)
				}
			}
		}
	}
	// Of 8 Routines, one is there in another Object.
	for at := range 8 {
		list := []impl.Object{partsOf("lib", nil, namesOf("f", 8)...), partsOf("lib", []string{"a"}, namesOf("g", 7)...)}
		list[1].Routines = slices.Insert(list[1].Routines, 0, list[0].Routines[at])
		if code := mustLinkAsTold(t, list); code != impl.LkTwice || len(impl.Defined(list)) != 15 {
			t.Errorf("with %d again it is %d, of %q", at, code, impl.Defined(list))
		}
	}
}

func TestDefinedRises(t *testing.T) {
	// A dot is below every letter, so that all Names of one Package are
	// together.
	mustLinkTo(t, objectsIn(t, "ab | ab.a 0: end 0", "a | a.b 0: end 1 | a.z 0: end 2", "aa | aa.aa 0: end 3 | aa.b 0: end 4", "b | b.a 0: end 5"),
		impl.LkOk, "a.b a.z aa.aa aa.b ab.a b.a", "", "a.b 0: end 1", "a.z 0: end 2", "aa.aa 0: end 3", "aa.b 0: end 4", "ab.a 0: end 0", "b.a 0: end 5")
	mustLinkTo(t, objectsIn(t, "z | z.a 0: end 0 | z.aa 0: end 1 | z.abcdefgh 0: end 2 | z.b 0: end 3", "abcdefgh | abcdefgh.zzzzzzzz 0: end 4"),
		impl.LkOk, "abcdefgh.zzzzzzzz z.a z.aa z.abcdefgh z.b", "", "abcdefgh.zzzzzzzz 0: end 4", "z.a 0: end 0", "z.aa 0: end 1", "z.abcdefgh 0: end 2", "z.b 0: end 3")
	c := chance(269)
	for range 400 {
		list := []impl.Object{}
		for _, name := range chosenNames(&c, 1+c.below(8)) {
			list = append(list, partsOf(name, nil, slices.Sorted(slices.Values(chosenNames(&c, 1+c.below(8))))...))
		}
		if code := mustLinkAsTold(t, list); code != impl.LkOk {
			t.Errorf("it is %d of %s", code, toldObjects(list))
		}
		names := impl.Defined(list)
		for at, name := range names[1:] {
			if names[at] >= name {
				t.Errorf("%q do not rise", names)
			}
		}
	}
}

func TestMissingOfCalls(t *testing.T) {
	// Inside the Object: the Routine itself, another one, none.
	mustLinkTo(t, objectsIn(t, "a | a.f 0: call 0 0 a.f, end 0"), impl.LkOk, "a.f", "", "a.f 0: call 0 0 a.f, end 0")
	mustLinkTo(t, objectsIn(t, "a | a.f 0: call 0 0 a.g, end 0 | a.g 0: call 0 0 a.f, end 0"), impl.LkOk, "a.f a.g", "", "a.f 0: call 0 0 a.g, end 0", "a.g 0: call 0 0 a.f, end 0")
	mustLinkTo(t, objectsIn(t, "a | a.f 0: call 0 0 a.g, end 0"), impl.LkMissing, "a.f", "a.g")
	// To another Object: one that is there, and one that is not.
	mustLinkTo(t, objectsIn(t, "a b | a.f 0: call 0 0 b.f, end 0", "b | b.f 0: end 1"), impl.LkOk, "a.f b.f", "", "a.f 0: call 0 0 b.f, end 0", "b.f 0: end 1")
	mustLinkTo(t, objectsIn(t, "a b | a.f 0: call 0 0 b.g, end 0", "b | b.f 0: end 1"), impl.LkMissing, "a.f b.f", "b.g")
	mustLinkTo(t, objectsIn(t, "a b | a.f 0: call 0 0 b.f, end 0"), impl.LkMissing, "a.f", "b.f")
	mustLinkTo(t, objectsIn(t, "a b | a.f 0: call 0 0 b.f, end 0", "c | c.f 0: end 0"), impl.LkMissing, "a.f c.f", "b.f")
	// In a ring, and of one Package in two Objects.
	mustLinkTo(t, objectsIn(t, "a b | a.f 0: call 0 0 b.f, end 0", "b a | b.f 0: call 0 0 a.f, end 0"), impl.LkOk, "a.f b.f", "", "a.f 0: call 0 0 b.f, end 0", "b.f 0: call 0 0 a.f, end 0")
	mustLinkTo(t, objectsIn(t, "a | a.f 0: call 0 0 a.g, end 0", "a | a.g 0: end 0"), impl.LkOk, "a.f a.g", "", "a.f 0: call 0 0 a.g, end 0", "a.g 0: end 0")
	// The same one twice: in one Routine, in two, in two Objects.
	mustLinkTo(t, objectsIn(t, "a | a.f 0: call 0 0 a.g, call 1 0 a.g, end 0"), impl.LkMissing, "a.f", "a.g")
	mustLinkTo(t, objectsIn(t, "a | a.f 0: call 0 0 a.z, end 0 | a.g 0: call 3 2 a.z, end 0"), impl.LkMissing, "a.f a.g", "a.z")
	mustLinkTo(t, objectsIn(t, "a z | a.f 0: call 0 0 z.f, end 0", "b z | b.f 0: call 0 0 z.f, end 0"), impl.LkMissing, "a.f b.f", "z.f")
	// Several, that fall.
	mustLinkTo(t, objectsIn(t, "a b c | a.f 0: call 0 0 c.z, call 0 0 c.a, call 0 0 b.zz, call 0 0 b.z, call 0 0 a.h, call 0 0 a.g, end 0", "z a | z.f 0: call 0 0 a.b, call 0 0 z.a, call 0 0 a.h, end 0"),
		impl.LkMissing, "a.f z.f", "a.b a.g a.h b.z b.zz c.a c.z z.a")
	// Behind an end, and passed over by a jump.
	mustLinkTo(t, objectsIn(t, "a | a.f 0: end 0, call 0 0 a.g, jump 0"), impl.LkMissing, "a.f", "a.g")
	mustLinkTo(t, objectsIn(t, "a | a.f 0: jump 2, call 0 0 a.g, end 0"), impl.LkMissing, "a.f", "a.g")
	// What is imported and not called is not missed; an Object that no one
	// calls is put in.
	mustLinkTo(t, objectsIn(t, "a b c z | a.f 0: end 0"), impl.LkOk, "a.f", "", "a.f 0: end 0")
	mustLinkTo(t, objectsIn(t, "a b c z | a.f 0: end 0", "main | main.main 1: end 0"), impl.LkOk, "a.f main.main", "", "a.f 0: end 0", "main.main 1: end 0")
	// Names that are nearly there.
	for _, name := range []string{"b.ff", "b.g", "b.fg", "b.gf", "bb.f", "b.b", "f.b", "f.f"} {
		mustLinkTo(t, objectsIn(t, "a b bb f | a.f 0: call 0 0 "+name+", end 0", "b | b.f 0: end 0"), impl.LkMissing, "a.f b.f", name)
	}
}

// A call at each place of each Routine of each Object is asked.
func TestLinkAsksEachCall(t *testing.T) {
	names, list := namesOf("f", 8), []impl.Object{}
	for at := range 8 {
		o := partsOf(string([]byte{byte('a' + at)}), []string{"h"}, names...)
		for k := range o.Routines {
			o.Routines[k].Args, o.Routines[k].Code = int64(k%4), ending(200, insOf(9, 0, 3, 0, "h."+names[7]))
		}
		list = append(list, o)
	}
	if code := mustLinkAsTold(t, list); code != impl.LkOk {
		t.Fatalf("it is %d of %s", code, toldObjects(list))
	}
	for object := range 8 {
		for routine := range 8 {
			for _, place := range []int{0, 1, 99, 197, 198} {
				i := &list[object].Routines[routine].Code[place]
				before := *i
				i.A = 2
				if _, code := impl.Linked(list); code != impl.LkArgs {
					t.Errorf("with another A at %d, %d, %d it is %d", object, routine, place, code)
				}
				i.Name, i.A = "h.none", 3
				if _, code := impl.Linked(list); code != impl.LkMissing || !slices.Equal(impl.Missing(list), []string{"h.none"}) {
					t.Errorf("with another Name at %d, %d, %d it is %d", object, routine, place, code)
				}
				*i = before
			}
		}
	}
	mustLinkAsTold(t, list)
}

func TestLinkedByArgs(t *testing.T) {
	for args := int64(0); args <= 3; args++ {
		for a := int64(0); a <= 3; a++ {
			want := int64(impl.LkArgs)
			if args == a {
				want = impl.LkOk
			}
			for _, text := range []string{"call 0 %d b.f, end 0", "set 0 1, call 60 %d b.f, set 0 1, end 3", "end 0, call 5 %d b.f, jump 0", "jump 2, call 0 %d b.f, end 0"} {
				code := fmt.Sprintf(text, a)
				list := objectsIn(t, "a b | a.f 1: "+code, fmt.Sprintf("b | b.f %d: end 0 | b.g 2: end 0", args))
				if got := mustLinkAsTold(t, list); got != want {
					t.Errorf("Args %d called with %d give %d", args, a, got)
				}
				mustLinkInEachOrder(t, list, linkBy(list))
				// From itself, and from beside.
				alone := objectsIn(t, fmt.Sprintf("b | b.f %d: %s", args, code))
				if got := mustLinkAsTold(t, alone); got != want {
					t.Errorf("Args %d called with %d by itself give %d", args, a, got)
				}
				beside := objectsIn(t, fmt.Sprintf("b | b.e 3: %s | b.f %d: end 0", code, args))
				if got := mustLinkAsTold(t, beside); got != want {
					t.Errorf("Args %d called with %d from beside give %d", args, a, got)
				}
				// With a right one ahead or behind.
				for _, other := range []string{fmt.Sprintf("call 0 %d b.f, end 0", args), fmt.Sprintf("call 0 %d b.f, call 0 %d b.f, end 0", args, a), fmt.Sprintf("call 0 %d b.f, call 0 %d b.f, end 0", a, args)} {
					list := objectsIn(t, "a b | a.e 0: "+other+" | a.f 0: "+code+" | a.g 0: "+other, fmt.Sprintf("b | b.f %d: end 0", args))
					if got := mustLinkAsTold(t, list); got != want {
						t.Errorf("Args %d called with %d among others give %d", args, a, got)
					}
				}
			}
		}
	}
	// The Args of who calls are not asked, nor what is at the second place of
	// another step.
	mustLinkTo(t, objectsIn(t, "a | a.f 3: set 0 2, arg 1 2, add 2 2 2, zero 2 2, call 0 3 a.f, end 0"), impl.LkOk, "a.f", "", "a.f 3: set 0 2, arg 1 2, add 2 2 2, zero 2 2, call 0 3 a.f, end 0")
}

// Each code alone, each two of them, and more: the document names LkBad ahead
// of all, and then LkTwice, LkMissing, LkArgs.
func TestLinkedByEachCodeAndEachTwo(t *testing.T) {
	right := []string{"a b | a.f 1: arg 0 0, call 0 1 b.f, end 0 | a.g 0: end 0", "b | b.f 1: arg 0 0, end 0"}
	faults := []struct {
		code int64
		text string
	}{
		{impl.LkTwice, "a | a.g 0: end 0"},
		{impl.LkMissing, "c a | c.f 0: call 0 0 a.none, end 0"},
		{impl.LkArgs, "d b | d.f 0: call 0 2 b.f, end 0"},
		{impl.LkBad, "e | e.f 0: arg 0 0, end 0"},
	}
	mustLinkTo(t, objectsIn(t, right...), impl.LkOk, "a.f a.g b.f", "", "a.f 1: arg 0 0, call 0 1 b.f, end 0", "a.g 0: end 0", "b.f 1: arg 0 0, end 0")
	mustLinkTo(t, objectsIn(t, append(right, faults[0].text)...), impl.LkTwice, "a.f a.g b.f", "")
	mustLinkTo(t, objectsIn(t, append(right, faults[1].text)...), impl.LkMissing, "a.f a.g b.f c.f", "a.none")
	mustLinkTo(t, objectsIn(t, append(right, faults[2].text)...), impl.LkArgs, "a.f a.g b.f d.f", "")
	mustLinkTo(t, objectsIn(t, append(right, faults[3].text)...), impl.LkBad, "", "")
	mustLinkTo(t, objectsIn(t, append(right, faults[0].text, faults[1].text)...), impl.LkTwice, "a.f a.g b.f c.f", "a.none")
	mustLinkTo(t, objectsIn(t, append(right, faults[0].text, faults[2].text)...), impl.LkTwice, "a.f a.g b.f d.f", "")
	mustLinkTo(t, objectsIn(t, append(right, faults[1].text, faults[2].text)...), impl.LkMissing, "a.f a.g b.f c.f d.f", "a.none")
	for chosen := range 16 {
		texts, want := slices.Clone(right), int64(impl.LkOk)
		for at, fault := range faults {
			if chosen>>at&1 == 0 {
				continue
			}
			texts = append(texts, fault.text)
			if want == impl.LkOk || fault.code == impl.LkBad {
				want = fault.code
			}
		}
		list := objectsIn(t, texts...)
		if code := mustLinkAsTold(t, list); code != want {
			t.Errorf("%q give %d, not %d", texts, code, want)
		}
		mustLinkInEachOrder(t, list, linkBy(list))
		// With 9 of them it is LkBad, whatever else.
		for len(list) < 9 {
			list = append(list, partsOf(fmt.Sprintf("more%c", 'a'+len(list)), nil, "f"))
			if len(list) <= 8 && want != mustLinkAsTold(t, list) {
				t.Errorf("%q and more are not %d", texts, want)
			}
		}
		mustBeBadList(t, list)
	}
	// Two in one Object, one call or one Name.
	mustLinkTo(t, objectsIn(t, "a | a.f 0: call 0 1 a.f, call 0 1 a.g, end 0"), impl.LkMissing, "a.f", "a.g")
	mustLinkTo(t, objectsIn(t, "a | a.f 0: call 0 1 a.g, call 0 1 a.f, end 0"), impl.LkMissing, "a.f", "a.g")
	mustLinkTo(t, objectsIn(t, "a | a.f 0: call 0 1 a.f, end 0", "a | a.f 1: call 0 0 a.f, end 0"), impl.LkTwice, "a.f", "")
	mustLinkTo(t, objectsIn(t, "a | a.f 0: call 0 1 a.f, end 0", "a | a.f 0: call 0 0 a.g, end 0"), impl.LkTwice, "a.f", "a.g")
	// Each call fits one of two that share a Name.
	mustLinkTo(t, objectsIn(t, "a | a.f 0: end 0", "a | a.f 1: end 0", "b a | b.f 0: call 0 0 a.f, call 0 1 a.f, end 0"), impl.LkTwice, "a.f b.f", "")
	// No Object calls the zero face of what is missing.
	mustLinkTo(t, objectsIn(t, "a | a.f 1: call 0 0 a.g, end 0"), impl.LkMissing, "a.f", "a.g")
}

// All lists of up to four of a few small Objects, in every order.
func TestLinkOfAllShortLists(t *testing.T) {
	pool := objectsIn(t, "a | a.f 0: end 0", "a b | a.f 1: arg 0 0, call 0 1 b.f, end 0", "a | a.g 0: call 0 0 a.f, end 0", "b | b.f 1: end 0", "b a | b.f 0: call 0 0 a.f, end 0 | b.g 0: call 0 0 a.g, end 0",
		"ab b | ab.f 2: call 0 0 b.f, end 0", "b b | b.g 0: call 0 1 b.f, end 0", "c c | c.f 0: call 0 0 c.g, end 0", "A | A.f 0: end 0")
	told := map[string]linking{}
	seen := [5]int{}
	var grow func(places []int)
	grow = func(places []int) {
		list := []impl.Object{}
		for _, place := range places {
			list = append(list, pool[place])
		}
		seen[mustLinkAsTold(t, list)]++
		// The same ones in another order are told the same.
		key, got := fmt.Sprint(slices.Sorted(slices.Values(places))), linkingOf(list)
		if before, is := told[key]; is && !sameLinking(before, got) {
			t.Errorf("in one order it is %v, in another %v, of %s", before, got, toldObjects(list))
		}
		told[key] = got
		for at := range pool {
			if len(places) < 4 {
				grow(append(slices.Clone(places), at))
			}
		}
	}
	grow(nil)
	if slices.Min(seen[:]) < 80 {
		t.Errorf("of each code there were %d", seen)
	}
}

// chosenParts are of other Packages each; what they call is there, with as
// many Args.
func chosenParts(c *chance, many int) []impl.Object {
	list := []impl.Object{}
	for _, name := range chosenNames(c, many) {
		o := partsOf(name, nil, slices.Sorted(slices.Values(chosenNames(c, 1+c.below([]int{3, 8}[c.below(2)]))))...)
		for at := range o.Routines {
			o.Routines[at].Args = int64(c.below(4))
		}
		list = append(list, o)
	}
	for at, o := range list {
		callable := impl.Image{Routines: slices.Clone(o.Routines)}
		for range c.below(7) {
			other := list[c.below(many)]
			list[at].Imports = append(list[at].Imports, other.Package)
			callable.Routines = append(callable.Routines, other.Routines...)
		}
		list[at].Imports = slices.Compact(slices.Sorted(slices.Values(list[at].Imports)))
		for k, r := range o.Routines {
			length := 1 + c.below([]int{3, 12, 30}[c.below(3)])
			code := []impl.Ins{}
			for range length - 1 {
				code = append(code, chosenIns(c, length, r.Args, callable))
			}
			list[at].Routines[k].Code = append(code, endOf(int64(c.below(64))))
		}
	}
	return list
}

// partsSpoilt goes on as long as all of them are right by themselves.
func partsSpoilt(c *chance, list []impl.Object, times int) []impl.Object {
	for range times {
		if len(list) > 0 && alwaysOf(list, objectRight) {
			list = partsSpoiltOnce(c, list)
		}
	}
	return list
}

// partsSpoiltOnce has one thing more or another one, which may be wrong or
// not.
func partsSpoiltOnce(c *chance, list []impl.Object) []impl.Object {
	changed := []impl.Object{}
	for _, o := range list {
		changed = append(changed, objectCopied(o))
	}
	o := &changed[c.below(len(changed))]
	r := &o.Routines[c.below(len(o.Routines))]
	switch c.below(7) {
	case 0:
		changed = append(changed, objectCopied(*o))
	case 1:
		changed = append(changed, impl.Object{Package: o.Package, Routines: namedRoutines(r.Name).Routines})
	case 2:
		r.Code = append([]impl.Ins{insOf(9, 0, int64(c.below(4)), 0, o.Package+"."+chosenName(c))}, r.Code...)
	case 3:
		r.Code = append([]impl.Ins{insOf(9, 0, int64(c.below(4)), 0, r.Name)}, r.Code...)
	case 4:
		r.Args = min(r.Args+1, 3)
	case 5:
		at := c.below(len(changed))
		changed = slices.Delete(changed, at, at+1)
	case 6:
		*o = objectSpoilt(c, *o)
	}
	return changed
}

func shuffled(c *chance, list []impl.Object) []impl.Object {
	other := slices.Clone(list)
	for at := range other {
		to := c.below(at + 1)
		other[at], other[to] = other[to], other[at]
	}
	return other
}

// Promise 16.
func TestLinkOfManyObjects(t *testing.T) {
	c := chance(271)
	seen, routines := [5]int{}, 0
	for i := range 3000 {
		list := chosenParts(&c, 1+c.below(8))
		if i%4 == 0 {
			if code := mustLinkAsTold(t, list); code != impl.LkOk {
				t.Fatalf("it is %d of %s", code, toldObjects(list))
			}
		}
		list = partsSpoilt(&c, list, i%4)
		seen[mustLinkAsTold(t, list)]++
		want := linkBy(list)
		routines = max(routines, len(want.image.Routines))
		if len(list) <= 4 {
			mustLinkInEachOrder(t, list, want)
		}
		for range 4 {
			mustLink(t, shuffled(&c, list), want)
		}
	}
	if slices.Min(seen[:]) < 100 || routines < 40 {
		t.Errorf("of each code there were %d, and up to %d Routines", seen, routines)
	}
}

// Objects that are made of Packages: all of a project are put together to the
// image of it, which gives what the project means.
func TestLinkedOfObjectsOfProjects(t *testing.T) {
	c := chance(277)
	seen, enough := [5]int{}, 0
	for i := range 150 {
		packages := rightProject(&c, 1+c.below(8))
		if i%3 == 0 {
			packages = busyProject(&c, 1+c.below(8))
		}
		list := []impl.Object{}
		for _, p := range packages {
			list = append(list, impl.ObjectOf(p))
		}
		m, code := impl.Linked(shuffled(&c, list))
		if want := imageOfProject(projectFolded(packages)); code != impl.LkOk || !sameImage(m, want) {
			t.Fatalf("it is %d, %s, not %s", code, toldImage(m), toldImage(want))
		}
		seen[mustLinkAsTold(t, list)]++
		for at := range list {
			// One is not there, and one is there twice.
			seen[mustLinkAsTold(t, slices.Delete(slices.Clone(list), at, at+1))]++
			seen[mustLinkAsTold(t, append(shuffled(&c, list), list[at]))]++
		}
		for range 3 {
			mistaken(&c, packages)
			made := []impl.Object{}
			for _, p := range packages {
				made = append(made, impl.ObjectOf(p))
			}
			seen[mustLinkAsTold(t, made)]++
		}
		if i%3 == 0 {
			enough += mustRunLinked(t, &c, m)
		}
	}
	if slices.Min(seen[:]) < 20 || enough < 100 {
		t.Errorf("of each code there were %d, and %d had fuel enough", seen, enough)
	}
}

// mustRunLinked says how many Routines came to an end.
func mustRunLinked(t *testing.T, c *chance, m impl.Image) int {
	t.Helper()
	enough := 0
	for _, r := range m.Routines {
		args := chosenWords(c, r.Args)
		want := ranBy(m, r.Name, args, 3000)
		mustRun(t, m, r.Name, args, 3000, want.value, want.code)
		if want.code == impl.MnOk {
			enough++
		}
	}
	return enough
}

// What is Linked means what the project means, whatever order its Objects
// come in.
func TestLinkedGivesWhatItMeans(t *testing.T) {
	packages := written(t, "half: f 2 / $0 $1; g 1 @half.f/2 $0 2", "main half twice: main 1 + ? $0 @half.g/1 $0 7 @twice.f/1 @half.f/2 100 $0", "twice: f 1 * 2 $0")
	list := []impl.Object{}
	for _, p := range packages {
		list = append(list, impl.ObjectOf(p))
	}
	inEachOrder(list, func(ordered []impl.Object) {
		m, code := impl.Linked(ordered)
		if code != impl.LkOk {
			t.Fatalf("it is %d", code)
		}
		for _, word := range []int64{0, 1, 7, 10, 100, -3} {
			value, why := impl.Meant(packages, "main", "main", words(word), 1000)
			mustRun(t, m, "main.main", words(word), 1000, value, why)
		}
		mustRun(t, m, "main.main", words(10), 1000, 25, impl.MnOk)
		mustRun(t, m, "main.main", words(0), 1000, 0, impl.MnZero)
	})
}

func TestLinkedOfTheGreatest(t *testing.T) {
	names := namesOf("fffffff", 8)
	packages := namesOf("mmmmmmm", 8)
	list := []impl.Object{}
	for at, name := range packages {
		o := partsOf(name, slices.Sorted(slices.Values([]string{packages[(at+1)%8], packages[(at+2)%8], packages[(at+3)%8], packages[(at+4)%8], packages[(at+5)%8], packages[(at+6)%8]})), names...)
		for k := range o.Routines {
			o.Routines[k].Args = 3
			o.Routines[k].Code = ending(200, insOf(9, 60, 3, 0, packages[(at+1+k%6)%8]+"."+names[(k+3)%8]))
		}
		list = append(list, o)
	}
	if code := mustLinkAsTold(t, list); code != impl.LkOk {
		t.Fatalf("it is %d", code)
	}
	m, _ := impl.Linked(list)
	if len(m.Routines) != 64 || m.Routines[0].Name != "mmmmmmma.fffffffa" || m.Routines[63].Name != "mmmmmmmh.fffffffh" || len(impl.Defined(list)) != 64 {
		t.Errorf("there are %d", len(m.Routines))
	}
	slices.Reverse(list)
	mustLink(t, list, linkBy(list))
	// Without one of them, all that it has is missing.
	for at, name := range slices.Backward(packages) {
		left := slices.Delete(slices.Clone(list), 7-at, 8-at)
		missing := impl.Missing(left)
		if mustLinkAsTold(t, left) != impl.LkMissing || len(missing) < 6 || !alwaysOf(missing, func(n string) bool { return strings.HasPrefix(n, name+".") }) {
			t.Errorf("without %q there are missing %q", name, missing)
		}
	}
	// As many missing as can be.
	for at := range list {
		for k := range list[at].Routines {
			for place := range 199 {
				called := list[at].Package + "." + string([]byte{byte('a' + k), byte('a' + place/26), byte('a' + place%26)})
				list[at].Routines[k].Code[place].Name = called
			}
		}
	}
	if missing := impl.Missing(list); len(missing) != 8*8*199 || !slices.IsSorted(missing) {
		t.Errorf("there are missing %d", len(missing))
	}
	mustLinkAsTold(t, list)
}

// objectsOverwritten writes into the list too, and into the room behind it.
func objectsOverwritten(list []impl.Object) {
	for _, o := range list {
		objectOverwritten(o)
	}
	for at := range list[:cap(list)] {
		list[:cap(list)][at] = impl.Object{Package: "spoilt"}
	}
}

func namesOverwritten(list []string) {
	for at := range list[:cap(list)] {
		list[:cap(list)][at] = "spoilt"
	}
}

func textsOfLinking(l linking) []string {
	return slices.Concat(l.defined, l.missing, namesWithin(l.image))
}

// mustBeNewLinking asks several times; no answer shares anything with another
// one, nor with the Objects.
func mustBeNewLinking(t *testing.T, list []impl.Object) {
	t.Helper()
	first, again := linkingOf(list), linkingOf(list)
	want := linking{slices.Clone(again.defined), slices.Clone(again.missing), imageCopied(again.image), again.code}
	texts, of := textsOfLinking(first), []string{}
	for _, o := range list {
		of = append(of, textsOfObject(o)...)
	}
	for at, text := range texts {
		mustShareNoText(t, "within one answer", []string{text}, texts[:at])
	}
	mustShareNoText(t, "with another answer", texts, textsOfLinking(again))
	mustShareNoText(t, "with the Objects", texts, of)
	for at := range first.image.Routines {
		codeOverwritten(first.image.Routines[at].Code)
		for other := at + 1; other < len(first.image.Routines); other++ {
			if !sameRoutine(first.image.Routines[other], want.image.Routines[other]) {
				t.Errorf("%d and %d of %s share memory", at, other, toldImage(want.image))
			}
		}
	}
	imageOverwritten(first.image)
	namesOverwritten(first.defined)
	namesOverwritten(first.missing)
	if !sameLinking(again, want) {
		t.Errorf("%v is handed out twice", want)
	}
	if third := linkingOf(list); !sameLinking(third, want) {
		t.Errorf("%v is kept", want)
	}
}

// Promise 21.
func TestLinkingsAreNewMemory(t *testing.T) {
	c := chance(281)
	seen := [5]int{}
	for i := range 200 {
		list := chosenParts(&c, 1+c.below(3))
		list = partsSpoilt(&c, list, i%3)
		before := []impl.Object{}
		for _, o := range list {
			before = append(before, objectCopied(o))
		}
		mustBeNewLinking(t, list)
		if !slices.EqualFunc(list, before, sameObject) {
			t.Error("an Object is another one now")
		}
		// What was Linked stays when the Objects are others.
		got, want := linkingOf(list), linkBy(before)
		objectsOverwritten(list)
		if !sameLinking(got, want) {
			t.Errorf("it is %v now, not %v", got, want)
		}
		seen[got.code]++
	}
	if slices.Min(seen[:]) < 3 {
		t.Errorf("of each code there were %d", seen)
	}
	mustBeNewLinking(t, nil)
	mustBeNewLinking(t, manyParts(8))
	mustBeNewLinking(t, manyParts(9))
	// One Object that is given twice, and Code that two Routines share.
	shared := ending(5, insOf(9, 0, 0, 0, "a.f"))
	o := impl.Object{Package: "a", Routines: []impl.Routine{{Name: "a.f", Code: shared}, {Name: "a.g", Code: shared}, {Name: "a.h", Code: shared[1:]}}}
	mustBeNewLinking(t, []impl.Object{o})
	mustBeNewLinking(t, []impl.Object{o, o})
}

// laidObjects have texts laid over bytes of the test's own, and room behind
// all of their lists, so that a write into any of them would be seen.
func laidObjects(room []byte) (list, whole []impl.Object) {
	lib, wholeLib := laidObject(room[:80])
	texts := laidOver(room[80:], "bc", "bc.f", "a", "a.f", "a", "lib", "lib.h", "spare room")
	codes := [][]impl.Ins{
		{insOf(2, 0, 0, 0, ""), endOf(0), jumpTo(53)},
		{insOf(9, 0, 1, 0, texts[6]), insOf(9, 0, 0, 0, texts[3]), endOf(0), endOf(54)},
	}
	bc := impl.Object{Package: texts[0], Routines: []impl.Routine{{Name: texts[1], Args: 1, Code: codes[0][:2]}, {Name: texts[7], Args: 55}}}
	a := impl.Object{Package: texts[2], Imports: []string{texts[5], texts[7]}, Routines: []impl.Routine{{Name: texts[3], Code: codes[1][:3]}, {Name: texts[7], Args: 56}}}
	spare := impl.Object{Package: texts[7]}
	whole = []impl.Object{wholeLib, bc, a, spare, spare}
	lib.Routines[1].Args = 1
	list = []impl.Object{lib, bc, a, spare, spare}[:3]
	list[1].Routines = bc.Routines[:1]
	list[2].Routines, list[2].Imports = a.Routines[:1], a.Imports[:1]
	return list, whole
}

// allOf copies Objects with all the room behind their lists.
func allOf(list []impl.Object) []impl.Object {
	all := []impl.Object{}
	for _, o := range list[:cap(list)] {
		o.Routines = wholly(impl.Image{Routines: o.Routines[:cap(o.Routines)]}).Routines
		o.Imports = o.Imports[:cap(o.Imports)]
		all = append(all, objectCopied(o))
	}
	return all
}

// Promise 21, for Objects that are Linked, and for others.
func TestLinkedObjectsStay(t *testing.T) {
	seen := [5]int{}
	for spoil := range 8 {
		room := make([]byte, 160)
		list, whole := laidObjects(room)
		switch spoil {
		case 1:
			list = append(list, list[1])
		case 2:
			list = list[:2]
		case 3:
			list[0].Routines[1].Args = 2
		case 4:
			list[1].Package = "Bc"
		case 5:
			list[0], list[2] = list[2], list[0]
		case 6:
			list = list[:0]
		case 7:
			list = list[:4]
		}
		held, before, wholeBefore := string(room), allOf(list), allOf(whole)
		for range 3 {
			seen[mustLinkAsTold(t, list)]++
			mustBeNewLinking(t, list)
		}
		if string(room) != held || !slices.EqualFunc(allOf(list), before, sameObject) || !slices.EqualFunc(allOf(whole), wholeBefore, sameObject) {
			t.Errorf("%d: an Object, or the room behind it, was written into", spoil)
		}
		got := linkingOf(list)
		mustShareNoText(t, "with the bytes of the Objects", textsOfLinking(got), []string{unsafe.String(&room[0], len(room))})
		want := linkBy(list)
		want.image = imageCopied(want.image)
		for at, name := range want.defined {
			want.defined[at] = strings.Clone(name)
		}
		for at, name := range want.missing {
			want.missing[at] = strings.Clone(name)
		}
		for at := range room {
			room[at] = 'x'
		}
		if !sameLinking(got, want) {
			t.Errorf("%d: it is %v now, not %v", spoil, got, want)
		}
	}
	if slices.Min(seen[:]) < 3 {
		t.Errorf("of each code there were %d", seen)
	}
	list, _ := laidObjects(make([]byte, 160))
	mustLinkTo(t, list, impl.LkOk, "a.f bc.f lib.f lib.g lib.h", "", "a.f 0: call 0 1 lib.h, call 0 0 a.f, end 0", "bc.f 1: arg 0 0, end 0",
		"lib.f 1: arg 0 0, mul 0 0 0, end 0", "lib.g 1: call 0 0 a.f, end 0", "lib.h 1: arg 1 0, call 1 1 lib.g, call 1 1 bc.f, end 1")
}

// Promise 21: nothing is kept of what was asked ahead, though the same memory
// holds other Objects now.
func TestLinkingsKeepNothing(t *testing.T) {
	list := objectsIn(t, "a b | a.f 0: call 0 1 b.f, end 0", "b | b.f 1: arg 0 0, end 0")
	must := func(code int64, missing ...string) {
		t.Helper()
		if got := mustLinkAsTold(t, list); got != code || !slices.Equal(impl.Missing(list), missing) {
			t.Errorf("it is %d, missing %q", got, impl.Missing(list))
		}
	}
	must(impl.LkOk)
	list[1].Routines[0].Args = 2
	must(impl.LkArgs)
	list[0].Routines[0].Code[0].A = 2
	must(impl.LkOk)
	list[1].Routines[0].Name = "b.g"
	must(impl.LkMissing, "b.f")
	list[0].Routines[0].Code[0].Name = "b.g"
	must(impl.LkOk)
	list[1].Package = "c"
	must(impl.LkBad)
	list[1].Routines[0].Name = "c.g"
	must(impl.LkMissing, "b.g")
	list[0].Imports[0] = "c"
	must(impl.LkBad)
	list[0].Routines[0].Code[0].Name = "c.g"
	must(impl.LkOk)
	list[1] = list[0]
	must(impl.LkTwice, "c.g")
	list = list[:1]
	must(impl.LkMissing, "c.g")
	list[0].Routines[0].Code[0] = insOf(1, 0, 5, 0, "")
	must(impl.LkOk)
	room := []byte("a.f")
	list[0].Routines[0].Name = unsafe.String(&room[0], 3)
	for _, letter := range []byte("azfgh") {
		room[2] = letter
		if got := impl.Defined(list); !slices.Equal(got, []string{"a." + string(rune(letter))}) {
			t.Errorf("there are %q", got)
		}
		must(impl.LkOk)
	}
	room[2] = '.'
	must(impl.LkBad)
}

// Promise 21: whatever they are given, they answer.
func TestLinkAnswersAtEveryArgument(t *testing.T) {
	c := chance(283)
	wrong := wrongObjects(t)
	seen := [5]int{}
	for range 3000 {
		list := []impl.Object{}
		for range c.below(11) {
			switch c.below(12) {
			case 0:
				list = append(list, wrong[c.below(len(wrong))])
			case 1:
				list = append(list, objectSpoilt(&c, chosenObject(&c)))
			case 2, 3:
				list = append(list, chosenObject(&c))
			default:
				list = append(list, chosenParts(&c, 1)[0])
			}
		}
		seen[mustLinkAsTold(t, list)]++
		mustLink(t, shuffled(&c, list), linkBy(list))
	}
	if seen[impl.LkOk] < 100 || seen[impl.LkMissing] < 100 || seen[impl.LkBad] < 100 {
		t.Errorf("of each code there were %d", seen)
	}
}

func TestLinkAnswersAtGreatArguments(t *testing.T) {
	one := partsOf("a", nil, "f")
	mustBeBadList(t, slices.Repeat([]impl.Object{one}, 1000000))
	mustBeBadList(t, make([]impl.Object, 1000000))
	mustBeBadList(t, []impl.Object{{Package: "a", Routines: slices.Repeat(one.Routines, 1000000)}})
	mustBeBadList(t, []impl.Object{one, {Package: "b", Imports: slices.Repeat([]string{"a"}, 1000000), Routines: partsOf("b", nil, "f").Routines}})
	mustBeBadList(t, []impl.Object{one, {Package: "b", Routines: []impl.Routine{{Name: "b.f", Code: slices.Repeat([]impl.Ins{endOf(0)}, 1000000)}}}})
	for _, name := range []string{strings.Repeat("a", 1000000), strings.Repeat("a.", 500000), strings.Repeat(".", 1000000), "a." + strings.Repeat("f", 1000000)} {
		mustBeBadList(t, []impl.Object{one, partsOf(name, nil, "f")})
		mustBeBadList(t, []impl.Object{one, partsOf("b", []string{name}, "f")})
		mustBeBadList(t, []impl.Object{partsOf("b", nil, name), one})
		o := partsOf("b", nil, "f")
		o.Routines[0].Code = []impl.Ins{insOf(9, 0, 0, 0, name), endOf(0)}
		mustBeBadList(t, []impl.Object{one, o})
	}
}
