package tests

import (
	"fmt"
	"math"
	"regexp"
	"slices"
	"strconv"
	"strings"
	"testing"
	"unsafe"

	"loop.example/g00346/impl"
)

// objectIn reads a Package with its Imports, and a text of each Routine.
func objectIn(t *testing.T, head string, texts ...string) impl.Object {
	t.Helper()
	names := strings.Fields(head)
	return impl.Object{Package: names[0], Imports: names[1:], Routines: imageIn(t, texts...).Routines}
}

// partsOf is an Object of Routines with these names behind the dot, that end
// at once.
func partsOf(pack string, imports []string, names ...string) impl.Object {
	o := impl.Object{Package: pack, Imports: imports}
	for _, name := range names {
		o.Routines = append(o.Routines, impl.Routine{Name: pack + "." + name, Code: []impl.Ins{endOf(0)}})
	}
	return o
}

// objectCopied shares neither lists nor texts with what it was made of.
func objectCopied(o impl.Object) impl.Object {
	imports := []string{}
	for _, name := range o.Imports {
		imports = append(imports, strings.Clone(name))
	}
	list := imageCopied(impl.Image{Routines: o.Routines}).Routines
	return impl.Object{Package: strings.Clone(o.Package), Imports: imports, Routines: list}
}

func sameObject(a, b impl.Object) bool {
	return a.Package == b.Package && slices.Equal(a.Imports, b.Imports) && slices.EqualFunc(a.Routines, b.Routines, sameRoutine)
}

var nameForm = regexp.MustCompile(`^[a-z]{1,8}\z`)

// objectRight goes by the document's sentences.
func objectRight(o impl.Object) bool {
	near := map[string]int{o.Package: 1}
	for at, name := range o.Imports {
		if !nameForm.MatchString(name) || at > 0 && o.Imports[at-1] >= name {
			return false
		}
		near[name]++
	}
	if !nameForm.MatchString(o.Package) || len(o.Imports) > 6 || len(o.Routines) < 1 || len(o.Routines) > 8 {
		return false
	}
	for at, r := range o.Routines {
		if !routineRight(r) || at > 0 && o.Routines[at-1].Name >= r.Name || !strings.HasPrefix(r.Name, o.Package+".") {
			return false
		}
		for _, i := range r.Code {
			if i.Kind == 9 && near[strings.Split(i.Name, ".")[0]] == 0 {
				return false
			}
		}
	}
	return true
}

func objectText(o impl.Object) string {
	text := "object " + o.Package + "\n"
	for _, name := range o.Imports {
		text += "import " + name + "\n"
	}
	return text + imageText(impl.Image{Routines: o.Routines})
}

var objectForm = regexp.MustCompile(`^object ([a-z]+)\n((?:import [a-z]+\n)*)`)

// objectOfText is strict.
func objectOfText(text string) (impl.Object, bool) {
	head := objectForm.FindStringSubmatch(text)
	if head == nil {
		return impl.Object{}, false
	}
	o := impl.Object{Package: head[1]}
	for line := range strings.Lines(head[2]) {
		o.Imports = append(o.Imports, strings.TrimSuffix(strings.TrimPrefix(line, "import "), "\n"))
	}
	list, is := routinesOfText(text[len(head[0]):])
	if o.Routines = list; is && objectRight(o) {
		return o, true
	}
	return impl.Object{}, false
}

func toldObject(o impl.Object) string {
	o.Imports, o.Routines = o.Imports[:min(len(o.Imports), 10)], o.Routines[:min(len(o.Routines), 10)]
	return fmt.Sprintf("%.600q", objectText(o))
}

func mustBeObject(t *testing.T, o impl.Object, want bool) {
	t.Helper()
	if got := impl.ObjectOk(o); got != want {
		t.Errorf("ObjectOk of %d Imports and %d Routines, %s, is %v", len(o.Imports), len(o.Routines), toldObject(o), got)
	}
	if got := impl.ShowObject(o); (got != "") != want {
		t.Errorf("ShowObject of %s is %.600q", toldObject(o), got)
	}
}

// mustShowObject asks twice, and reads what is shown.
func mustShowObject(t *testing.T, o impl.Object, want string) {
	t.Helper()
	mustBeObject(t, o, true)
	for range 2 {
		if got := impl.ShowObject(o); got != want {
			t.Errorf("ShowObject is %.600q, not %.600q", got, want)
		}
	}
	mustReadObject(t, want, o)
}

func mustReadObject(t *testing.T, text string, want impl.Object) {
	t.Helper()
	for range 2 {
		got, is := impl.ReadObject(text)
		if !is || !sameObject(got, want) {
			t.Errorf("ReadObject of %.600q is %v and %s", text, is, toldObject(got))
		}
	}
	if shown := impl.ShowObject(want); shown != text {
		t.Errorf("%.600q is read, and is shown as %.600q", text, shown)
	}
}

func mustNotReadObject(t *testing.T, text string) {
	t.Helper()
	got, is := impl.ReadObject(text)
	if is || got.Package != "" || len(got.Imports) != 0 || len(got.Routines) != 0 {
		t.Errorf("ReadObject of %d bytes, %.600q, is %v and %s", len(text), text, is, toldObject(got))
	}
}

// mustReadObjectAsTold says whether it was read.
func mustReadObjectAsTold(t *testing.T, text string) bool {
	t.Helper()
	want, is := objectOfText(text)
	if is {
		mustReadObject(t, text, want)
	} else {
		mustNotReadObject(t, text)
	}
	return is
}

// mustBeWrongObject holds also ReadObject against it: that does not read the
// text that would be its own.
func mustBeWrongObject(t *testing.T, o impl.Object) {
	t.Helper()
	mustBeObject(t, o, false)
	mustNotReadObject(t, objectText(o))
}

func mustBeObjectOrNot(t *testing.T, o impl.Object, want bool) {
	t.Helper()
	if want {
		mustShowObject(t, o, objectText(o))
	} else {
		mustBeWrongObject(t, o)
	}
}

func TestObjectOkOfPackages(t *testing.T) {
	for _, name := range []string{"a", "z", "main", "lib", "object", "import", "routine", "abcdefgh", "zzzzzzzz"} {
		mustBeObjectOrNot(t, partsOf(name, nil, "f"), true)
		mustBeObjectOrNot(t, partsOf(name, []string{"a", "lib"}, "f", "g"), true)
		// The Package is another one than that of its Routines.
		o := partsOf(name, nil, "f")
		for _, other := range []string{"b", name[1:], name[:len(name)-1], name + "b", "b" + name, name + ".", name + ".f", "."} {
			o.Package = other
			mustBeObject(t, o, false)
		}
	}
	for _, name := range noNames {
		mustBeObject(t, partsOf(name, nil, "f"), false)
		mustBeObject(t, partsOf(name, []string{"a"}, "f"), false)
		o := partsOf("lib", nil, "f")
		o.Package = name
		mustBeObject(t, o, false)
	}
	for _, name := range []string{"", "a.b", ".", "a.", "abcdefghi", "Lib", "lib1", "-"} {
		mustBeWrongObject(t, partsOf(name, nil, "f"))
	}
	mustBeObject(t, impl.Object{}, false)
	mustBeObject(t, impl.Object{Imports: []string{}, Routines: []impl.Routine{}}, false)
	mustBeObject(t, impl.Object{Package: "lib", Imports: []string{"a"}}, false)
	mustBeObject(t, impl.Object{Package: "lib", Routines: []impl.Routine{{}}}, false)
}

func TestObjectOkByNumberOfImports(t *testing.T) {
	mustBeObjectOrNot(t, partsOf("lib", nil, "f"), true)
	mustBeObjectOrNot(t, partsOf("lib", []string{}, "f"), true)
	for many := range 27 {
		mustBeObjectOrNot(t, partsOf("lib", namesOf("m", many), "f"), many <= 6)
		mustBeObjectOrNot(t, partsOf("lib", namesOf("", many), "f", "g"), many <= 6)
	}
	mustBeObject(t, partsOf("lib", slices.Repeat([]string{"a"}, 256), "f"), false)
	// It may be among its own Imports.
	mustBeObjectOrNot(t, partsOf("lib", []string{"lib"}, "f"), true)
	mustBeObjectOrNot(t, partsOf("lib", []string{"a", "lib", "z"}, "f"), true)
}

func TestObjectOkOfImportsThatRiseOrNot(t *testing.T) {
	names := []string{"a", "aa", "ab", "abcdefgh", "b", "ba", "lib", "main", "z", "zz"}
	for i, a := range names {
		mustBeObjectOrNot(t, partsOf("lib", []string{a}, "f"), true)
		for k, b := range names {
			mustBeObjectOrNot(t, partsOf("lib", []string{a, b}, "f"), i < k)
			for l, c := range names {
				mustBeObjectOrNot(t, partsOf("lib", []string{a, b, c}, "f"), i < k && k < l)
			}
		}
	}
	six := namesOf("m", 6)
	for at := range six {
		for to := range six {
			changed := slices.Clone(six)
			changed[at], changed[to] = changed[to], changed[at]
			mustBeObjectOrNot(t, partsOf("lib", changed, "f"), at == to)
			changed = slices.Clone(six)
			changed[at] = six[to]
			mustBeObjectOrNot(t, partsOf("lib", changed, "f"), at == to)
		}
		for _, name := range noNames {
			changed := slices.Clone(six)
			changed[at] = name
			mustBeObject(t, partsOf("lib", changed, "f"), false)
		}
	}
	for _, name := range noNames {
		mustBeObject(t, partsOf("lib", []string{name}, "f"), false)
		mustBeObject(t, partsOf("lib", []string{"a", name}, "f"), false)
		mustBeObject(t, partsOf("lib", []string{name, "zz"}, "f"), false)
	}
	for _, name := range []string{"", "a.b", "Lib", "abcdefghi", "{"} {
		mustBeWrongObject(t, partsOf("lib", []string{name}, "f"))
	}
}

func TestObjectOkByNumberOfRoutines(t *testing.T) {
	mustBeWrongObject(t, partsOf("lib", nil))
	mustBeWrongObject(t, partsOf("lib", []string{"a"}))
	for many := range 27 {
		for _, imports := range [][]string{nil, {"a"}, namesOf("m", 6)} {
			mustBeObjectOrNot(t, partsOf("lib", imports, namesOf("f", many)...), many >= 1 && many <= 8)
		}
	}
	for _, many := range []int{64, 65, 256, 256 + 8} {
		o := impl.Object{Package: "a", Routines: manyRoutines(many).Routines}
		mustBeObject(t, o, false)
		o.Routines = o.Routines[:8]
		mustBeObject(t, o, true)
	}
	// The last of 8 is asked as the first one is.
	for at := range 8 {
		for _, spoil := range []func(r *impl.Routine){
			func(r *impl.Routine) { r.Args = 4 },
			func(r *impl.Routine) { r.Args = -1 },
			func(r *impl.Routine) { r.Code = nil },
			func(r *impl.Routine) { r.Code[0] = endOf(64) },
			func(r *impl.Routine) { r.Code = append([]impl.Ins{insOf(2, 0, 0, 0, "")}, r.Code...) },
			func(r *impl.Routine) { r.Code = append([]impl.Ins{insOf(9, 0, 0, 0, "far.f")}, r.Code...) },
			func(r *impl.Routine) { r.Name = strings.ToUpper(r.Name) },
			func(r *impl.Routine) { r.Name = "far" + r.Name[3:] },
			func(r *impl.Routine) { r.Name = "lib" },
		} {
			o := partsOf("lib", []string{"a"}, namesOf("f", 8)...)
			spoil(&o.Routines[at])
			mustBeWrongObject(t, o)
		}
	}
}

func TestObjectOkOfNamesThatRiseOrNot(t *testing.T) {
	names := []string{"a", "aa", "ab", "abcdefgh", "b", "f", "lib", "main", "z", "zz"}
	for i, a := range names {
		for k, b := range names {
			mustBeObjectOrNot(t, partsOf("lib", nil, a, b), i < k)
			for l, c := range names {
				mustBeObjectOrNot(t, partsOf("lib", nil, a, b, c), i < k && k < l)
			}
		}
	}
	eight := namesOf("f", 8)
	for at := range eight {
		for to := range eight {
			changed := slices.Clone(eight)
			changed[at], changed[to] = changed[to], changed[at]
			mustBeObjectOrNot(t, partsOf("lib", nil, changed...), at == to)
			changed = slices.Clone(eight)
			changed[at] = eight[to]
			mustBeObjectOrNot(t, partsOf("lib", nil, changed...), at == to)
		}
	}
	// Two alike are wrong though their Args or their Code are not.
	mustBeWrongObject(t, objectIn(t, "lib", "lib.f 0: end 0", "lib.f 1: arg 0 0, end 0"))
	mustBeWrongObject(t, objectIn(t, "lib", "lib.f 0: end 0", "lib.g 0: end 0", "lib.f 2: end 0"))
}

func TestObjectOkOfNamesOfAnotherPackage(t *testing.T) {
	packs := []string{"a", "aa", "ab", "b", "l", "lib", "liba", "libb", "li", "ib", "z"}
	for _, pack := range packs {
		for _, other := range packs {
			// An Import's Routine is none of its own either.
			for _, imports := range [][]string{nil, {other}} {
				mustBeObjectOrNot(t, impl.Object{Package: pack, Imports: imports, Routines: namedRoutines(other + ".f").Routines}, pack == other)
				names := []string{pack + ".f", other + ".g"}
				slices.Sort(names)
				mustBeObjectOrNot(t, impl.Object{Package: pack, Imports: imports, Routines: namedRoutines(names...).Routines}, pack == other)
			}
		}
		// The names behind the dot are not asked for the Package.
		mustBeObjectOrNot(t, impl.Object{Package: pack, Routines: namedRoutines("f." + pack).Routines}, false)
		mustBeObjectOrNot(t, partsOf(pack, nil, pack), true)
	}
	for at := range 3 {
		o := partsOf("lib", nil, "f", "g", "h")
		o.Routines[at].Name = []string{"la.f", "lib.gg", "libb.h"}[at]
		mustBeObjectOrNot(t, o, at == 1)
	}
	for _, name := range append([]string{"", ".", "lib", "lib.", ".f", "lib.f.g", "lib..f", "lib f", "lib/f", "libf", " lib.f", "lib.f ", "lib.F", "Lib.f", "lib.abcdefghi", "lib.f\n", "lib\n.f"}, noNames...) {
		if wholeName.MatchString(name) {
			continue
		}
		mustBeObject(t, impl.Object{Package: "lib", Routines: namedRoutines(name).Routines}, false)
		mustBeObject(t, impl.Object{Package: "lib", Routines: namedRoutines("lib.a", name).Routines}, false)
		mustBeObject(t, partsOf("lib", nil, name), nameForm.MatchString(name))
	}
}

func TestObjectOkByArgs(t *testing.T) {
	for _, args := range append([]int64{-2, -1, 0, 1, 2, 3, 4, 5, 63, 64, 255, 256, 257, 1<<32 - 1, 1 << 32, 1<<32 + 1, -1 << 32}, manyNumbers()[:400]...) {
		for at := range 3 {
			o := partsOf("lib", nil, "f", "g", "h")
			o.Routines[at].Args = args
			mustBeObjectOrNot(t, o, args >= 0 && args <= 3)
		}
	}
}

func TestObjectOkOfArguments(t *testing.T) {
	for args := int64(0); args <= 3; args++ {
		for a := int64(-1); a <= 4; a++ {
			is := a >= 0 && a < args
			for _, code := range [][]impl.Ins{
				{insOf(2, 7, a, 0, ""), endOf(7)}, {endOf(0), insOf(2, 0, a, 0, ""), jumpTo(0)}, ending(200, insOf(2, 1, a, 0, "")),
			} {
				for at := range 3 {
					for _, others := range []int64{0, 3} {
						o := partsOf("lib", nil, "f", "g", "h")
						for k := range o.Routines {
							o.Routines[k].Args = others
						}
						o.Routines[at].Args, o.Routines[at].Code = args, code
						mustBeObjectOrNot(t, o, is)
					}
				}
			}
		}
	}
	// What is at the second place of a word, a register or a place is no
	// argument.
	for _, text := range []string{"set 0 3", "add 0 3 3", "zero 0 3", "jump 3", "set 0 0", "call 0 3 lib.f"} {
		o := partsOf("lib", nil, "f")
		o.Routines[0].Code = append([]impl.Ins{insIn(t, text)}, ending(4, endOf(0))...)
		mustBeObjectOrNot(t, o, true)
	}
	mustBeObjectOrNot(t, objectIn(t, "lib", "lib.f 3: arg 0 0, arg 1 1, arg 2 2, end 0"), true)
	mustBeObjectOrNot(t, objectIn(t, "lib", "lib.f 2: arg 0 0, arg 1 1, arg 2 2, end 0"), false)
	mustBeObjectOrNot(t, objectIn(t, "lib", "lib.f 2: arg 2 2, arg 1 1, arg 0 0, end 0"), false)
}

func TestObjectOkOfCodeThatIsNotRight(t *testing.T) {
	for _, code := range []string{
		"", "set 0 1", "end 0, set 0 1", "jump 1", "jump -1", "zero 0 0", "zero 0 2, end 0", "zero 0 -1, end 0", "end 64", "end -1", "set 64 0, end 0",
		"set 0 2147483648, end 0", "arg 0 3, end 0", "arg 0 -1, end 0", "jump 2, end 0", "call 0 0 lib.f", "add 0 64 0, end 0", "add 0 0 1",
		"call 0 0 lib, end 0", "call 0 0 lib., end 0", "call 0 0 .f, end 0", "call 0 0 lib.f.g, end 0", "call 0 4 lib.f, end 0", "call 63 2 lib.f, end 0",
	} {
		wrong := impl.Routine{Name: "lib.g", Args: 3, Code: codeIn(t, code)}
		mustBeWrongObject(t, impl.Object{Package: "lib", Routines: []impl.Routine{wrong}})
		o := partsOf("lib", nil, "f", "g", "h")
		o.Routines[1] = wrong
		mustBeWrongObject(t, o)
	}
	for many := 1; many <= 210; many++ {
		o := partsOf("lib", nil, "f", "g", "h")
		for at := range 3 {
			o.Routines[at].Code = ending(many, insIn(t, "set 3 7"))
			mustBeObjectOrNot(t, o, many <= 200)
		}
	}
	for _, text := range wrongIns {
		o := partsOf("a", nil, "f", "g")
		o.Routines[1].Args = 3
		o.Routines[1].Code = []impl.Ins{insIn(t, text), endOf(0)}
		mustBeWrongObject(t, o)
	}
	for _, text := range rightIns {
		i := insIn(t, text)
		o := partsOf("a", []string{"abcdefgh", "main", "z"}, "f", "g")
		o.Routines[1].Args = 3
		o.Routines[1].Code = ending(200, i)
		mustBeObjectOrNot(t, o, true)
	}
	for _, i := range []impl.Ins{{}, insOf(11, 0, 0, 0, ""), insOf(10, 0, 1, 0, ""), insOf(8, 1, 0, 0, ""), insOf(1, 0, 0, 0, "lib.f"), insOf(9, 0, 0, 1, "lib.f")} {
		o := partsOf("lib", nil, "f", "g")
		o.Routines[1].Code = []impl.Ins{i, endOf(0)}
		mustBeWrongObject(t, o)
	}
	// A place is one of its own Routine.
	o := objectIn(t, "a", "a.f 0: set 0 1, jump 2, end 0", "a.g 0: set 0 1, set 0 2, set 0 3, jump 4, end 0")
	mustBeObjectOrNot(t, o, true)
	o.Routines[0].Code[1].A = 3
	mustBeWrongObject(t, o)
}

func TestObjectOkOfCalls(t *testing.T) {
	packs := []string{"a", "aa", "ab", "b", "f", "l", "lib", "liba", "li", "ib", "z"}
	for _, pack := range packs {
		for _, one := range packs {
			for _, called := range packs {
				o := partsOf(pack, []string{one}, "f", "g")
				is := called == pack || called == one
				for at := range o.Routines {
					for _, name := range []string{"f", "none", pack} {
						asked := insOf(9, 5, 2, 0, called+"."+name)
						for _, code := range [][]impl.Ins{{asked, endOf(0)}, {insOf(9, 0, 0, 0, pack+".f"), asked, endOf(0)}, {endOf(0), asked, insOf(9, 0, 0, 0, one+".f"), endOf(0)}} {
							o.Routines[at].Code = code
							mustBeObjectOrNot(t, o, is)
						}
					}
					o.Routines[at].Code = []impl.Ins{endOf(0)}
				}
				// Without the Import only its own is near.
				o.Imports, o.Routines[0].Code = nil, []impl.Ins{insOf(9, 0, 0, 0, called+".f"), endOf(0)}
				mustBeObjectOrNot(t, o, called == pack)
			}
		}
	}
	// Each of 6 Imports is near, and nothing else is.
	six := namesOf("m", 6)
	for _, called := range append(namesOf("m", 8), "m", "n", "lib", "mab") {
		o := partsOf("lib", six, "f", "g", "h")
		o.Routines[2].Code = []impl.Ins{insOf(9, 0, 3, 0, called+".f"), endOf(0)}
		mustBeObjectOrNot(t, o, called == "lib" || slices.Contains(six, called))
	}
	// The last one of 200 is asked.
	o := partsOf("lib", []string{"a"}, "f")
	o.Routines[0].Code = ending(200, insOf(9, 0, 0, 0, "a.f"))
	mustBeObjectOrNot(t, o, true)
	o.Routines[0].Code[198].Name = "b.f"
	mustBeObjectOrNot(t, o, false)
	// The names behind the dot are not asked for being near.
	o.Routines[0].Code[198].Name = "b.a"
	mustBeObjectOrNot(t, o, false)
	o.Routines[0].Code[198].Name = "b.lib"
	mustBeObjectOrNot(t, o, false)
}

// What is called needn't be there, nor have as many Args: that is asked where
// Objects are put together.
func TestObjectOkAsksNotWhatIsCalled(t *testing.T) {
	for many := int64(0); many <= 3; many++ {
		for args := int64(0); args <= 3; args++ {
			o := partsOf("lib", nil, "f", "g")
			o.Routines[1].Args = args
			o.Routines[0].Code = []impl.Ins{insOf(9, 0, many, 0, "lib.g"), endOf(0)}
			mustBeObjectOrNot(t, o, true)
			o.Routines[0].Code[0].Name = "lib.none"
			mustBeObjectOrNot(t, o, true)
			o.Routines[0].Code[0].Name = "lib.f"
			mustBeObjectOrNot(t, o, true)
			o.Routines[0].Code[0].Name = "lib.h"
			mustBeObjectOrNot(t, o, true)
		}
	}
	// An Import that nobody calls is right too.
	mustBeObjectOrNot(t, objectIn(t, "lib a b c", "lib.f 0: call 0 0 b.g, end 0"), true)
}

// All Objects of a few names.
func TestObjectOkOfAllShortObjects(t *testing.T) {
	routines := []impl.Routine{}
	for _, name := range []string{"a.f", "a.g", "b.f"} {
		for args := int64(0); args <= 1; args++ {
			for _, code := range []string{"end 0", "call 0 0 a.g, end 0", "call 0 1 b.f, end 0", "call 0 0 c.a, end 0", "arg 0 0, end 0"} {
				routines = append(routines, impl.Routine{Name: name, Args: args, Code: codeIn(t, code)})
			}
		}
	}
	imports := [][]string{nil}
	for _, one := range []string{"a", "b", "c"} {
		imports = append(imports, []string{one})
		for _, other := range []string{"a", "b", "c"} {
			imports = append(imports, []string{one, other})
		}
	}
	right, wrong := 0, 0
	tell := func(o impl.Object) {
		is := objectRight(o)
		if is {
			right++
		} else {
			wrong++
		}
		mustBeObject(t, o, is)
	}
	for _, pack := range []string{"a", "b", "ab", ""} {
		for _, list := range imports {
			for _, first := range routines {
				tell(impl.Object{Package: pack, Imports: list, Routines: []impl.Routine{first}})
				for _, second := range routines {
					tell(impl.Object{Package: pack, Imports: list, Routines: []impl.Routine{first, second}})
				}
			}
		}
	}
	if right < 300 || wrong < 10000 {
		t.Errorf("%d were right, %d wrong", right, wrong)
	}
}

// objectBy goes by the tests' own folding and steps.
func objectBy(c *chance, p impl.Package) impl.Object {
	if !impl.PackageOk(p) {
		return impl.Object{}
	}
	o := impl.Object{Package: p.Name, Imports: p.Imports}
	for _, f := range packageFoldedBy(c, p).Funcs {
		o.Routines = append(o.Routines, impl.Routine{Name: p.Name + "." + f.Name, Args: f.Args, Code: compiledBy(f.Tree)})
	}
	slices.SortFunc(o.Routines, func(a, b impl.Routine) int { return strings.Compare(a.Name, b.Name) })
	if !objectRight(o) {
		return impl.Object{}
	}
	return o
}

// mustBecome asks twice, and holds it against FoldedPackage and Compiled too,
// Func by Func. It says whether there is an Object.
func mustBecome(t *testing.T, p impl.Package, want impl.Object) bool {
	t.Helper()
	got := impl.ObjectOf(p)
	if again := impl.ObjectOf(p); !sameObject(got, want) || !sameObject(again, want) {
		t.Errorf("ObjectOf of %.600q is %s, and then %s, not %s", impl.ShowPackage(p), toldObject(got), toldObject(again), toldObject(want))
	}
	if sameObject(want, impl.Object{}) {
		return false
	}
	mustShowObject(t, got, objectText(want))
	folded := impl.FoldedPackage(p)
	if got.Package != folded.Name || !slices.Equal(got.Imports, folded.Imports) || len(got.Routines) != len(folded.Funcs) {
		t.Errorf("ObjectOf of %.600q is %s", impl.ShowPackage(p), toldObject(got))
	}
	for _, f := range folded.Funcs {
		one := impl.Routine{Name: folded.Name + "." + f.Name, Args: f.Args, Code: impl.Compiled(f.Tree)}
		if !slices.ContainsFunc(got.Routines, func(r impl.Routine) bool { return sameRoutine(r, one) }) {
			t.Errorf("ObjectOf of %.600q has not the Routine of %q", impl.ShowPackage(p), f.Name)
		}
	}
	return true
}

func mustBecomeObject(t *testing.T, text, head string, routines ...string) {
	t.Helper()
	mustBecome(t, written(t, text)[0], objectIn(t, head, routines...))
}

func mustBecomeNothing(t *testing.T, texts ...string) {
	t.Helper()
	for _, p := range written(t, texts...) {
		mustBecome(t, p, impl.Object{})
	}
}

func TestObjectOfPackages(t *testing.T) {
	mustBecomeObject(t, "z: f 0 1", "z", "z.f 0: set 0 1, end 0")
	mustBecomeObject(t, "z: f 3 $2", "z", "z.f 3: arg 0 2, end 0")
	mustBecomeObject(t, "abcdefgh: stuvwxyz 3 -2147483648", "abcdefgh", "abcdefgh.stuvwxyz 3: set 0 -2147483648, end 0")
	mustBecomeObject(t, "lib a: g 1 @a.f/1 $0; f 0 + 2 3", "lib a", "lib.f 0: set 0 5, end 0", "lib.g 1: arg 0 0, call 0 1 a.f, end 0")
	mustBecomeObject(t, "lib: f 2 / $0 $1", "lib", "lib.f 2: arg 0 0, arg 1 1, div 0 0 1, end 0")
	mustBecomeObject(t, "lib: f 2 / 1 0", "lib", "lib.f 2: set 0 1, set 1 0, div 0 0 1, end 0")
	mustBecomeObject(t, "lib: f 2 - 1 * $0 $1", "lib", "lib.f 2: arg 0 0, arg 1 1, mul 0 0 1, set 1 1, sub 0 1 0, end 0")
	mustBecomeObject(t, "a: f 1 ? $0 @a.f/1 - $0 1 0", "a",
		"a.f 1: arg 0 0, zero 0 7, arg 0 0, set 1 1, sub 0 0 1, call 0 1 a.f, jump 8, set 0 0, end 0")
	mustBecome(t, lib(), objectIn(t, "lib a bc",
		"lib.f 2: arg 0 0, arg 1 1, add 0 0 1, end 0", "lib.g 0: set 0 5, end 0", "lib.h 3: set 0 -1, call 1 0 lib.f, call 0 2 bc.k, end 0"))
	// Imports stay as they are, whether anyone calls them or not, and with it
	// among them.
	mustBecomeObject(t, "b a b c d e f: f 0 @f.g/0", "b a b c d e f", "b.f 0: call 0 0 f.g, end 0")
	mustBecomeObject(t, "main lib: main 1 @lib.f/2 $0 $0; a 0 @main.main/1 7", "main lib",
		"main.a 0: set 0 7, call 0 1 main.main, end 0", "main.main 1: arg 0 0, arg 1 0, call 0 2 lib.f, end 0")
	mustBecome(t, pack("z", []string{}, fn("f", 0, num(1))), objectIn(t, "z", "z.f 0: set 0 1, end 0"))
	// What is called needn't be there, nor have as many Args.
	mustBecomeObject(t, "a b: f 0 @a.none/3 1 2 3; g 3 @a.f/1 1", "a b",
		"a.f 0: set 0 1, set 1 2, set 2 3, call 0 3 a.none, end 0", "a.g 3: set 0 1, call 0 1 a.f, end 0")
}

func TestObjectOfPackagesIsOfTheFolded(t *testing.T) {
	mustBecomeObject(t, "lib: f 0 + * 2 3 - 9 2", "lib", "lib.f 0: set 0 13, end 0")
	mustBecomeObject(t, "lib: f 1 + 0 * 1 / $0 1", "lib", "lib.f 1: arg 0 0, end 0")
	mustBecomeObject(t, "lib: f 0 + 2147483647 1", "lib", "lib.f 0: set 0 -2147483648, end 0")
	mustBecomeObject(t, "lib a: f 1 ? + 1 -1 @a.f/0 @a.g/1 + 1 1", "lib a", "lib.f 1: set 0 2, call 0 1 a.g, end 0")
	// What is folded away may ask for an argument that is not there, or call
	// what is not imported; what is left may not.
	mustBecomeObject(t, "lib: f 0 ? 1 5 $2", "lib", "lib.f 0: set 0 5, end 0")
	mustBecomeObject(t, "lib: f 0 ? 0 $2 5", "lib", "lib.f 0: set 0 5, end 0")
	mustBecomeObject(t, "lib: f 1 ? - 3 3 + $1 @far.f/0 $0", "lib", "lib.f 1: arg 0 0, end 0")
	mustBecomeObject(t, "lib: f 2 ? 7 @lib.f/1 $1 @far.g/0", "lib", "lib.f 2: arg 0 1, call 0 1 lib.f, end 0")
	mustBecomeNothing(t,
		"lib: f 0 ? 0 5 $2", "lib: f 0 ? 1 $2 5", "lib: f 1 ? - 3 3 $0 + $1 @far.f/0", "lib: f 2 ? 0 @lib.f/1 $1 @far.g/0",
		"lib: f 0 * 0 $0", "lib: f 0 - 0 $0", "lib: f 0 * @far.f/0 0", "lib: f 0 ? / 1 0 @far.f/0 1", "lib: f 0 + 0 @far.f/0")
}

func TestObjectOfPackagesThatAskTooMuch(t *testing.T) {
	for args := range 4 {
		for asked := range 3 {
			p := written(t, fmt.Sprintf("lib: f %d + 1 $%d", args, asked))[0]
			want := impl.Object{}
			if asked < args {
				want = objectIn(t, "lib", fmt.Sprintf("lib.f %d: set 0 1, arg 1 %d, add 0 0 1, end 0", args, asked))
			}
			mustBecome(t, p, want)
			// Any of several Funcs may spoil it.
			for at := range 8 {
				p := pack("lib", nil, funcsOf(8)...)
				p.Funcs[at].Args, p.Funcs[at].Tree = int64(args), treeIn(t, fmt.Sprintf("* $%d $%d", asked, asked))
				c := chance(7)
				if mustBecome(t, p, objectBy(&c, p)) != (asked < args) {
					t.Errorf("%q becomes an Object or not", impl.ShowPackage(p))
				}
			}
		}
	}
}

func TestObjectOfPackagesThatCallFar(t *testing.T) {
	packs := []string{"a", "aa", "ab", "b", "l", "lib", "liba", "z"}
	for _, name := range packs {
		for _, one := range packs {
			for _, called := range packs {
				for at := range 2 {
					p := pack(name, []string{one}, fn("f", 0, num(1)), fn("g", 0, num(2)))
					p.Funcs[at].Tree = []impl.Node{call(called, "f", 0)}
					c := chance(7)
					if mustBecome(t, p, objectBy(&c, p)) != (called == name || called == one) {
						t.Errorf("%q becomes an Object or not", impl.ShowPackage(p))
					}
				}
			}
		}
	}
	mustBecomeNothing(t, "lib: f 0 @a.f/0", "lib b: f 0 @a.f/0", "lib b: f 0 @b.f/1 @b.f/1 @a.f/0", "lib b: f 0 @b.f/0; g 0 @c.g/0", "lib lib: f 0 @libb.f/0", "a b: a 0 @c.a/0")
}

func TestObjectOfWhatIsNotPackageOk(t *testing.T) {
	mustBecome(t, impl.Package{}, impl.Object{})
	mustBecome(t, impl.Package{Name: "lib"}, impl.Object{})
	mustBecome(t, pack("lib", namesOf("m", 7), fn("f", 0, num(1))), impl.Object{})
	mustBecome(t, pack("lib", nil, funcsOf(9)...), impl.Object{})
	mustBecome(t, pack("lib", []string{"b", "a"}, fn("f", 0, num(1))), impl.Object{})
	mustBecome(t, pack("lib", nil, fn("f", 0, num(1)), fn("f", 0, num(1))), impl.Object{})
	mustBecome(t, pack("lib", nil, fn("f", 0, num(1)), fn("g", 0, num(1)), fn("f", 0, num(2))), impl.Object{})
	mustBecome(t, pack("lib", nil, fn("f", 0)), impl.Object{})
	mustBecome(t, pack("lib", nil, fn("f", 0, chained(61)...)), impl.Object{})
	for why, spoil := range spoilers {
		p := lib()
		spoil(&p)
		if got := impl.ObjectOf(p); impl.PackageOk(p) || !sameObject(got, impl.Object{}) {
			t.Errorf("%s: it becomes %s", why, toldObject(got))
		}
	}
	for at := range 3 {
		for _, n := range wrongNodes() {
			p := lib()
			// Though it would be folded away.
			p.Funcs[at].Tree = []impl.Node{sign(7), num(1), num(5), n}
			mustBecome(t, p, impl.Object{})
		}
	}
	for _, name := range noNames {
		for spoil := range 3 {
			p := lib()
			switch spoil {
			case 0:
				p.Name = name
			case 1:
				p.Imports[1] = name
			case 2:
				p.Funcs[1].Name = name
			}
			mustBecome(t, p, impl.Object{})
		}
	}
	for _, args := range []int64{-1, 4, 1 << 32, math.MinInt64, math.MaxInt64} {
		p := lib()
		p.Funcs[1].Args = args
		mustBecome(t, p, impl.Object{})
	}
}

// Whatever order the Funcs stand in, the Routines rise.
func TestObjectOfFuncsInEachOrder(t *testing.T) {
	texts := []string{"aa 0 1", "a 1 $0", "z 2 @lib.a/1 $1", "b 3 @bc.f/0", "abcdefgh 0 + @lib.b/0 1"}
	want := objectIn(t, "lib bc", "lib.a 1: arg 0 0, end 0", "lib.aa 0: set 0 1, end 0", "lib.abcdefgh 0: call 0 0 lib.b, set 1 1, add 0 0 1, end 0",
		"lib.b 3: call 0 0 bc.f, end 0", "lib.z 2: arg 0 1, call 0 1 lib.a, end 0")
	seen := 0
	orders(nil, texts, func(order []string) {
		mustBecome(t, written(t, "lib bc: "+strings.Join(order, "; "))[0], want)
		seen++
	})
	if seen != 120 {
		t.Errorf("there were %d orders", seen)
	}
}

func TestObjectOfTheGreatest(t *testing.T) {
	c := chance(211)
	for _, tree := range [][]impl.Node{
		chained(60), slices.Concat(slices.Repeat([]impl.Node{call("lib", "f", 3), num(1), num(2)}, 19), []impl.Node{call("lib", "f", 2), num(3), num(4)}),
		slices.Concat(slices.Repeat([]impl.Node{sign(7), arg(0), arg(1)}, 19), []impl.Node{arg(2)}),
		slices.Concat(slices.Repeat([]impl.Node{sign(6), arg(0)}, 29), []impl.Node{arg(2)}),
	} {
		p := pack("lib", append(namesOf("m", 5), "stuvwxyz"), funcsOf(8)...)
		for at := range p.Funcs {
			p.Funcs[at].Args, p.Funcs[at].Tree = 3, tree
			if tree[0].Kind == impl.NdCall && tree[0].Package != "lib" {
				p.Imports = []string{tree[0].Package}
			}
		}
		if !mustBecome(t, p, objectBy(&c, p)) {
			t.Errorf("%.600q becomes nothing", impl.ShowPackage(p))
		}
	}
}

// Packages of all kinds: of projects that are right, with mistakes, and of
// trees that call and ask whatever they like.
func TestObjectOfManyPackages(t *testing.T) {
	c := chance(223)
	objects, nothing := 0, 0
	tell := func(p impl.Package) {
		before := packageCopied(p)
		if mustBecome(t, p, objectBy(&c, p)) {
			objects++
		} else {
			nothing++
		}
		if !samePackage(p, before) {
			t.Error("a Package is another one now")
		}
	}
	for i := range 150 {
		list := rightProject(&c, 1+c.below(8))
		if i%3 == 0 {
			list = busyProject(&c, 1+c.below(8))
		}
		for _, p := range list {
			tell(p)
			if impl.ObjectOf(p).Package != p.Name {
				t.Errorf("%.600q becomes nothing", impl.ShowPackage(p))
			}
			for at, f := range p.Funcs {
				p.Funcs[at].Tree = smallened(&c, f.Tree)
			}
			tell(p)
		}
		for range 4 {
			mistaken(&c, list)
		}
		for _, p := range list {
			tell(p)
		}
	}
	for _, s := range manyShown() {
		tell(s.p)
		for at, f := range s.p.Funcs {
			s.p.Funcs[at].Tree = smallened(&c, f.Tree)
		}
		tell(s.p)
		// With all calls within reach it hangs on arguments alone.
		for _, f := range s.p.Funcs {
			for at, n := range f.Tree {
				if n.Kind == impl.NdCall {
					f.Tree[at].Package = append([]string{s.p.Name}, s.p.Imports...)[c.below(1+len(s.p.Imports))]
				}
			}
		}
		tell(s.p)
		for at := range s.p.Funcs {
			s.p.Funcs[at].Args = 3
		}
		tell(s.p)
	}
	if objects < 1500 || nothing < 200 {
		t.Errorf("%d became Objects, %d became nothing", objects, nothing)
	}
}

// All short trees, each alone in a Package.
func TestObjectOfAllShortTrees(t *testing.T) {
	c := chance(227)
	objects, nothing := 0, 0
	for _, tree := range allTrees(5, num(0), num(1), arg(0), arg(1), sign(3), sign(6), sign(7), call("lib", "f", 0), call("a", "f", 1), call("far", "f", 0)) {
		for args := range int64(3) {
			p := pack("lib", []string{"a"}, fn("f", args, tree...))
			if mustBecome(t, p, objectBy(&c, p)) {
				objects++
			} else {
				nothing++
			}
		}
	}
	if objects < 1000 || nothing < 1000 {
		t.Errorf("%d became Objects, %d became nothing", objects, nothing)
	}
}

// What all Objects of a project have is the image of it, folded.
func TestObjectsOfProjects(t *testing.T) {
	c := chance(229)
	enough := 0
	for range 60 {
		list := busyProject(&c, 1+c.below(8))
		m := impl.Image{}
		for _, p := range list {
			o, is := impl.ReadObject(impl.ShowObject(impl.ObjectOf(p)))
			if !is {
				t.Fatalf("%.600q becomes nothing", impl.ShowPackage(p))
			}
			m.Routines = append(m.Routines, o.Routines...)
		}
		slices.SortFunc(m.Routines, func(a, b impl.Routine) int { return strings.Compare(a.Name, b.Name) })
		mustBeImage(t, m, true)
		if want := imageOfProject(projectFolded(list)); !sameImage(m, want) {
			t.Fatalf("it is %s, not %s", toldImage(m), toldImage(want))
		}
		for _, p := range list {
			for _, f := range p.Funcs {
				args := chosenWords(&c, f.Args)
				value, code := impl.Meant(list, p.Name, f.Name, args, impl.MaxFuel/2-1)
				// Of a division by 0 the parts may go in another order, which
				// may take more.
				if code != impl.MnOk {
					continue
				}
				enough++
				mustRun(t, m, p.Name+"."+f.Name, args, impl.MaxFuel, value, code)
			}
		}
	}
	if enough < 200 {
		t.Errorf("%d had fuel enough", enough)
	}
}

func TestShowObjectLineByLine(t *testing.T) {
	mustShowObject(t, objectIn(t, "a", "a.f 0: end 0"), "object a\nroutine a.f 0 1\n10 0 0 0 -\n")
	mustShowObject(t, objectIn(t, "a b", "a.f 0: end 0"), "object a\nimport b\nroutine a.f 0 1\n10 0 0 0 -\n")
	mustShowObject(t, objectIn(t, "a a b", "a.f 0: end 0"), "object a\nimport a\nimport b\nroutine a.f 0 1\n10 0 0 0 -\n")
	mustShowObject(t, objectIn(t, "abcdefgh ijklmnop stuvwxyz", "abcdefgh.qrstuvwx 3: call 61 3 stuvwxyz.zzzzzzzz, end 63"),
		"object abcdefgh\nimport ijklmnop\nimport stuvwxyz\nroutine abcdefgh.qrstuvwx 3 2\n9 61 3 0 stuvwxyz.zzzzzzzz\n10 63 0 0 -\n")
	mustShowObject(t, objectIn(t, "lib a", "lib.f 0: set 0 5, end 0", "lib.g 1: arg 0 0, call 0 1 a.f, end 0"),
		"object lib\nimport a\nroutine lib.f 0 2\n1 0 5 0 -\n10 0 0 0 -\nroutine lib.g 1 3\n2 0 0 0 -\n9 0 1 0 a.f\n10 0 0 0 -\n")
	mustShowObject(t, objectIn(t, "a", "a.f 3: set 1 -5, arg 2 2, add 3 4 5, sub 6 7 8, mul 9 10 11, div 12 13 14, zero 15 10, jump 9, call 16 3 a.f, end 17, jump 0"),
		"object a\nroutine a.f 3 11\n1 1 -5 0 -\n2 2 2 0 -\n3 3 4 5 -\n4 6 7 8 -\n5 9 10 11 -\n6 12 13 14 -\n7 15 10 0 -\n8 0 9 0 -\n9 16 3 0 a.f\n10 17 0 0 -\n8 0 0 0 -\n")
	// Names that are words of the lines too.
	mustShowObject(t, objectIn(t, "object import object routine", "object.import 0: call 0 0 import.object, end 0", "object.routine 0: call 0 0 routine.f, end 0"),
		"object object\nimport import\nimport object\nimport routine\nroutine object.import 0 2\n9 0 0 0 import.object\n10 0 0 0 -\nroutine object.routine 0 2\n9 0 0 0 routine.f\n10 0 0 0 -\n")
	for _, word := range edgeWords {
		mustShowObject(t, objectIn(t, "a", fmt.Sprintf("a.f 0: set 5 %d, end 0", word)), fmt.Sprintf("object a\nroutine a.f 0 2\n1 5 %d 0 -\n10 0 0 0 -\n", word))
	}
	for many := range 7 {
		text := "object lib\n"
		for _, name := range namesOf("m", many) {
			text += "import " + name + "\n"
		}
		mustShowObject(t, partsOf("lib", namesOf("m", many), "f"), text+"routine lib.f 0 1\n10 0 0 0 -\n")
	}
}

// Where the Routines are an image too, their lines are those of ShowImage.
func TestShowObjectHasTheLinesOfShowImage(t *testing.T) {
	c := chance(233)
	for range 200 {
		p := rightProject(&c, 1)[0]
		o := impl.ObjectOf(p)
		o.Imports = slices.Sorted(slices.Values(chosenNames(&c, c.below(7))))
		lines := impl.ShowImage(impl.Image{Routines: o.Routines})
		if lines == "" {
			t.Fatalf("%s is no image", toldObject(o))
		}
		head := "object " + p.Name + "\n"
		for _, name := range o.Imports {
			head += "import " + name + "\n"
		}
		mustShowObject(t, o, head+lines)
	}
}

func TestShowObjectOfGreatOnes(t *testing.T) {
	for _, many := range []int{1, 2, 7, 8} {
		o := partsOf("lib", []string{"a"}, namesOf("f", many)...)
		for _, length := range []int{1, 9, 10, 99, 100, 199, 200} {
			o.Routines[many-1].Code = ending(length, insIn(t, "set 9 99"))
			o.Routines[many/2].Code = ending(length, insIn(t, "call 0 3 a.none"))
			mustShowObject(t, o, objectText(o))
		}
	}
	six := namesOf("mmmmmmm", 6)
	o := partsOf("abcdefgh", six, namesOf("fffffff", 8)...)
	for at := range o.Routines {
		o.Routines[at].Args = 3
		o.Routines[at].Code = ending(200, insOf(9, 33, 3, 0, six[at%6]+".zzzzzzzz"))
	}
	mustShowObject(t, o, objectText(o))
	if len(objectText(o)) < 40000 {
		t.Errorf("the greatest has %d bytes", len(objectText(o)))
	}
}

func TestShowObjectOfWhatIsNotObjectOk(t *testing.T) {
	for _, o := range []impl.Object{
		partsOf("lib", nil), partsOf("Lib", nil, "f"), partsOf("", nil, "f"), partsOf("lib", []string{"b", "a"}, "f"), partsOf("lib", []string{"a", "a"}, "f"), partsOf("lib", []string{""}, "f"),
		partsOf("lib", namesOf("m", 7), "f"), partsOf("lib", nil, namesOf("f", 9)...), partsOf("lib", nil, "g", "f"), partsOf("lib", nil, "f", "f"), partsOf("lib", nil, ""),
		objectIn(t, "lib", "a.f 0: end 0"), objectIn(t, "lib", "lib.f 4: end 0"), objectIn(t, "lib", "lib.f -1: end 0"), objectIn(t, "lib", "lib.f 0:"), objectIn(t, "lib", "lib.f 0: set 0 1"),
		objectIn(t, "lib", "lib.f 0: arg 0 0, end 0"), objectIn(t, "lib", "lib.f 2: arg 0 2, end 0"), objectIn(t, "lib", "lib.f 0: call 0 0 a.f, end 0"), objectIn(t, "lib b", "lib.f 0: call 0 0 a.f, end 0"),
		objectIn(t, "lib", "lib.f 0: jump 1"), objectIn(t, "lib", "lib.f 0: end 64"), objectIn(t, "lib a", "lib.f 0: end 0", "lib.g 0: end 0", "lib.h 0: call 0 0 b.f, end 0"),
	} {
		mustBeWrongObject(t, o)
	}
}

// near are Routines that an Object with these names may call.
func near(c *chance, pack string, imports []string) impl.Image {
	m := impl.Image{}
	for range 4 {
		called := append([]string{pack}, imports...)[c.below(1+len(imports))]
		m.Routines = append(m.Routines, impl.Routine{Name: called + "." + chosenName(c), Args: int64(c.below(4))})
	}
	return m
}

// chosenObject is right, with code that no tree is compiled to.
func chosenObject(c *chance) impl.Object {
	o := impl.Object{Package: chosenName(c), Imports: slices.Sorted(slices.Values(chosenNames(c, c.below(7))))}
	callable := near(c, o.Package, o.Imports)
	for _, name := range slices.Sorted(slices.Values(chosenNames(c, 1+c.below(8)))) {
		r := impl.Routine{Name: o.Package + "." + name, Args: int64(c.below(4))}
		length := 1 + c.below([]int{3, 12, 30}[c.below(3)])
		for range length - 1 {
			r.Code = append(r.Code, chosenIns(c, length, r.Args, callable))
		}
		last := endOf(int64(c.below(64)))
		if c.below(4) == 0 {
			last = jumpTo(int64(c.below(length)))
		}
		r.Code = append(r.Code, last)
		o.Routines = append(o.Routines, r)
	}
	return o
}

// Promise 15.
func TestReadObjectOfShowObjectIsTheObject(t *testing.T) {
	c := chance(239)
	kinds := [11]int{}
	for range 600 {
		o := chosenObject(&c)
		if !objectRight(o) {
			t.Fatalf("%s is not right", toldObject(o))
		}
		mustShowObject(t, o, objectText(o))
		if got, is := objectOfText(objectText(o)); !is || !sameObject(got, o) {
			t.Fatalf("%s is not read", toldObject(o))
		}
		for _, r := range o.Routines {
			for _, i := range r.Code {
				kinds[i.Kind]++
			}
		}
	}
	if slices.Min(kinds[1:]) < 500 {
		t.Errorf("of each Kind there were %v", kinds)
	}
}

// shownObjects are of each Kind of Ins, of several Imports and Routines; short,
// so that all their bytes can be gone through.
func shownObjects(t *testing.T) []string {
	t.Helper()
	texts := []string{}
	for _, o := range []impl.Object{
		objectIn(t, "a", "a.f 0: end 0"),
		objectIn(t, "ab c", "ab.fg 2: set 1 -50, arg 2 1, zero 1 3, jump 0"),
		objectIn(t, "a a bc z", "a.f 1: div 10 0 0, call 3 2 bc.g, end 10"),
		objectIn(t, "lib a", "lib.f 0: call 0 0 a.f, end 0", "lib.g 3: call 61 3 lib.f, jump 1"),
	} {
		mustBeObject(t, o, true)
		texts = append(texts, impl.ShowObject(o))
	}
	return texts
}

func TestReadObjectOfTextsThatAreCut(t *testing.T) {
	mustNotReadObject(t, "")
	for _, text := range shownObjects(t) {
		for at := range text {
			mustReadObjectAsTold(t, text[:at])
			mustReadObjectAsTold(t, text[at:])
			mustReadObjectAsTold(t, text[:at]+text[at+1:])
			for to := at + 1; to <= len(text); to += 1 + to%3 {
				mustReadObjectAsTold(t, text[:at]+text[to:])
			}
		}
		mustReadObjectAsTold(t, text)
		mustNotReadObject(t, strings.TrimSuffix(text, "\n"))
		mustNotReadObject(t, text+"\n")
		mustNotReadObject(t, "\n"+text)
		mustNotReadObject(t, text+text)
		mustNotReadObject(t, text+"x")
		mustNotReadObject(t, text+"\x00")
		mustNotReadObject(t, strings.ReplaceAll(text, "\n", "\r\n"))
		mustNotReadObject(t, strings.ReplaceAll(text, "\n", " \n"))
		mustNotReadObject(t, strings.ReplaceAll(text, "\n", "\n\n"))
		mustNotReadObject(t, strings.ReplaceAll(text, " ", "  "))
		mustNotReadObject(t, strings.ReplaceAll(text, " ", "\t"))
		mustNotReadObject(t, strings.ReplaceAll(text, "\n", " "))
		mustNotReadObject(t, strings.ReplaceAll(text, " ", "\n"))
		mustNotReadObject(t, strings.ReplaceAll(text, "-\n", "\n"))
		mustNotReadObject(t, strings.ReplaceAll(text, " -\n", "\n"))
		mustNotReadObject(t, strings.ToUpper(text))
	}
}

// Each byte turned into each other one, and each put in anywhere: none is read
// but what is the text of another Object.
func TestReadObjectOfTextsWithAnotherByte(t *testing.T) {
	read, refused := 0, 0
	for _, text := range shownObjects(t) {
		for at := 0; at <= len(text); at++ {
			for b := range 256 {
				one := string([]byte{byte(b)})
				others := []string{text[:at] + one + text[at:]}
				if at < len(text) && text[at] != byte(b) {
					others = append(others, text[:at]+one+text[at+1:])
				}
				for _, other := range others {
					if mustReadObjectAsTold(t, other) {
						read++
					} else {
						refused++
					}
				}
			}
		}
	}
	if read < 500 || refused < 100000 {
		t.Errorf("%d were read, and %d refused", read, refused)
	}
}

func TestReadObjectOfOtherLines(t *testing.T) {
	for _, text := range shownObjects(t) {
		lines := slices.Collect(strings.Lines(text))
		for at, line := range lines {
			mustReadObjectAsTold(t, strings.Join(slices.Delete(slices.Clone(lines), at, at+1), ""))
			mustNotReadObject(t, strings.Join(slices.Insert(slices.Clone(lines), at, line), ""))
			for _, more := range []string{"\n", " \n", "-\n", "object\n", "object \n", "object a\n", "object lib\n", "import\n", "import \n", "import a\n", "import b\n", "import zz\n", "import a b\n", "routine\n", "routine a.f 0 1\n", "10 0 0 0 -\n", "1 0 0 0 -\n", "end\n", "package a\n"} {
				mustReadObjectAsTold(t, strings.Join(slices.Insert(slices.Clone(lines), at, more), ""))
				mustReadObjectAsTold(t, strings.Join(slices.Concat(lines[:at], []string{more}, lines[at+1:]), ""))
			}
			for to := range lines {
				changed := slices.Clone(lines)
				changed[at], changed[to] = changed[to], changed[at]
				mustReadObjectAsTold(t, strings.Join(changed, ""))
				moved := slices.Insert(slices.Delete(slices.Clone(lines), at, at+1), to, line)
				mustReadObjectAsTold(t, strings.Join(moved, ""))
			}
			for _, more := range []string{" ", " -", " 0", " a", "-", "0", "\x00", "\r"} {
				mustNotReadObject(t, strings.Join(lines[:at], "")+strings.TrimSuffix(line, "\n")+more+"\n"+strings.Join(lines[at+1:], ""))
				mustNotReadObject(t, strings.Join(lines[:at], "")+more+strings.Join(lines[at:], ""))
			}
		}
	}
}

func TestReadObjectOfLinesElsewhere(t *testing.T) {
	head, one, other := "object lib\n", "routine lib.f 0 1\n10 0 0 0 -\n", "routine lib.g 0 1\n10 0 0 0 -\n"
	mustReadObject(t, head+"import a\nimport b\n"+one+other, partsOf("lib", []string{"a", "b"}, "f", "g"))
	for _, text := range []string{
		// An import ahead of the object, behind a routine, within one.
		"import a\n" + head + one, head + one + "import a\n", head + one + "import a\n" + other, head + "routine lib.f 0 1\nimport a\n10 0 0 0 -\n", head + "import a\n" + one + "import b\n",
		"import a\n" + head + "import b\n" + one,
		// No object, two of them, and one elsewhere.
		one, "import a\n" + one, head + head + one, head + "object lib\n" + one, head + one + head, "object a\n" + head + one, head + "object a\n" + one, one + head, "import a\n" + head + one,
		head + "import a\n" + head + one, head + one + head + other, head + one + head + one, "routine lib.f 0 1\n" + head + "10 0 0 0 -\n",
		// Imports the wrong way round, or twice.
		head + "import b\nimport a\n" + one, head + "import a\nimport a\n" + one, head + "import a\nimport b\nimport a\n" + one,
		// No routine, the wrong way round, twice, of another Package.
		head, head + "import a\n", head + other + one, head + one + one, "object a\n" + one, head + "routine a.f 0 1\n10 0 0 0 -\n", head + "import a\nroutine a.f 0 1\n10 0 0 0 -\n",
		// Ins ahead of a routine, and none.
		head + "10 0 0 0 -\n" + one, "10 0 0 0 -\n" + head + one, head + "10 0 0 0 -\n", head + "routine lib.f 0 0\n", head + "routine lib.f 0 1\n", head + "routine lib.f 0 1\nroutine lib.g 0 1\n10 0 0 0 -\n10 0 0 0 -\n",
		// Words that are missing, and others.
		"object\n" + one, "object \n" + one, "lib\n" + one, "object lib lib\n" + one, "object  lib\n" + one, " object lib\n" + one, "Object lib\n" + one, "objects lib\n" + one, "package lib\n" + one, "object lib.f\n" + one,
		head + "import\n" + one, head + "import \n" + one, head + "import a b\n" + one, head + "imports a\n" + one, head + " import a\n" + one, head + "import a \n" + one, head + "a\n" + one, head + "Import a\n" + one, head + "import a.b\n" + one,
	} {
		mustNotReadObject(t, text)
		if _, is := objectOfText(text); is {
			t.Errorf("%q would be one", text)
		}
	}
}

// Texts of other layers are none of an Object, nor the other way round.
func TestReadObjectOfTextsOfOthers(t *testing.T) {
	for _, text := range append(shownImages(t), libText, impl.Framed(shownObjects(t)[0]), "fault 1 a f\n", "+ 1 2") {
		mustNotReadObject(t, text)
		mustNotReadObject(t, "object a\n"+text[:1])
	}
	for _, text := range shownObjects(t) {
		mustNotReadImage(t, text)
		mustNotReadPackage(t, text)
	}
	// An image of one Package needs only the object's line.
	image := imageText(imageIn(t, "a.f 1: arg 0 0, end 0", "a.g 0: call 0 1 a.f, end 0"))
	mustNotReadObject(t, image)
	mustReadObject(t, "object a\n"+image, objectIn(t, "a", "a.f 1: arg 0 0, end 0", "a.g 0: call 0 1 a.f, end 0"))
}

func TestReadObjectOfOtherCounts(t *testing.T) {
	form := "object a\nimport b\nroutine a.f 0 %s\n1 0 5 0 -\n1 0 6 0 -\n10 0 0 0 -\nroutine a.g 1 %s\n2 0 0 0 -\n10 0 0 0 -\n"
	want := objectIn(t, "a b", "a.f 0: set 0 5, set 0 6, end 0", "a.g 1: arg 0 0, end 0")
	counts := []string{"0", "1", "2", "3", "4", "5", "6", "-1", "-3", "-2", "03", "02", "+3", "+2", "3.0", "2.0", "3 ", "", " ", "-", "259", "258", "4294967299", "4294967298", "18446744073709551619", "18446744073709551618", "three", "0x3", "0b11", "3e0", "\u0663"}
	for _, first := range counts {
		for _, second := range counts {
			text := fmt.Sprintf(form, first, second)
			if first == "3" && second == "2" {
				mustReadObject(t, text, want)
			} else {
				mustNotReadObject(t, text)
			}
		}
	}
	for many := 1; many <= 200; many++ {
		o := partsOf("lib", nil, "f")
		o.Routines[0].Code = ending(many, insIn(t, "set 0 1"))
		text := objectText(o)
		mustReadObject(t, text, o)
		for _, told := range []int{many - 1, many + 1, 0, 10 * many} {
			mustNotReadObject(t, strings.Replace(text, fmt.Sprintf("0 %d\n", many), fmt.Sprintf("0 %d\n", told), 1))
		}
	}
}

func TestReadObjectOfNumbersInAnotherForm(t *testing.T) {
	head := "object a\nimport b\n"
	places := []string{
		"routine a.f %s 2\n1 0 0 0 -\n10 0 0 0 -\n", "routine a.f 0 2\n1 %s 0 0 -\n10 0 0 0 -\n", "routine a.f 0 2\n1 0 %s 0 -\n10 0 0 0 -\n",
		"routine a.f 0 2\n1 0 0 %s -\n10 0 0 0 -\n", "routine a.f 0 2\n1 0 0 0 -\n10 0 %s 0 -\n", "routine a.f 0 2\n1 0 0 0 -\n10 0 0 %s -\n",
		"routine a.f 0 2\n%s 0 0 0 -\n10 0 0 0 -\n", "routine a.f 0 2\n1 0 0 0 -\n%s 0 0 0 -\n", "routine a.f 0 2\n9 0 %s 0 b.f\n10 0 0 0 -\n",
	}
	numbers := []string{
		"00", "-0", "+0", "000", "0x0", "0.0", "0e0", "-00", "--0", "+1", "01", "-01", "1.0", "010", "+10", "0x10", "1e1", " 1", "1 ", "1_0", "1,0", "\u0660", "\uff11", "", "-", "a", "0-", "1-",
		"4294967296", "4294967297", "4294967306", "-4294967295", "18446744073709551616", "18446744073709551617", "9223372036854775808", "99999999999999999999999", "2147483648", "-2147483649", "9999999999", "-9999999999", "10000000000",
	}
	for _, place := range places {
		for _, number := range numbers {
			mustNotReadObject(t, fmt.Sprintf(head+place, number))
		}
		right := false
		for n := -5; n <= 70; n++ {
			right = mustReadObjectAsTold(t, fmt.Sprintf(head+place, strconv.Itoa(n))) || right
		}
		if !right {
			t.Errorf("%q is never read", place)
		}
	}
	for _, word := range edgeWords {
		mustReadObject(t, fmt.Sprintf(head+places[2], strconv.FormatInt(word, 10)), objectIn(t, "a b", fmt.Sprintf("a.f 0: set 0 %d, end 0", word)))
	}
}

func TestReadObjectOfNames(t *testing.T) {
	form := "object %s\nimport %s\nroutine %s.f 0 2\n9 0 0 0 %s.g\n10 0 0 0 -\n"
	names := append([]string{"a", "b", "ab", "c", "-", "a.", ".", "A", "abcdefgh", "0", "object", "import", "routine"}, noNames...)
	for _, name := range names {
		mustReadObjectAsTold(t, fmt.Sprintf(form, name, "b", "a", "a"))
		mustReadObjectAsTold(t, fmt.Sprintf(form, "a", name, "a", "a"))
		mustReadObjectAsTold(t, fmt.Sprintf(form, "a", "b", name, "a"))
		mustReadObjectAsTold(t, fmt.Sprintf(form, "a", "b", "a", name))
		right := nameForm.MatchString(name)
		if mustReadObjectAsTold(t, fmt.Sprintf(form, name, name, name, name)) != right {
			t.Errorf("%q is read or not", name)
		}
		if mustReadObjectAsTold(t, fmt.Sprintf(form, name, "b", name, "b")) != right || mustReadObjectAsTold(t, fmt.Sprintf(form, "a", name, "a", name)) != right {
			t.Errorf("%q is read or not", name)
		}
		for _, other := range names[:9] {
			mustReadObjectAsTold(t, fmt.Sprintf("object a\nimport %s\nimport %s\nroutine a.f 0 1\n10 0 0 0 -\n", name, other))
			mustReadObjectAsTold(t, fmt.Sprintf("object a\nroutine a.%s 0 1\n10 0 0 0 -\nroutine a.%s 0 1\n10 0 0 0 -\n", name, other))
		}
	}
	mustReadObject(t, fmt.Sprintf(form, "a", "b", "a", "b"), objectIn(t, "a b", "a.f 0: call 0 0 b.g, end 0"))
	mustNotReadObject(t, fmt.Sprintf(form, "a", "b", "a", "c"))
	mustNotReadObject(t, fmt.Sprintf(form, "a", "b", "b", "a"))
	for _, kind := range []string{"1", "2", "3", "4", "5", "6", "7", "8", "10"} {
		mustNotReadObject(t, "object a\nroutine a.f 1 2\n"+kind+" 0 0 0 a.f\n10 0 0 0 -\n")
	}
	mustNotReadObject(t, "object a\nroutine a.f 1 2\n9 0 0 0 -\n10 0 0 0 -\n")
}

func TestReadObjectByNumberOfLines(t *testing.T) {
	for many := range 12 {
		text := "object lib\n"
		for _, name := range namesOf("m", many) {
			text += "import " + name + "\n"
		}
		if mustReadObjectAsTold(t, text+"routine lib.f 0 1\n10 0 0 0 -\n") != (many <= 6) {
			t.Errorf("%d Imports are read or not", many)
		}
		text = "object lib\n"
		for _, name := range namesOf("f", many) {
			text += "routine lib." + name + " 0 1\n10 0 0 0 -\n"
		}
		if mustReadObjectAsTold(t, text) != (many >= 1 && many <= 8) {
			t.Errorf("%d Routines are read or not", many)
		}
	}
	for _, many := range []int{1, 2, 199, 200, 201, 202, 400} {
		text := fmt.Sprintf("object lib\nroutine lib.f 0 %d\n", many) + strings.Repeat("1 0 0 0 -\n", many-1) + "10 0 0 0 -\n"
		if mustReadObjectAsTold(t, text) != (many <= 200) {
			t.Errorf("%d Ins are read or not", many)
		}
	}
}

func textsOfObject(o impl.Object) []string {
	return slices.Concat([]string{o.Package}, o.Imports, namesWithin(impl.Image{Routines: o.Routines}))
}

// objectOverwritten writes into all of its lists, and into the room behind
// them.
func objectOverwritten(o impl.Object) {
	imageOverwritten(impl.Image{Routines: o.Routines})
	whole := o.Imports[:cap(o.Imports)]
	for at := range whole {
		whole[at] = "spoilt"
	}
}

// mustBeNewObject asks for the same Object several times, which shares nothing
// with what it was made of.
func mustBeNewObject(t *testing.T, made func() impl.Object, of []string) {
	t.Helper()
	first, again := made(), made()
	want := objectCopied(again)
	if !sameObject(first, again) {
		t.Errorf("it is %s, and then %s", toldObject(first), toldObject(again))
	}
	texts := textsOfObject(first)
	for at, text := range texts {
		mustShareNoText(t, "within one answer", []string{text}, texts[:at])
	}
	mustShareNoText(t, "with another answer", texts, textsOfObject(again))
	mustShareNoText(t, "with what it was made of", texts, of)
	// A list that is written into, with the room behind it, leaves the others.
	for at := range first.Routines {
		codeOverwritten(first.Routines[at].Code)
		for other := at + 1; other < len(first.Routines); other++ {
			if !sameRoutine(first.Routines[other], want.Routines[other]) {
				t.Errorf("%d and %d of %s share memory", at, other, toldObject(want))
			}
		}
	}
	objectOverwritten(first)
	if !sameObject(again, want) {
		t.Errorf("%s is handed out twice", toldObject(want))
	}
	if third := made(); !sameObject(third, want) {
		t.Errorf("%s is kept", toldObject(want))
	}
}

// Promise 21.
func TestReadObjectsAreNewMemory(t *testing.T) {
	c := chance(241)
	texts := append(shownObjects(t), impl.ShowObject(impl.ObjectOf(lib())))
	for range 30 {
		texts = append(texts, impl.ShowObject(chosenObject(&c)))
	}
	for _, text := range texts {
		room := []byte(text + "spare room")
		laid := unsafe.String(&room[0], len(text))
		read := func() impl.Object {
			o, is := impl.ReadObject(laid)
			if !is {
				t.Fatalf("%q is not read", text)
			}
			return o
		}
		mustBeNewObject(t, read, []string{laid})
		// What was read stays when the text's bytes are others.
		got := read()
		want, shown := objectCopied(got), impl.ShowObject(got)
		if string(room) != text+"spare room" {
			t.Errorf("%.300q was written into", text)
		}
		mustShareNoText(t, "what is shown", []string{shown}, append(textsOfObject(got), laid, impl.ShowObject(got)))
		for at := range room {
			room[at] = 'x'
		}
		if !sameObject(got, want) || shown != text {
			t.Errorf("%.300q is shared with what was read", text)
		}
	}
	for _, text := range []string{"x", "object a\n", "object a\nimport b\nroutine a.f 0 1\n", "object a\nroutine a.f 0 1\n10 0 0 0 a.f\n"} {
		room := []byte(text + "spare room")
		mustNotReadObject(t, unsafe.String(&room[0], len(text)))
		if string(room) != text+"spare room" {
			t.Errorf("%.300q was written into", text)
		}
	}
}

// Promise 21: the Packages' texts are laid over bytes of the test's own, and
// their lists have room behind them.
func TestObjectsOfPackagesAreNewMemoryAndPackagesStay(t *testing.T) {
	room := make([]byte, 1000)
	objects := 0
	for _, list := range laidChecks(t, room) {
		held, before := string(room), projectCopied(list)
		imports, funcs, nodes := behind(list)
		for _, p := range list {
			mustBeNewObject(t, func() impl.Object { return impl.ObjectOf(p) }, textsOfPackage(p))
			if impl.ObjectOf(p).Package != "" {
				objects++
			}
			spoilt := p
			spoilt.Name = "Main"
			mustBecome(t, spoilt, impl.Object{})
		}
		importsNow, funcsNow, nodesNow := behind(list)
		if string(room) != held || !slices.EqualFunc(list, before, samePackage) ||
			!slices.Equal(imports, importsNow) || !slices.EqualFunc(funcs, funcsNow, sameFunc) || !slices.Equal(nodes, nodesNow) {
			t.Error("an argument, or the room behind it, was written into")
		}
	}
	if objects < 10 {
		t.Errorf("there were %d Objects", objects)
	}
	for _, p := range append(written(t, "b a b: z 0 @a.z/0; y 1 @b.y/1 $0; x 2 ? $0 @a.b/0 @b.a/0; a 3 @a.z/0"), lib(), impl.Package{}) {
		before := packageCopied(p)
		mustBeNewObject(t, func() impl.Object { return impl.ObjectOf(p) }, textsOfPackage(p))
		if !samePackage(p, before) {
			t.Error("a Package is another one now")
		}
	}
	// What it was made of may be another Package later.
	p := written(t, "lib a: g 1 @a.f/1 $0; f 0 + 2 3")[0]
	o := impl.ObjectOf(p)
	overwritten(p)
	if want := objectIn(t, "lib a", "lib.f 0: set 0 5, end 0", "lib.g 1: arg 0 0, call 0 1 a.f, end 0"); !sameObject(o, want) {
		t.Errorf("it is %s now", toldObject(o))
	}
}

// laidObject has texts laid over bytes of the test's own, and room behind all
// of its lists, so that a write into any of them would be seen.
func laidObject(room []byte) (o, whole impl.Object) {
	texts := laidOver(room, "lib", "a", "bc", "lib.f", "lib.g", "lib.h", "a.f", "lib.g", "bc.f", "spare room")
	spare := impl.Routine{Name: texts[9], Args: 77, Code: []impl.Ins{jumpTo(99)}}
	codes := [][]impl.Ins{
		{insOf(2, 0, 0, 0, ""), insOf(5, 0, 0, 0, ""), endOf(0), jumpTo(50), insOf(9, 1, 1, 0, texts[9])},
		{insOf(9, 0, 0, 0, texts[6]), endOf(0), jumpTo(51)},
		{insOf(2, 1, 0, 0, ""), insOf(9, 1, 1, 0, texts[7]), insOf(9, 1, 1, 0, texts[8]), endOf(1), endOf(52)},
	}
	whole.Package, whole.Imports = texts[0], []string{texts[1], texts[2], texts[9]}
	whole.Routines = []impl.Routine{
		{Name: texts[3], Args: 1, Code: codes[0][:3]}, {Name: texts[4], Code: codes[1][:2]}, {Name: texts[5], Args: 1, Code: codes[2][:4]}, spare, spare,
	}
	return impl.Object{Package: whole.Package, Imports: whole.Imports[:2], Routines: whole.Routines[:3]}, whole
}

// Promise 21, for an Object that is right, and for ones that are not.
func TestObjectsStay(t *testing.T) {
	for spoil := range 10 {
		room := make([]byte, 80)
		o, whole := laidObject(room)
		switch spoil {
		case 1:
			o.Routines[0], o.Routines[1] = o.Routines[1], o.Routines[0]
		case 2:
			o.Routines[1].Args = 4
		case 3:
			o.Routines[2].Code = o.Routines[2].Code[:3]
		case 4:
			o.Imports = o.Imports[:1]
		case 5:
			o.Routines[1].Code[1].R = 64
		case 6:
			o.Routines = o.Routines[:0]
		case 7:
			o.Routines = whole.Routines[:4]
		case 8:
			o.Imports = whole.Imports
		case 9:
			o.Imports[0], o.Imports[1] = o.Imports[1], o.Imports[0]
		}
		routines, imports, held, shown := wholly(impl.Image{Routines: whole.Routines}), slices.Clone(whole.Imports), string(room), impl.ShowObject(o)
		for range 3 {
			mustBeObject(t, o, spoil == 0)
			if again := impl.ShowObject(o); again != shown || sharing(again, shown) {
				t.Errorf("it is shown as %q, and then as %q", shown, again)
			}
		}
		if string(room) != held || !sameImage(wholly(impl.Image{Routines: whole.Routines}), routines) || !slices.Equal(whole.Imports, imports) {
			t.Errorf("%d: an Object, or the room behind it, was written into", spoil)
		}
		mustShareNoText(t, "what is shown", []string{shown}, append(textsOfObject(o), unsafe.String(&room[0], len(room))))
	}
	o, _ := laidObject(make([]byte, 80))
	mustShowObject(t, o, "object lib\nimport a\nimport bc\nroutine lib.f 1 3\n2 0 0 0 -\n5 0 0 0 -\n10 0 0 0 -\nroutine lib.g 0 2\n9 0 0 0 a.f\n10 0 0 0 -\nroutine lib.h 1 4\n2 1 0 0 -\n9 1 1 0 lib.g\n9 1 1 0 bc.f\n10 1 0 0 -\n")
}

// Promise 21: nothing is kept of what was asked ahead, though the same memory
// holds another Object now.
func TestObjectsKeepNothing(t *testing.T) {
	o := objectIn(t, "lib a", "lib.f 0: set 0 5, end 0", "lib.g 1: arg 0 0, call 0 1 a.f, end 0")
	mustBeObjectOrNot(t, o, true)
	o.Routines[0].Code[0].A = 6
	mustBeObjectOrNot(t, o, true)
	o.Imports[0] = "b"
	mustBeObjectOrNot(t, o, false)
	o.Routines[1].Code[1].Name = "b.f"
	mustBeObjectOrNot(t, o, true)
	o.Package = "libb"
	mustBeObjectOrNot(t, o, false)
	o.Routines[0].Name = "libb.f"
	mustBeObjectOrNot(t, o, false)
	o.Routines[1].Name = "libb.g"
	mustBeObjectOrNot(t, o, true)
	o.Routines[1].Args = 0
	mustBeObjectOrNot(t, o, false)
	o.Routines[1].Code[0] = insOf(1, 0, 0, 0, "")
	mustBeObjectOrNot(t, o, true)
	o.Routines[0].Name = "libb.g"
	mustBeObjectOrNot(t, o, false)
	o.Routines[1].Name = "libb.h"
	mustBeObjectOrNot(t, o, true)
	p := written(t, "lib a: f 1 + $0 2")[0]
	mustBecome(t, p, objectIn(t, "lib a", "lib.f 1: arg 0 0, set 1 2, add 0 0 1, end 0"))
	p.Funcs[0].Tree[1] = num(7)
	mustBecome(t, p, objectIn(t, "lib a", "lib.f 1: set 0 9, end 0"))
	p.Funcs[0].Tree[1] = arg(1)
	mustBecome(t, p, impl.Object{})
	p.Funcs[0].Args = 2
	mustBecome(t, p, objectIn(t, "lib a", "lib.f 2: arg 0 1, set 1 2, add 0 0 1, end 0"))
	p.Funcs[0].Tree[1] = call("b", "f", 0)
	mustBecome(t, p, impl.Object{})
	p.Imports[0] = "b"
	mustBecome(t, p, objectIn(t, "lib b", "lib.f 2: call 0 0 b.f, set 1 2, add 0 0 1, end 0"))
	p.Name, p.Funcs[0].Name = "main", "main"
	mustBecome(t, p, objectIn(t, "main b", "main.main 2: call 0 0 b.f, set 1 2, add 0 0 1, end 0"))
	room := []byte("object a\nroutine a.f 0 2\n1 0 5 0 -\n10 0 0 0 -\n")
	text := unsafe.String(&room[0], len(room))
	for _, digit := range []byte("0123456789") {
		room[29] = digit
		mustReadObject(t, text, objectIn(t, "a", fmt.Sprintf("a.f 0: set 0 %c, end 0", digit)))
	}
	room[29] = 'x'
	mustNotReadObject(t, text)
}

// objectSpoilt has one thing changed, which may be wrong or not.
func objectSpoilt(c *chance, o impl.Object) impl.Object {
	o = objectCopied(o)
	names := []string{"", "a", "A", "a.b", "zzzzzzzz", "abcdefghi", o.Package, o.Package + "a"}
	name := names[c.below(len(names))]
	switch c.below(8) {
	case 0:
		o.Package = name
	case 1:
		o.Imports = append(o.Imports, name)
	case 2:
		if len(o.Imports) > 0 {
			o.Imports[c.below(len(o.Imports))] = name
		}
	case 3:
		if len(o.Imports) > 0 {
			at := c.below(len(o.Imports))
			o.Imports = slices.Delete(o.Imports, at, at+1)
		}
	case 4:
		o.Routines[c.below(len(o.Routines))].Name = name + "." + chosenName(c)
	case 5:
		r := o.Routines[c.below(len(o.Routines))]
		if i := &r.Code[c.below(len(r.Code))]; i.Kind == impl.InCall {
			i.Name = name + ".f"
		}
	default:
		o.Routines = imageSpoilt(c, impl.Image{Routines: o.Routines}).Routines
	}
	return o
}

// Promise 21: whatever they are given, they answer.
func TestObjectsAnswerAtEveryArgument(t *testing.T) {
	c := chance(251)
	right, wrong := 0, 0
	for range 6000 {
		o := objectSpoilt(&c, chosenObject(&c))
		before := objectCopied(o)
		if objectRight(o) {
			right++
			mustShowObject(t, o, objectText(o))
		} else {
			wrong++
			mustBeObject(t, o, false)
		}
		mustReadObjectAsTold(t, objectText(o))
		if !sameObject(o, before) {
			t.Error("an Object is another one now")
		}
	}
	if right < 1000 || wrong < 1000 {
		t.Errorf("%d were right, %d wrong", right, wrong)
	}
}

// Packages of names, counts and trees of any kind.
func TestObjectOfAnswersAtEveryArgument(t *testing.T) {
	names := append([]string{"a", "ab", "b", "lib", "f", "abcdefgh"}, noNames...)
	nodes := wrongNodes()
	c := chance(257)
	objects, nothing := 0, 0
	for range 6000 {
		few := 6 + c.below(2)*c.below(len(noNames))
		p := pack(names[c.below(few)], slices.Compact(slices.Sorted(slices.Values([]string{names[c.below(few)], names[c.below(few)]}))))
		if c.below(4) == 0 {
			slices.Reverse(p.Imports)
		}
		for range 1 + c.below(3) {
			tree := treeOf(&c, 1+c.below(5)).nodes()
			for at, n := range tree {
				if n.Kind == impl.NdCall && c.below(6) > 0 {
					tree[at].Package = p.Name
				}
			}
			if c.below(8) == 0 {
				tree[c.below(len(tree))] = nodes[c.below(len(nodes))]
			}
			p.Funcs = append(p.Funcs, fn(names[c.below(few)], int64(c.below(5)), tree...))
		}
		before := packageCopied(p)
		if mustBecome(t, p, objectBy(&c, p)) {
			objects++
		} else {
			nothing++
		}
		if !samePackage(p, before) {
			t.Error("a Package is another one now")
		}
	}
	if objects < 500 || nothing < 2000 {
		t.Errorf("%d became Objects, %d became nothing", objects, nothing)
	}
}

// Texts of pieces of Objects, in any order.
func TestReadObjectAnswersAtEveryText(t *testing.T) {
	c := chance(263)
	pieces := []string{
		"object a\n", "import b\n", "import c\n", "routine a.f 0 1\n", "routine a.g 1 2\n", "10 0 0 0 -\n", "10 0 0 0 -\n", "9 0 0 0 b.f\n", "2 0 0 0 -\n", "8 0 0 0 -\n",
		"object ", "import ", "routine ", "a.f ", "a\n", "0 ", "1 ", "10 ", "-\n", "\n", " ", "-", "0", "\x00", "\xff", "routine", "package a\n",
	}
	read, refused := 0, 0
	for range 40000 {
		text, many := "", len(pieces)
		if c.below(3) > 0 {
			text, many = "object a\n", 10
		}
		for range c.below(7) {
			text += pieces[c.below(many)]
		}
		if mustReadObjectAsTold(t, text) {
			read++
		} else {
			refused++
		}
	}
	if read < 100 || refused < 20000 {
		t.Errorf("%d were read, and %d refused", read, refused)
	}
	for _, s := range piecedTexts() {
		mustNotReadObject(t, s)
		mustReadObjectAsTold(t, "object "+s)
		mustReadObjectAsTold(t, "object a\nimport "+s+"routine a.f 0 1\n10 0 0 0 -\n")
		mustReadObjectAsTold(t, "object a\nroutine a.f 0 1\n"+s)
	}
}

func TestObjectsAnswerAtGreatArguments(t *testing.T) {
	routine := partsOf("a", nil, "f").Routines
	mustBeObject(t, impl.Object{Package: "a", Routines: slices.Repeat(routine, 1000000)}, false)
	mustBeObject(t, impl.Object{Package: "a", Imports: slices.Repeat([]string{"b"}, 1000000), Routines: routine}, false)
	mustBeObject(t, impl.Object{Package: "a", Routines: []impl.Routine{{Name: "a.f", Code: slices.Repeat([]impl.Ins{endOf(0)}, 1000000)}}}, false)
	mustBecome(t, pack("lib", slices.Repeat([]string{"a"}, 300000), slices.Repeat([]impl.Func{fn("f", 0, num(1))}, 300000)...), impl.Object{})
	mustBecome(t, pack("lib", nil, fn("f", 0, slices.Repeat([]impl.Node{sign(3)}, 1000000)...)), impl.Object{})
	for _, name := range []string{strings.Repeat("a", 1000000), strings.Repeat("a.", 500000), strings.Repeat(".", 1000000), "a." + strings.Repeat("f", 1000000)} {
		mustBeObject(t, impl.Object{Package: name, Routines: routine}, false)
		mustBeObject(t, partsOf(name, nil, "f"), false)
		mustBeObject(t, partsOf("a", []string{name}, "f"), false)
		mustBeObject(t, partsOf("a", nil, name), false)
		o := partsOf("a", nil, "f")
		o.Routines[0].Code = []impl.Ins{insOf(9, 0, 0, 0, name), endOf(0)}
		mustBeObject(t, o, false)
		mustBecome(t, pack(name, nil, fn("f", 0, num(1))), impl.Object{})
		mustBecome(t, pack("a", []string{name}, fn("f", 0, num(1))), impl.Object{})
		mustBecome(t, pack("a", nil, fn(name, 0, num(1))), impl.Object{})
		mustNotReadObject(t, name)
		mustNotReadObject(t, "object "+name+"\nroutine a.f 0 1\n10 0 0 0 -\n")
		mustNotReadObject(t, "object a\nimport "+name+"\nroutine a.f 0 1\n10 0 0 0 -\n")
		mustNotReadObject(t, "object a\nroutine "+name+" 0 1\n10 0 0 0 -\n")
		mustNotReadObject(t, "object a\nroutine a.f 0 1\n10 0 0 0 "+name+"\n")
	}
	for _, piece := range []string{"\n", " ", "object\n", "object a\n", "import\n", "import b\n", "routine\n", "routine a.f 0 1\n", "10 0 0 0 -\n", "object a\nroutine a.f 0 1\n10 0 0 0 -\n", "0", "-", "\x00", "object "} {
		mustNotReadObject(t, strings.Repeat(piece, 100000))
		mustNotReadObject(t, "object a\nroutine a.f 0 1\n10 0 0 0 -\n"+strings.Repeat(piece, 100000))
	}
}
