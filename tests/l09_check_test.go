package tests

import (
	"math"
	"slices"
	"strconv"
	"strings"
	"testing"

	"loop.example/g00346/impl"
)

// written has a Package of each text: its Name and its Imports, a :, and its
// Funcs with a ; between.
func written(t *testing.T, texts ...string) []impl.Package {
	t.Helper()
	list := []impl.Package{}
	for _, text := range texts {
		head, body, _ := strings.Cut(text, ":")
		names := strings.Fields(head)
		p := pack(names[0], names[1:])
		for one := range strings.SplitSeq(body, ";") {
			words := strings.Fields(one)
			args, err := strconv.ParseInt(words[1], 10, 64)
			tree, is := readBy(strings.Join(words[2:], " "))
			if err != nil || !is {
				t.Fatalf("%q is no Func", one)
			}
			p.Funcs = append(p.Funcs, fn(words[0], args, tree...))
		}
		list = append(list, p)
	}
	return list
}

func shownProject(list []impl.Package) string {
	texts := []string{}
	for _, p := range list {
		texts = append(texts, impl.ShowPackage(p))
	}
	return strings.Join(texts, "")
}

func mustCode(t *testing.T, list []impl.Package, from string, at int64, n impl.Node, want int64) {
	t.Helper()
	if got := impl.CallCode(list, from, at, n); got != want {
		t.Errorf("CallCode from %.40q, number %d, of %.80q with Kind %d and A %d is %d, not %d:\n%.2000s",
			from, at, []string{n.Package, n.Func}, n.Kind, n.A, got, want, shownProject(list))
	}
}

func mustFault(t *testing.T, list []impl.Package, code int64, pack, name string) {
	t.Helper()
	want := impl.Fault{Code: code, Package: pack, Func: name}
	if got := impl.FaultOf(list); got != want {
		t.Errorf("FaultOf is %v, not %v:\n%.2000s", got, want, shownProject(list))
	}
}

func mustExport(t *testing.T, p impl.Package, want ...string) {
	t.Helper()
	if got := impl.Exports(p); !slices.Equal(got, want) {
		t.Errorf("Exports are %.200q, not %q:\n%.2000s", got, want, impl.ShowPackage(p))
	}
}

func TestCheckConstants(t *testing.T) {
	calls := []int64{impl.ChOk, impl.ChFar, impl.ChFunc, impl.ChCount}
	faults := []int64{impl.FaImport, impl.FaRing, impl.FaArg, impl.FaCall, impl.FaMain, impl.FaBad, impl.FaBig}
	if !slices.Equal(calls, []int64{0, 1, 2, 3}) || !slices.Equal(faults, []int64{1, 2, 3, 4, 5, 6, 7}) {
		t.Fatal("they are not the document's")
	}
}

// family has calls of each kind: a imports nothing, b imports a, c imports b
// and zz, which is not there, main imports a and c. Each has Funcs f, g, h and
// last, with 0 to 3 Args.
func family(t *testing.T) []impl.Package {
	t.Helper()
	funcs := ": f 0 1; g 1 2; h 2 3; last 3 4"
	return written(t, "a"+funcs, "b a"+funcs, "c b zz"+funcs, "main a c"+funcs)
}

var familyFuncs = []string{"f", "g", "h", "last"}

func TestCallCodeOfAFuncAhead(t *testing.T) {
	list := family(t)
	for _, p := range list {
		for at := range int64(4) {
			for called := range at {
				mustCode(t, list, p.Name, at, call(p.Name, familyFuncs[called], called), impl.ChOk)
			}
		}
	}
}

// A Func of an Import is there wherever it stands, and from wherever it is
// called.
func TestCallCodeOfAnImport(t *testing.T) {
	list := family(t)
	for from, imports := range map[string][]string{"b": {"a"}, "c": {"b"}, "main": {"a", "c"}} {
		for _, name := range imports {
			for at := range int64(4) {
				for called := range int64(4) {
					mustCode(t, list, from, at, call(name, familyFuncs[called], called), impl.ChOk)
				}
			}
		}
	}
}

// What an Import imports is not imported.
func TestCallCodeIsFar(t *testing.T) {
	list := family(t)
	for from, names := range map[string][]string{
		"a":    {"b", "c", "main", "zz", "zy", "f"},
		"b":    {"c", "main", "zz", "ab", "ba", "last"},
		"c":    {"a", "main", "zz", "zzz", "z", "bb"},
		"main": {"b", "zz", "mainx", "mai", "aa", "ac"},
	} {
		for _, name := range names {
			for at := range int64(4) {
				for called := range int64(4) {
					mustCode(t, list, from, at, call(name, familyFuncs[called], called), impl.ChFar)
				}
			}
		}
	}
	mustCode(t, list, "c", 0, call("a", "f", 0), impl.ChFar)
	mustCode(t, list, "c", 0, call("zz", "f", 0), impl.ChFar)
	mustCode(t, list, "c", 0, call("zy", "f", 0), impl.ChFar)
}

func TestCallCodeOfAFuncThatIsNotThere(t *testing.T) {
	list := family(t)
	for _, name := range []string{"ff", "fg", "i", "lasts", "las", "a", "b", "c", "main", "zz"} {
		for at := range int64(4) {
			for parts := range int64(4) {
				mustCode(t, list, "a", at, call("a", name, parts), impl.ChFunc)
				mustCode(t, list, "b", at, call("a", name, parts), impl.ChFunc)
				mustCode(t, list, "main", at, call("c", name, parts), impl.ChFunc)
				mustCode(t, list, "main", at, call("main", name, parts), impl.ChFunc)
			}
		}
	}
}

func TestCallCodeOfItselfAndOfWhatIsBehind(t *testing.T) {
	list := family(t)
	for _, p := range list {
		for at := range int64(4) {
			for called := at; called < 4; called++ {
				for parts := range int64(4) {
					mustCode(t, list, p.Name, at, call(p.Name, familyFuncs[called], parts), impl.ChFunc)
				}
			}
		}
	}
}

// One that imports itself may call no more of itself than another.
func TestCallCodeOfAnImportOfItself(t *testing.T) {
	list := written(t, "a a: f 0 1; g 1 2; h 2 3", "b a b: f 0 1; g 0 2")
	mustCode(t, list, "a", 0, call("a", "f", 0), impl.ChFunc)
	mustCode(t, list, "a", 1, call("a", "f", 0), impl.ChOk)
	mustCode(t, list, "a", 1, call("a", "g", 1), impl.ChFunc)
	mustCode(t, list, "a", 1, call("a", "h", 2), impl.ChFunc)
	mustCode(t, list, "b", 0, call("b", "g", 0), impl.ChFunc)
	mustCode(t, list, "b", 0, call("a", "h", 2), impl.ChOk)
}

// On a ring both may call all of the other: what is wrong with a ring is not
// the call.
func TestCallCodeOnARing(t *testing.T) {
	list := written(t, "a b: f 0 @b.g/1 1; g 1 2", "b a: f 0 @a.g/1 1; g 1 2")
	for at := range int64(2) {
		mustCode(t, list, "a", at, call("b", "g", 1), impl.ChOk)
		mustCode(t, list, "b", at, call("a", "f", 0), impl.ChOk)
		mustCode(t, list, "b", at, call("a", "f", 1), impl.ChCount)
	}
}

func TestCallCodeOfOtherArgs(t *testing.T) {
	list := family(t)
	for called := range int64(4) {
		for parts := range int64(4) {
			if parts == called {
				continue
			}
			for at := range int64(4) {
				mustCode(t, list, "b", at, call("a", familyFuncs[called], parts), impl.ChCount)
				mustCode(t, list, "main", at, call("c", familyFuncs[called], parts), impl.ChCount)
			}
			for at := called + 1; at < 4; at++ {
				mustCode(t, list, "a", at, call("a", familyFuncs[called], parts), impl.ChCount)
				mustCode(t, list, "main", at, call("main", familyFuncs[called], parts), impl.ChCount)
			}
		}
	}
}

// A Func is another one in another Package, though the Names are alike.
func TestCallCodeOfNamesThatAreAlike(t *testing.T) {
	list := written(t, "a: f 0 1; main 3 1", "b a: f 1 1; a 2 1", "main a b: f 2 1; a 0 1; main 1 1")
	mustCode(t, list, "main", 1, call("a", "f", 0), impl.ChOk)
	mustCode(t, list, "main", 1, call("b", "f", 1), impl.ChOk)
	mustCode(t, list, "main", 1, call("main", "f", 2), impl.ChOk)
	mustCode(t, list, "main", 1, call("b", "f", 0), impl.ChCount)
	mustCode(t, list, "main", 1, call("main", "f", 1), impl.ChCount)
	mustCode(t, list, "main", 2, call("a", "main", 3), impl.ChOk)
	mustCode(t, list, "main", 2, call("a", "a", 0), impl.ChFunc)
	mustCode(t, list, "main", 2, call("main", "main", 1), impl.ChFunc)
	mustCode(t, list, "b", 0, call("b", "a", 2), impl.ChFunc)
	mustCode(t, list, "b", 1, call("f", "f", 1), impl.ChFar)
}

func TestCallCodeOfSeveralAtOnce(t *testing.T) {
	list := family(t)
	mustCode(t, list, "main", 3, call("b", "none", 3), impl.ChFar)
	mustCode(t, list, "main", 3, call("b", "f", 3), impl.ChFar)
	mustCode(t, list, "main", 3, call("zz", "none", 0), impl.ChFar)
	mustCode(t, list, "c", 0, call("zz", "f", 2), impl.ChFar)
	mustCode(t, list, "c", 0, call("b", "none", 2), impl.ChFunc)
	mustCode(t, list, "c", 1, call("c", "g", 3), impl.ChFunc)
	mustCode(t, list, "c", 1, call("c", "h", 3), impl.ChFunc)
	mustCode(t, list, "c", 1, call("c", "f", 3), impl.ChCount)
}

func TestCallCodeByPlace(t *testing.T) {
	list := family(t)
	for _, at := range outside(4) {
		if at < 0 || at >= 4 {
			mustCode(t, list, "main", at, call("a", "f", 0), -1)
			mustCode(t, list, "main", at, call("main", "f", 0), -1)
			mustCode(t, list, "main", at, call("zz", "f", 0), -1)
			mustCode(t, list, "a", at, call("a", "none", 0), -1)
		}
	}
	for _, at := range append(manyNumbers(), math.MinInt64, math.MaxInt64) {
		want := int64(-1)
		if at >= 0 && at < 4 {
			want = impl.ChOk
		}
		mustCode(t, list, "b", at, call("a", "f", 0), want)
	}
	for many := 1; many <= 8; many++ {
		one := []impl.Package{pack("a", nil, funcsOf(many)...)}
		mustCode(t, one, "a", int64(many)-1, call("a", "zz", 0), impl.ChFunc)
		mustCode(t, one, "a", int64(many), call("a", "zz", 0), -1)
		mustCode(t, one, "a", -1, call("a", "fa", 0), -1)
	}
}

func TestCallCodeFromOneThatIsNotThere(t *testing.T) {
	list := family(t)
	for _, from := range append([]string{"zz", "zy", "f", "aa", "mainx", "mai", "A", "main ", " main"}, noNames...) {
		mustCode(t, list, from, 0, call("a", "f", 0), -1)
		mustCode(t, list, from, 1, call("main", "f", 0), -1)
		mustCode(t, list, from, 0, call("zz", "f", 0), -1)
		if impl.NameOk(from) {
			mustCode(t, list, from, 0, call(from, "f", 0), -1)
		}
	}
}

func TestCallCodeOfWhatIsNoCall(t *testing.T) {
	list := family(t)
	for _, r := range rightNodes {
		if r.node.Kind != impl.NdCall {
			mustCode(t, list, "main", 3, r.node, -1)
		}
	}
	for _, n := range wrongNodes() {
		for at := range int64(4) {
			mustCode(t, list, "main", at, n, -1)
		}
	}
	// But for one thing these would be right calls.
	for _, n := range []impl.Node{
		call("a", "f", -1), call("a", "f", 4), call("a", "last", 1<<32+3), call("a", "", 0), call("", "f", 0),
		{Kind: 7, Package: "a", Func: "f"}, {Kind: 9, Package: "a", Func: "f"}, {Kind: 1<<32 + 8, Package: "a", Func: "f"}, {Package: "a", Func: "f"},
	} {
		mustCode(t, list, "main", 3, n, -1)
	}
}

// What is wrong with the list comes ahead of what is wrong with the call; a
// right one is not told either.
func TestCallCodeOfWhatIsNotProjectOk(t *testing.T) {
	right, far := call("a", "f", 0), call("zz", "f", 0)
	mustCode(t, nil, "a", 0, right, -1)
	mustCode(t, []impl.Package{}, "", 0, right, -1)
	for why, spoil := range spoilers {
		for at := range 4 {
			list := family(t)
			spoil(&list[at])
			for _, from := range []string{"b", "main"} {
				if impl.CallCode(list, from, 0, right) != -1 || impl.CallCode(list, from, 0, far) != -1 {
					t.Errorf("%s in number %d: CallCode is not -1", why, at)
				}
			}
		}
	}
	list := family(t)
	list[0], list[1] = list[1], list[0]
	mustCode(t, list, "main", 0, right, -1)
	mustCode(t, append(family(t), family(t)[3]), "main", 0, right, -1)
	nine := append(family(t), project(namesOf("p", 5)...)...)
	mustCode(t, nine[:8], "main", 0, right, impl.ChOk)
	mustCode(t, nine, "main", 0, right, -1)
}

func placeBy(list []impl.Package, name string) int {
	return slices.IndexFunc(list, func(p impl.Package) bool { return p.Name == name })
}

// codeBy tells CallCode by all that can be called from there.
func codeBy(list []impl.Package, from string, at int64, n impl.Node) int64 {
	i := placeBy(list, from)
	if !projectBy(list) || i == -1 || at < 0 || at >= int64(len(list[i].Funcs)) || n.Kind != 8 || !impl.NodeOk(n) {
		return -1
	}
	near, args := map[string]int{}, map[[2]string]int64{}
	for _, p := range list {
		if p.Name != from && !slices.Contains(list[i].Imports, p.Name) {
			continue
		}
		near[p.Name]++
		for j, f := range p.Funcs {
			if p.Name != from || int64(j) < at {
				args[[2]string{p.Name, f.Name}] = f.Args
			}
		}
	}
	wanted, is := args[[2]string{n.Package, n.Func}]
	switch {
	case near[n.Package] == 0:
		return 1
	case !is:
		return 2
	case wanted != n.A:
		return 3
	}
	return 0
}

// orderBy goes through the names from the first on, as often as one is found
// that could be next.
func orderBy(list []impl.Package) []string {
	order := []string{}
	for {
		next := slices.IndexFunc(list, func(p impl.Package) bool {
			return !slices.Contains(order, p.Name) && couldBeNext(list, p, order)
		})
		if next == -1 {
			return order
		}
		order = append(order, list[next].Name)
	}
}

// faultsIn tells all that is wrong in the Funcs of one Package.
func faultsIn(list []impl.Package, p impl.Package) []impl.Fault {
	faults := []impl.Fault{}
	for at, f := range p.Funcs {
		far := []impl.Fault{}
		for _, n := range f.Tree {
			if n.Kind == 2 && n.A >= f.Args {
				faults = append(faults, impl.Fault{Code: 3, Package: p.Name, Func: f.Name})
			}
			if n.Kind == 8 && codeBy(list, p.Name, int64(at), n) != 0 {
				far = append(far, impl.Fault{Code: 4, Package: p.Name, Func: f.Name})
			}
		}
		faults = append(faults, far...)
	}
	return faults
}

// faultsBy tells all that is wrong, the first one first.
func faultsBy(list []impl.Package) []impl.Fault {
	if !projectBy(list) {
		return []impl.Fault{{Code: 6}}
	}
	faults, turns := []impl.Fault{}, orderBy(list)
	many := len(turns)
	for _, p := range list {
		if !slices.Contains(turns[:many], p.Name) {
			turns = append(turns, p.Name)
		}
	}
	for i, name := range turns {
		p := list[placeBy(list, name)]
		for _, other := range p.Imports {
			if placeBy(list, other) == -1 {
				faults = append(faults, impl.Fault{Code: 1, Package: name})
			}
		}
		if i >= many {
			faults = append(faults, impl.Fault{Code: 2, Package: name})
		}
		faults = append(faults, faultsIn(list, p)...)
	}
	if !hasMain(list) {
		faults = append(faults, impl.Fault{Code: 5, Package: "main", Func: "main"})
	}
	return faults
}

func hasMain(list []impl.Package) bool {
	return slices.ContainsFunc(list, func(p impl.Package) bool {
		return p.Name == "main" && slices.ContainsFunc(p.Funcs, func(f impl.Func) bool { return f.Name == "main" && f.Args == 1 })
	})
}

// mustBeRight holds promise 9's words against a project: each Fault's sentence
// holds of nothing in it.
func mustBeRight(t *testing.T, list []impl.Package) {
	t.Helper()
	if !impl.ProjectOk(list) {
		t.Fatalf("FaBad holds:\n%s", shownProject(list))
	}
	order := impl.Order(list)
	for _, p := range list {
		for _, name := range p.Imports {
			if placeBy(list, name) == -1 {
				t.Errorf("FaImport holds of %q:\n%s", p.Name, shownProject(list))
			}
		}
		if !slices.Contains(order, p.Name) {
			t.Errorf("FaRing holds of %q:\n%s", p.Name, shownProject(list))
		}
		for at, f := range p.Funcs {
			for _, n := range f.Tree {
				if n.Kind == impl.NdArg && n.A >= f.Args {
					t.Errorf("FaArg holds of %q.%q:\n%s", p.Name, f.Name, shownProject(list))
				}
				if n.Kind == impl.NdCall && (impl.CallCode(list, p.Name, int64(at), n) != impl.ChOk || codeBy(list, p.Name, int64(at), n) != 0) {
					t.Errorf("FaCall holds of %q.%q:\n%s", p.Name, f.Name, shownProject(list))
				}
			}
		}
	}
	if !hasMain(list) {
		t.Errorf("FaMain holds:\n%s", shownProject(list))
	}
}

// mustBeLookedOver asks FaultOf and holds it against what is wrong by
// faultsBy; the Code that it is is answered.
func mustBeLookedOver(t *testing.T, list []impl.Package) int64 {
	t.Helper()
	before := projectCopied(list)
	want := append(faultsBy(list), impl.Fault{})[0]
	mustFault(t, list, want.Code, want.Package, want.Func)
	if impl.FaultOf(list) == (impl.Fault{}) {
		mustBeRight(t, list)
	}
	if !slices.EqualFunc(list, before, samePackage) {
		t.Errorf("a project is another one now:\n%s", shownProject(before))
	}
	return want.Code
}

func mustBeFaultless(t *testing.T, texts ...string) {
	t.Helper()
	list := written(t, texts...)
	mustFault(t, list, 0, "", "")
	mustBeRight(t, list)
}

func TestFaultOfProjectsWithoutFault(t *testing.T) {
	mustBeFaultless(t, "main: main 1 1")
	mustBeFaultless(t, "main: main 1 $0")
	mustBeFaultless(t, "main: g 0 1; main 1 @main.g/0")
	mustBeFaultless(t, "main: main 1 1; g 1 @main.main/1 $0")
	mustBeFaultless(t, "main: f 3 + $0 + $1 $2; g 2 @main.f/3 $0 $1 $1; main 1 @main.g/2 $0 7")
	mustBeFaultless(t, "lib: f 2 + $0 $1", "main lib: g 0 1; main 1 @lib.f/2 $0 @main.g/0")
	mustBeFaultless(t, "lib: f 2 1; g 1 @lib.f/2 $0 $0", "main lib: main 1 @lib.g/1 $0; h 0 @lib.f/2 1 2")
	mustBeFaultless(t, "a c: f 0 @c.f/0", "c: f 0 1", "main a c: main 1 + @a.f/0 @c.f/0")
	mustBeFaultless(t, "a main: f 0 @main.main/1 3", "main: main 1 $0")
	mustBeFaultless(t, "a: f 0 1", "main: main 1 $0", "z a: a 3 @a.f/0")
	mustBeFaultless(t, "a: main 0 1", "main a: main 1 @a.main/0")
	names := namesOf("f", 8)
	list := []impl.Package{}
	for i, name := range append(namesOf("a", 7), "main") {
		p := pack(name, namesOf("a", min(i, 6)))
		for j, f := range names {
			tree := []impl.Node{arg(2)}
			if j > 0 {
				tree = append(slices.Repeat([]impl.Node{sign(impl.NdAdd), arg(0)}, 28), call(name, names[j-1], 3), arg(0), arg(1), arg(2))
			}
			p.Funcs = append(p.Funcs, fn(f, 3, tree...))
		}
		list = append(list, p)
	}
	list[7].Funcs[7] = fn("main", 1, call("ab", "fa", 3), arg(0), call("main", "fa", 3), num(1), num(2), num(3), num(4))
	mustFault(t, list, 0, "", "")
	mustBeRight(t, list)
}

func TestFaultOfAnImportThatIsNotThere(t *testing.T) {
	mustFault(t, written(t, "main zz: main 1 1"), impl.FaImport, "main", "")
	mustFault(t, written(t, "main a: main 1 1"), impl.FaImport, "main", "")
	mustFault(t, written(t, "a b: f 0 1", "main a: main 1 1"), impl.FaImport, "a", "")
	mustFault(t, written(t, "a: f 0 1", "main a b: main 1 1"), impl.FaImport, "main", "")
	mustFault(t, written(t, "a: f 0 1", "main a: main 1 1", "z a main zz: f 0 1"), impl.FaImport, "z", "")
	mustFault(t, written(t, "a f: f 0 1", "main: main 1 1"), impl.FaImport, "a", "")
	mustFault(t, written(t, "main b c d e f g: main 1 1"), impl.FaImport, "main", "")
	for at := range 6 {
		names := namesOf("a", 6)
		list := append(project(slices.Delete(slices.Clone(names), at, at+1)...), pack("main", names, fn("main", 1, num(1))))
		mustFault(t, list, impl.FaImport, "main", "")
	}
}

func TestFaultOfARing(t *testing.T) {
	mustFault(t, written(t, "main main: main 1 1"), impl.FaRing, "main", "")
	mustFault(t, written(t, "a a: f 0 1", "main: main 1 1"), impl.FaRing, "a", "")
	mustFault(t, written(t, "a b: f 0 1", "b a: f 0 1", "main: main 1 1"), impl.FaRing, "a", "")
	mustFault(t, written(t, "a: f 0 1", "b main: f 0 1", "main b: main 1 1"), impl.FaRing, "b", "")
	mustFault(t, written(t, "main z: main 1 1", "z main: f 0 1"), impl.FaRing, "main", "")
	mustFault(t, written(t, "b c: f 0 1", "c d: f 0 1", "d b: f 0 1", "main: main 1 1"), impl.FaRing, "b", "")
}

// The first by name is told, whether it is on the ring or behind it.
func TestFaultOfWhatIsBehindARing(t *testing.T) {
	mustFault(t, written(t, "a b: f 0 1", "b b: f 0 1", "main: main 1 1"), impl.FaRing, "a", "")
	mustFault(t, written(t, "a a: f 0 1", "b a: f 0 1", "main: main 1 1"), impl.FaRing, "a", "")
	mustFault(t, written(t, "main z: main 1 1", "y z: f 0 1", "z y: f 0 1"), impl.FaRing, "main", "")
	mustFault(t, written(t, "a: f 0 1", "main y: main 1 1", "x a: f 0 1", "y z: f 0 1", "z y: f 0 1"), impl.FaRing, "main", "")
	mustFault(t, written(t, "a d: f 0 1", "b: f 0 1", "c c: f 0 1", "d c: f 0 1", "main: main 1 1"), impl.FaRing, "a", "")
}

func TestFaultOfAnArgument(t *testing.T) {
	for args := range int64(4) {
		for number := range int64(3) {
			list := []impl.Package{pack("a", nil, fn("g", 3, arg(2)), fn("f", args, sign(impl.NdMul), num(1), arg(number))), pack("main", nil, fn("main", 1, arg(0)))}
			if number < args {
				mustFault(t, list, 0, "", "")
				mustBeRight(t, list)
			} else {
				mustFault(t, list, impl.FaArg, "a", "f")
			}
		}
	}
	mustFault(t, written(t, "main: main 1 $1"), impl.FaArg, "main", "main")
	mustFault(t, written(t, "main: main 1 + $0 $1"), impl.FaArg, "main", "main")
	mustFault(t, written(t, "main: main 1 ? 1 2 ? 0 $0 $2"), impl.FaArg, "main", "main")
	mustFault(t, written(t, "main: g 0 $0; main 1 $0"), impl.FaArg, "main", "g")
	mustFault(t, written(t, "main: g 1 $0; main 1 $0; h 2 $2"), impl.FaArg, "main", "h")
	mustFault(t, written(t, "main: g 2 1; main 1 @main.g/2 $0 $1"), impl.FaArg, "main", "main")
	mustFault(t, written(t, "main: main 1 1", "z: f 0 $0"), impl.FaArg, "z", "f")
}

func TestFaultOfACall(t *testing.T) {
	mustFault(t, written(t, "a: f 0 1", "main: main 1 @a.f/0"), impl.FaCall, "main", "main")
	mustFault(t, written(t, "main: main 1 @zz.f/0"), impl.FaCall, "main", "main")
	mustFault(t, written(t, "a: f 0 1", "main a: main 1 @a.g/0"), impl.FaCall, "main", "main")
	mustFault(t, written(t, "a: f 0 1", "main a: main 1 @a.f/1 2"), impl.FaCall, "main", "main")
	mustFault(t, written(t, "a: f 1 1", "main a: main 1 @a.f/0"), impl.FaCall, "main", "main")
	mustFault(t, written(t, "main: main 1 @main.main/1 $0"), impl.FaCall, "main", "main")
	mustFault(t, written(t, "main: main 1 @main.g/0; g 0 1"), impl.FaCall, "main", "main")
	mustFault(t, written(t, "main: g 0 1; main 1 @main.g/1 1"), impl.FaCall, "main", "main")
	mustFault(t, written(t, "a: f 0 1", "b a: f 0 1", "main b: main 1 @a.f/0"), impl.FaCall, "main", "main")
	mustFault(t, written(t, "a: f 0 @main.main/1 0", "main: main 1 1"), impl.FaCall, "a", "f")
	mustFault(t, written(t, "main: g 0 1; h 0 @main.g/0; main 1 + @main.h/0 ? $0 @main.g/0 @main.g/2 1 2"), impl.FaCall, "main", "main")
	mustFault(t, written(t, "main: main 1 $0; h 0 @main.main/0"), impl.FaCall, "main", "h")
	mustFault(t, written(t, "main: main 1 $0", "z main: f 0 @main.f/0"), impl.FaCall, "z", "f")
}

func TestFaultOfMain(t *testing.T) {
	mustFault(t, written(t, "a: f 0 1"), impl.FaMain, "main", "main")
	mustFault(t, written(t, "a: main 1 1"), impl.FaMain, "main", "main")
	mustFault(t, written(t, "mainx: main 1 1"), impl.FaMain, "main", "main")
	mustFault(t, written(t, "main: f 1 1"), impl.FaMain, "main", "main")
	mustFault(t, written(t, "main: mai 1 1; mainx 1 1"), impl.FaMain, "main", "main")
	mustFault(t, written(t, "a: main 1 1", "main: f 1 1"), impl.FaMain, "main", "main")
	for _, args := range []int64{0, 2, 3} {
		list := []impl.Package{pack("main", nil, fn("g", 1, num(1)), fn("main", args, num(1)))}
		mustFault(t, list, impl.FaMain, "main", "main")
		mustFault(t, append([]impl.Package{pack("a", nil, fn("main", 1, num(1)))}, list...), impl.FaMain, "main", "main")
	}
	for many := 1; many <= 8; many++ {
		mustFault(t, project(namesOf("p", many)...), impl.FaMain, "main", "main")
		for at := range many {
			list := []impl.Package{pack("main", nil, funcsOf(many)...)}
			list[0].Funcs[at] = fn("main", 1, arg(0))
			mustFault(t, list, 0, "", "")
		}
	}
}

func TestFaultOfWhatIsNotProjectOk(t *testing.T) {
	mustFault(t, nil, impl.FaBad, "", "")
	mustFault(t, []impl.Package{}, impl.FaBad, "", "")
	mustFault(t, make([]impl.Package, 1), impl.FaBad, "", "")
	right := func() []impl.Package { return written(t, "a: f 0 1", "b a: f 0 @a.f/0", "main a b: main 1 @b.f/0") }
	mustFault(t, right(), 0, "", "")
	for why, spoil := range spoilers {
		for at := range 3 {
			list := right()
			spoil(&list[at])
			if got := impl.FaultOf(list); got != (impl.Fault{Code: impl.FaBad}) {
				t.Errorf("%s in number %d: FaultOf is %v", why, at, got)
			}
		}
	}
	turned := right()
	slices.Reverse(turned)
	mustFault(t, turned, impl.FaBad, "", "")
	mustFault(t, append(right(), right()[2]), impl.FaBad, "", "")
	mustFault(t, append(right(), project(namesOf("p", 5)...)...), 0, "", "")
	mustFault(t, append(right(), project(namesOf("p", 6)...)...), impl.FaBad, "", "")
	// It comes ahead of all others.
	wrong := written(t, "a a zz: f 0 $0", "b: f 0 @a.f/1 1", "a: f 0 1")
	mustFault(t, wrong, impl.FaBad, "", "")
}

// In one Package: FaImport, FaRing, and then Func by Func, FaArg ahead of
// FaCall wherever in the tree they stand.
func TestFaultOfSeveralInOnePackage(t *testing.T) {
	mustFault(t, written(t, "main main zz: f 0 $0; g 0 @zz.f/0"), impl.FaImport, "main", "")
	mustFault(t, written(t, "main main: f 0 $0; g 0 @zz.f/0"), impl.FaRing, "main", "")
	mustFault(t, written(t, "main zz: f 0 $0; g 0 @zz.f/0"), impl.FaImport, "main", "")
	mustFault(t, written(t, "main: f 0 $0; g 0 @zz.f/0"), impl.FaArg, "main", "f")
	mustFault(t, written(t, "main: f 0 @zz.f/0; g 0 $0"), impl.FaCall, "main", "f")
	mustFault(t, written(t, "main: f 0 + @zz.f/0 $0; main 1 1"), impl.FaArg, "main", "f")
	mustFault(t, written(t, "main: f 0 + $0 @zz.f/0; main 1 1"), impl.FaArg, "main", "f")
	mustFault(t, written(t, "main: f 1 @main.f/1 $1; g 0 1"), impl.FaArg, "main", "f")
	mustFault(t, written(t, "main: f 1 @main.f/1 $0; g 0 $2"), impl.FaCall, "main", "f")
	mustFault(t, written(t, "main: f 1 $0; g 0 $2; h 0 $0; main 2 @main.main/0"), impl.FaArg, "main", "g")
	mustFault(t, written(t, "main: f 1 $0; g 0 @g.g/0; h 0 $0; main 2 @main.main/0"), impl.FaCall, "main", "g")
	mustFault(t, written(t, "main: z 0 $0; a 0 $0"), impl.FaArg, "main", "z")
	mustFault(t, written(t, "main: z 0 @main.a/0; a 0 $0; main 0 1"), impl.FaCall, "main", "z")
}

// Package by Package, by Order: a worse one in a later Package is not told.
func TestFaultOfSeveralPackages(t *testing.T) {
	mustFault(t, written(t, "a: f 0 $0", "b: f 0 @zz.f/0", "main zz: f 0 1"), impl.FaArg, "a", "f")
	mustFault(t, written(t, "a: f 0 @b.f/0", "b zz: f 0 $0", "main: main 0 1"), impl.FaCall, "a", "f")
	mustFault(t, written(t, "a b: f 0 $0", "b: f 0 @zz.f/0", "main zz: f 0 1"), impl.FaCall, "b", "f")
	mustFault(t, written(t, "a b zz: f 0 1", "b c: f 0 @c.f/1 1", "c: f 0 1; g 0 $1"), impl.FaArg, "c", "g")
	mustFault(t, written(t, "a z: f 0 $0", "main: main 1 1", "z main: f 0 $0"), impl.FaArg, "z", "f")
	mustFault(t, written(t, "a c: f 0 $0", "b: f 0 $0", "c: f 0 $0"), impl.FaArg, "b", "f")
	mustFault(t, written(t, "a c: f 0 $0", "b: f 0 1", "c: f 0 $0"), impl.FaArg, "c", "f")
	mustFault(t, written(t, "a c: f 0 $0", "b: f 0 1", "c: f 0 1"), impl.FaArg, "a", "f")
	mustFault(t, written(t, "a z: f 0 1", "main a zz: main 1 1", "z: f 0 @a.f/0"), impl.FaCall, "z", "f")
}

// Who is left out of Order comes behind all that are not, by name.
func TestFaultOfRingsAndOthers(t *testing.T) {
	mustFault(t, written(t, "a a: f 0 1", "main: main 1 $1"), impl.FaArg, "main", "main")
	mustFault(t, written(t, "a a: f 0 1", "b: f 0 1", "main zz: main 1 1"), impl.FaImport, "main", "")
	mustFault(t, written(t, "a a zz: f 0 1", "b: f 0 @b.f/0", "main: main 1 1"), impl.FaCall, "b", "f")
	mustFault(t, written(t, "a a zz: f 0 1", "main: main 1 1"), impl.FaImport, "a", "")
	mustFault(t, written(t, "a a: f 0 1", "b a zz: f 0 1", "main: main 1 1"), impl.FaRing, "a", "")
	mustFault(t, written(t, "a b zz: f 0 1", "b b: f 0 1", "main: main 1 1"), impl.FaImport, "a", "")
	mustFault(t, written(t, "a b: f 0 $0", "b a: f 0 @zz.f/0", "main: main 1 1"), impl.FaRing, "a", "")
	mustFault(t, written(t, "a a: f 0 1", "b: f 0 1"), impl.FaRing, "a", "")
	mustFault(t, written(t, "main main: f 0 1"), impl.FaRing, "main", "")
	mustFault(t, written(t, "b c: f 0 1", "c d: f 0 1", "d b: f 0 1", "x: f 0 $0"), impl.FaArg, "x", "f")
}

// FaMain comes behind all: also behind what is wrong in the last Package.
func TestFaultOfMainAndOthers(t *testing.T) {
	mustFault(t, written(t, "main zz: main 2 1"), impl.FaImport, "main", "")
	mustFault(t, written(t, "main: main 0 $0"), impl.FaArg, "main", "main")
	mustFault(t, written(t, "main: main 0 @main.main/0"), impl.FaCall, "main", "main")
	mustFault(t, written(t, "main: f 0 1", "z: f 0 $0"), impl.FaArg, "z", "f")
	mustFault(t, written(t, "a: f 0 1", "z zz: f 0 1"), impl.FaImport, "z", "")
	mustFault(t, written(t, "a: f 0 1", "z z: f 0 1"), impl.FaRing, "z", "")
	mustFault(t, written(t, "a: f 0 1", "z a: f 0 @a.f/0"), impl.FaMain, "main", "main")
}

// All projects of three by their Imports, of each other and of one that is
// not there.
func TestFaultOfAllImports(t *testing.T) {
	seen := [8]int{}
	for bits := range 1 << 12 {
		list := importing([]string{"a", "b", "main", "zz"}, bits)[:3]
		list[2].Funcs = []impl.Func{fn("main", 1, arg(0))}
		seen[mustBeLookedOver(t, list)]++
		list[1].Name, list[2].Name = "main", "mainx"
		seen[mustBeLookedOver(t, list)]++
	}
	if seen[0] < 25 || seen[1] < 100 || seen[2] < 100 || seen[5] < 5 {
		t.Errorf("of each Code there were %v", seen)
	}
}

// All ways to choose the trees of four Funcs out of these.
func TestFaultOfAllCalls(t *testing.T) {
	trees := [][]impl.Node{}
	for _, s := range []string{"1", "$0", "+ @lib.g/0 $1", "@lib.f/0", "@lib.g/0", "@main.g/0", "@main.main/1 $0", "@lib.f/1 7", "@far.f/0", "@zz.f/0"} {
		tree, _ := readBy(s)
		trees = append(trees, tree)
	}
	seen := [8]int{}
	for chosen := range 10000 {
		for _, args := range [][4]int64{{0, 0, 0, 1}, {1, 0, 1, 1}, {1, 2, 0, 0}} {
			list := written(t, "far: f 0 1", "lib: f 0 1; g 0 1", "main lib: g 0 1; main 1 1")
			for i, f := range []*impl.Func{&list[1].Funcs[0], &list[1].Funcs[1], &list[2].Funcs[0], &list[2].Funcs[1]} {
				f.Args, f.Tree = args[i], trees[chosen/[]int{1, 10, 100, 1000}[i]%10]
			}
			seen[mustBeLookedOver(t, list)]++
		}
	}
	if seen[0] < 25 || seen[3] < 100 || seen[4] < 100 || seen[5] < 5 {
		t.Errorf("of each Code there were %v", seen)
	}
}

// calling grows a tree that asks for arguments below Args, and calls these.
func calling(c *chance, args int64, callable []impl.Node, deep int) []impl.Node {
	n, kids := num(int64(c.below(100))-50), 0
	switch pick := c.below(8); {
	case pick < 2 && args > 0:
		n = arg(int64(c.below(int(args))))
	case pick < 4 && deep > 0:
		n, kids = sign(3+int64(c.below(4))), 2
	case pick < 5 && deep > 0:
		n, kids = sign(7), 3
	case len(callable) > 0:
		called := callable[c.below(len(callable))]
		if called.A == 0 || deep > 0 {
			n, kids = called, int(called.A)
		}
	}
	tree := []impl.Node{n}
	for range kids {
		tree = append(tree, calling(c, args, callable, deep-1)...)
	}
	return tree
}

func callsOf(p impl.Package) []impl.Node {
	calls := []impl.Node{}
	for _, f := range p.Funcs {
		calls = append(calls, call(p.Name, f.Name, f.Args))
	}
	return calls
}

// rightProject imports one way along a line, in which main stands anywhere,
// and calls what it may.
func rightProject(c *chance, many int) []impl.Package {
	along := chosenNames(c, many)
	along[c.below(many)] = "main"
	list := []impl.Package{}
	for i, name := range along {
		p := pack(name, nil)
		callable := []impl.Node{}
		for range c.below(7) {
			if i > 0 {
				other := list[c.below(i)]
				p.Imports, callable = append(p.Imports, other.Name), append(callable, callsOf(other)...)
			}
		}
		p.Imports = slices.Compact(slices.Sorted(slices.Values(p.Imports)))
		names := append([]string{"main"}, chosenNames(c, c.below(5))...)
		for j := range names {
			k := c.below(j + 1)
			names[j], names[k] = names[k], names[j]
		}
		for _, f := range names {
			args := int64(c.below(4))
			if name == "main" && f == "main" {
				args = 1
			}
			p.Funcs = append(p.Funcs, fn(f, args, calling(c, args, append(callsOf(p), callable...), 3)...))
		}
		list = append(list, p)
	}
	slices.SortFunc(list, func(a, b impl.Package) int { return strings.Compare(a.Name, b.Name) })
	return list
}

// mistakes make something wrong of a project, or leave it right.
var mistakes = []func(*chance, []impl.Package, *impl.Package, *impl.Func, *impl.Node){
	func(c *chance, list []impl.Package, p *impl.Package, f *impl.Func, n *impl.Node) {
		p.Imports = append(p.Imports, []string{"zz", "a", "main", list[c.below(len(list))].Name}[c.below(4)])
		slices.Sort(p.Imports)
		p.Imports = slices.Compact(p.Imports)
	},
	func(c *chance, list []impl.Package, p *impl.Package, f *impl.Func, n *impl.Node) {
		if len(p.Imports) > 0 {
			p.Imports = slices.Delete(p.Imports, 0, 1)
		}
	},
	func(c *chance, list []impl.Package, p *impl.Package, f *impl.Func, n *impl.Node) {
		if n.Kind == impl.NdNum || n.Kind == impl.NdArg {
			*n = arg(int64(c.below(3)))
		}
	},
	func(c *chance, list []impl.Package, p *impl.Package, f *impl.Func, n *impl.Node) {
		if n.Kind == impl.NdNum || n.Kind == impl.NdArg {
			*n = call(list[c.below(len(list))].Name, "main", 0)
		}
	},
	func(c *chance, list []impl.Package, p *impl.Package, f *impl.Func, n *impl.Node) {
		if n.Kind == impl.NdCall {
			n.Package = list[c.below(len(list))].Name
		}
	},
	func(c *chance, list []impl.Package, p *impl.Package, f *impl.Func, n *impl.Node) {
		if n.Kind == impl.NdCall {
			n.Func = p.Funcs[c.below(len(p.Funcs))].Name
		}
	},
	func(c *chance, list []impl.Package, p *impl.Package, f *impl.Func, n *impl.Node) {
		f.Args = int64(c.below(4))
	},
	func(c *chance, list []impl.Package, p *impl.Package, f *impl.Func, n *impl.Node) {
		f.Name = "zz"
	},
	func(c *chance, list []impl.Package, p *impl.Package, f *impl.Func, n *impl.Node) {
		slices.Reverse(p.Funcs)
	},
	func(c *chance, list []impl.Package, p *impl.Package, f *impl.Func, n *impl.Node) {
		list[len(list)-1].Name = "zzzzzzzz"
	},
}

func mistaken(c *chance, list []impl.Package) {
	p := &list[c.below(len(list))]
	f := &p.Funcs[c.below(len(p.Funcs))]
	mistakes[c.below(len(mistakes))](c, list, p, f, &f.Tree[c.below(len(f.Tree))])
}

// Promise 9: of projects of each size that are right, and with one mistake or
// several.
func TestFaultOfManyProjects(t *testing.T) {
	c := chance(29)
	seen := [8]int{}
	for i := range 4000 {
		list := rightProject(&c, 1+c.below(8))
		for range i % 6 {
			mistaken(&c, list)
		}
		code := mustBeLookedOver(t, list)
		seen[code]++
		if i%6 == 0 && code != 0 {
			t.Errorf("it has a Fault by itself:\n%s", shownProject(list))
		}
	}
	for _, many := range seen[:7] {
		if many < 20 {
			t.Errorf("of each Code there were %v", seen)
			break
		}
	}
}

// CallCode of every call there could be, of names that are there and others.
func TestCallCodeOfManyProjects(t *testing.T) {
	c := chance(31)
	seen := [4]int{}
	for i := range 60 {
		list := rightProject(&c, 1+c.below(8))
		for range i % 3 {
			mistaken(&c, list)
		}
		packs, funcs := []string{"zz"}, []string{"zz"}
		for _, p := range list {
			packs = append(packs, p.Name)
			for _, f := range p.Funcs {
				funcs = append(funcs, f.Name)
			}
		}
		for _, to := range packs {
			for _, name := range funcs {
				n, from := call(to, name, int64(c.below(4))), packs[c.below(len(packs))]
				for at := int64(-1); at <= 5; at++ {
					want := codeBy(list, from, at, n)
					mustCode(t, list, from, at, n, want)
					seen[max(want, 0)]++
				}
			}
		}
	}
	for _, many := range seen {
		if many < 100 {
			t.Errorf("of each code there were %v", seen)
			break
		}
	}
}

// Every call of a project without Fault is right where it stands.
func TestCallCodeOfRightProjects(t *testing.T) {
	c := chance(37)
	calls := 0
	for range 500 {
		list := rightProject(&c, 1+c.below(8))
		for _, p := range list {
			for at, f := range p.Funcs {
				for _, n := range f.Tree {
					if n.Kind == impl.NdCall {
						mustCode(t, list, p.Name, int64(at), n, impl.ChOk)
						calls++
					}
				}
			}
		}
	}
	if calls < 1000 {
		t.Errorf("there were %d calls", calls)
	}
}

func TestExportsOfPackages(t *testing.T) {
	for args, want := range []string{"f/0", "f/1", "f/2", "f/3"} {
		mustExport(t, pack("lib", nil, fn("f", int64(args), num(1))), want)
	}
	mustExport(t, lib(), "f/2", "g/0", "h/3")
	mustExport(t, pack("main", []string{"lib"}, fn("g", 0, num(1)), fn("main", 1, arg(0))), "g/0", "main/1")
	mustExport(t, pack("z", nil, fn("zz", 3, num(1)), fn("b", 2, num(1)), fn("abcdefgh", 1, num(1)), fn("a", 0, num(1))), "zz/3", "b/2", "abcdefgh/1", "a/0")
	mustExport(t, pack("z", nil, funcsOf(8)...), "fa/0", "fb/1", "fc/2", "fd/3", "fe/0", "ff/1", "fg/2", "fh/3")
	for _, s := range manyShown() {
		want := []string{}
		for _, f := range s.p.Funcs {
			want = append(want, f.Name+"/"+string([]byte{byte('0' + f.Args)}))
		}
		mustExport(t, s.p, want...)
	}
}

// What is wrong inside, but is no matter of one Package, is not asked.
func TestExportsAsksForPackageOkAlone(t *testing.T) {
	mustExport(t, pack("a", []string{"a", "zz"}, fn("f", 0, arg(2)), fn("g", 1, call("far", "f", 0))), "f/0", "g/1")
}

func TestExportsOfWhatIsNotPackageOk(t *testing.T) {
	mustExport(t, impl.Package{})
	for why, spoil := range spoilers {
		p := lib()
		spoil(&p)
		if got := impl.Exports(p); len(got) != 0 {
			t.Errorf("%s: Exports are %q", why, got)
		}
	}
	for _, name := range noNames {
		p := lib()
		p.Name = name
		mustExport(t, p)
		p = lib()
		p.Funcs[2].Name = name
		mustExport(t, p)
	}
	for _, args := range []int64{-1, 4, 1 << 32, math.MinInt64, math.MaxInt64} {
		p := lib()
		p.Funcs[2].Args = args
		mustExport(t, p)
	}
}

// laidChecks are projects with each Fault, whose texts are laid over the room,
// with room behind the lists.
func laidChecks(t *testing.T, room []byte) map[int64][]impl.Package {
	t.Helper()
	checks := map[int64][]impl.Package{}
	for code, texts := range [][]string{
		{"lib: f 2 + $0 $1; spare 0 1", "main lib spare: g 0 1; main 1 @lib.f/2 $0 @main.g/0; spare 0 1"},
		{"lib: f 2 1; spare 0 1", "main lib zz spare: main 1 1; spare 0 1"},
		{"lib main spare: f 2 1; spare 0 1", "main lib spare: main 1 1; spare 0 1"},
		{"lib spare: f 2 + $0 $2; spare 0 1", "main lib spare: main 1 1; spare 0 1"},
		{"lib spare: f 2 $0; spare 0 1", "main lib spare: main 1 @lib.g/0; spare 0 1"},
		{"lib spare: f 2 $0; spare 0 1", "main lib spare: main 2 @lib.f/2 1 1; spare 0 1"},
		{"main spare: f 2 $0; spare 0 1", "lib spare: main 1 1; spare 0 1"},
	} {
		list := written(t, texts...)
		for i := range list {
			p := &list[i]
			for _, text := range append([]*string{&p.Name}, pointers(p)...) {
				*text = laidOver(room, *text)[0]
				room = room[len(*text):]
			}
			p.Funcs = p.Funcs[:len(p.Funcs)-1]
			if len(p.Imports) > 0 {
				p.Imports = p.Imports[:len(p.Imports)-1]
			}
		}
		checks[int64(code)] = list
	}
	return checks
}

// pointers are to all texts in the lists of a Package but the empty ones.
func pointers(p *impl.Package) []*string {
	texts := []*string{}
	for i := range p.Imports {
		texts = append(texts, &p.Imports[i])
	}
	for i := range p.Funcs {
		texts = append(texts, &p.Funcs[i].Name)
		for j := range p.Funcs[i].Tree {
			if n := &p.Funcs[i].Tree[j]; n.Kind == impl.NdCall {
				texts = append(texts, &n.Package, &n.Func)
			}
		}
	}
	return texts
}

// Promise 21.
func TestCheckLeavesItsArguments(t *testing.T) {
	room := make([]byte, 1000)
	for code, list := range laidChecks(t, room) {
		held, before := string(room), projectCopied(list)
		imports, funcs, nodes := behind(list)
		for range 2 {
			if got := impl.FaultOf(list); got.Code != code {
				t.Errorf("the Code is %d, not %d", got.Code, code)
			}
			for _, p := range list {
				impl.Exports(p)
				for at, f := range p.Funcs {
					for _, n := range append(slices.Clone(f.Tree), call("lib", "spare", 0), call("spare", "f", 0), call("main", "spare", 0)) {
						mustCode(t, list, p.Name, int64(at), n, codeBy(list, p.Name, int64(at), n))
					}
				}
			}
		}
		importsNow, funcsNow, nodesNow := behind(list)
		if string(room) != held || !slices.EqualFunc(list, before, samePackage) ||
			!slices.Equal(imports, importsNow) || !slices.EqualFunc(funcs, funcsNow, sameFunc) || !slices.Equal(nodes, nodesNow) {
			t.Errorf("of Code %d an argument, or the room behind it, was written into", code)
		}
	}
}

// Promise 21.
func TestCheckAnswersAreNewMemory(t *testing.T) {
	room := make([]byte, 1000)
	for code, list := range laidChecks(t, room) {
		texts := []string{}
		for _, p := range list {
			texts = append(texts, textsOfPackage(p)...)
		}
		first, again := impl.FaultOf(list), impl.FaultOf(list)
		if first != again || first.Code != code {
			t.Errorf("the Faults are %v and %v, not of Code %d", first, again, code)
		}
		one, other := []string{first.Package, first.Func}, []string{again.Package, again.Func}
		mustShareNoText(t, "a Fault, with the project", one, texts)
		mustShareNoText(t, "a Fault, with another answer", one, other)
		mustShareNoText(t, "a Fault, within itself", one[:1], one[1:])
		for _, p := range list {
			mustExportAnew(t, p)
		}
	}
	mustExportAnew(t, pack("a", nil, funcsOf(8)...))
	mustExportAnew(t, impl.Package{})
}

func mustExportAnew(t *testing.T, p impl.Package) {
	t.Helper()
	first, again := impl.Exports(p), impl.Exports(p)
	want := slices.Clone(again)
	mustShareNoText(t, "Exports, with the Package", first, textsOfPackage(p))
	mustShareNoText(t, "Exports, with another answer", first, again)
	for i, text := range first {
		mustShareNoText(t, "Exports, within one answer", []string{text}, first[:i])
	}
	for i := range first[:cap(first)] {
		first[:cap(first)][i] = "spoilt"
	}
	if !slices.Equal(again, want) || !slices.Equal(impl.Exports(p), want) {
		t.Error("Exports: the list is handed out twice")
	}
}

// Promise 21: whatever they are given, they answer.
func TestCheckAnswersAtEveryArgument(t *testing.T) {
	c := chance(43)
	nodes, right := wrongNodes(), 0
	for range 3000 {
		list := rightProject(&c, 1+c.below(8))
		for range c.below(3) {
			mistaken(&c, list)
		}
		switch p := &list[c.below(len(list))]; c.below(8) {
		case 0:
			p.Name = noNames[c.below(len(noNames))]
		case 1:
			f := &p.Funcs[c.below(len(p.Funcs))]
			f.Tree[c.below(len(f.Tree))] = nodes[c.below(len(nodes))]
		case 2:
			list = append(list, list...)
		case 3:
			p.Funcs = nil
		}
		if mustBeLookedOver(t, list) != impl.FaBad {
			right++
		}
		n, from := nodes[c.below(len(nodes))], list[c.below(len(list))].Name
		if c.below(2) == 0 {
			n = call(list[c.below(len(list))].Name, "main", int64(c.below(5)))
		}
		for _, at := range append(outside(4), 0, 1, 2, 3) {
			mustCode(t, list, from, at, n, codeBy(list, from, at, n))
		}
		for _, p := range list {
			if got := impl.Exports(p); impl.PackageOk(p) != (len(got) > 0) || len(got) > 0 && len(got) != len(p.Funcs) {
				t.Errorf("Exports are %q:\n%s", got, impl.ShowPackage(p))
			}
		}
	}
	if right < 500 || right > 2500 {
		t.Errorf("%d of 3000 were right", right)
	}
}

func TestCheckAnswersAtGreatArguments(t *testing.T) {
	long := strings.Repeat("a", 1000000)
	list := family(t)
	mustCode(t, list, long, 0, call("a", "f", 0), -1)
	mustCode(t, list, "a", 0, call(long, "f", 0), -1)
	mustCode(t, list, "a", 0, call("a", long, 0), -1)
	great := slices.Repeat(list, 100000)
	mustCode(t, great, "a", 0, call("a", "f", 0), -1)
	if got := impl.FaultOf(great); got != (impl.Fault{Code: impl.FaBad}) {
		t.Errorf("FaultOf of 400000 Packages is %v", got)
	}
	list[0].Funcs = slices.Repeat(list[0].Funcs, 100000)
	if got := impl.FaultOf(list); got != (impl.Fault{Code: impl.FaBad}) || len(impl.Exports(list[0])) != 0 {
		t.Errorf("FaultOf of 400000 Funcs is %v, or there are Exports", got)
	}
}
