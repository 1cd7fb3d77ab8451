package tests

import (
	"fmt"
	"math"
	"regexp"
	"slices"
	"strconv"
	"strings"
	"testing"
	"unsafe"

	"loop.example/g00346/impl"
)

// taskIn is told by its Name and its Needs, a :, and its State with what that
// tells.
func taskIn(t *testing.T, text string) impl.Task {
	t.Helper()
	head, state, _ := strings.Cut(text, ":")
	names, said := strings.Fields(head), strings.Fields(state)
	task := impl.Task{Name: names[0]}
	for _, number := range names[1:] {
		task.Needs = append(task.Needs, parsed(number))
	}
	switch strings.Join(said[:1], "") + fmt.Sprint(len(said)) {
	case "open1":
	case "leased3":
		task.State, task.Worker, task.Until = 1, parsed(said[1]), parsed(said[2])
	case "done2":
		task.State, task.Key = 2, parsed(said[1])
	default:
		t.Fatalf("%q is no Task", text)
	}
	return task
}

// deskIn is in its first Epoch, at the time 0.
func deskIn(t *testing.T, texts ...string) impl.Desk {
	t.Helper()
	d := impl.Desk{Epoch: 1, Journal: journalOf(started(1))}
	for _, text := range texts {
		d.Tasks = append(d.Tasks, taskIn(t, text))
	}
	return d
}

func deskAt(t *testing.T, now int64, texts ...string) impl.Desk {
	t.Helper()
	d := deskIn(t, texts...)
	d.Now = now
	return d
}

// manyTasks are open and need each one ahead of them.
func manyTasks(many int) impl.Desk {
	d, needs := impl.Desk{Epoch: 1}, []int64{}
	for at, name := range namesOf("t", many) {
		d.Tasks = append(d.Tasks, impl.Task{Name: name, Needs: slices.Clone(needs)})
		needs = append(needs, int64(at))
	}
	return d
}

func tasksCopied(tasks []impl.Task) []impl.Task {
	copied := slices.Clone(tasks)
	for at := range copied {
		copied[at].Needs = slices.Clone(copied[at].Needs)
	}
	return copied
}

func deskCopied(d impl.Desk) impl.Desk {
	d.Tasks = tasksCopied(d.Tasks)
	return d
}

func sameTask(a, b impl.Task) bool {
	return a.Name == b.Name && slices.Equal(a.Needs, b.Needs) && stateOf(a) == stateOf(b)
}

func stateOf(task impl.Task) [4]int64 {
	return [4]int64{task.State, task.Worker, task.Until, task.Key}
}

func sameDesk(a, b impl.Desk) bool {
	return slices.EqualFunc(a.Tasks, b.Tasks, sameTask) && a.Epoch == b.Epoch && a.Now == b.Now && a.Journal == b.Journal
}

func toldDesk(d impl.Desk) string {
	return fmt.Sprintf("%.600s, Epoch %d, Now %d, %d bytes %.300q", fmt.Sprintf("%+v", d.Tasks[:min(len(d.Tasks), 10)]), d.Epoch, d.Now, len(d.Journal), d.Journal)
}

func isBetween(n, least, most int64) bool { return n >= least && n <= most }

func taskRight(task impl.Task, own int64) bool {
	for _, need := range task.Needs {
		if !isBetween(need, 0, own-1) {
			return false
		}
	}
	if !nameForm.MatchString(task.Name) || !slices.Equal(slices.Compact(slices.Sorted(slices.Values(task.Needs))), task.Needs) {
		return false
	}
	s := stateOf(task)
	return s == [4]int64{} || s == [4]int64{1, s[1], s[2], 0} && isBetween(s[1], 0, 3) && isBetween(s[2], 0, 1000000) || s == [4]int64{2, 0, 0, s[3]} && isBetween(s[3], 0, 2147483646)
}

// deskRight goes by the document's sentences.
func deskRight(d impl.Desk) bool {
	if len(d.Tasks) < 1 || len(d.Tasks) > 8 {
		return false
	}
	names := map[string]int{}
	for at, task := range d.Tasks {
		names[task.Name]++
		if !taskRight(task, int64(at)) {
			return false
		}
	}
	return len(names) == len(d.Tasks) && isBetween(d.Epoch, 1, 1000) && isBetween(d.Now, 0, 1000000) && len(d.Journal) <= 60000
}

// openNeeds counts the Needs that are not done.
func openNeeds(d impl.Desk, task impl.Task) int {
	many := 0
	for _, need := range task.Needs {
		if d.Tasks[need].State != 2 {
			many++
		}
	}
	return many
}

func lentBy(d impl.Desk, worker int64) (impl.Desk, int64) {
	if !deskRight(d) {
		return impl.Desk{}, -1
	}
	after, free := deskCopied(d), []int64{}
	for at, task := range d.Tasks {
		if openNeeds(d, task) == 0 && (task.State == 0 || task.State == 1 && d.Now >= task.Until) {
			free = append(free, int64(at))
		}
	}
	if len(free) == 0 || !isBetween(worker, 0, 3) {
		return after, -1
	}
	first := slices.Min(free)
	task := &after.Tasks[first]
	task.State, task.Worker, task.Until = 1, worker, d.Now+10
	if task.Until > 1000000 {
		task.Until = 1000000
	}
	return after, first
}

// returnsBy tells all codes that apply, without an order.
func returnsBy(d impl.Desk, task, epoch, key int64) map[int64]int {
	codes := map[int64]int{}
	entry := entry{task, key}
	if !isBetween(task, 0, int64(len(d.Tasks))-1) || !isBetween(key, 0, 2147483646) || len(d.Journal)+16+len(entry.text()) > 60000 {
		codes[impl.DkBad]++
	}
	if epoch != d.Epoch {
		codes[impl.DkOld]++
	}
	if isBetween(task, 0, int64(len(d.Tasks))-1) {
		if d.Tasks[task].State == 2 {
			codes[impl.DkAgain]++
		}
		if openNeeds(d, d.Tasks[task]) > 0 {
			codes[impl.DkOpen]++
		}
	}
	return codes
}

func returnedBy(d impl.Desk, task, epoch, key int64) (impl.Desk, int64) {
	if !deskRight(d) {
		return impl.Desk{}, impl.DkBad
	}
	after, codes := deskCopied(d), returnsBy(d, task, epoch, key)
	for _, code := range []int64{3, 1, 2, 4} {
		if codes[code] > 0 {
			return after, code
		}
	}
	after.Tasks[task] = impl.Task{Name: d.Tasks[task].Name, Needs: after.Tasks[task].Needs, State: 2, Key: key}
	after.Journal += journalOf(entry{task, key})
	return after, 0
}

func tickedBy(d impl.Desk, n int64) (impl.Desk, bool) {
	if !deskRight(d) {
		return impl.Desk{}, false
	}
	after := deskCopied(d)
	for now := d.Now; now <= 1000000; now++ {
		if now-d.Now == n {
			after.Now = now
			return after, true
		}
	}
	return after, false
}

func allDoneBy(d impl.Desk) bool {
	return deskRight(d) && alwaysOf(d.Tasks, func(task impl.Task) bool { return task.State == 2 })
}

// An entry is what is written down at once: a start, whose task is -1, or that
// a Task is done.
type entry struct{ task, n int64 }

func started(epoch int64) entry { return entry{-1, epoch} }

func (e entry) text() string {
	if e.task == -1 {
		return fmt.Sprintf("start %d", e.n)
	}
	return fmt.Sprintf("done %d %d", e.task, e.n)
}

// frameBy tells the form by itself.
func frameBy(text string) string {
	return fmt.Sprintf("%08x%08x%s", len(text), impl.Hash(text), text)
}

func journalOf(entries ...entry) string {
	journal := ""
	for _, e := range entries {
		journal += frameBy(e.text())
	}
	return journal
}

// startsTo are one each, from 1 on.
func startsTo(last int64) []entry {
	entries := []entry{}
	for epoch := int64(1); epoch <= last; epoch++ {
		entries = append(entries, started(epoch))
	}
	return entries
}

// wholeIn tells which entries stand whole in so many bytes of them.
func wholeIn(entries []entry, bytes int) []entry {
	for many, e := range entries {
		if bytes -= 16 + len(e.text()); bytes < 0 {
			return entries[:many]
		}
	}
	return entries
}

func tasksBy(list []impl.Package) []impl.Task {
	tasks, parts := []impl.Task{}, partsBy(list)
	for _, name := range parts {
		task := impl.Task{Name: name}
		for _, other := range list[placeBy(list, name)].Imports {
			task.Needs = append(task.Needs, int64(slices.Index(parts, other)))
		}
		slices.Sort(task.Needs)
		tasks = append(tasks, task)
	}
	return tasks
}

// deskAfter wants entries that are right.
func deskAfter(tasks []impl.Task, entries []entry) impl.Desk {
	d := impl.Desk{Tasks: tasksCopied(tasks), Epoch: 1}
	for _, e := range entries {
		if e.task == -1 {
			d.Epoch = e.n + 1
		} else {
			d.Tasks[e.task].State, d.Tasks[e.task].Key = 2, e.n
		}
	}
	d.Journal = journalOf(append(slices.Clone(entries), started(d.Epoch))...)
	return d
}

// textsBy are those of the whole frames at the beginning, 400 at most.
func textsBy(s string) []string {
	texts := []string{}
	for len(texts) < 400 && len(s) >= 16 {
		length, err := strconv.ParseUint(s[:8], 16, 32)
		if err != nil || length > 20000 || 16+length > uint64(len(s)) || frameBy(s[16:16+length]) != s[:16+length] {
			return texts
		}
		texts, s = append(texts, s[16:16+length]), s[16+length:]
	}
	return texts
}

var startForm = regexp.MustCompile(`^start (0|-?[1-9][0-9]{0,9})\z`)
var doneForm = regexp.MustCompile(`^done (0|-?[1-9][0-9]{0,9}) (0|-?[1-9][0-9]{0,9})\z`)

// entriesBy are those at the beginning of the journal that are right.
func entriesBy(tasks []impl.Task, journal string) []entry {
	entries, epoch, done := []entry{}, int64(0), map[int64]int{}
	for _, text := range textsBy(journal) {
		if m := startForm.FindStringSubmatch(text); m != nil && parsed(m[1]) == epoch+1 {
			epoch++
			entries = append(entries, started(epoch))
			continue
		}
		m := doneForm.FindStringSubmatch(text)
		if m == nil {
			return entries
		}
		e := entry{parsed(m[1]), parsed(m[2])}
		if !isBetween(e.task, 0, int64(len(tasks))-1) || !isBetween(e.n, 0, 2147483646) || done[e.task] > 0 {
			return entries
		}
		if slices.ContainsFunc(tasks[e.task].Needs, func(need int64) bool { return done[need] == 0 }) {
			return entries
		}
		done[e.task]++
		entries = append(entries, e)
	}
	return entries
}

func rebornBy(list []impl.Package, journal string) (impl.Desk, bool) {
	tasks := tasksBy(list)
	if len(tasks) == 0 {
		return impl.Desk{}, false
	}
	return deskAfter(tasks, entriesBy(tasks, journal)), true
}

func mustBeDesk(t *testing.T, d impl.Desk, want bool) {
	t.Helper()
	for range 2 {
		if got := impl.DeskOk(d); got != want {
			t.Errorf("DeskOk is %v of %s", got, toldDesk(d))
		}
	}
}

// mustLend asks twice, as do all that follow, and answers the Desk.
func mustLend(t *testing.T, d impl.Desk, worker int64, want impl.Desk, number int64) impl.Desk {
	t.Helper()
	for range 2 {
		if got, lent := impl.Lent(d, worker); lent != number || !sameDesk(got, want) {
			t.Errorf("%d is Lent to %d, not %d, and it is %s, not %s, of %s", lent, worker, number, toldDesk(got), toldDesk(want), toldDesk(d))
		}
	}
	got, _ := impl.Lent(d, worker)
	return got
}

func mustLendAsTold(t *testing.T, d impl.Desk, worker int64) (impl.Desk, int64) {
	t.Helper()
	want, number := lentBy(d, worker)
	return mustLend(t, d, worker, want, number), number
}

func mustLendNothing(t *testing.T, d impl.Desk, worker int64) {
	t.Helper()
	mustLend(t, d, worker, d, -1)
}

func mustReturn(t *testing.T, d impl.Desk, task, epoch, key int64, want impl.Desk, code int64) impl.Desk {
	t.Helper()
	for range 2 {
		if got, told := impl.Returned(d, task, epoch, key); told != code || !sameDesk(got, want) {
			t.Errorf("Returned of %d, %d, %d is %d, not %d, and it is %s, not %s, of %s", task, epoch, key, told, code, toldDesk(got), toldDesk(want), toldDesk(d))
		}
	}
	got, _ := impl.Returned(d, task, epoch, key)
	return got
}

func mustReturnAsTold(t *testing.T, d impl.Desk, task, epoch, key int64) (impl.Desk, int64) {
	t.Helper()
	want, code := returnedBy(d, task, epoch, key)
	return mustReturn(t, d, task, epoch, key, want, code), code
}

// mustRefuse leaves it as it is.
func mustRefuse(t *testing.T, d impl.Desk, task, epoch, key, code int64) {
	t.Helper()
	mustReturn(t, d, task, epoch, key, d, code)
	if _, told := returnedBy(d, task, epoch, key); told != code {
		t.Errorf("%d is told, not %d", told, code)
	}
}

func mustTick(t *testing.T, d impl.Desk, n int64, want impl.Desk, is bool) impl.Desk {
	t.Helper()
	for range 2 {
		if got, ticked := impl.Ticked(d, n); ticked != is || !sameDesk(got, want) {
			t.Errorf("Ticked by %d is %v, not %v, and it is %s, not %s, of %s", n, ticked, is, toldDesk(got), toldDesk(want), toldDesk(d))
		}
	}
	got, _ := impl.Ticked(d, n)
	return got
}

func mustBeAllDone(t *testing.T, d impl.Desk, want bool) {
	t.Helper()
	for range 2 {
		if got := impl.AllDone(d); got != want {
			t.Errorf("AllDone is %v of %s", got, toldDesk(d))
		}
	}
}

func mustBeReborn(t *testing.T, list []impl.Package, journal string, want impl.Desk, is bool) {
	t.Helper()
	for range 2 {
		if got, born := impl.Reborn(list, journal); born != is || !sameDesk(got, want) {
			t.Errorf("Reborn of %.600q (%d bytes) is %v, not %v, and it is %s, not %s", journal, len(journal), born, is, toldDesk(got), toldDesk(want))
		}
	}
}

func mustBeRebornAsTold(t *testing.T, list []impl.Package, journal string) impl.Desk {
	t.Helper()
	want, is := rebornBy(list, journal)
	mustBeReborn(t, list, journal, want, is)
	return want
}

func mustBeNew(t *testing.T, list []impl.Package, want impl.Desk, is bool) {
	t.Helper()
	for range 2 {
		if got, made := impl.NewDesk(list); made != is || !sameDesk(got, want) {
			t.Errorf("NewDesk is %v, not %v, and it is %s, not %s, of %q", made, is, toldDesk(got), toldDesk(want), linesOf(list))
		}
	}
}

// mustBeNoDesk asks all that hangs on DeskOk.
func mustBeNoDesk(t *testing.T, why string, d impl.Desk) {
	t.Helper()
	none := impl.Desk{}
	if impl.DeskOk(d) || deskRight(d) {
		t.Errorf("%s: it is DeskOk: %s", why, toldDesk(d))
	}
	for _, n := range []int64{-1, 0, 1, 3, 4} {
		if got, lent := impl.Lent(d, n); lent != -1 || !sameDesk(got, none) {
			t.Errorf("%s: %d is Lent to %d, and it is %s", why, lent, n, toldDesk(got))
		}
		for _, epoch := range []int64{d.Epoch, d.Epoch + 1} {
			if got, code := impl.Returned(d, n, epoch, 5); code != impl.DkBad || !sameDesk(got, none) {
				t.Errorf("%s: %d is %d Returned, and it is %s", why, n, code, toldDesk(got))
			}
		}
		if got, is := impl.Ticked(d, n); is || !sameDesk(got, none) {
			t.Errorf("%s: Ticked by %d is %v, and it is %s", why, n, is, toldDesk(got))
		}
	}
	if impl.AllDone(d) {
		t.Errorf("%s: AllDone of %s", why, toldDesk(d))
	}
}

func TestDeskConstants(t *testing.T) {
	for at, n := range []int64{impl.TaOpen, impl.TaLeased, impl.TaDone} {
		if int64(at) != n {
			t.Errorf("State number %d is %d", at, n)
		}
	}
	for at, n := range []int64{impl.DkOk, impl.DkOld, impl.DkAgain, impl.DkBad, impl.DkOpen} {
		if int64(at) != n {
			t.Errorf("code number %d is %d", at, n)
		}
	}
	if impl.MaxTime != 1000000 || impl.MaxJournal != 60000 || impl.MaxLease != 10 {
		t.Error("the limits are not the document's")
	}
}

// threeTasks is right, with each State in it, and has room for one thing
// wrong in each.
func threeTasks(t *testing.T) impl.Desk {
	t.Helper()
	d := deskAt(t, 20, "lib: done 77", "mid 0: leased 2 25", "main 0 1: open")
	d.Epoch, d.Journal = 2, journalOf(started(1), entry{0, 77}, started(2))
	return d
}

func TestDeskOkOfRightOnes(t *testing.T) {
	mustBeDesk(t, threeTasks(t), true)
	for many := 1; many <= 8; many++ {
		mustBeDesk(t, manyTasks(many), true)
	}
	for _, text := range []string{
		"a: open", "z: open", "abcdefgh: open", "main: open", "a: leased 0 0", "a: leased 3 0", "a: leased 0 1000000", "a: leased 3 1000000", "a: leased 1 999999", "a: leased 2 1",
		"a: done 0", "a: done 1", "a: done 2147483645", "a: done 2147483646",
	} {
		mustBeDesk(t, deskIn(t, text), true)
		mustBeDesk(t, deskAt(t, 1000000, text), true)
		mustBeDesk(t, deskIn(t, "first: open", text, "last 0 1: done 5"), true)
	}
	// Any of those ahead may be needed, and none; names needn't rise.
	for bits := range 1 << 7 {
		d := manyTasks(8)
		slices.Reverse(d.Tasks[:3])
		for at := range d.Tasks {
			d.Tasks[at].Needs = nil
		}
		for need := range int64(7) {
			if bits>>need&1 == 1 {
				d.Tasks[7].Needs = append(d.Tasks[7].Needs, need)
			}
		}
		mustBeDesk(t, d, true)
	}
	// What is done or leased may need what is not done, and a lease may be
	// longer than those that are Lent.
	mustBeDesk(t, deskIn(t, "a: open", "b 0: done 5", "c 1: leased 1 999", "d 0 1 2: done 5"), true)
	for _, epoch := range []int64{1, 2, 999, 1000} {
		for _, now := range []int64{0, 1, 999999, 1000000} {
			for _, length := range []int{0, 1, 59999, 60000} {
				d := threeTasks(t)
				d.Epoch, d.Now, d.Journal = epoch, now, strings.Repeat("\x00", length)
				mustBeDesk(t, d, true)
			}
		}
	}
	// What stands in the Journal is not asked.
	for _, journal := range []string{"", "x", "start 1", allBytes(), journalOf(started(7)), journalOf(entry{9, 9})} {
		d := threeTasks(t)
		d.Journal = journal
		mustBeDesk(t, d, true)
	}
}

// deskSpoilers make what is not DeskOk of threeTasks, each by one thing alone.
var deskSpoilers = map[string]func(*impl.Desk){
	"no Task":                   func(d *impl.Desk) { d.Tasks = nil },
	"no Task, a list":           func(d *impl.Desk) { d.Tasks = d.Tasks[:0] },
	"one Task too many":         func(d *impl.Desk) { d.Tasks = manyTasks(9).Tasks },
	"two Tasks too many":        func(d *impl.Desk) { d.Tasks = manyTasks(10).Tasks },
	"a Name twice, 0 and 1":     func(d *impl.Desk) { d.Tasks[0].Name = "mid" },
	"a Name twice, 0 and 2":     func(d *impl.Desk) { d.Tasks[2].Name = "lib" },
	"a Name twice, 1 and 2":     func(d *impl.Desk) { d.Tasks[1].Name = "main" },
	"all Names alike":           func(d *impl.Desk) { d.Tasks[0].Name, d.Tasks[1].Name = "main", "main" },
	"Needs twice":               func(d *impl.Desk) { d.Tasks[2].Needs = []int64{0, 0} },
	"Needs twice, behind one":   func(d *impl.Desk) { d.Tasks[2].Needs = []int64{0, 1, 1} },
	"Needs that fall":           func(d *impl.Desk) { d.Tasks[2].Needs = []int64{1, 0} },
	"Needs of the first":        func(d *impl.Desk) { d.Tasks[0].Needs = []int64{0} },
	"Needs the next":            func(d *impl.Desk) { d.Tasks[0].Needs = []int64{1} },
	"Needs its own number":      func(d *impl.Desk) { d.Tasks[1].Needs = []int64{1} },
	"Needs one and its own":     func(d *impl.Desk) { d.Tasks[1].Needs = []int64{0, 1} },
	"Needs one past its own":    func(d *impl.Desk) { d.Tasks[1].Needs = []int64{2} },
	"Needs its own, the last":   func(d *impl.Desk) { d.Tasks[2].Needs = []int64{0, 1, 2} },
	"Needs what is not there":   func(d *impl.Desk) { d.Tasks[2].Needs = []int64{3} },
	"Needs the greatest":        func(d *impl.Desk) { d.Tasks[2].Needs = []int64{math.MaxInt64} },
	"Needs below 0":             func(d *impl.Desk) { d.Tasks[2].Needs = []int64{-1} },
	"Needs below 0, and one":    func(d *impl.Desk) { d.Tasks[2].Needs = []int64{-1, 0} },
	"Needs the least":           func(d *impl.Desk) { d.Tasks[2].Needs = []int64{math.MinInt64} },
	"Needs 2^32":                func(d *impl.Desk) { d.Tasks[2].Needs = []int64{1 << 32} },
	"a State below 0":           func(d *impl.Desk) { d.Tasks[2].State = -1 },
	"a State past the last":     func(d *impl.Desk) { d.Tasks[2].State = 3 },
	"a State of 2^32":           func(d *impl.Desk) { d.Tasks[2].State = 1 << 32 },
	"open, a Worker":            func(d *impl.Desk) { d.Tasks[2].Worker = 1 },
	"open, a Worker below 0":    func(d *impl.Desk) { d.Tasks[2].Worker = -1 },
	"open, Until":               func(d *impl.Desk) { d.Tasks[2].Until = 1 },
	"open, a Key":               func(d *impl.Desk) { d.Tasks[2].Key = 1 },
	"leased, a Key":             func(d *impl.Desk) { d.Tasks[1].Key = 1 },
	"leased, a Key below 0":     func(d *impl.Desk) { d.Tasks[1].Key = -1 },
	"leased, a Worker below 0":  func(d *impl.Desk) { d.Tasks[1].Worker = -1 },
	"leased, a Worker past 3":   func(d *impl.Desk) { d.Tasks[1].Worker = 4 },
	"leased, Until below 0":     func(d *impl.Desk) { d.Tasks[1].Until = -1 },
	"leased, Until past all":    func(d *impl.Desk) { d.Tasks[1].Until = 1000001 },
	"leased, Until of 2^32":     func(d *impl.Desk) { d.Tasks[1].Until = 1 << 32 },
	"done, a Worker":            func(d *impl.Desk) { d.Tasks[0].Worker = 1 },
	"done, Until":               func(d *impl.Desk) { d.Tasks[0].Until = 1 },
	"done, a Key below 0":       func(d *impl.Desk) { d.Tasks[0].Key = -1 },
	"done, a Key past the last": func(d *impl.Desk) { d.Tasks[0].Key = 2147483647 },
	"done, a Key of 2^32":       func(d *impl.Desk) { d.Tasks[0].Key = 1 << 32 },
	"an Epoch of 0":             func(d *impl.Desk) { d.Epoch = 0 },
	"an Epoch below 0":          func(d *impl.Desk) { d.Epoch = -1 },
	"an Epoch past the last":    func(d *impl.Desk) { d.Epoch = 1001 },
	"the greatest Epoch":        func(d *impl.Desk) { d.Epoch = math.MaxInt64 },
	"Now below 0":               func(d *impl.Desk) { d.Now = -1 },
	"Now past all":              func(d *impl.Desk) { d.Now = 1000001 },
	"the least Now":             func(d *impl.Desk) { d.Now = math.MinInt64 },
	"the greatest Now":          func(d *impl.Desk) { d.Now = math.MaxInt64 },
	"a Journal past its length": func(d *impl.Desk) { d.Journal = strings.Repeat("a", 60001) },
	"a Journal of 2^20 bytes":   func(d *impl.Desk) { d.Journal = strings.Repeat("a", 1<<20) },
	"a million Tasks":           func(d *impl.Desk) { d.Tasks = make([]impl.Task, 1000000) },
	"a million Needs":           func(d *impl.Desk) { d.Tasks[2].Needs = make([]int64, 1000000) },
}

func TestDeskOkOfWrongOnes(t *testing.T) {
	mustBeNoDesk(t, "the zero Desk", impl.Desk{})
	for why, spoil := range deskSpoilers {
		d := threeTasks(t)
		spoil(&d)
		mustBeNoDesk(t, why, d)
		// All of it done changes nothing in that.
		for at := range d.Tasks[:min(len(d.Tasks), 10)] {
			if task := &d.Tasks[at]; taskRight(*task, int64(at)) {
				*task = impl.Task{Name: task.Name, Needs: task.Needs, State: 2}
			}
		}
		mustBeNoDesk(t, why+", the others done", d)
	}
	for _, name := range noNames {
		for at := range 3 {
			d := threeTasks(t)
			d.Tasks[at].Name = name
			mustBeNoDesk(t, fmt.Sprintf("the Name %.20q", name), d)
		}
	}
	for many := 2; many <= 8; many++ {
		for at := range many {
			for to := range at {
				d := manyTasks(many)
				d.Tasks[at].Name = d.Tasks[to].Name
				mustBeNoDesk(t, "a Name twice", d)
			}
		}
	}
}

// Each number of a Task at each bound, in each State.
func TestDeskOkOfAllStates(t *testing.T) {
	right := 0
	for state := int64(-1); state <= 3; state++ {
		for _, worker := range []int64{-1, 0, 1, 2, 3, 4} {
			for _, until := range []int64{-1, 0, 1, 999999, 1000000, 1000001} {
				for _, key := range []int64{-1, 0, 1, 2147483645, 2147483646, 2147483647, 4294967296} {
					for at := range 3 {
						d := deskIn(t, "a: open", "b 0: done 5", "c: leased 1 5")
						task := &d.Tasks[at]
						task.State, task.Worker, task.Until, task.Key = state, worker, until, key
						mustBeDesk(t, d, deskRight(d))
						if deskRight(d) {
							right++
						} else {
							mustBeNoDesk(t, "a Task", d)
						}
					}
				}
			}
		}
	}
	// 1 open, 4 by 4 leased, 4 done.
	if right != 3*(1+16+4) {
		t.Errorf("%d were right", right)
	}
}

func TestNewDeskByHand(t *testing.T) {
	newDesk := func(texts ...string) impl.Desk {
		d := deskIn(t, texts...)
		d.Journal = "00000007317a329dstart 1"
		return d
	}
	for _, one := range []struct {
		want  impl.Desk
		texts []string
	}{
		{newDesk("main: open"), []string{"main: main 1 1"}},
		{newDesk("lib: open", "main 0: open"), []string{"lib: f 1 + $0 2", "main lib: main 1 @lib.f/1 $0"}},
		// Whom main does not reach has no Task.
		{newDesk("main: open"), []string{"a main: f 0 1", "main: main 1 1", "z: f 0 1"}},
		{newDesk("lib: open", "main 0: open"), []string{"a lib main: f 0 1", "lib: f 1 1", "main lib: main 1 1", "zed lib: f 0 1"}},
		// Each behind what it needs, so that numbers fall where the names rise.
		{newDesk("b: open", "a 0: open", "main 0 1: open"), []string{"a b: f 0 1", "b: f 0 1", "main a b: main 1 1"}},
		{newDesk("c: open", "b 0: open", "a 0 1: open", "main 0 2: open"), []string{"a b c: f 0 1", "b c: f 0 1", "c: f 0 1", "main a c: main 1 1"}},
		// What others need is not needed by whom imports these.
		{newDesk("b: open", "a 0: open", "main 1: open"), []string{"a b: f 0 1", "b: f 0 1", "main a: main 1 1"}},
		{newDesk("a: open", "b: open", "c: open", "main 0 1 2: open"), []string{"a: f 0 1", "b: f 0 1", "c: f 0 1", "main a b c: main 1 1"}},
		{newDesk("z: open", "main 0: open"), []string{"main z: main 1 1", "z: f 0 1"}},
	} {
		mustBeNew(t, written(t, one.texts...), one.want, true)
		mustBeDesk(t, one.want, true)
	}
	lines := []string{"ta"}
	for at, name := range namesOf("t", 7)[1:] {
		lines = append(lines, name+" "+strings.Join(namesOf("t", at+1)[max(0, at-5):], " "))
	}
	eight := mainIn(append(project("main tb tc td te tf tg"), project(lines...)...))
	want := manyTasks(8)
	want.Journal = newDesk("a: open").Journal
	want.Tasks[7].Name, want.Tasks[7].Needs = "main", []int64{1, 2, 3, 4, 5, 6}
	mustBeNew(t, eight, want, true)
}

func TestNewDeskWhereThereAreNoParts(t *testing.T) {
	none := func(list []impl.Package) {
		t.Helper()
		mustBeNew(t, list, impl.Desk{}, false)
		for _, journal := range []string{"", "x", journalOf(started(1)), journalOf(started(1), entry{0, 5}, started(2))} {
			mustBeReborn(t, list, journal, impl.Desk{}, false)
		}
	}
	none(nil)
	none([]impl.Package{})
	none(project("a", "b"))
	none(project(namesOf("p", 9)...))
	for _, f := range faulty {
		none(written(t, f.texts...))
	}
	for why, spoil := range spoilers {
		for at := range 3 {
			list := written(t, "lib: f 0 1", "main lib: main 1 1", "z: f 0 1")
			mustBeNew(t, list, deskIn(t, "lib: open", "main 0: open"), true)
			spoil(&list[at])
			if d, is := impl.NewDesk(list); is || !sameDesk(d, impl.Desk{}) {
				t.Errorf("%s: it is %s", why, toldDesk(d))
			}
			if d, is := impl.Reborn(list, journalOf(started(1))); is || !sameDesk(d, impl.Desk{}) {
				t.Errorf("%s: it is %s", why, toldDesk(d))
			}
		}
	}
	list := written(t, "lib: f 0 1", "main lib: main 1 1")
	none([]impl.Package{list[1], list[0]})
	none([]impl.Package{list[0], list[1], list[1]})
}

func TestNewDeskOfManyProjects(t *testing.T) {
	c := chance(389)
	made, left, needed := 0, 0, 0
	for i := range 1500 {
		list := mainOfChosen(&c)
		if i%3 == 0 {
			list = rightProject(&c, 1+c.below(8))
		}
		if i%5 == 4 {
			mistaken(&c, list)
		}
		tasks := tasksBy(list)
		if len(tasks) == 0 {
			mustBeNew(t, list, impl.Desk{}, false)
			continue
		}
		want := impl.Desk{Tasks: tasks, Epoch: 1, Journal: "00000007317a329dstart 1"}
		mustBeNew(t, list, want, true)
		mustBeDesk(t, want, true)
		mustBeAllDone(t, want, false)
		made, left = made+1, left+len(list)-len(tasks)
		for _, task := range tasks {
			needed += len(task.Needs)
		}
	}
	if made < 1000 || left < 300 || needed < 1000 {
		t.Errorf("%d were made, %d Packages were left out, there were %d Needs", made, left, needed)
	}
}

func TestLentByHand(t *testing.T) {
	fresh := deskAt(t, 7, "a: open", "b: open", "c 0 1: open")
	for worker := range int64(4) {
		one := mustLend(t, fresh, worker, deskAt(t, 7, fmt.Sprintf("a: leased %d 17", worker), "b: open", "c 0 1: open"), 0)
		for other := range int64(4) {
			two := mustLend(t, one, other, deskAt(t, 7, fmt.Sprintf("a: leased %d 17", worker), fmt.Sprintf("b: leased %d 17", other), "c 0 1: open"), 1)
			for third := range int64(4) {
				mustLendNothing(t, two, third)
			}
		}
	}
	for _, worker := range []int64{-1, 4, -4, 5, 256, 1 << 32, 1<<32 + 1, math.MinInt64, math.MaxInt64} {
		mustLendNothing(t, fresh, worker)
		mustLendNothing(t, deskIn(t, "a: done 5"), worker)
	}
	// What is done, and what needs what is not, is passed over.
	mustLend(t, deskIn(t, "a: done 0", "b: open", "c: open"), 1, deskIn(t, "a: done 0", "b: leased 1 10", "c: open"), 1)
	mustLend(t, deskIn(t, "a: leased 3 5", "b 0: open", "c: open"), 1, deskIn(t, "a: leased 3 5", "b 0: open", "c: leased 1 10"), 2)
	mustLend(t, deskIn(t, "a: done 5", "b 0: open", "c 0 1: open"), 1, deskIn(t, "a: done 5", "b 0: leased 1 10", "c 0 1: open"), 1)
	mustLend(t, deskIn(t, "a: done 5", "b 0: done 6", "c 0 1: open"), 1, deskIn(t, "a: done 5", "b 0: done 6", "c 0 1: leased 1 10"), 2)
	mustLendNothing(t, deskIn(t, "a: done 5", "b: leased 0 10", "c 0 1: open", "d 1: open"), 1)
	mustLendNothing(t, deskIn(t, "a: leased 0 10", "b: done 5", "c 0 1: open", "d 0: open"), 1)
	// Not done, though what it needs is not done either: it is not lent.
	mustLendNothing(t, deskAt(t, 50, "a: leased 1 60", "b 0: leased 1 5", "c 1: open"), 2)
	mustLend(t, deskAt(t, 50, "a: leased 1 50", "b 0: leased 1 5"), 2, deskAt(t, 50, "a: leased 2 60", "b 0: leased 1 5"), 0)
	// All done; none that can be lent.
	mustLendNothing(t, deskIn(t, "a: done 5"), 0)
	mustLendNothing(t, deskIn(t, "a: done 0", "b 0: done 0", "c: done 2147483646"), 0)
	mustLendNothing(t, deskIn(t, "a: leased 0 1"), 0)
	// The needs of what is done are not asked.
	mustLend(t, deskIn(t, "a: leased 1 9", "b 0: done 5", "c 1: open"), 0, deskIn(t, "a: leased 1 9", "b 0: done 5", "c 1: leased 0 10"), 2)
}

// Promise 18: on lease it is lent to nobody, until its time is over.
func TestLentWhileOnLease(t *testing.T) {
	for _, begin := range []int64{0, 1, 5, 999, 999980, 999989, 999990} {
		for holder := range int64(4) {
			d := mustLend(t, deskAt(t, begin, "a: open", "b 0: open"), holder, deskAt(t, begin, fmt.Sprintf("a: leased %d %d", holder, begin+10), "b 0: open"), 0)
			for now := begin; now < begin+10; now++ {
				for worker := int64(-1); worker <= 4; worker++ {
					mustLendNothing(t, d, worker)
				}
				d = mustTick(t, d, 1, deskAt(t, now+1, fmt.Sprintf("a: leased %d %d", holder, begin+10), "b 0: open"), true)
			}
			for worker := range int64(4) {
				mustLend(t, d, worker, deskAt(t, begin+10, fmt.Sprintf("a: leased %d %d", worker, min(begin+20, 1000000)), "b 0: open"), 0)
			}
		}
	}
	// A lease from the last time on is over at once, as it can't be longer.
	for now := int64(999985); now <= 1000000; now++ {
		until := now + 10
		if until > 1000000 {
			until = 1000000
		}
		d := mustLend(t, deskAt(t, now, "a: open"), 1, deskAt(t, now, fmt.Sprintf("a: leased 1 %d", until)), 0)
		if now < 1000000 {
			mustLendNothing(t, d, 2)
		} else {
			mustLend(t, d, 2, deskAt(t, now, "a: leased 2 1000000"), 0)
		}
		mustBeDesk(t, d, true)
	}
	for _, until := range []int64{0, 1, 49, 50} {
		mustLend(t, deskAt(t, 50, fmt.Sprintf("a: leased 3 %d", until)), 0, deskAt(t, 50, "a: leased 0 60"), 0)
	}
	for _, until := range []int64{51, 52, 60, 61, 1000, 1000000} {
		mustLendNothing(t, deskAt(t, 50, fmt.Sprintf("a: leased 3 %d", until)), 0)
	}
}

// smallDesks are all of these: up to three Tasks, in each State, with all that
// they could need.
func smallDesks(tell func(impl.Desk)) {
	states := [][4]int64{{}, {1, 1, 4}, {1, 3, 5}, {1, 0, 6}, {2, 0, 0, 0}}
	names, needs := namesOf("t", 3), [][]int64{nil, {0}, {1}, {0, 1}}
	var each func(tasks []impl.Task)
	each = func(tasks []impl.Task) {
		if len(tasks) > 0 {
			tell(impl.Desk{Tasks: tasksCopied(tasks), Epoch: 2, Now: 5, Journal: "abc"})
		}
		if len(tasks) == 3 {
			return
		}
		for _, s := range states {
			for _, need := range needs[:1<<len(tasks)] {
				each(append(slices.Clone(tasks), impl.Task{Name: names[len(tasks)], Needs: need, State: s[0], Worker: s[1], Until: s[2], Key: s[3]}))
			}
		}
	}
	each(nil)
}

func TestAllSmallDesks(t *testing.T) {
	desks, lent, codes, all := 0, [4]int{}, [5]int{}, 0
	smallDesks(func(d impl.Desk) {
		desks++
		mustBeDesk(t, d, true)
		for worker := int64(-1); worker <= 4; worker++ {
			_, number := mustLendAsTold(t, d, worker)
			lent[number+1]++
		}
		for task := int64(-1); task <= 3; task++ {
			for _, epoch := range []int64{1, 2, 3} {
				for _, key := range []int64{-1, 0, 2147483647} {
					_, code := mustReturnAsTold(t, d, task, epoch, key)
					codes[code]++
				}
			}
		}
		mustBeAllDone(t, d, allDoneBy(d))
		if allDoneBy(d) {
			all++
		}
	})
	if desks != 5+5*10+5*10*20 || slices.Min(lent[:]) < 200 || slices.Min(codes[:]) < 500 || all != 1+2+8 {
		t.Errorf("of %d, %v were Lent, %v Returned, %d all done", desks, lent, codes, all)
	}
}

func TestReturnedByHand(t *testing.T) {
	d := threeTasks(t)
	want := threeTasks(t)
	want.Tasks[1] = taskIn(t, "mid 0: done 5")
	want.Journal += impl.Framed("done 1 5")
	after := mustReturn(t, d, 1, 2, 5, want, impl.DkOk)
	want.Tasks[2] = taskIn(t, "main 0 1: done 2147483646")
	want.Journal += impl.Framed("done 2 2147483646")
	last := mustReturn(t, after, 2, 2, 2147483646, want, impl.DkOk)
	mustBeAllDone(t, after, false)
	mustBeAllDone(t, last, true)
	mustRefuse(t, last, 2, 2, 2147483646, impl.DkAgain)
	mustRefuse(t, d, 2, 2, 5, impl.DkOpen)
	mustRefuse(t, d, 0, 2, 77, impl.DkAgain)
	mustRefuse(t, d, 0, 2, 78, impl.DkAgain)
	for _, epoch := range []int64{1, 3, 0, -2, -1, 1000, 1001, 1<<32 + 2, math.MinInt64, math.MaxInt64} {
		for task := range int64(3) {
			mustRefuse(t, d, task, epoch, 5, impl.DkOld)
		}
	}
	for _, key := range []int64{0, 1, 77, 2147483645, 2147483646} {
		done := threeTasks(t)
		done.Tasks[1] = impl.Task{Name: "mid", Needs: []int64{0}, State: 2, Key: key}
		done.Journal += journalOf(entry{1, key})
		mustReturn(t, d, 1, 2, key, done, impl.DkOk)
	}
	for _, key := range []int64{-1, -2147483648, 2147483647, 2147483648, 1 << 32, 1<<32 + 5, math.MinInt64, math.MaxInt64} {
		for task := range int64(3) {
			mustRefuse(t, d, task, 2, key, impl.DkBad)
		}
	}
	for _, task := range []int64{-1, -2, 3, 4, 8, 256, 1 << 32, 1<<32 + 1, math.MinInt64, math.MaxInt64} {
		mustRefuse(t, d, task, 2, 5, impl.DkBad)
	}
	// Nobody asks for a lease, nor for its time, nor whose it is.
	for _, text := range []string{"a: open", "a: leased 0 0", "a: leased 1 5", "a: leased 2 6", "a: leased 3 1000000"} {
		open, done := deskAt(t, 5, text, "b 0: open"), deskAt(t, 5, "a: done 9", "b 0: open")
		done.Journal += impl.Framed("done 0 9")
		mustReturn(t, open, 0, 1, 9, done, impl.DkOk)
	}
	// At the bounds of the Epoch.
	for _, epoch := range []int64{1, 999, 1000} {
		one, done := deskIn(t, "a: open"), deskIn(t, "a: done 9")
		one.Epoch, done.Epoch = epoch, epoch
		done.Journal += impl.Framed("done 0 9")
		mustReturn(t, one, 0, epoch, 9, done, impl.DkOk)
		mustRefuse(t, one, 0, epoch+1, 9, impl.DkOld)
		mustRefuse(t, one, 0, epoch-1, 9, impl.DkOld)
	}
	// The last of 8, and one past it.
	eight := manyTasks(8)
	for number := range int64(8) {
		mustRefuse(t, eight, 8, 1, 5, impl.DkBad)
		for behind := number + 1; behind < 8; behind++ {
			mustRefuse(t, eight, behind, 1, 5, impl.DkOpen)
		}
		eight, _ = mustReturnAsTold(t, eight, number, 1, number)
	}
	mustBeAllDone(t, eight, true)
	if want := journalOf(entry{0, 0}, entry{1, 1}, entry{2, 2}, entry{3, 3}, entry{4, 4}, entry{5, 5}, entry{6, 6}, entry{7, 7}); eight.Journal != want {
		t.Errorf("%q is written down", eight.Journal)
	}
}

// Where several apply, it is the one named first, and DkBad ahead of all.
func TestReturnedWhereSeveralApply(t *testing.T) {
	// The second is done, and what it needs is not.
	d := deskIn(t, "a: open", "b 0: done 5", "c 0: open", "d: done 5")
	mustRefuse(t, d, 1, 1, 5, impl.DkAgain)
	mustRefuse(t, d, 1, 2, 5, impl.DkOld)
	mustRefuse(t, d, 2, 2, 5, impl.DkOld)
	mustRefuse(t, d, 3, 2, 5, impl.DkOld)
	for task := range int64(4) {
		for _, epoch := range []int64{1, 2} {
			mustRefuse(t, d, task, epoch, -1, impl.DkBad)
			mustRefuse(t, d, task, epoch, 2147483647, impl.DkBad)
			mustRefuse(t, d, 4, epoch, 5, impl.DkBad)
			mustRefuse(t, d, -1, epoch, 5, impl.DkBad)
		}
	}
	full := deskCopied(d)
	full.Journal = strings.Repeat("a", 60000)
	for task := range int64(4) {
		mustRefuse(t, full, task, 1, 5, impl.DkBad)
		mustRefuse(t, full, task, 2, 5, impl.DkBad)
		mustRefuse(t, full, task, 1, -1, impl.DkBad)
	}
}

func TestReturnedWhereItJustFits(t *testing.T) {
	for _, key := range []int64{0, 9, 10, 99, 2147483646} {
		for task := range int64(3) {
			d := deskIn(t, "a: done 5", "b 0: open", "c 0 1: open")
			takes := len(entry{task, key}.text()) + 16
			for room := takes - 3; room <= takes+3; room++ {
				d.Journal = strings.Repeat("a", 60000-room)
				for _, epoch := range []int64{1, 2} {
					_, code := mustReturnAsTold(t, d, task, epoch, key)
					if (code == impl.DkBad) != (room < takes) {
						t.Errorf("%d takes %d of %d, and is %d", task, takes, room, code)
					}
				}
			}
		}
	}
	d := deskIn(t, "a: open")
	d.Journal = strings.Repeat("a", 60000-24)
	after := mustReturn(t, d, 0, 1, 7, impl.Desk{Tasks: []impl.Task{taskIn(t, "a: done 7")}, Epoch: 1, Journal: d.Journal + impl.Framed("done 0 7")}, impl.DkOk)
	if len(after.Journal) != 60000 {
		t.Errorf("%d bytes are written", len(after.Journal))
	}
	mustBeDesk(t, after, true)
	mustRefuse(t, d, 0, 1, 77, impl.DkBad)
}

func TestTicked(t *testing.T) {
	for _, now := range []int64{0, 1, 20, 999999, 1000000} {
		d := threeTasks(t)
		d.Now = now
		for _, n := range []int64{0, 1, 2, 10, 20, 999980, 999999, 1000000, 1000000 - now, 999999 - now, 1000001 - now, 1000001, 1 << 32, math.MaxInt64, math.MaxInt64 - now, -1, -now, -20, math.MinInt64} {
			want, is := tickedBy(d, n)
			mustTick(t, d, n, want, is)
			if is != (n >= 0 && n <= 1000000-now) {
				t.Errorf("%d and %d is a time: %v", now, n, is)
			}
		}
	}
	// All else stays, whatever time it is.
	d := threeTasks(t)
	later := threeTasks(t)
	later.Now = 1000000
	mustTick(t, d, 999980, later, true)
	mustTick(t, d, 999981, d, false)
	mustTick(t, later, 0, later, true)
	mustTick(t, later, 1, later, false)
	mustTick(t, d, -1, d, false)
	mustTick(t, d, -20, d, false)
	mustTick(t, d, math.MaxInt64, d, false)
	mustTick(t, d, math.MaxInt64-19, d, false)
	c := chance(397)
	for range 200 {
		d.Now = int64(c.below(1000001))
		n := int64(c.below(1000001))
		want, is := tickedBy(d, n)
		mustTick(t, d, n, want, is)
	}
}

func TestAllDone(t *testing.T) {
	mustBeAllDone(t, deskIn(t, "a: done 0"), true)
	mustBeAllDone(t, deskIn(t, "a: open"), false)
	mustBeAllDone(t, deskIn(t, "a: leased 0 0"), false)
	for many := 1; many <= 8; many++ {
		d := manyTasks(many)
		for at := range d.Tasks {
			d.Tasks[at].State, d.Tasks[at].Key = 2, int64(at)
		}
		mustBeAllDone(t, d, true)
		for at := range d.Tasks {
			for _, s := range [][4]int64{{}, {1, 2, 3}} {
				other := deskCopied(d)
				other.Tasks[at].State, other.Tasks[at].Worker, other.Tasks[at].Until, other.Tasks[at].Key = s[0], s[1], s[2], s[3]
				mustBeAllDone(t, other, false)
			}
		}
		d.Tasks[many-1].Key = -1
		mustBeAllDone(t, d, false)
		mustBeNoDesk(t, "a Key", d)
	}
}

// rowed has Parts a, b, c and main, of which each needs the one ahead; main
// needs a too.
func rowed(t *testing.T) []impl.Package {
	t.Helper()
	return written(t, "a: f 0 1", "b a: f 0 1", "c b: f 0 1", "main a c: main 1 1", "z: f 0 1")
}

func TestRebornByHand(t *testing.T) {
	list := rowed(t)
	born := func(epoch int64, journal string, texts ...string) impl.Desk {
		d := deskIn(t, texts...)
		d.Epoch, d.Journal = epoch, journal
		return d
	}
	start1, start2, start3 := "00000007317a329dstart 1", impl.Framed("start 2"), impl.Framed("start 3")
	open := []string{"a: open", "b 0: open", "c 1: open", "main 0 2: open"}
	for _, journal := range []string{"", "x", "start 1", impl.Framed("x"), impl.Framed(""), start2, impl.Framed("start 0"), start1[:len(start1)-1], start1[1:], "x" + start1} {
		mustBeReborn(t, list, journal, born(1, start1, open...), true)
	}
	mustBeReborn(t, list, start1, born(2, start1+start2, open...), true)
	mustBeReborn(t, list, start1+start2, born(3, start1+start2+start3, open...), true)
	done0, done1, done3 := impl.Framed("done 0 77"), impl.Framed("done 1 0"), impl.Framed("done 3 2147483646")
	done2 := impl.Framed("done 2 6")
	mustBeReborn(t, list, start1+done0, born(2, start1+done0+start2, "a: done 77", "b 0: open", "c 1: open", "main 0 2: open"), true)
	mustBeReborn(t, list, start1+done0+start2+done1, born(3, start1+done0+start2+done1+start3, "a: done 77", "b 0: done 0", "c 1: open", "main 0 2: open"), true)
	whole := start1 + done0 + start2 + done1 + done2 + done3
	all := born(3, whole+start3, "a: done 77", "b 0: done 0", "c 1: done 6", "main 0 2: done 2147483646")
	mustBeReborn(t, list, whole, all, true)
	mustBeAllDone(t, all, true)
	// Without a start at all, what is done is done.
	mustBeReborn(t, list, done0+done1, born(1, done0+done1+start1, "a: done 77", "b 0: done 0", "c 1: open", "main 0 2: open"), true)
	mustBeReborn(t, list, done0+start1+done1, born(2, done0+start1+done1+start2, "a: done 77", "b 0: done 0", "c 1: open", "main 0 2: open"), true)
	// What is not right ends it, whatever stands behind it.
	for _, wrong := range []string{"x", done0, start2 + start2, done2, impl.Framed(""), start1} {
		mustBeReborn(t, list, start1+done0+wrong+done1+start2, mustBeRebornAsTold(t, list, start1+done0+wrong), true)
	}
	mustBeReborn(t, list, start1+done0+start1+done1, born(2, start1+done0+start2, "a: done 77", "b 0: open", "c 1: open", "main 0 2: open"), true)
	mustBeReborn(t, list, start1+done0+start3+done1, born(2, start1+done0+start2, "a: done 77", "b 0: open", "c 1: open", "main 0 2: open"), true)
	mustBeReborn(t, list, start1+done1+done0, born(2, start1+start2, open...), true)
	// One project's journal is another's too, as far as it is right there.
	mustBeReborn(t, written(t, "lib: f 0 1", "main lib: main 1 1"), whole, born(3, start1+done0+start2+done1+start3, "lib: done 77", "main 0: done 0"), true)
	mustBeReborn(t, written(t, "main: main 1 1"), whole, born(3, start1+done0+start2+start3, "main: done 77"), true)
}

// wrongEntries are right in no journal that begins with start 1 and done 0 77,
// where 4 Tasks need one another in a row.
var wrongEntries = []string{
	"", " ", "x", "start", "start ", "start  2", " start 2", "start 2 ", "start 2 2", "start 2\n", "\nstart 2", "start 02", "start 002", "start +2", "start -2", "start 2.0", "start 0x2", "start ii", "start two",
	"Start 2", "START 2", "starts 2", "star 2", "start2", "start\t2", "start-2", "start 1", "start 0", "start 3", "start 4", "start -1", "start 12", "start 20", "start 22", "start 1000", "start 1001", "start 9999999999",
	"start 00000000002", "start 4294967298", "start 18446744073709551618", "start 2\x00", "start \xb2", "start $2", "restart 2", "2", "2 start", "start done 2", "done start 2", "done 2",
	"done", "done ", "done 1", "done 1 ", "done  1 5", "done 1  5", " done 1 5", "done 1 5 ", "done 1 5 5", "done 1 5\n", "done\t1\t5", "done 1,5", "done 01 5", "done 1 05", "done 1 00", "done 001 5", "done 1 0000000005", "done +1 5", "done 1 +5",
	"done 1 -5", "done 1 -0", "done -0 5", "done 1 -1", "done 1 5x", "done 1x 5", "done x 5", "done 1 x", "done one 5", "done 1 5.0", "done 1 0x5", "done 1 $5", "Done 1 5", "DONE 1 5", "dones 1 5", "don 1 5", "done1 5", "1 5", "done 5",
	"done 1 2147483647", "done 1 2147483648", "done 1 4294967296", "done 1 4294967301", "done 1 9999999999", "done 1 10000000000", "done 1 18446744073709551616", "done 1 18446744073709551621", "done 1 99999999999999999999", "done 1 -2147483648",
	"done 0 77", "done 0 5", "done 0 0", "done 2 5", "done 3 5", "done 4 5", "done 5 5", "done 8 5", "done 9 5", "done 10 5", "done -1 5", "done -4 5", "done 256 5", "done 257 5", "done 4294967297 5", "done 18446744073709551617 5", "done 9999999999 5",
	"done a 5", "done b 5", "leased 1 5", "lent 1 5", "tick 1", "done 1 5 start 2", "done 1 5\x00", "\x00done 1 5", "\xef\xbb\xbfdone 1 5", "done\xc2\xa01 5", "done 1\xc2\xa05", "done \xd9\xa1 5", "00000007317a329dstart 1",
}

func TestRebornOfWrongEntries(t *testing.T) {
	list := rowed(t)
	head := journalOf(started(1), entry{0, 77})
	want := deskAfter(tasksBy(list), []entry{started(1), {0, 77}})
	right := deskAfter(tasksBy(list), []entry{started(1), {0, 77}, {1, 5}})
	mustBeReborn(t, list, head, want, true)
	mustBeReborn(t, list, head+impl.Framed("done 1 5"), right, true)
	for _, wrong := range append(slices.Clone(wrongEntries), strings.Repeat("start 2 ", 2000), strings.Repeat(" ", 20000), "done 1 "+strings.Repeat("5", 19000), "done 1 "+strings.Repeat("0", 19000)+"5", allBytes()) {
		for _, behind := range []string{"", "x", impl.Framed("done 1 5"), impl.Framed("start 2"), impl.Framed("start 2") + impl.Framed("done 1 5")} {
			mustBeReborn(t, list, head+impl.Framed(wrong)+behind, want, true)
		}
		// Behind what makes another one right, it is still wrong or it is as
		// told.
		mustBeRebornAsTold(t, list, head+impl.Framed("done 1 5")+impl.Framed(wrong))
		mustBeRebornAsTold(t, list, head+impl.Framed("start 2")+impl.Framed(wrong))
		mustBeRebornAsTold(t, list, impl.Framed(wrong))
		mustBeRebornAsTold(t, list, impl.Framed(wrong)+head)
	}
	// What is no Frame.
	for _, wrong := range []string{"start 2", "done 1 5", "x", "\x00", "\n", impl.Framed("done 1 5")[1:], strings.ToUpper(impl.Framed("start 2")[:16]) + "start 2", "0000000700000000start 2", "00000008" + impl.Framed("start 2")[8:], strings.Repeat("0", 16), allBytes()} {
		for _, behind := range []string{"", "\n", impl.Framed("done 1 5"), impl.Framed("start 2")} {
			mustBeReborn(t, list, head+wrong+behind, want, true)
		}
	}
}

// Each Task and each Key at their bounds, with what it needs done and not.
func TestRebornOfTasksAndKeysAtTheirBounds(t *testing.T) {
	list := rowed(t)
	for ahead := range int64(5) {
		entries := []entry{started(1)}
		for task := range ahead {
			entries = append(entries, entry{task, task})
		}
		for task := int64(-2); task <= 9; task++ {
			for _, key := range []int64{-1, 0, 1, 9, 10, 2147483645, 2147483646, 2147483647, 2147483648} {
				want := deskAfter(tasksBy(list), entries)
				if task == ahead && task < 4 && key >= 0 && key <= 2147483646 {
					want = deskAfter(tasksBy(list), append(slices.Clone(entries), entry{task, key}))
				}
				mustBeReborn(t, list, journalOf(entries...)+impl.Framed(fmt.Sprintf("done %d %d", task, key)), want, true)
			}
		}
	}
}

// Its Epoch is 1 more each time, as long as its Frames are not too many.
func TestRebornAgainAndAgain(t *testing.T) {
	list := rowed(t)
	d, _ := impl.NewDesk(list)
	entries := startsTo(1)
	for epoch := int64(2); epoch <= 400; epoch++ {
		if at := epoch / 100; epoch%100 == 0 {
			d, _ = mustReturnAsTold(t, d, at-1, d.Epoch, epoch)
			entries = append(entries, entry{at - 1, epoch})
		}
		if len(entries) > 399 {
			break
		}
		want := deskAfter(tasksBy(list), entries)
		mustBeReborn(t, list, d.Journal, want, true)
		if want.Epoch != epoch || !impl.DeskOk(want) {
			t.Fatalf("the Epoch is %d, not %d", want.Epoch, epoch)
		}
		d, entries = want, append(entries, started(epoch))
	}
	if len(entries) != 400 {
		t.Errorf("there are %d entries", len(entries))
	}
}

func TestRebornOfAsManyFramesAsThereMayBe(t *testing.T) {
	list := rowed(t)
	tasks := tasksBy(list)
	for _, many := range []int64{398, 399, 400} {
		mustBeReborn(t, list, journalOf(startsTo(many)...), deskAfter(tasks, startsTo(many)), true)
	}
	// Those past the 400th are passed over, right or not.
	all := startsTo(400)
	want := deskAfter(tasks, all)
	if want.Epoch != 401 {
		t.Fatal(want.Epoch)
	}
	for _, behind := range []entry{started(401), {0, 5}, started(400), {1, 5}} {
		mustBeReborn(t, list, journalOf(append(slices.Clone(all), behind)...), want, true)
	}
	for _, many := range []int64{401, 402, 999, 1000, 1001, 2000} {
		mustBeReborn(t, list, journalOf(startsTo(many)...), want, true)
	}
	mustBeReborn(t, list, want.Journal, want, true)
	// As the 400th one still counts.
	for _, last := range []entry{{0, 5}, started(400)} {
		entries := append(startsTo(399), last)
		mustBeReborn(t, list, journalOf(append(entries, entry{1, 6}, entry{2, 7}, started(400))...), deskAfter(tasks, entries), true)
	}
	// A wrong one ahead of it ends it there.
	for _, many := range []int64{1, 200, 399} {
		entries := startsTo(many)
		mustBeReborn(t, list, journalOf(append(entries, append([]entry{{1, 5}}, all...)...)...), deskAfter(tasks, entries), true)
	}
}

// The journal that is handed in may be of any length.
func TestRebornOfLongJournals(t *testing.T) {
	list := rowed(t)
	head := journalOf(started(1), entry{0, 77})
	want := deskAfter(tasksBy(list), []entry{started(1), {0, 77}})
	for _, length := range []int{59976, 59977, 59999, 60000, 60001, 1 << 20} {
		mustBeReborn(t, list, head+strings.Repeat("x", length-len(head)), want, true)
		mustBeReborn(t, list, head+strings.Repeat("\x00", length-len(head)), want, true)
	}
	great := impl.Framed(strings.Repeat("a", 20000))
	mustBeReborn(t, list, head+great+great+great+great, want, true)
	mustBeReborn(t, list, strings.Repeat(great, 400), deskAfter(tasksBy(list), nil), true)
}

const bornBody = `list, _ := impl.Sorted(os.Args[2:])
	d, is := impl.Reborn(list, os.Args[1])
	fmt.Print(is, d.Epoch, len(d.Tasks), d.Now, "\n", d.Journal)`

// bornText is what bornBody prints.
func bornText(d impl.Desk, is bool) string {
	return fmt.Sprint(is, d.Epoch, len(d.Tasks), d.Now, "\n", d.Journal)
}

// 400 Frames are not as many as it takes to come to the last Epoch, nor to the
// end of the Journal: one in which there may be more Frames comes to the one,
// one with a shorter Journal to the other.
func TestRebornOutOfRange(t *testing.T) {
	list := rowed(t)
	sources := sourcesOf(list)
	born := changedProgram(t, "l02_frame.go", "const MaxFrames = 400", "const MaxFrames = 1100", bornBody)
	for _, many := range []int64{0, 400, 401, 998, 999, 1000, 1001, 1050} {
		d, is := deskAfter(tasksBy(list), startsTo(many)), many < 1000
		if !is {
			d = impl.Desk{}
		}
		if got := born(append([]string{journalOf(startsTo(many)...)}, sources...)); got != bornText(d, is) {
			t.Errorf("of %d starts it is %.100q, not %.100q", many, got, bornText(d, is))
		}
	}
	// In 69 bytes there is just room for three starts, but not for two and what
	// is done.
	born = changedProgram(t, "l18_desk.go", "const MaxJournal = 60000", "const MaxJournal = 69", bornBody)
	for many, entries := range [][]entry{nil, startsTo(1), startsTo(2), startsTo(3), {started(1), {0, 5}}, {{0, 5}}, {started(1), started(2), {0, 5}}} {
		d, is := deskAfter(tasksBy(list), entries), many < 3 || many == 5
		if is != (len(d.Journal) <= 69) {
			t.Fatalf("%d bytes are written of %v", len(d.Journal), entries)
		}
		if !is {
			d = impl.Desk{}
		}
		for _, behind := range []string{"", "x", impl.Framed("x"), strings.Repeat("x", 70)} {
			if got := born(append([]string{journalOf(entries...) + behind}, sources...)); got != bornText(d, is) {
				t.Errorf("of %v it is %.100q, not %.100q", entries, got, bornText(d, is))
			}
		}
	}
}

// A day is a desk at work, and what it has written down whole.
type day struct {
	list    []impl.Package
	tasks   []impl.Task
	desk    impl.Desk
	entries []entry
	seen    map[string]int
}

func dayOf(t *testing.T, list []impl.Package, seen map[string]int) *day {
	t.Helper()
	d, is := impl.NewDesk(list)
	if !is {
		t.Fatalf("%q has no Parts", linesOf(list))
	}
	return &day{list, tasksBy(list), d, startsTo(1), seen}
}

// lend is promise 18 for one asking: what is lent was on lease to nobody.
func (w *day) lend(t *testing.T, c *chance) {
	t.Helper()
	worker := int64(c.below(6)) - 1
	before := w.desk
	after, number := mustLendAsTold(t, before, worker)
	w.desk = after
	if number == -1 {
		w.seen["not lent"]++
		return
	}
	task := before.Tasks[number]
	switch {
	case task.State == 2 || openNeeds(before, task) > 0:
		t.Errorf("%d is lent of %s", number, toldDesk(before))
	case task.State == 1 && task.Until > before.Now:
		t.Errorf("%d is lent to two of %s", number, toldDesk(before))
	case task.State == 1:
		w.seen["lent again"]++
	}
	w.seen["lent"]++
}

// back mostly tells a Task that is on lease, in this Epoch.
func (w *day) back(t *testing.T, c *chance) {
	t.Helper()
	task, epoch, key := int64(c.below(len(w.tasks))), w.desk.Epoch, []int64{0, 5, 2147483646, int64(c.below(1 << 30))}[c.below(4)]
	for at := range w.tasks {
		if w.desk.Tasks[at].State == 1 && c.below(3) > 0 {
			task = int64(at)
		}
	}
	if c.below(6) == 0 {
		epoch += int64(c.below(3)) - 1
	}
	if c.below(20) == 0 {
		key = []int64{-1, 2147483647}[c.below(2)]
	}
	after, code := mustReturnAsTold(t, w.desk, task, epoch, key)
	if w.desk = after; code == impl.DkOk {
		w.entries = append(w.entries, entry{task, key})
	}
	w.seen[fmt.Sprint("returned ", code)]++
}

func (w *day) tick(t *testing.T, c *chance) {
	t.Helper()
	n := int64(c.below(14)) - 1
	want, is := tickedBy(w.desk, n)
	w.desk = mustTick(t, w.desk, n, want, is)
	w.seen["ticked"]++
}

// fall loses some of what was written last, or has more behind it, and is
// reborn of that. Behind a piece of a Frame stands nothing that could make it
// whole again.
func (w *day) fall(t *testing.T, c *chance) {
	t.Helper()
	left := max(0, len(w.desk.Journal)-[]int{0, c.below(5), c.below(60)}[c.below(3)])
	kept, behind := wholeIn(w.entries, left), []string{"", "x", "x" + w.desk.Journal}
	if len(journalOf(kept...)) == left {
		behind = append(behind, impl.Framed("x"), "00000007", journalOf(started(w.desk.Epoch+5)))
	}
	journal := w.desk.Journal[:left] + behind[c.below(len(behind))]
	if len(kept) < len(w.entries) {
		w.seen["cut"]++
	}
	want := deskAfter(w.tasks, kept)
	mustBeReborn(t, w.list, journal, want, true)
	w.desk = want
	w.entries = append(slices.Clone(kept), started(want.Epoch))
	w.seen["reborn"]++
}

func (w *day) work(t *testing.T, c *chance, steps int) {
	t.Helper()
	for range steps {
		switch c.below(12) {
		case 0, 1, 2, 3, 4:
			w.lend(t, c)
		case 5, 6:
			w.back(t, c)
		case 7, 8, 9:
			w.tick(t, c)
		case 10:
			if c.below(3) == 0 {
				w.fall(t, c)
			}
		default:
			mustBeAllDone(t, w.desk, allDoneBy(w.desk))
			if allDoneBy(w.desk) {
				w.seen["all done"]++
			}
		}
		mustBeDesk(t, w.desk, true)
		if w.desk.Journal != journalOf(w.entries...) {
			t.Fatalf("%q is written down, not %v", w.desk.Journal, w.entries)
		}
	}
}

// drawnParts has few words in it, so that it is looked over soon.
func drawnParts(c *chance) []impl.Package {
	for {
		if list := mainOfChosen(c); len(partsBy(list)) > c.below(8) {
			return list
		}
	}
}

// Promise 18: cut at every byte, it is what was written whole.
func TestRebornOfADayCutAnywhere(t *testing.T) {
	c, seen := chance(401), map[string]int{}
	for i := range 120 {
		w := dayOf(t, drawnParts(&c), seen)
		w.work(t, &c, 20+c.below(60))
		journal := journalOf(w.entries...)
		for cut := range len(journal) + 1 {
			kept := wholeIn(w.entries, cut)
			want := deskAfter(w.tasks, kept)
			if got, is := impl.Reborn(w.list, journal[:cut]); !is || !sameDesk(got, want) {
				t.Errorf("Reborn of %q is %s, not %s", journal[:cut], toldDesk(got), toldDesk(want))
			}
			seen["cuts"]++
		}
		want := deskAfter(w.tasks, w.entries)
		if i%4 == 0 {
			mustBeRebornAsTold(t, w.list, journal)
		}
		mustBeReborn(t, w.list, journal, want, true)
		// What is done stays done, and nothing else is.
		for at, task := range w.desk.Tasks {
			if (task.State == 2) != (want.Tasks[at].State == 2) || task.Key != want.Tasks[at].Key {
				t.Errorf("it was %s, and is %s", toldDesk(w.desk), toldDesk(want))
			}
		}
	}
	for what, least := range map[string]int{
		"lent": 300, "lent again": 30, "not lent": 200, "returned 0": 100, "returned 1": 30, "returned 2": 30, "returned 3": 10, "returned 4": 10, "ticked": 300, "reborn": 30, "cut": 10, "all done": 20, "cuts": 5000,
	} {
		if seen[what] < least {
			t.Errorf("of %q there were %d: %v", what, seen[what], seen)
		}
	}
}

// Promise 18: with one byte Turned, what was whole ahead of it stays, and no
// more.
func TestRebornOfADayTurnedAnywhere(t *testing.T) {
	c, seen := chance(409), map[string]int{}
	for range 25 {
		w := dayOf(t, drawnParts(&c), seen)
		w.work(t, &c, 40)
		journal := journalOf(w.entries...)
		for at := range journal {
			want := deskAfter(w.tasks, wholeIn(w.entries, at))
			for _, to := range []byte{journal[at] ^ 1, journal[at] ^ 32, byte(c.below(256)), "0123456789abcdef \n"[c.below(18)]} {
				if turned := impl.Turned(journal, int64(at), int64(to)); turned != journal {
					seen["turned"]++
					if got, is := impl.Reborn(w.list, turned); !is || !sameDesk(got, want) {
						t.Errorf("Reborn of %q is %s, not %s", turned, toldDesk(got), toldDesk(want))
					}
				}
			}
		}
	}
	if seen["turned"] < 5000 {
		t.Errorf("%v", seen)
	}
}

// Of Frames that are drawn, right and wrong.
func TestRebornOfDrawnFrames(t *testing.T) {
	c := chance(419)
	lengths := [20]int{}
	for range 1500 {
		list := drawnParts(&c)
		tasks := tasksBy(list)
		journal, epoch, next := "", int64(0), 0
		for range c.below(14) {
			text := ""
			switch c.below(16) {
			case 0, 1, 2, 3:
				epoch++
				text = started(epoch).text()
			case 4:
				text = entry{int64(c.below(len(tasks))), int64(c.below(100))}.text()
			case 5:
				if c.below(6) == 0 {
					text = wrongEntries[c.below(len(wrongEntries))]
					break
				}
				fallthrough
			default:
				text = entry{int64(next), int64(c.below(100))}.text()
				next++
			}
			journal += impl.Framed(text)
		}
		d := mustBeRebornAsTold(t, list, journal)
		mustBeDesk(t, d, true)
		lengths[len(entriesBy(tasks, journal))]++
	}
	if slices.Min(lengths[:7]) < 20 {
		t.Errorf("so many were right: %v", lengths)
	}
}

// chosenDesk is right, in any way.
func chosenDesk(c *chance) impl.Desk {
	d := impl.Desk{Epoch: 1 + int64(c.below(3)), Now: int64(c.below(30)), Journal: strings.Repeat("a", c.below(50))}
	switch c.below(6) {
	case 0:
		d.Now = 1000000 - int64(c.below(15))
	case 1:
		d.Journal = strings.Repeat("a", 60000-c.below(40))
	case 2:
		d.Epoch = 1000
	}
	for at, name := range chosenNames(c, 1+c.below(8)) {
		task := impl.Task{Name: name}
		for need := range int64(at) {
			if c.below(3) == 0 {
				task.Needs = append(task.Needs, need)
			}
		}
		switch c.below(5) {
		case 0:
			task.State, task.Worker, task.Until = 1, int64(c.below(4)), max(0, min(1000000, d.Now+int64(c.below(12))-6))
		case 1, 2, 3:
			task.State, task.Key = 2, []int64{0, 5, 2147483646}[c.below(3)]
		}
		d.Tasks = append(d.Tasks, task)
	}
	return d
}

var edgeNumbers = []int64{0, 1, 2, 3, 4, 7, 8, 10, 1000, 1001, 999990, 999999, 1000000, 1000001, 2147483646, 2147483647, 1 << 32, math.MaxInt64, -1, -2, math.MinInt64}

// deskSpoilt has one number or text of it another one.
func deskSpoilt(c *chance, d impl.Desk) impl.Desk {
	d = deskCopied(d)
	task, n := &d.Tasks[c.below(len(d.Tasks))], edgeNumbers[c.below(len(edgeNumbers))]
	switch c.below(12) {
	case 0:
		d.Epoch = n
	case 1:
		d.Now = n
	case 2:
		task.State = n
	case 3:
		task.Worker = n
	case 4:
		task.Until = n
	case 5:
		task.Key = n
	case 6:
		task.Needs = append(task.Needs, n)
	case 7:
		slices.Reverse(task.Needs)
	case 8:
		task.Name = d.Tasks[c.below(len(d.Tasks))].Name
	case 9:
		task.Name = noNames[c.below(len(noNames))]
	case 10:
		d.Journal += strings.Repeat("b", c.below(80))
	case 11:
		d.Tasks = append(d.Tasks, impl.Task{Name: chosenName(c)})
	}
	return d
}

// mustBeAskedAsTold asks all but what begins with Packages.
func mustBeAskedAsTold(t *testing.T, c *chance, d impl.Desk) {
	t.Helper()
	mustBeDesk(t, d, deskRight(d))
	mustBeAllDone(t, d, allDoneBy(d))
	for range 3 {
		worker, task, epoch, key := int64(c.below(5)), int64(c.below(len(d.Tasks)+1)), d.Epoch, int64(c.below(100))
		n := int64(c.below(30))
		switch c.below(5) {
		case 0:
			worker, task, n = edgeNumbers[c.below(len(edgeNumbers))], edgeNumbers[c.below(len(edgeNumbers))], edgeNumbers[c.below(len(edgeNumbers))]
		case 1:
			epoch = edgeNumbers[c.below(len(edgeNumbers))]
		case 2:
			key = edgeNumbers[c.below(len(edgeNumbers))]
		}
		mustLendAsTold(t, d, worker)
		mustReturnAsTold(t, d, task, epoch, key)
		want, is := d, false
		switch {
		case !deskRight(d):
			want = impl.Desk{}
		case n >= 0 && n <= 1000000-d.Now:
			want, is = deskCopied(d), true
			want.Now += n
		}
		mustTick(t, d, n, want, is)
	}
}

// Promise 21: at every argument they answer, and as told.
func TestDeskAnswersAtEveryArgument(t *testing.T) {
	c, right, wrong := chance(421), 0, 0
	for i := range 4000 {
		d := chosenDesk(&c)
		if !deskRight(d) {
			t.Fatalf("%s is not right", toldDesk(d))
		}
		for range i % 3 {
			d = deskSpoilt(&c, d)
		}
		if deskRight(d) {
			right++
		} else {
			wrong++
		}
		mustBeAskedAsTold(t, &c, d)
	}
	if right < 1500 || wrong < 1500 {
		t.Errorf("%d were right, %d wrong", right, wrong)
	}
	d := threeTasks(t)
	for _, a := range edgeNumbers {
		mustLendAsTold(t, d, a)
		for _, b := range edgeNumbers {
			for _, k := range edgeNumbers {
				mustReturnAsTold(t, d, a, b, k)
			}
		}
	}
}

func TestRebornAnswersAtEveryText(t *testing.T) {
	list := written(t, "lib: f 0 1", "main lib: main 1 1")
	head := journalOf(started(1), entry{0, 5})
	for at, s := range piecedTexts() {
		if at%8 == 0 {
			mustBeRebornAsTold(t, list, s)
			mustBeRebornAsTold(t, list, head+s)
			mustBeRebornAsTold(t, list, head+impl.Framed(s)+impl.Framed("start 2"))
		}
	}
	c := chance(431)
	whole := journalOf(started(1), entry{0, 5}, started(2), entry{1, 6}, started(3))
	for range 3000 {
		s := whole
		for range 1 + c.below(3) {
			at, to := c.below(len(s)+1), c.below(len(whole)+1)
			s = s[:at] + whole[to:min(len(whole), to+c.below(30))] + s[min(len(s), at+c.below(10)):]
		}
		mustBeRebornAsTold(t, list, s)
	}
}

// laidDesk has its texts laid over the room, and room behind each list.
func laidDesk(room []byte) impl.Desk {
	texts := laidOver(room, "lib", "mid", "main", "spare", journalOf(started(1), entry{0, 77}), "room")
	tasks := []impl.Task{
		{Name: texts[0], Needs: []int64{51, 52}[:0], State: 2, Key: 77},
		{Name: texts[1], Needs: []int64{0, 53, 54}[:1], State: 1, Worker: 2, Until: 3},
		{Name: texts[2], Needs: []int64{0, 1, 55}[:2]},
		{Name: texts[3], Needs: []int64{56}, State: 57},
		{Name: texts[3]},
	}
	return impl.Desk{Tasks: tasks[:3], Epoch: 1, Now: 4, Journal: texts[4]}
}

// wholeDesk is it with all that is behind its lists.
func wholeDesk(d impl.Desk) impl.Desk {
	d.Tasks = slices.Clone(d.Tasks[:cap(d.Tasks)])
	for at, task := range d.Tasks {
		d.Tasks[at].Needs = slices.Clone(task.Needs[:cap(task.Needs)])
	}
	return d
}

// whollyCopied has texts of its own too.
func whollyCopied(d impl.Desk) impl.Desk {
	d = deskCopied(d)
	d.Journal = strings.Clone(d.Journal)
	for at := range d.Tasks {
		d.Tasks[at].Name = strings.Clone(d.Tasks[at].Name)
	}
	return d
}

// laidText is laid over all of the room.
func laidText(room []byte) string { return unsafe.String(&room[0], len(room)) }

func textsOfDesk(d impl.Desk) []string {
	texts := []string{d.Journal}
	for _, task := range d.Tasks {
		texts = append(texts, task.Name)
	}
	return texts
}

// mustBeNewMemory asks several times; no answer shares anything with another
// one, nor with these texts.
func mustBeNewMemory(t *testing.T, what string, given []string, ask func() impl.Desk) {
	t.Helper()
	first, again := ask(), ask()
	want, texts := deskCopied(again), textsOfDesk(first)
	mustShareNoText(t, what+", with what is given", texts, given)
	mustShareNoText(t, what+", with another answer", texts, textsOfDesk(again))
	for at, text := range texts {
		mustShareNoText(t, what+", within one answer", []string{text}, texts[:at])
	}
	for at := range first.Tasks {
		needs := first.Tasks[at].Needs
		for k := range needs[:cap(needs)] {
			needs[:cap(needs)][k] = 99
		}
		if rest := at + 1; !slices.EqualFunc(first.Tasks[rest:], want.Tasks[rest:], sameTask) {
			t.Errorf("%s: the Needs of %d and others are one list", what, at)
		}
	}
	for at := range first.Tasks[:cap(first.Tasks)] {
		first.Tasks[:cap(first.Tasks)][at] = impl.Task{Name: "spoilt"}
	}
	if !sameDesk(again, want) || !sameDesk(ask(), want) {
		t.Errorf("%s: it is handed out twice: %s", what, toldDesk(want))
	}
}

// Promise 21.
func TestDesksAreNewMemoryAndArgumentsStay(t *testing.T) {
	room := make([]byte, 200)
	d := laidDesk(room)
	held, whole := string(room), wholeDesk(d)
	given := append(textsOfDesk(d), laidText(room))
	asks := map[string]func() impl.Desk{
		"Lent":                  func() impl.Desk { got, _ := impl.Lent(d, 1); return got },
		"Lent to none":          func() impl.Desk { got, _ := impl.Lent(d, 4); return got },
		"Returned":              func() impl.Desk { got, _ := impl.Returned(d, 1, 1, 5); return got },
		"Returned, DkOld":       func() impl.Desk { got, _ := impl.Returned(d, 1, 2, 5); return got },
		"Returned, DkAgain":     func() impl.Desk { got, _ := impl.Returned(d, 0, 1, 5); return got },
		"Returned, DkOpen":      func() impl.Desk { got, _ := impl.Returned(d, 2, 1, 5); return got },
		"Returned, DkBad":       func() impl.Desk { got, _ := impl.Returned(d, 3, 1, 5); return got },
		"Ticked":                func() impl.Desk { got, _ := impl.Ticked(d, 5); return got },
		"Ticked by 0":           func() impl.Desk { got, _ := impl.Ticked(d, 0); return got },
		"Ticked by too much":    func() impl.Desk { got, _ := impl.Ticked(d, 1000000); return got },
		"Ticked by less than 0": func() impl.Desk { got, _ := impl.Ticked(d, -1); return got },
	}
	mustBeDesk(t, d, true)
	for range 2 {
		for what, ask := range asks {
			mustBeNewMemory(t, what, given, ask)
		}
		mustBeAllDone(t, d, false)
		if string(room) != held || !sameDesk(wholeDesk(d), whole) {
			t.Fatal("an argument, or the room behind it, was written into")
		}
	}
	// What was answered stays, though the argument is another one now.
	answers, wants := map[string]impl.Desk{}, map[string]impl.Desk{}
	for what, ask := range asks {
		answers[what] = ask()
		wants[what] = whollyCopied(answers[what])
	}
	for at := range room {
		room[at] = 'x'
	}
	for at := range d.Tasks {
		for k := range d.Tasks[at].Needs {
			d.Tasks[at].Needs[k] = 77
		}
		d.Tasks[at].State = 77
	}
	for what, got := range answers {
		if !sameDesk(got, wants[what]) {
			t.Errorf("%s: it is %s now", what, toldDesk(got))
		}
	}
	mustBeNoDesk(t, "spoilt", d)
	// What is not DeskOk stays too.
	for _, spoil := range deskSpoilers {
		wrong := threeTasks(t)
		spoil(&wrong)
		before := wholeDesk(wrong)
		mustBeNoDesk(t, "spoilt", wrong)
		if !sameDesk(wholeDesk(wrong), before) {
			t.Errorf("%s was written into", toldDesk(before))
		}
	}
}

// Promise 21, for what begins with Packages.
func TestNewDesksAreNewMemoryAndArgumentsStay(t *testing.T) {
	room := make([]byte, 1000)
	for code, list := range laidChecks(t, room) {
		journal := journalOf(started(1), entry{0, 77}, started(2))
		laid := []byte(journal + "spare room")
		given := append(textsOfProject(list), laidText(laid))
		s := given[len(given)-1][:len(journal)]
		held, before := string(room), projectCopied(list)
		imports, funcs, nodes := behind(list)
		for range 2 {
			mustBeNewMemory(t, "NewDesk", given, func() impl.Desk { d, _ := impl.NewDesk(list); return d })
			for _, cut := range []int{0, 1, 23, 24, len(s) - 1, len(s)} {
				mustBeNewMemory(t, "Reborn", given, func() impl.Desk { d, _ := impl.Reborn(list, s[:cut]); return d })
			}
			if d, is := impl.NewDesk(list); is != (code == 0) || is != (len(d.Tasks) == 2) {
				t.Errorf("of a project with Fault %d it is %s", code, toldDesk(d))
			}
		}
		importsNow, funcsNow, nodesNow := behind(list)
		if string(room) != held || string(laid) != journal+"spare room" || !slices.EqualFunc(list, before, samePackage) ||
			!slices.Equal(imports, importsNow) || !slices.EqualFunc(funcs, funcsNow, sameFunc) || !slices.Equal(nodes, nodesNow) {
			t.Errorf("%d: an argument, or the room behind it, was written into", code)
		}
		if code != 0 {
			continue
		}
		fresh, _ := impl.NewDesk(list)
		born, _ := impl.Reborn(list, s)
		wantFresh, wantBorn := whollyCopied(fresh), whollyCopied(born)
		projectOverwritten(list)
		for at := range laid {
			laid[at] = 'x'
		}
		if !sameDesk(fresh, wantFresh) || !sameDesk(born, wantBorn) {
			t.Errorf("they are %s and %s now", toldDesk(fresh), toldDesk(born))
		}
		mustBeNew(t, list, impl.Desk{}, false)
	}
}
