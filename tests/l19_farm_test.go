package tests

import (
	"fmt"
	"math"
	"regexp"
	"slices"
	"strings"
	"sync"
	"testing"
	"unsafe"

	"loop.example/g00346/impl"
)

// A ground is what stays of a World, whatever happens: its Packages, its Tasks
// as they are at first, the Object of each of them as a text, and what one
// alone makes of it.
type ground struct {
	list  []impl.Package
	tasks []impl.Task
	texts []string
	built string
}

func groundOf(list []impl.Package) ground {
	c := chance(1901)
	g := ground{list: list, tasks: tasksBy(list), built: buildingBy(&c, sourcesOf(list)).text}
	for _, task := range g.tasks {
		g.texts = append(g.texts, objectText(objectBy(&c, list[placeBy(list, task.Name)])))
	}
	return g
}

// groundIn is told as written tells.
func groundIn(t *testing.T, texts ...string) ground {
	t.Helper()
	return groundOf(written(t, texts...))
}

// threeGround has lib, mid which needs it, and main which needs both.
func threeGround(t *testing.T) ground {
	t.Helper()
	return groundIn(t, "lib: f 1 + $0 2", "main lib mid: main 1 + @lib.f/1 $0 @mid.g/1 $0", "mid lib: g 1 * 3 @lib.f/1 $0")
}

func (g ground) key(number int) int64 { return impl.Hash(g.texts[number]) }

// takes is how many bytes all Objects take.
func (g ground) takes() int64 { return int64(len(strings.Join(g.texts, ""))) }

// clashing says whether two Objects have one Key.
func (g ground) clashing() bool {
	keys := map[int64]string{}
	for _, text := range g.texts {
		if other, is := keys[impl.Hash(text)]; is && other != text {
			return true
		}
		keys[impl.Hash(text)] = text
	}
	return false
}

// newWorld is what NewWorld makes, by the document's sentences.
func (g ground) newWorld(workers int, room int64) impl.World {
	idle := impl.Worker{Job: -1, Epoch: 0}
	return impl.World{Packages: projectCopied(g.list), Desk: deskAfter(g.tasks, nil), Up: true, Store: impl.Store{Room: room}, Workers: slices.Repeat([]impl.Worker{idle}, workers)}
}

func worldCopied(w impl.World) impl.World {
	w.Packages, w.Desk = projectCopied(w.Packages), deskCopied(w.Desk)
	w.Store.Blobs, w.Workers, w.Net = slices.Clone(w.Store.Blobs), slices.Clone(w.Workers), slices.Clone(w.Net)
	return w
}

func sameWorld(a, b impl.World) bool {
	return slices.EqualFunc(a.Packages, b.Packages, samePackage) && sameDesk(a.Desk, b.Desk) && a.Up == b.Up && sameStore(a.Store, b.Store) &&
		slices.Equal(a.Workers, b.Workers) && slices.Equal(a.Net, b.Net) && a.Cell == b.Cell
}

func toldWorld(w impl.World) string {
	return fmt.Sprintf("{%s; Up %v, %s; Room %d, %.200q; %v; %d Letters, %.900q; Cell %.100q}", linesOf(w.Packages[:min(9, len(w.Packages))]), w.Up, toldDesk(w.Desk),
		w.Store.Room, fmt.Sprint(w.Store.Blobs), w.Workers[:min(9, len(w.Workers))], len(w.Net), fmt.Sprint(w.Net[:min(61, len(w.Net))]), w.Cell)
}

func storeRight(s impl.Store) bool {
	taken, last := 0, int64(-1)
	for _, b := range s.Blobs {
		if len(b.Bytes) > 20000 || b.Key != impl.Hash(b.Bytes) || b.Key <= last {
			return false
		}
		taken, last = taken+len(b.Bytes), b.Key
	}
	return isBetween(s.Room, 0, 100000) && int64(taken) <= s.Room
}

// worldRight wants the ground of these Packages.
func worldRight(g ground, w impl.World) bool {
	if len(g.tasks) == 0 || !storeRight(w.Store) || len(w.Net) > 60 || len(w.Cell) > 200000 || !isBetween(int64(len(w.Workers)), 1, 4) {
		return false
	}
	workers := alwaysOf(w.Workers, func(one impl.Worker) bool {
		return one == impl.Worker{Job: -1} || isBetween(one.Job, 0, int64(len(g.tasks))-1) && isBetween(one.Epoch, 1, 1000)
	})
	if !workers || !alwaysOf(w.Net, func(l impl.Letter) bool { return len(l.Text) <= 200 }) {
		return false
	}
	if !w.Up {
		return sameDesk(w.Desk, impl.Desk{Journal: w.Desk.Journal}) && len(w.Desk.Journal) <= 60000
	}
	return deskRight(w.Desk) && slices.EqualFunc(w.Desk.Tasks, g.tasks, func(a, b impl.Task) bool {
		return a.Name == b.Name && slices.Equal(a.Needs, b.Needs)
	})
}

func keptBy(s impl.Store, text string) (impl.Store, int64) {
	key, taken := impl.Hash(text), len(text)
	for _, b := range s.Blobs {
		switch {
		case b.Key == key && b.Bytes == text:
			return s, impl.StOk
		case b.Key == key:
			return s, impl.StClash
		}
		taken += len(b.Bytes)
	}
	if len(text) > 20000 || int64(taken) > s.Room {
		return s, impl.StFull
	}
	s.Blobs = append(slices.Clone(s.Blobs), impl.Blob{Key: key, Bytes: text})
	slices.SortFunc(s.Blobs, func(a, b impl.Blob) int { return int(a.Key - b.Key) })
	return s, impl.StOk
}

func letter(text string) impl.Letter { return impl.Letter{Text: frameBy(text)} }

func letters(texts ...string) []impl.Letter {
	list := []impl.Letter{}
	for _, text := range texts {
		list = append(list, letter(text))
	}
	return list
}

var letterForm = regexp.MustCompile(`^(ask|job|done)((?: (?:0|-?[1-9][0-9]{0,9}))+)\z`)

// letterSays is the word and the numbers, where the Letter is whole.
func letterSays(l impl.Letter) (string, []int64) {
	texts := textsBy(l.Text)
	if len(texts) != 1 || frameBy(texts[0]) != l.Text {
		return "", nil
	}
	m := letterForm.FindStringSubmatch(texts[0])
	if m == nil {
		return "", nil
	}
	numbers := []int64{}
	for _, word := range strings.Fields(m[2]) {
		numbers = append(numbers, parsed(word))
	}
	return m[1], numbers
}

// takenBy is the World once the Letter, which is in it no more, is read.
func takenBy(g ground, w impl.World, l impl.Letter) impl.World {
	word, numbers := letterSays(l)
	if word == "" || !isBetween(numbers[0], 0, int64(len(w.Workers))-1) {
		return w
	}
	switch worker := numbers[0]; fmt.Sprint(word, len(numbers)) {
	case "ask1":
		desk, number := lentBy(w.Desk, worker)
		if w.Up && number >= 0 {
			w.Desk, w.Net = desk, append(w.Net, letter(fmt.Sprintf("job %d %d %d", worker, number, w.Desk.Epoch)))
		}
	case "job3":
		if w.Workers[worker].Job == -1 && isBetween(numbers[1], 0, int64(len(g.tasks))-1) && isBetween(numbers[2], 1, 1000) {
			w.Workers[worker] = impl.Worker{Job: numbers[1], Epoch: numbers[2]}
		}
	case "done4":
		if w.Up {
			w.Desk, _ = returnedBy(w.Desk, numbers[1], numbers[2], numbers[3])
		}
	}
	return w
}

func lastFrame(journal string) int64 {
	texts := textsBy(journal)
	if len(texts) == 0 {
		return 0
	}
	return int64(16 + len(texts[len(texts)-1]))
}

// publishedBy is the empty text where nothing is published.
func publishedBy(w impl.World) string {
	if !w.Up || !allDoneBy(w.Desk) || w.Cell != "" {
		return ""
	}
	objects := []impl.Object{}
	for _, task := range w.Desk.Tasks {
		for _, b := range w.Store.Blobs {
			if o, is := objectOfText(b.Bytes); is && b.Key == task.Key {
				objects = append(objects, o)
			}
		}
	}
	if told := linkBy(objects); told.code == 0 && len(objects) == len(w.Desk.Tasks) {
		return imageText(told.image)
	}
	return ""
}

// happenBy goes by the document's sentences; it wants a right World.
func happenBy(g ground, w impl.World, a impl.Act) (impl.World, bool) {
	after := worldCopied(w)
	if is := after.Workers; isBetween(a.Kind, 1, 1) || a.Kind == 6 || a.Kind == 10 {
		if !isBetween(a.A, 0, int64(len(is))-1) {
			return after, false
		}
	}
	if isBetween(a.Kind, 2, 5) && !isBetween(a.A, 0, int64(len(w.Net))-1) {
		return after, false
	}
	room := len(w.Net) < 60
	switch a.Kind {
	case 1:
		if w.Workers[a.A].Job != -1 || !room {
			return after, false
		}
		after.Net = append(after.Net, letter(fmt.Sprintf("ask %d", a.A)))
	case 2:
		after.Net = slices.Delete(after.Net, int(a.A), int(a.A+1))
		after = takenBy(g, after, w.Net[a.A])
	case 3:
		if !room {
			return after, false
		}
		after.Net = append(after.Net, w.Net[a.A])
	case 4:
		after.Net = slices.Delete(after.Net, int(a.A), int(a.A+1))
	case 5:
		bytes := []byte(w.Net[a.A].Text)
		if w.Net[a.A].Bent || !isBetween(a.B, 0, int64(len(bytes))-1) || !isBetween(a.C, 0, 255) {
			return after, false
		}
		bytes[a.B] = byte(a.C)
		after.Net[a.A] = impl.Letter{Text: string(bytes), Bent: true}
	case 6:
		had := w.Workers[a.A]
		if had.Job == -1 {
			return after, false
		}
		store, code := keptBy(after.Store, g.texts[had.Job])
		after.Store, after.Workers[a.A] = store, impl.Worker{Job: -1}
		if code == 0 && room {
			after.Net = append(after.Net, letter(fmt.Sprintf("done %d %d %d %d", a.A, had.Job, had.Epoch, g.key(int(had.Job)))))
		}
	case 7:
		if !w.Up {
			return after, false
		}
		return after, tickInPlace(&after, a.A)
	case 8:
		if !w.Up || a.A < 0 {
			return after, false
		}
		lost := a.A
		if last := lastFrame(w.Desk.Journal); lost > last {
			lost = last
		}
		after.Up, after.Desk = false, impl.Desk{Journal: w.Desk.Journal[:len(w.Desk.Journal)-int(lost)]}
	case 9:
		if w.Up {
			return after, false
		}
		after.Up, after.Desk = true, deskAfter(g.tasks, entriesBy(g.tasks, w.Desk.Journal))
	case 10:
		if w.Workers[a.A].Job == -1 {
			return after, false
		}
		after.Workers[a.A] = impl.Worker{Job: -1}
	case 11:
		after.Cell += publishedBy(w)
		return after, after.Cell != w.Cell
	default:
		return after, false
	}
	return after, true
}

func tickInPlace(w *impl.World, n int64) bool {
	later, is := tickedBy(w.Desk, n)
	w.Desk = later
	return is
}

// calmBy tells the steps one by one.
func calmBy(g ground, w impl.World) impl.World {
	w = worldCopied(w)
	act := func(kind, number int64) { w, _ = happenBy(g, w, impl.Act{Kind: kind, A: number}) }
	w.Net = nil
	if !w.Up {
		act(9, 0)
	}
	act(7, 20)
	for worker := range w.Workers {
		w.Workers[worker] = impl.Worker{Job: -1}
	}
	for range g.tasks {
		act(1, 0)
		act(2, 0)
		if len(w.Net) > 0 {
			act(2, 0)
			act(6, 0)
		}
		if len(w.Net) > 0 {
			act(2, 0)
		}
	}
	act(11, 0)
	return w
}

func mustBeWorld(t *testing.T, why string, w impl.World, want bool) {
	t.Helper()
	for range 2 {
		if got := impl.WorldOk(w); got != want {
			t.Errorf("%s: WorldOk is %v of %s", why, got, toldWorld(w))
		}
	}
}

// mustHappen asks twice, and asks whether the argument is as it was.
func mustHappen(t *testing.T, why string, w impl.World, a impl.Act, want impl.World, did bool) {
	t.Helper()
	before := worldCopied(w)
	for range 2 {
		if got, is := impl.Happen(w, a); is != did || !sameWorld(got, want) {
			t.Errorf("%s: Happen of %+v is %v, not %v, and it is %s, not %s, of %s", why, a, is, did, toldWorld(got), toldWorld(want), toldWorld(w))
		}
	}
	if !sameWorld(w, before) {
		t.Errorf("%s: %+v wrote into %s", why, a, toldWorld(before))
	}
}

func mustHappenAsTold(t *testing.T, why string, g ground, w impl.World, a impl.Act) (impl.World, bool) {
	t.Helper()
	want, did := happenBy(g, w, a)
	mustHappen(t, why, w, a, want, did)
	return want, did
}

func mustPlay(t *testing.T, why string, w impl.World, list []impl.Act, want impl.World) {
	t.Helper()
	before, acts := worldCopied(w), slices.Clone(list)
	for range 2 {
		if got := impl.Play(w, list); !sameWorld(got, want) {
			t.Errorf("%s: Play of %d, %.500v, is %s, not %s, of %s", why, len(list), list[:min(9, len(list))], toldWorld(got), toldWorld(want), toldWorld(w))
		}
	}
	if !sameWorld(w, before) || !slices.Equal(list, acts) {
		t.Errorf("%s: Play wrote into %s", why, toldWorld(before))
	}
}

func mustCalm(t *testing.T, why string, w impl.World, want impl.World) {
	t.Helper()
	before := worldCopied(w)
	for range 2 {
		if got := impl.Calm(w); !sameWorld(got, want) {
			t.Errorf("%s: Calm is %s, not %s, of %s", why, toldWorld(got), toldWorld(want), toldWorld(w))
		}
	}
	if !sameWorld(w, before) {
		t.Errorf("%s: Calm wrote into %s", why, toldWorld(before))
	}
}

// mustBeNoWorld asks all that hangs on WorldOk.
func mustBeNoWorld(t *testing.T, why string, w impl.World) {
	t.Helper()
	mustBeWorld(t, why, w, false)
	for kind := int64(0); kind <= 12; kind++ {
		if got, did := impl.Happen(w, impl.Act{Kind: kind}); did || !sameWorld(got, impl.World{}) {
			t.Errorf("%s: Happen of Kind %d is %v, and it is %s, of %s", why, kind, did, toldWorld(got), toldWorld(w))
		}
	}
	for _, list := range [][]impl.Act{nil, {{}}, {{Kind: 7}}, {{Kind: 9}, {Kind: 1}}} {
		mustPlay(t, why, w, list, impl.World{})
	}
	mustCalm(t, why, w, impl.World{})
}

func mustMakeWorld(t *testing.T, sources []string, workers, room int64, want impl.World, is bool) {
	t.Helper()
	before := slices.Clone(sources)
	for range 2 {
		if got, made := impl.NewWorld(sources, workers, room); made != is || !sameWorld(got, want) {
			t.Errorf("NewWorld of %s, %d, %d is %v, not %v, and it is %s, not %s", toldSources(sources), workers, room, made, is, toldWorld(got), toldWorld(want))
		}
	}
	if !slices.Equal(sources, before) {
		t.Errorf("the sources %s were written into", toldSources(before))
	}
}

// A change is made in a World in place.
type change func(w *impl.World)

func changed(w impl.World, changes ...change) impl.World {
	w = worldCopied(w)
	for _, one := range changes {
		one(&w)
	}
	return w
}

func net(list ...impl.Letter) change {
	return func(w *impl.World) { w.Net = list }
}

func says(texts ...string) change { return net(letters(texts...)...) }

func crowd(many int, text string) change {
	return net(slices.Repeat(letters(text), many)...)
}

func job(worker, number, epoch int64) change {
	return func(w *impl.World) { w.Workers[worker] = impl.Worker{Job: number, Epoch: epoch} }
}

func idle(worker int64) change { return job(worker, -1, 0) }

func leased(number, worker, until int64) change {
	return func(w *impl.World) {
		task := &w.Desk.Tasks[number]
		*task = impl.Task{Name: task.Name, Needs: task.Needs, State: 1, Worker: worker, Until: until}
	}
}

// ready has it done, and nothing of that in the Journal.
func ready(number, key int64) change {
	return func(w *impl.World) {
		task := &w.Desk.Tasks[number]
		*task = impl.Task{Name: task.Name, Needs: task.Needs, State: 2, Key: key}
	}
}

func journal(text string) change {
	return func(w *impl.World) { w.Desk.Journal = text }
}

// noted has it done, and in the Journal.
func noted(number, key int64) change {
	return func(w *impl.World) {
		ready(number, key)(w)
		w.Desk.Journal += journalOf(entry{number, key})
	}
}

func now(n int64) change {
	return func(w *impl.World) { w.Desk.Now = n }
}

func epoch(n int64) change {
	return func(w *impl.World) { w.Desk.Epoch = n }
}

func down(text string) change {
	return func(w *impl.World) { w.Up, w.Desk = false, impl.Desk{Journal: text} }
}

// fallen has the Journal that was there.
func fallen(w *impl.World) { down(w.Desk.Journal)(w) }

func has(room int64, texts ...string) change {
	return func(w *impl.World) { w.Store = storeWith(room, texts...) }
}

func cell(text string) change {
	return func(w *impl.World) { w.Cell = text }
}

func TestFarmConstants(t *testing.T) {
	for want, got := range []int64{0, impl.AcAsk, impl.AcTake, impl.AcTwice, impl.AcLose, impl.AcBend, impl.AcWork, impl.AcTick, impl.AcFall, impl.AcRise, impl.AcDrop, impl.AcPublish} {
		if got != int64(want) {
			t.Errorf("%d is %d", want, got)
		}
	}
}

// rightChanges leave a World of threeGround right, where it was new.
func rightChanges(g ground) map[string][]change {
	text := func(length int) string { return strings.Repeat("\xff", length) }
	changes := map[string][]change{
		"new": nil, "no Letters, a list": {net([]impl.Letter{}...)}, "60 Letters": {crowd(60, "ask 0")}, "59 Letters": {crowd(59, "x")},
		"a Letter of 200 bytes":      {net(impl.Letter{Text: text(200)})},
		"a Letter of 200, Bent":      {net(letter("ask 1"), impl.Letter{Text: text(200), Bent: true})},
		"60 Letters of 200":          {net(slices.Repeat([]impl.Letter{{Text: text(200)}}, 60)...)},
		"the empty Letter":           {net(impl.Letter{})},
		"a whole Letter, Bent":       {net(impl.Letter{Text: frameBy("ask 1"), Bent: true})},
		"a Letter that is not Bent":  {net(impl.Letter{Text: "x"})},
		"a Cell of 200000 bytes":     {cell(text(200000))},
		"a Cell of something":        {cell("x")},
		"a Cell of what is Built":    {cell(g.built)},
		"no Room":                    {has(0)},
		"all Room there may be":      {has(100000)},
		"a Blob in all Room":         {has(3, "abc")},
		"Blobs of others":            {has(100, "abc", "de", "")},
		"Blobs of its own":           {has(g.takes(), g.texts...)},
		"a Blob of 20000 bytes":      {has(20000, text(20000))},
		"one Worker":                 {func(w *impl.World) { w.Workers = w.Workers[:1] }},
		"a Job":                      {job(0, 0, 1)},
		"the last Job":               {job(2, 2, 1000)},
		"one Job for all":            {job(0, 1, 1), job(1, 1, 1), job(2, 1, 999)},
		"a Job of another Epoch":     {job(0, 1, 7), epoch(3)},
		"a Job of one that is done":  {job(0, 0, 1), ready(0, 5)},
		"leased":                     {leased(0, 3, 5)},
		"leased, at all bounds":      {leased(0, 0, 0), leased(1, 3, 1000000), leased(2, 1, 7)},
		"done, at all bounds":        {ready(0, 0), ready(1, 2147483646)},
		"the last done alone":        {ready(2, 5)},
		"all done, with no Objects":  {ready(0, 1), ready(1, 2), ready(2, 3)},
		"Now at the end":             {now(1000000)},
		"the last Epoch":             {epoch(1000)},
		"no Journal":                 {journal("")},
		"a Journal of 60000":         {journal(text(60000))},
		"a Journal of another":       {journal(journalOf(started(9)))},
		"down":                       {fallen},
		"down, no Journal":           {down("")},
		"down, a Journal of nothing": {down("x")},
		"down, a Journal of 60000":   {down(text(60000))},
		"down, a Job":                {fallen, job(1, 2, 1000), crowd(60, "job 0 0 1"), cell("x"), has(5, "abc")},
	}
	for many := 1; many <= 4; many++ {
		changes[fmt.Sprint("Workers ", many)] = []change{func(w *impl.World) { w.Workers = slices.Repeat([]impl.Worker{{Job: -1}}, many) }}
	}
	return changes
}

func TestWorldOkOfRightOnes(t *testing.T) {
	g := threeGround(t)
	for why, changes := range rightChanges(g) {
		w := changed(g.newWorld(3, 9000), changes...)
		mustBeWorld(t, why, w, true)
		if !worldRight(g, w) {
			t.Errorf("%s: the tests say it is not right", why)
		}
	}
	// Of any project that is Built, also of main alone, and of 8.
	for _, texts := range [][]string{
		{"main: main 1 $0"}, {"main: f 0 1; main 1 @main.f/0"}, {"far main: f 0 1", "main: main 1 1"}, {"a: f 0 1", "b a: f 0 1", "c b: f 0 1", "d c: f 0 1", "e d: f 0 1", "f e: f 0 1", "g f: f 0 1", "main g: main 1 $0"},
	} {
		one := groundIn(t, texts...)
		w := one.newWorld(1, 0)
		mustBeWorld(t, texts[0], w, true)
		mustBeWorld(t, texts[0], changed(w, job(0, int64(len(one.tasks))-1, 1), fallen), true)
		mustBeNoWorld(t, texts[0], changed(w, job(0, int64(len(one.tasks)), 1)))
		mustBeNoWorld(t, texts[0], changed(w, job(0, int64(len(one.tasks)), 1), fallen))
	}
}

// worldSpoilers make what is no World of a new one of threeGround, each by one
// thing alone.
func worldSpoilers(t *testing.T) map[string][]change {
	text := func(length int) string { return strings.Repeat("\xff", length) }
	packages := func(list []impl.Package) change {
		return func(w *impl.World) { w.Packages = list }
	}
	again := threeGround(t).list
	oneOff := slices.Clone(again)
	slices.Reverse(oneOff)
	return map[string][]change{
		"no Packages":             {packages(nil)},
		"no Packages, down":       {packages(nil), fallen},
		"Packages the wrong way":  {packages(oneOff)},
		"the same, down":          {packages(oneOff), fallen},
		"a Package twice":         {packages(append(again[:2:2], again[1:]...)), fallen},
		"9 Packages":              {packages(append(project("a", "b", "c", "d", "e", "f"), again...)), fallen},
		"a Package less":          {packages(again[:2]), fallen},
		"a zero Package":          {packages([]impl.Package{{}, again[0], again[1], again[2]}), fallen},
		"other Packages":          {packages(written(t, "lib: f 1 1", "main lib: main 1 1"))},
		"the Tasks the other way": {packages(written(t, "lib mid: f 1 1", "main lib mid: main 1 1", "mid: g 1 1"))},
		"other Imports":           {packages(written(t, "lib: f 1 1", "main mid: main 1 1", "mid lib: g 1 1"))},
		"fewer Imports":           {packages(written(t, "lib: f 1 1", "main lib mid: main 1 1", "mid: g 1 1"))},

		"up, with no Desk":             {down(journalOf(started(1))), func(w *impl.World) { w.Up = true }},
		"up, with the zero Desk":       {down(""), func(w *impl.World) { w.Up = true }},
		"a Task less":                  {func(w *impl.World) { w.Desk.Tasks = w.Desk.Tasks[:2] }},
		"a Task more":                  {func(w *impl.World) { w.Desk.Tasks = append(w.Desk.Tasks, impl.Task{Name: "more"}) }},
		"another Name at first":        {func(w *impl.World) { w.Desk.Tasks[0].Name = "other" }},
		"another Name at last":         {func(w *impl.World) { w.Desk.Tasks[2].Name = "other" }},
		"Needs that are too few":       {func(w *impl.World) { w.Desk.Tasks[1].Needs = nil }},
		"Needs that are too few, last": {func(w *impl.World) { w.Desk.Tasks[2].Needs = []int64{1} }},
		"Needs, too few of the last":   {func(w *impl.World) { w.Desk.Tasks[2].Needs = []int64{0} }},
		"Tasks the wrong way":          {func(w *impl.World) { w.Desk = manyTasks(3) }},
		"Names the other way": {func(w *impl.World) {
			w.Desk.Tasks[0].Name, w.Desk.Tasks[1].Name = w.Desk.Tasks[1].Name, w.Desk.Tasks[0].Name
		}},
		"not up, with a Desk":          {func(w *impl.World) { w.Up = false }},
		"not up, Tasks":                {fallen, func(w *impl.World) { w.Desk.Tasks = []impl.Task{{Name: "lib"}} }},
		"not up, a zero Task":          {fallen, func(w *impl.World) { w.Desk.Tasks = make([]impl.Task, 1) }},
		"not up, an Epoch":             {fallen, epoch(1)},
		"not up, an Epoch below 0":     {fallen, epoch(-1)},
		"not up, Now":                  {fallen, now(1)},
		"not up, Now below 0":          {fallen, now(-1)},
		"not up, a Journal of 60001":   {down(text(60001))},
		"no Worker":                    {func(w *impl.World) { w.Workers = nil }},
		"no Worker, a list":            {func(w *impl.World) { w.Workers = w.Workers[:0] }},
		"5 Workers":                    {func(w *impl.World) { w.Workers = slices.Repeat([]impl.Worker{{Job: -1}}, 5) }},
		"a million Workers":            {func(w *impl.World) { w.Workers = slices.Repeat([]impl.Worker{{Job: -1}}, 1000000) }},
		"a zero Worker":                {job(0, 0, 0)},
		"a zero Worker at last":        {job(2, 0, 0)},
		"a Job past the last":          {job(1, 3, 1)},
		"a Job past the last, down":    {job(1, 3, 1), fallen},
		"a Job of 2^32":                {job(1, 1<<32, 1)},
		"the greatest Job":             {job(1, math.MaxInt64, 1)},
		"a Job of -2":                  {job(1, -2, 1)},
		"a Job of -2, no Epoch":        {job(1, -2, 0)},
		"the least Job":                {job(1, math.MinInt64, 1)},
		"no Job, an Epoch":             {job(1, -1, 1)},
		"no Job, an Epoch below 0":     {job(1, -1, -1)},
		"a Job, an Epoch below 0":      {job(1, 0, -1)},
		"a Job, an Epoch past the end": {job(1, 0, 1001)},
		"a Job, the greatest Epoch":    {job(1, 0, math.MaxInt64)},
		"a Letter of 201 bytes":        {net(impl.Letter{Text: text(201)})},
		"a Letter of 201 bytes, Bent":  {net(impl.Letter{Text: text(201), Bent: true})},
		"a Letter of 201 at last":      {net(append(slices.Repeat(letters("ask 0"), 59), impl.Letter{Text: text(201)})...)},
		"a Letter of 2^20 bytes":       {net(letter("x"), impl.Letter{Text: text(1 << 20)}, letter("y"))},
		"61 Letters":                   {crowd(61, "ask 0")},
		"61 empty Letters":             {net(make([]impl.Letter, 61)...)},
		"a million Letters":            {net(make([]impl.Letter, 1000000)...)},
		"a Cell of 200001 bytes":       {cell(text(200001))},
		"a Cell of 2^21 bytes":         {cell(text(1 << 21))},
	}
}

func TestWorldOkOfWrongOnes(t *testing.T) {
	mustBeNoWorld(t, "the zero World", impl.World{})
	g := threeGround(t)
	base := g.newWorld(3, 9000)
	for why, changes := range worldSpoilers(t) {
		mustBeNoWorld(t, why, changed(base, changes...))
	}
	for why, spoil := range deskSpoilers {
		w := worldCopied(base)
		w.Desk = threeTasks(t)
		mustBeWorld(t, "threeTasks", w, true)
		spoil(&w.Desk)
		mustBeNoWorld(t, "the Desk: "+why, w)
		w.Up = false
		mustBeNoWorld(t, "the Desk, not up: "+why, w)
	}
	for why, s := range wrongStores() {
		for _, changes := range [][]change{nil, {fallen}} {
			w := changed(base, changes...)
			w.Store = s
			mustBeNoWorld(t, "the Store: "+why, w)
		}
	}
	// With each Fault, and with Tasks as they would be without.
	for _, f := range faulty {
		list := written(t, f.texts...)
		w := worldCopied(base)
		w.Packages = list
		mustBeNoWorld(t, "a Fault", w)
		mustBeNoWorld(t, "a Fault, down", changed(w, fallen))
	}
	for why, spoil := range spoilers {
		for at := range 3 {
			w := changed(base, fallen)
			spoil(&w.Packages[at])
			mustBeNoWorld(t, "a Package: "+why, w)
		}
	}
}

// Where code may have 5 Ins at most, an Object may be zero: then it is not
// Built.
func TestWorldsOfWhatIsTooLong(t *testing.T) {
	told := changedProgram(t, "l13_code.go", "const MaxCode = 200", "const MaxCode = 5", `
	list, _ := impl.Sorted(os.Args[1:])
	w := impl.World{Packages: list, Workers: []impl.Worker{{Job: -1}}}
	down := impl.WorldOk(w)
	w.Desk, w.Up = impl.Desk{Epoch: 1}, true
	for at, name := range impl.Parts(list) {
		needs := []int64{}
		if at > 0 {
			needs = append(needs, 0)
		}
		w.Desk.Tasks = append(w.Desk.Tasks, impl.Task{Name: name, Needs: needs})
	}
	made, is := impl.NewWorld(os.Args[1:], 1, 9)
	fmt.Print(down, impl.WorldOk(w), is, len(made.Packages), len(made.Desk.Tasks), len(made.Workers), made.Up, made.Store.Room)`)
	for _, one := range []struct {
		want  string
		texts []string
	}{
		{"true true true 1 1 1 true 9", []string{"main: f 3 $0; main 1 @main.f/3 $0 1 2"}},
		{"false false false 0 0 0 false 0", []string{"main: f 3 $0; main 1 @main.f/3 $0 1 / 2 $0"}},
		{"true true true 2 2 1 true 9", []string{"lib: f 1 $0", "main lib: main 1 @lib.f/1 $0"}},
		{"false false false 0 0 0 false 0", []string{"lib: f 1 ? $0 1 2", "main lib: main 1 @lib.f/1 $0"}},
		{"false false false 0 0 0 false 0", []string{"lib: f 1 $0", "main lib: main 1 ? $0 1 2"}},
		{"true true true 2 1 1 true 9", []string{"far: f 1 ? $0 1 2", "main: main 1 $0"}},
	} {
		if got := told(sourcesIn(t, one.texts...)); got != one.want {
			t.Errorf("%q is told, not %q, of %q", got, one.want, one.texts)
		}
	}
}

func TestNewWorldByHand(t *testing.T) {
	sources := []string{"package main\nimport lib\nimport mid\nfunc main 1 + @lib.f/1 $0 @mid.g/1 $0\n", "package far\nimport main\nfunc f 0 1\n", "package mid\nimport lib\nfunc g 1 * 3 @lib.f/1 $0\n", "package lib\nfunc f 1 + $0 2\n"}
	list := written(t, "far main: f 0 1", "lib: f 1 + $0 2", "main lib mid: main 1 + @lib.f/1 $0 @mid.g/1 $0", "mid lib: g 1 * 3 @lib.f/1 $0")
	desk := deskIn(t, "lib: open", "mid 0: open", "main 0 1: open")
	none := impl.Worker{Job: -1, Epoch: 0}
	orders(nil, sources, func(ordered []string) {
		mustMakeWorld(t, ordered, 2, 77, impl.World{Packages: list, Desk: desk, Up: true, Store: impl.Store{Room: 77}, Workers: []impl.Worker{none, none}}, true)
	})
	for workers, is := range map[int64]bool{1: true, 2: true, 3: true, 4: true, 5: false, 0: false, -1: false, 1 << 32: false, 1<<32 + 1: false, math.MaxInt64: false, math.MinInt64: false} {
		for room, fits := range map[int64]bool{0: true, 1: true, 99999: true, 100000: true, 100001: false, -1: false, 1 << 32: false, math.MaxInt64: false, math.MinInt64: false} {
			want := impl.World{}
			if is && fits {
				want = impl.World{Packages: list, Desk: desk, Up: true, Store: impl.Store{Room: room}, Workers: slices.Repeat([]impl.Worker{none}, int(workers))}
			}
			mustMakeWorld(t, sources, workers, room, want, is && fits)
		}
	}
	alone := impl.World{Packages: written(t, "main: main 1 $0"), Desk: deskIn(t, "main: open"), Up: true, Workers: []impl.Worker{none}}
	mustMakeWorld(t, []string{"package main\nfunc main 1 $0\n"}, 1, 0, alone, true)
}

func TestNewWorldWhereNothingIsBuilt(t *testing.T) {
	for _, f := range faulty {
		mustMakeWorld(t, sourcesIn(t, f.texts...), 1, 100, impl.World{}, false)
	}
	main := "package main\nfunc main 1 $0\n"
	for _, wrong := range unreadable {
		mustMakeWorld(t, []string{wrong}, 1, 100, impl.World{}, false)
		mustMakeWorld(t, []string{main, wrong}, 1, 100, impl.World{}, false)
		mustMakeWorld(t, []string{wrong, main}, 4, 100, impl.World{}, false)
	}
	mustMakeWorld(t, nil, 1, 100, impl.World{}, false)
	mustMakeWorld(t, []string{main, main}, 1, 100, impl.World{}, false)
	eight := append(oneEach("a", "b", "c", "d", "e", "f", "g"), main)
	mustMakeWorld(t, eight, 1, 100, groundIn(t, "a: f 0 1", "b: f 0 1", "c: f 0 1", "d: f 0 1", "e: f 0 1", "f: f 0 1", "g: f 0 1", "main: main 1 $0").newWorld(1, 100), true)
	mustMakeWorld(t, append(oneEach("h"), eight...), 1, 100, impl.World{}, false)
	mustMakeWorld(t, slices.Repeat([]string{main}, 1000000), 1, 100, impl.World{}, false)
	mustMakeWorld(t, []string{strings.Repeat(main, 30000)}, 1, 100, impl.World{}, false)
}

func TestNewWorldOfManyProjects(t *testing.T) {
	c, made := chance(431), 0
	for i := range 300 {
		list := mainOfChosen(&c)
		if i%3 == 0 {
			list = rightProject(&c, 1+c.below(8))
		}
		for range i % 2 {
			mistaken(&c, list)
		}
		g, workers, room := groundOf(list), 1+c.below(4), int64(c.below(100001))
		want := impl.World{}
		if len(g.tasks) > 0 {
			made++
			want = g.newWorld(workers, room)
		}
		mustMakeWorld(t, sourcesShuffled(&c, sourcesOf(list)), int64(workers), room, want, len(g.tasks) > 0)
		if impl.WorldOk(want) != (len(g.tasks) > 0) {
			t.Errorf("WorldOk of %s", toldWorld(want))
		}
	}
	if made < 100 || made > 250 {
		t.Errorf("%d were made", made)
	}
}

// A happening is an Act in a World of threeGround with 3 Workers and Room for
// all; nothing is done where then is nil.
type happening struct {
	act  impl.Act
	had  []change
	then []change
}

func act(kind int64, numbers ...int64) impl.Act {
	all := append(numbers, 0, 0, 0)
	return impl.Act{Kind: kind, A: all[0], B: all[1], C: all[2]}
}

// mustComeAbout holds each against the tests' own telling too.
func mustComeAbout(t *testing.T, list []happening) {
	t.Helper()
	g := threeGround(t)
	for at, one := range list {
		had := changed(g.newWorld(3, 9000), one.had...)
		why, then := fmt.Sprint("number ", at), changed(had, one.then...)
		if !worldRight(g, had) || !worldRight(g, then) {
			t.Fatalf("%s: %+v has a World that is not right: %s", why, one.act, toldWorld(had))
		}
		mustHappen(t, why, had, one.act, then, one.then != nil)
		mustHappenAsTold(t, why, g, had, one.act)
		mustBeWorld(t, why, then, true)
	}
}

var goes = []change{says()}

// notOf are numbers of which none is that of one of so many.
func notOf(many int64) []int64 {
	return []int64{many, many + 1, -1, -2, 1 << 32, 1<<32 + 1, math.MaxInt64, math.MinInt64}
}

func TestHappenOfOtherKinds(t *testing.T) {
	list := []happening{}
	for _, kind := range []int64{0, 12, 13, -1, -11, 256 + 7, 1 << 32, 1<<32 + 7, math.MaxInt64, math.MinInt64} {
		for _, had := range [][]change{nil, {fallen}, {says("ask 0"), job(1, 0, 1)}} {
			list = append(list, happening{act(kind), had, nil}, happening{act(kind, 1, 1, 1), had, nil})
		}
	}
	mustComeAbout(t, list)
}

func TestHappenAsk(t *testing.T) {
	list := []happening{
		{act(1, 0), nil, []change{says("ask 0")}},
		{act(1, 1), nil, []change{says("ask 1")}},
		{act(1, 2), nil, []change{says("ask 2")}},
		{impl.Act{Kind: 1, A: 2, B: -7, C: math.MaxInt64}, nil, []change{says("ask 2")}},
		{act(1, 1), []change{says("x", "ask 0")}, []change{says("x", "ask 0", "ask 1")}},
		{act(1, 1), []change{says("ask 1")}, []change{says("ask 1", "ask 1")}},
		{act(1, 1), []change{fallen}, []change{says("ask 1")}},
		{act(1, 1), []change{job(0, 0, 1), job(2, 0, 1)}, []change{says("ask 1")}},
		{act(1, 1), []change{crowd(59, "x")}, []change{net(append(slices.Repeat(letters("x"), 59), letter("ask 1"))...)}},
		{act(1, 1), []change{crowd(60, "x")}, nil},
		{act(1, 1), []change{job(1, 0, 1)}, nil},
		{act(1, 2), []change{job(2, 2, 1000)}, nil},
		{act(1, 1), []change{job(1, 0, 1), fallen}, nil},
	}
	for _, n := range notOf(3) {
		list = append(list, happening{act(1, n), nil, nil})
	}
	mustComeAbout(t, list)
	if frame := letter("ask 2").Text; frame != "000000050f1a3f55ask 2" {
		t.Errorf("it is Framed %q", frame)
	}
}

func TestHappenTakeAsk(t *testing.T) {
	list := []happening{
		{act(2), []change{says("ask 1")}, []change{says("job 1 0 1"), leased(0, 1, 10)}},
		{act(2), []change{says("ask 0"), now(5), epoch(7)}, []change{says("job 0 0 7"), leased(0, 0, 15)}},
		{act(2), []change{says("ask 2"), now(999995), ready(0, 5)}, []change{says("job 2 1 1"), leased(1, 2, 1000000)}},
		{act(2), []change{says("ask 2"), ready(0, 5), ready(1, 6)}, []change{says("job 2 2 1"), leased(2, 2, 10)}},
		{act(2), []change{says("ask 2"), leased(0, 1, 10), now(10)}, []change{says("job 2 0 1"), leased(0, 2, 20)}},
		// What is sent for it comes at the end, and there is always room for it.
		{act(2), []change{says("ask 1", "x", "y")}, []change{says("x", "y", "job 1 0 1"), leased(0, 1, 10)}},
		{act(2, 1), []change{says("x", "ask 1", "y")}, []change{says("x", "y", "job 1 0 1"), leased(0, 1, 10)}},
		{act(2, 2), []change{says("x", "y", "ask 1")}, []change{says("x", "y", "job 1 0 1"), leased(0, 1, 10)}},
		{act(2, 59), []change{net(append(slices.Repeat(letters("x"), 59), letter("ask 1"))...)}, []change{net(append(slices.Repeat(letters("x"), 59), letter("job 1 0 1"))...), leased(0, 1, 10)}},
		{act(2), []change{net(append(letters("ask 1"), slices.Repeat(letters("x"), 59)...)...)}, []change{net(append(slices.Repeat(letters("x"), 59), letter("job 1 0 1"))...), leased(0, 1, 10)}},
		// A Worker who has a Job is Lent to as well, as the Letter is late.
		{act(2), []change{says("ask 1"), job(1, 2, 5)}, []change{says("job 1 0 1"), leased(0, 1, 10)}},
		// Nothing is left, or it is not up.
		{act(2), []change{says("ask 1"), leased(0, 0, 10), now(9)}, goes},
		{act(2), []change{says("ask 1"), ready(0, 5), leased(1, 0, 1)}, goes},
		{act(2), []change{says("ask 1"), ready(0, 5), ready(1, 6), ready(2, 7)}, goes},
		{act(2), []change{says("ask 1"), fallen}, goes},
		{act(2, 1), []change{says("x", "ask 1", "y"), fallen}, []change{says("x", "y")}},
	}
	for _, text := range []string{
		"ask 3", "ask 4", "ask -1", "ask -0", "ask 01", "ask 00", "ask +1", "ask 1.0", "ask one", "ask 0x1", "ask", "ask ", "ask 1 ", " ask 1", "ask  1", "ask 1 1", "ask 1 0 1", "ask 1 0 1 5", "ASK 1", "asks 1", "as 1", "ask1", "ask\t1", "ask 1\n",
		"ask 4294967296", "ask 4294967297", "ask 11111111111", "ask 18446744073709551617", "ask\x001", "1", "1 ask", "", " ", "x", "lent 1", "done 1", "job 1",
	} {
		list = append(list, happening{act(2), []change{says(text)}, goes}, happening{act(2, 1), []change{says("y", text, "z")}, []change{says("y", "z")}})
	}
	mustComeAbout(t, list)
}

func TestHappenTakeJob(t *testing.T) {
	list := []happening{
		{act(2), []change{says("job 1 0 1")}, []change{says(), job(1, 0, 1)}},
		{act(2), []change{says("job 0 2 1000")}, []change{says(), job(0, 2, 1000)}},
		{act(2), []change{says("job 2 1 7"), epoch(3), leased(1, 0, 5)}, []change{says(), job(2, 1, 7)}},
		{act(2, 1), []change{says("x", "job 2 1 7", "y")}, []change{says("x", "y"), job(2, 1, 7)}},
		{act(2), []change{says("job 1 0 1"), fallen}, []change{says(), job(1, 0, 1)}},
		{act(2), []change{says("job 1 0 1"), job(0, 0, 1)}, []change{says(), job(1, 0, 1)}},
		{act(2), []change{says("job 1 0 1"), ready(0, 5)}, []change{says(), job(1, 0, 1)}},
		{act(2), []change{crowd(60, "job 1 0 1")}, []change{crowd(59, "job 1 0 1"), job(1, 0, 1)}},
		// The Worker has one, though it is the same one.
		{act(2), []change{says("job 1 0 1"), job(1, 0, 1)}, goes},
		{act(2), []change{says("job 1 0 2"), job(1, 2, 1)}, goes},
		{act(2), []change{says("job 1 0 1"), job(1, 2, 1), fallen}, goes},
	}
	for _, text := range []string{
		"job 3 0 1", "job -1 0 1", "job 4294967297 0 1", "job 1 3 1", "job 1 -1 1", "job 1 4294967296 1", "job 1 9999999999 1", "job 1 0 0", "job 1 0 -1", "job 1 0 1001", "job 1 0 4294967297", "job 1 0 9999999999", "job 1 -1 0",
		"job 1 0", "job 1", "job", "job 1 0 1 1", "job 1 0 1 5 5", "job 1 0 1 ", "job  1 0 1", "job 1 0  1", " job 1 0 1", "job 01 0 1", "job 1 00 1", "job 1 0 01", "job 1 0 +1", "job x 0 1", "job 1 x 1", "job 1 0 x", "job 1 0 1\n", "Job 1 0 1", "jobs 1 0 1", "1 0 1", "ask 1 0 1", "done 1 0 1", "job 1 0 11111111111",
	} {
		list = append(list, happening{act(2), []change{says(text)}, goes}, happening{act(2), []change{says(text), fallen}, goes})
	}
	mustComeAbout(t, list)
}

func TestHappenTakeDone(t *testing.T) {
	list := []happening{
		{act(2), []change{says("done 1 0 1 77"), leased(0, 1, 10)}, []change{says(), noted(0, 77)}},
		{act(2), []change{says("done 0 0 1 0")}, []change{says(), noted(0, 0)}},
		{act(2), []change{says("done 2 0 1 2147483646"), leased(0, 1, 10), now(500)}, []change{says(), noted(0, 2147483646)}},
		{act(2), []change{says("done 1 1 9 5"), epoch(9), ready(0, 3)}, []change{says(), noted(1, 5)}},
		{act(2), []change{says("done 1 2 1 5"), ready(0, 3), ready(1, 4), journal("")}, []change{says(), noted(2, 5)}},
		{act(2), []change{says("done 1 0 1 77"), job(1, 2, 3), cell("x")}, []change{says(), noted(0, 77)}},
		{act(2, 1), []change{says("x", "done 1 0 1 77", "done 1 0 1 77")}, []change{says("x", "done 1 0 1 77"), noted(0, 77)}},
		// There is room for it in the Journal, or it is lost.
		{act(2), []change{says("done 1 0 1 77"), journal(strings.Repeat("x", 60000-25))}, []change{says(), noted(0, 77)}},
		{act(2), []change{says("done 1 0 1 77"), journal(strings.Repeat("x", 60000-24))}, goes},
		{act(2), []change{says("done 1 0 1 77"), journal(strings.Repeat("x", 60000))}, goes},
		// Of another Epoch, done, ahead of what it needs, not up.
		{act(2), []change{says("done 1 0 2 77")}, goes},
		{act(2), []change{says("done 1 0 0 77")}, goes},
		{act(2), []change{says("done 1 0 -1 77")}, goes},
		{act(2), []change{says("done 1 0 1001 77")}, goes},
		{act(2), []change{says("done 1 0 1 77"), epoch(2)}, goes},
		{act(2), []change{says("done 1 0 1 77"), ready(0, 5)}, goes},
		{act(2), []change{says("done 1 0 1 77"), ready(0, 77)}, goes},
		{act(2), []change{says("done 1 1 1 77")}, goes},
		{act(2), []change{says("done 1 2 1 77"), ready(0, 5)}, goes},
		{act(2), []change{says("done 1 0 1 77"), fallen}, goes},
	}
	for _, text := range []string{
		"done 3 0 1 77", "done -1 0 1 77", "done 1 3 1 77", "done 1 -1 1 77", "done 1 0 1 -1", "done 1 0 1 2147483647", "done 1 0 1 9999999999", "done 1 0 1", "done 0 1 77", "done", "done 1", "done 1 0 1 77 1", "done 1 0 1 77 ", "done  1 0 1 77",
		"done 1 0 1 077", "done 01 0 1 77", "done 1 00 1 77", "done 1 0 01 77", "done 1 0 1 x", "done x 0 1 77", "done 1 x 1 77", "done 1 0 x 77", "done 1 0 1 77\n", "Done 1 0 1 77", "1 0 1 77", "job 1 0 1 77", "ask 1 0 1 77", "done 1 0 1 11111111111", "start 2", "done 1 4294967296 1 77", "done 4294967297 0 1 77",
	} {
		list = append(list, happening{act(2), []change{says(text)}, goes}, happening{act(2), []change{says(text), fallen}, goes})
	}
	mustComeAbout(t, list)
}

// Letters that are not whole just go.
func TestHappenTakeOfWhatIsNotWhole(t *testing.T) {
	list := []happening{}
	for _, text := range []string{"ask 1", "job 1 0 1", "done 1 0 1 77"} {
		frame := frameBy(text)
		for at := range frame {
			list = append(list, happening{act(2), []change{net(impl.Letter{Text: frame[:at]})}, goes})
			for _, to := range []byte{frame[at] ^ 1, frame[at] ^ 128, ' ', '0', '2', 0, 255} {
				if bent := impl.Turned(frame, int64(at), int64(to)); bent != frame {
					list = append(list, happening{act(2), []change{net(impl.Letter{Text: bent, Bent: true})}, goes}, happening{act(2), []change{net(impl.Letter{Text: bent})}, goes})
				}
			}
		}
		for _, other := range []string{text, frame + "x", frame + frame, frame + frameBy("x"), "x" + frame, frameBy(frame), strings.ToUpper(frame), text + frame, frame[:16] + text + " ", frame + "\n", strings.Repeat("0", 200), strings.Repeat(frame, 20)[:200]} {
			list = append(list, happening{act(2), []change{net(impl.Letter{Text: other})}, goes})
		}
	}
	// What is whole is read, Bent or not: it may have been Turned to what it was.
	list = append(list,
		happening{act(2), []change{net(impl.Letter{Text: frameBy("ask 1"), Bent: true})}, []change{says("job 1 0 1"), leased(0, 1, 10)}},
		happening{act(2), []change{net(impl.Letter{Text: frameBy("job 1 0 1"), Bent: true})}, []change{says(), job(1, 0, 1)}},
		happening{act(2), []change{net(impl.Letter{Text: frameBy("done 1 0 1 77"), Bent: true})}, []change{says(), noted(0, 77)}},
	)
	for _, n := range notOf(0) {
		list = append(list, happening{act(2, n), nil, nil})
	}
	for _, n := range notOf(2) {
		list = append(list, happening{act(2, n), []change{says("ask 1", "ask 2")}, nil})
	}
	mustComeAbout(t, list)
}

func TestHappenTwiceAndLose(t *testing.T) {
	one, bent := letter("ask 1"), impl.Letter{Text: "x", Bent: true}
	list := []happening{
		{act(3), []change{net(one)}, []change{net(one, one)}},
		{act(3), []change{net(bent, one)}, []change{net(bent, one, bent)}},
		{act(3, 1), []change{net(bent, one)}, []change{net(bent, one, one)}},
		{act(3, 1), []change{net(one, bent, letter("y")), fallen}, []change{net(one, bent, letter("y"), bent)}},
		{act(3), []change{net(impl.Letter{})}, []change{net(impl.Letter{}, impl.Letter{})}},
		{act(3, 58), []change{crowd(59, "x")}, []change{crowd(60, "x")}},
		{act(3, 0), []change{net(append([]impl.Letter{bent}, slices.Repeat(letters("x"), 58)...)...)}, []change{net(append(append([]impl.Letter{bent}, slices.Repeat(letters("x"), 58)...), bent)...)}},
		{act(3), []change{crowd(60, "x")}, nil},
		{act(3, 59), []change{crowd(60, "x")}, nil},
		{impl.Act{Kind: 3, B: 7, C: -7}, []change{net(one)}, []change{net(one, one)}},
		{act(4), []change{net(one)}, goes},
		{act(4), []change{net(one, bent)}, []change{net(bent)}},
		{act(4, 1), []change{net(one, bent)}, []change{net(one)}},
		{act(4, 1), []change{net(one, bent, letter("y")), fallen}, []change{net(one, letter("y"))}},
		{act(4, 59), []change{crowd(60, "x")}, []change{crowd(59, "x")}},
		{impl.Act{Kind: 4, A: 1, B: 7, C: -7}, []change{net(one, bent)}, []change{net(one)}},
	}
	for _, kind := range []int64{3, 4} {
		for _, n := range notOf(0) {
			list = append(list, happening{act(kind, n), nil, nil})
		}
		for _, n := range notOf(2) {
			list = append(list, happening{act(kind, n), []change{net(one, bent)}, nil})
		}
	}
	mustComeAbout(t, list)
}

func TestHappenBend(t *testing.T) {
	text := func(text string) change { return net(impl.Letter{Text: text}) }
	bent := func(text string) []change { return []change{net(impl.Letter{Text: text, Bent: true})} }
	list := []happening{
		{act(5, 0, 0, 'x'), []change{text("abc")}, bent("xbc")},
		{act(5, 0, 1, 'x'), []change{text("abc")}, bent("axc")},
		{act(5, 0, 2, 'x'), []change{text("abc"), fallen}, bent("abx")},
		{act(5, 0, 1, 0), []change{text("abc")}, bent("a\x00c")},
		{act(5, 0, 1, 255), []change{text("abc")}, bent("a\xffc")},
		{act(5, 0, 199, 10), []change{text(strings.Repeat("y", 200))}, bent(strings.Repeat("y", 199) + "\n")},
		// To what it was: it is Bent all the same.
		{act(5, 0, 1, 'b'), []change{text("abc")}, bent("abc")},
		{act(5, 1, 0, 'x'), []change{says("a", "b", "c")}, []change{net(letter("a"), impl.Letter{Text: "x" + frameBy("b")[1:], Bent: true}, letter("c"))}},
		// Twice is once.
		{act(5, 0, 1, 'x'), bent("abc"), nil},
		{act(5, 0, 1, 'b'), bent("abc"), nil},
		{act(5, 1, 0, 'x'), []change{net(impl.Letter{Text: "a", Bent: true}, impl.Letter{Text: "b"})}, []change{net(impl.Letter{Text: "a", Bent: true}, impl.Letter{Text: "x", Bent: true})}},
		{act(5, 0, 0, 'x'), []change{text("")}, nil},
		{act(5, 0, 0, 'x'), nil, nil},
	}
	for _, n := range notOf(3) {
		list = append(list, happening{act(5, 0, n, 'x'), []change{text("abc")}, nil})
	}
	for _, n := range notOf(256) {
		list = append(list, happening{act(5, 0, 0, n), []change{text("abc")}, nil})
	}
	for _, n := range notOf(2) {
		list = append(list, happening{act(5, n, 0, 'x'), []change{says("a", "b")}, nil})
	}
	mustComeAbout(t, list)
	// Bent anywhere it is no Letter any more, and goes.
	g := threeGround(t)
	w := changed(g.newWorld(2, 9000), says("ask 1"))
	for at := range w.Net[0].Text {
		for to := range 256 {
			if w.Net[0].Text[at] != byte(to) && (at > 15 || to%16 == 1) {
				mustPlay(t, "bent", w, []impl.Act{act(5, 0, int64(at), int64(to)), act(5, 0, int64(at), int64(w.Net[0].Text[at])), act(2)}, changed(w, goes...))
			}
		}
	}
}

func TestHappenWork(t *testing.T) {
	g := threeGround(t)
	lib, mid, main := g.texts[0], g.texts[1], g.texts[2]
	if lib != "object lib\nroutine lib.f 1 4\n2 0 0 0 -\n1 1 2 0 -\n3 0 0 1 -\n10 0 0 0 -\n" {
		t.Errorf("lib is %q", lib)
	}
	done := func(worker, number, epoch int64) string {
		return fmt.Sprintf("done %d %d %d %d", worker, number, epoch, g.key(int(number)))
	}
	// other has the Key of lib, and other Bytes.
	other := clashWith(t, lib)
	list := []happening{
		{act(6, 0), []change{job(0, 0, 1)}, []change{idle(0), has(9000, lib), says(done(0, 0, 1))}},
		{act(6, 1), []change{job(1, 1, 1)}, []change{idle(1), has(9000, mid), says(done(1, 1, 1))}},
		{act(6, 2), []change{job(2, 2, 1000)}, []change{idle(2), has(9000, main), says(done(2, 2, 1000))}},
		{act(6, 2), []change{job(2, 0, 7), job(0, 1, 3), epoch(4), says("x", "y"), has(9000, mid, main, "x")}, []change{idle(2), has(9000, mid, main, "x", lib), says("x", "y", done(2, 0, 7))}},
		{act(6, 0), []change{job(0, 2, 1), fallen}, []change{idle(0), has(9000, main), says(done(0, 2, 1))}},
		{act(6, 0), []change{job(0, 0, 1), ready(0, 5), cell("x")}, []change{idle(0), has(9000, lib), says(done(0, 0, 1))}},
		{impl.Act{Kind: 6, B: 7, C: -7}, []change{job(0, 0, 1)}, []change{idle(0), has(9000, lib), says(done(0, 0, 1))}},
		// It is there already, also where there is no room any more.
		{act(6, 0), []change{job(0, 0, 1), has(9000, lib)}, []change{idle(0), says(done(0, 0, 1))}},
		{act(6, 0), []change{job(0, 0, 1), has(int64(len(lib)), lib)}, []change{idle(0), says(done(0, 0, 1))}},
		// There is just room, and one byte less.
		{act(6, 0), []change{job(0, 0, 1), has(int64(len(lib)))}, []change{idle(0), has(int64(len(lib)), lib), says(done(0, 0, 1))}},
		{act(6, 0), []change{job(0, 0, 1), has(int64(len(lib)+3), "abc")}, []change{idle(0), has(int64(len(lib)+3), lib, "abc"), says(done(0, 0, 1))}},
		{act(6, 0), []change{job(0, 0, 1), has(int64(len(lib) - 1))}, []change{idle(0)}},
		{act(6, 0), []change{job(0, 0, 1), has(int64(len(lib)+2), "abc")}, []change{idle(0)}},
		{act(6, 0), []change{job(0, 0, 1), has(0), says("x")}, []change{idle(0)}},
		// There is another one of this Key.
		{act(6, 0), []change{job(0, 0, 1), has(9000, other)}, []change{idle(0)}},
		{act(6, 0), []change{job(0, 1, 1), has(9000, other)}, []change{idle(0), has(9000, other, mid), says(done(0, 1, 1))}},
		// There is room for one Letter, and for none.
		{act(6, 0), []change{job(0, 0, 1), crowd(59, "x")}, []change{idle(0), has(9000, lib), net(append(slices.Repeat(letters("x"), 59), letter(done(0, 0, 1)))...)}},
		{act(6, 0), []change{job(0, 0, 1), crowd(60, "x")}, []change{idle(0), has(9000, lib)}},
		{act(6, 0), []change{job(0, 0, 1), crowd(60, "x"), has(0)}, []change{idle(0)}},
		// Without a Job.
		{act(6, 0), nil, nil},
		{act(6, 0), []change{job(1, 0, 1), job(2, 0, 1)}, nil},
		{act(6, 0), []change{fallen}, nil},
	}
	for _, n := range notOf(3) {
		list = append(list, happening{act(6, n), []change{job(0, 0, 1), job(1, 0, 1), job(2, 0, 1)}, nil})
	}
	mustComeAbout(t, list)
}

// clashWith is another text with the Hash of that one: three signs and three
// more, of which the first ones move it by a product alone.
func clashWith(t *testing.T, text string) string {
	t.Helper()
	const times, round = 1000003, 2147483647
	shift := int64(times * times % round * times % round)
	byHash, want := map[int64]string{}, impl.Hash(text)
	signs := "abcdefghijklmnopqrstuvwxyzABCDEFGHIJKLMNOPQRSTUVWXYZ"
	threes := []string{}
	for at := range 52 * 52 * 52 {
		three := string([]byte{signs[at/2704], signs[at/52%52], signs[at%52]})
		threes = append(threes, three)
		byHash[impl.Hash(three)*shift%round] = three
	}
	for _, three := range threes {
		adds := impl.Hash(three) - impl.Hash("")*shift%round
		if ahead, is := byHash[(want-adds+2*round)%round]; is && impl.Hash(ahead+three) == want && ahead+three != text {
			return ahead + three
		}
	}
	t.Fatalf("no other text is found that has the Hash of %q", text)
	return ""
}

func TestHappenTick(t *testing.T) {
	list := []happening{
		{act(7, 1), nil, []change{now(1)}},
		{act(7, 20), []change{now(5), leased(0, 1, 10)}, []change{now(25)}},
		{act(7, 1000000), nil, []change{now(1000000)}},
		{act(7, 1), []change{now(999999)}, []change{now(1000000)}},
		{act(7, 0), nil, []change{now(0)}},
		{act(7, 0), []change{now(1000000)}, []change{now(1000000)}},
		{impl.Act{Kind: 7, A: 3, B: 7, C: -7}, []change{says("ask 0"), job(1, 0, 1)}, []change{now(3)}},
		{act(7, 1), []change{now(1000000)}, nil},
		{act(7, 1000001), nil, nil},
		{act(7, 999996), []change{now(5)}, nil},
		{act(7, -1), []change{now(5)}, nil},
		{act(7, math.MinInt64), nil, nil},
		{act(7, math.MaxInt64), []change{now(5)}, nil},
		{act(7, 1<<32), nil, nil},
		{act(7, 1), []change{fallen}, nil},
		{act(7, 0), []change{fallen}, nil},
	}
	mustComeAbout(t, list)
}

func TestHappenFallAndRise(t *testing.T) {
	list := []happening{
		{act(8), nil, []change{down(journalOf(started(1)))}},
		{act(8), []change{says("ask 1"), job(0, 1, 1), now(7), cell("x"), has(9000, "abc"), ready(0, 7)}, []change{down(journalOf(started(1)))}},
		{impl.Act{Kind: 8, A: 1, B: 7, C: -7}, nil, []change{down(journalOf(started(1))[:22])}},
		{act(8, 23), nil, []change{down("")}},
		// What is lost is the last Frame at most, whatever is asked for.
		{act(8, 24), nil, []change{down("")}},
		{act(8, 99), []change{says("ask 1"), job(0, 1, 1), now(7), cell("x"), has(9000, "abc"), ready(0, 7)}, []change{down("")}},
		{act(8, math.MaxInt64), []change{journal(journalOf(started(1), entry{0, 5}))}, []change{down(journalOf(started(1)))}},
		// It has no Frame, or something behind the last one.
		{act(8), []change{journal("")}, []change{down("")}},
		{act(8, 1), []change{journal("")}, []change{down("")}},
		{act(8), []change{journal("xyz")}, []change{down("xyz")}},
		{act(8, 1), []change{journal("xyz")}, []change{down("xyz")}},
		{act(8, 99), []change{journal("xyz")}, []change{down("xyz")}},
		{act(8, 16), []change{journal(strings.Repeat("x", 30))}, []change{down(strings.Repeat("x", 30))}},
		{act(8, 23), []change{journal(journalOf(started(1)) + "xyz")}, []change{down(journalOf(started(1))[:3])}},
		{act(8, 24), []change{journal(journalOf(started(1)) + "xyz")}, []change{down(journalOf(started(1))[:3])}},
		{act(8, 16), []change{journal(frameBy(""))}, []change{down("")}},
		{act(8, 17), []change{journal(frameBy("abc") + frameBy(""))}, []change{down(frameBy("abc"))}},
		{act(8, 16+20000), []change{journal(frameBy("x") + frameBy(strings.Repeat("y", 20000)))}, []change{down(frameBy("x"))}},
		{act(8, 17+20000), []change{journal(frameBy("x") + frameBy(strings.Repeat("y", 20000)))}, []change{down(frameBy("x"))}},
		// Below 0 it is out of range, whatever the Journal has.
		{act(8, -1), []change{journal("")}, nil},
		{act(8, -1), []change{journal("xyz")}, nil},
		{act(8, -24), nil, nil},
		// It is down already.
		{act(8), []change{fallen}, nil},
		{act(8, 1), []change{fallen}, nil},
		{act(8, 24), []change{fallen}, nil},
		{act(8, -1), []change{fallen}, nil},

		{act(9), []change{fallen}, []change{func(w *impl.World) { w.Up, w.Desk = true, deskIn(t, "lib: open", "mid 0: open", "main 0 1: open") }, epoch(2), journal(journalOf(started(1), started(2)))}},
		{act(9), []change{down("")}, []change{func(w *impl.World) { w.Up, w.Desk = true, deskIn(t, "lib: open", "mid 0: open", "main 0 1: open") }}},
		{act(9), []change{down("x")}, []change{func(w *impl.World) { w.Up, w.Desk = true, deskIn(t, "lib: open", "mid 0: open", "main 0 1: open") }}},
		{impl.Act{Kind: 9, A: 7, B: -7, C: 7}, []change{down(journalOf(started(1), entry{0, 5}, started(2), entry{1, 6})[:91]), says("ask 1"), job(1, 1, 1), cell("x")},
			[]change{func(w *impl.World) { w.Up, w.Desk = true, deskIn(t, "lib: done 5", "mid 0: open", "main 0 1: open") }, epoch(3), journal(journalOf(started(1), entry{0, 5}, started(2), started(3)))}},
		{act(9), nil, nil},
		{act(9), []change{now(7), journal("")}, nil},
	}
	for _, n := range notOf(24) {
		then := []change{down("")}
		if n < 0 {
			then = nil
		}
		list = append(list, happening{act(8, n), nil, then})
	}
	mustComeAbout(t, list)
	// At each number of bytes.
	g := threeGround(t)
	for _, entries := range [][]entry{{started(1)}, {started(1), {0, 77}}, {started(1), {0, 2147483646}, {1, 5}}, {started(1), {0, 1}, started(2)}, startsTo(10)} {
		all := journalOf(entries...)
		w := changed(g.newWorld(1, 9), journal(all))
		last := int64(16 + len(entries[len(entries)-1].text()))
		mustHappen(t, "falls by -1", w, act(8, -1), w, false)
		for most := int64(0); most <= int64(len(all))+1; most++ {
			lost := min(most, last)
			fell := changed(w, down(all[:len(all)-int(lost)]))
			mustHappen(t, "falls", w, act(8, most), fell, true)
			kept := entries
			if lost > 0 {
				kept = entries[:len(entries)-1]
			}
			rose := worldCopied(w)
			rose.Desk = deskAfter(g.tasks, kept)
			mustHappen(t, "rises", fell, act(9), rose, true)
			mustPlay(t, "falls and rises", w, []impl.Act{act(8, most), act(8), act(9), act(9)}, rose)
		}
	}
	// Of more Frames than are read, the last that is read.
	long := changed(g.newWorld(1, 9), journal(strings.Repeat(frameBy(""), 399)+frameBy("abc")+frameBy("defghi")))
	fell := changed(long, down(long.Desk.Journal[:len(long.Desk.Journal)-19]))
	mustHappen(t, "many Frames", long, act(8, 19), fell, true)
	mustHappen(t, "many Frames", long, act(8, 20), fell, true)
}

func TestHappenDrop(t *testing.T) {
	list := []happening{
		{act(10, 0), []change{job(0, 0, 1)}, []change{idle(0)}},
		{act(10, 1), []change{job(0, 0, 1), job(1, 1, 5), job(2, 2, 7)}, []change{idle(1)}},
		{act(10, 2), []change{job(0, 0, 1), job(1, 1, 5), job(2, 2, 7), fallen}, []change{idle(2)}},
		{impl.Act{Kind: 10, A: 1, B: 7, C: -7}, []change{job(1, 2, 1000), crowd(60, "x")}, []change{idle(1)}},
		// One without a Job has nothing to drop.
		{act(10, 0), nil, nil},
		{act(10, 1), nil, nil},
		{act(10, 1), []change{job(0, 0, 1), job(2, 0, 1)}, nil},
		{act(10, 1), []change{job(0, 0, 1), fallen}, nil},
		{act(10, 2), []change{says("job 2 0 1"), leased(0, 2, 10)}, nil},
	}
	for _, n := range notOf(3) {
		list = append(list, happening{act(10, n), []change{job(0, 0, 1), job(1, 0, 1), job(2, 0, 1)}, nil})
	}
	mustComeAbout(t, list)
	// What is dropped is not there to be dropped again, and may be had again.
	w := changed(threeGround(t).newWorld(3, 9000), says("job 1 2 7"), job(1, 0, 1))
	dropped := changed(w, idle(1))
	mustHappen(t, "dropped", w, act(10, 1), dropped, true)
	mustHappen(t, "dropped, again", dropped, act(10, 1), dropped, false)
	mustPlay(t, "dropped, and again", w, []impl.Act{act(10, 1), act(10, 1), act(2), act(10, 1), act(10, 1)}, changed(dropped, goes...))
}

func TestHappenPublish(t *testing.T) {
	g := threeGround(t)
	lib, mid, main := g.key(0), g.key(1), g.key(2)
	all := func(keys ...int64) change {
		return func(w *impl.World) {
			for number, key := range keys {
				ready(int64(number), key)(w)
			}
		}
	}
	shown := func(text string) string {
		return objectText(objectBy(new(chance), written(t, text)[0]))
	}
	// Others that would be put in: of the same Name, but with other steps, with
	// other Args, with nothing that is called.
	steps, args, lacking := shown("lib: f 1 7"), shown("lib: f 2 7"), shown("lib: g 1 7")
	list := []happening{
		{act(11), []change{all(lib, mid, main), has(9000, g.texts...)}, []change{cell(g.built)}},
		{impl.Act{Kind: 11, A: 7, B: -7, C: 7}, []change{all(lib, mid, main), has(9000, append([]string{"", "abc", args}, g.texts...)...), says("ask 1"), job(1, 1, 1), now(9)}, []change{cell(g.built)}},
		{act(11), []change{all(lib, mid, main), has(g.takes(), g.texts...), journal(""), epoch(1000)}, []change{cell(g.built)}},
		// Whose Task it is is not asked, as whatever order they come in.
		{act(11), []change{all(mid, main, lib), has(9000, g.texts...)}, []change{cell(g.built)}},
		{act(11), []change{all(impl.Hash(steps), mid, main), has(9000, append([]string{steps}, g.texts...)...)}, []change{cell(strings.Replace(g.built, "routine lib.f 1 4\n2 0 0 0 -\n1 1 2 0 -\n3 0 0 1 -\n", "routine lib.f 1 2\n1 0 7 0 -\n", 1))}},
		// There is no such Key, or what it is the Key of is no Object.
		{act(11), []change{all(lib, mid, main), has(9000, g.texts[:2]...)}, nil},
		{act(11), []change{all(lib, mid, main), has(9000, g.texts[1:]...)}, nil},
		{act(11), []change{all(lib, mid, main), has(9000, g.texts[0], g.texts[2])}, nil},
		{act(11), []change{all(lib, mid, main)}, nil},
		{act(11), []change{all(lib, mid, main+1), has(9000, g.texts...)}, nil},
		{act(11), []change{all(lib, impl.Hash("abc"), main), has(9000, append([]string{"abc"}, g.texts...)...)}, nil},
		{act(11), []change{all(lib, mid, impl.Hash(g.built)), has(9000, append([]string{g.built}, g.texts...)...)}, nil},
		{act(11), []change{all(lib, mid, impl.Hash("")), has(9000, append([]string{""}, g.texts...)...)}, nil},
		// One that is another's: twice, missing, with other Args.
		{act(11), []change{all(lib, lib, main), has(9000, g.texts...)}, nil},
		{act(11), []change{all(lib, main, main), has(9000, g.texts...)}, nil},
		{act(11), []change{all(impl.Hash(steps), mid, lib), has(9000, append([]string{steps}, g.texts...)...)}, nil},
		{act(11), []change{all(impl.Hash(args), mid, main), has(9000, append([]string{args}, g.texts...)...)}, nil},
		{act(11), []change{all(impl.Hash(lacking), mid, main), has(9000, append([]string{lacking}, g.texts...)...)}, nil},
		// Not all done, Cell not empty, not up.
		{act(11), []change{ready(0, lib), ready(1, mid), has(9000, g.texts...)}, nil},
		{act(11), []change{ready(2, main), ready(1, mid), has(9000, g.texts...)}, nil},
		{act(11), []change{all(lib, mid, main), leased(1, 0, 5), has(9000, g.texts...)}, nil},
		{act(11), []change{has(9000, g.texts...)}, nil},
		{act(11), []change{all(lib, mid, main), has(9000, g.texts...), cell("x")}, nil},
		{act(11), []change{all(lib, mid, main), has(9000, g.texts...), cell(g.built)}, nil},
		{act(11), []change{has(9000, g.texts...), down(journalOf(started(1), entry{0, lib}, entry{1, mid}, entry{2, main}))}, nil},
	}
	mustComeAbout(t, list)
	// Its Object is there, and has the Key that what is not done has.
	zero := groundIn(t, "main: main 1 * + $0 34551 32589")
	early := changed(zero.newWorld(1, 9000), has(9000, zero.texts...))
	if zero.key(0) != 0 {
		t.Errorf("%q has the Key %d", zero.texts, zero.key(0))
	}
	mustHappen(t, "not done", early, act(11), early, false)
	mustHappen(t, "not done", changed(early, leased(0, 0, 5)), act(11), changed(early, leased(0, 0, 5)), false)
	mustHappen(t, "done", changed(early, ready(0, 0)), act(11), changed(early, ready(0, 0), cell(zero.built)), true)
	// What is published is what its Objects make, whosever they are.
	alone := groundIn(t, "main: main 1 $0")
	w := changed(alone.newWorld(1, 9000), has(9000, lacking), ready(0, impl.Hash(lacking)))
	mustHappen(t, "of another", w, act(11), changed(w, cell("routine lib.g 1 2\n1 0 7 0 -\n10 0 0 0 -\n")), true)
}

// A day by hand: all of it goes well, once and again.
func TestPlayByHand(t *testing.T) {
	g := groundIn(t, "lib: f 1 + $0 2", "main lib: main 1 @lib.f/1 $0")
	w := g.newWorld(2, 9000)
	acts := []impl.Act{}
	play := func(list []impl.Act, want impl.World) {
		t.Helper()
		acts = append(acts, list...)
		mustPlay(t, "by hand", w, acts, want)
	}
	then := changed(w, says("ask 1", "ask 0"))
	play([]impl.Act{act(1, 1), act(1, 0)}, then)
	then = changed(then, says("job 1 0 1"), leased(0, 1, 10))
	play([]impl.Act{act(2), act(2)}, then)
	then = changed(then, says("done 1 0 1 "+fmt.Sprint(g.key(0))), has(9000, g.texts[0]), now(3))
	play([]impl.Act{act(2), act(6, 1), act(7, 3)}, then)
	then = changed(then, says(), noted(0, g.key(0)))
	play([]impl.Act{act(3), act(2), act(2)}, then)
	then = changed(then, fallen)
	play([]impl.Act{act(8), act(1, 5), act(11), act(7, 3), act(0), act(12), act(8)}, then)
	then.Up, then.Desk = true, deskAfter(g.tasks, []entry{started(1), {0, g.key(0)}})
	play([]impl.Act{act(9), act(9)}, then)
	then = changed(then, job(0, 1, 2), leased(1, 0, 10))
	play([]impl.Act{act(1, 0), act(2), act(2)}, then)
	then = changed(then, idle(0), has(9000, g.texts...), noted(1, g.key(1)))
	play([]impl.Act{act(6, 0), act(2)}, then)
	then = changed(then, cell(g.built))
	play([]impl.Act{act(11), act(11)}, then)
	if m, is := impl.ReadImage(then.Cell); !is {
		t.Errorf("%q is no image", then.Cell)
	} else if value, code := impl.RunImage(m, "main.main", []int64{5}, 100); value != 7 || code != 0 {
		t.Errorf("it gives %d, %d", value, code)
	}
}

func TestPlayByNumberOfActs(t *testing.T) {
	g := threeGround(t)
	w := g.newWorld(2, 9000)
	for _, many := range []int{0, 1, 2, 299, 300} {
		mustPlay(t, "many Acts", w, slices.Repeat([]impl.Act{act(7, 1)}, many), changed(w, now(int64(many))))
		mustPlay(t, "many Acts that are refused", w, slices.Repeat([]impl.Act{act(0)}, many), w)
	}
	for _, many := range []int{301, 302, 600, 100000} {
		mustPlay(t, "too many Acts", w, slices.Repeat([]impl.Act{act(7, 1)}, many), impl.World{})
		mustPlay(t, "too many Acts that are refused", w, slices.Repeat([]impl.Act{act(0)}, many), impl.World{})
	}
	mustPlay(t, "none", w, nil, w)
	// What is refused is passed over, wherever it stands.
	refused := []impl.Act{act(0), act(12), act(-1), act(1, 2), act(1, -1), act(2), act(3), act(4), act(5), act(6), act(7, -1), act(8, -1), act(9), act(10, 1), act(10, 2), act(11), act(math.MaxInt64, 1, 1, 1)}
	mustPlay(t, "refused", w, refused, w)
	for _, one := range refused {
		mustPlay(t, "refused ahead", w, []impl.Act{one, act(7, 5)}, changed(w, now(5)))
		mustPlay(t, "refused behind", w, []impl.Act{act(7, 5), one}, changed(w, now(5)))
		mustPlay(t, "refused between", w, []impl.Act{act(7, 5), one, one, act(7, 2)}, changed(w, now(7)))
	}
}

func TestCalmByHand(t *testing.T) {
	g := threeGround(t)
	base := g.newWorld(3, 9000)
	// whole is what it comes to, of this Journal, Epoch and time.
	whole := func(w impl.World, since int64, at int64, entries ...entry) impl.World {
		w = changed(w, says(), idle(0), idle(1), idle(2), cell(g.built), has(w.Store.Room, g.texts...))
		w.Up, w.Desk = true, impl.Desk{Tasks: g.tasks, Epoch: since, Now: at, Journal: journalOf(entries...)}
		return changed(w, ready(0, g.key(0)), ready(1, g.key(1)), ready(2, g.key(2)))
	}
	done := []entry{{0, g.key(0)}, {1, g.key(1)}, {2, g.key(2)}}
	told := append([]entry{started(1)}, done...)
	again := append([]entry{started(1), started(2)}, done...)
	late := []entry{started(1), done[0], started(2), done[1], done[2]}
	for why, one := range map[string]struct {
		had  []change
		then impl.World
	}{
		"new":                       {nil, whole(base, 1, 20, told...)},
		"Jobs and Letters":          {[]change{job(0, 2, 7), job(1, 0, 1), job(2, 0, 1), crowd(60, "done 0 0 1 5")}, whole(base, 1, 20, told...)},
		"on lease":                  {[]change{leased(0, 1, 10), now(3)}, whole(base, 1, 23, told...)},
		"on a lease just over":      {[]change{leased(0, 1, 25), now(5)}, whole(base, 1, 25, told...)},
		"all on lease":              {[]change{leased(0, 1, 10), leased(1, 2, 10), leased(2, 0, 10)}, whole(base, 1, 20, told...)},
		"down":                      {[]change{fallen, job(0, 0, 1), says("ask 1")}, whole(base, 2, 20, again...)},
		"down, no Journal":          {[]change{down("")}, whole(base, 1, 20, told...)},
		"down, cut":                 {[]change{down(journalOf(started(1), done[0])[:30])}, whole(base, 2, 20, again...)},
		"down, one done":            {[]change{down(journalOf(started(1), done[0])), has(9000, g.texts[0])}, whole(base, 2, 20, late...)},
		"time can just go on":       {[]change{now(999980)}, whole(base, 1, 1000000, told...)},
		"time can't go on":          {[]change{now(999981)}, whole(base, 1, 999981, told...)},
		"time is at its end":        {[]change{now(1000000), leased(0, 1, 1000000)}, whole(base, 1, 1000000, told...)},
		"just Room for all":         {[]change{has(g.takes())}, whole(changed(base, has(g.takes())), 1, 20, told...)},
		"just Room, one is there":   {[]change{has(g.takes(), g.texts[2])}, whole(changed(base, has(g.takes())), 1, 20, told...)},
		"all there already":         {[]change{has(g.takes(), g.texts...)}, whole(changed(base, has(g.takes())), 1, 20, told...)},
		"Cell is not empty":         {[]change{cell("x")}, changed(whole(base, 1, 20, told...), cell("x"))},
		"all done, not published":   {[]change{has(9000, g.texts...), noted(0, g.key(0)), noted(1, g.key(1)), noted(2, g.key(2))}, whole(base, 1, 20, told...)},
		"all done, with wrong Keys": {[]change{ready(0, 1), ready(1, 2), ready(2, 3)}, changed(base, ready(0, 1), ready(1, 2), ready(2, 3), now(20))},
		// What comes to nothing.
		"a long lease":           {[]change{leased(0, 1, 21)}, changed(base, leased(0, 1, 21), now(20))},
		"a lease, and no time":   {[]change{leased(0, 1, 999991), now(999990)}, changed(base, leased(0, 1, 999991), now(999990))},
		"no Room":                {[]change{has(0)}, changed(base, has(0), leased(0, 0, 30), now(20))},
		"no Room for the first":  {[]change{has(int64(len(g.texts[0]) - 1))}, changed(base, has(int64(len(g.texts[0])-1)), leased(0, 0, 30), now(20))},
		"Room for the first":     {[]change{has(int64(len(g.texts[0])))}, changed(base, has(int64(len(g.texts[0])), g.texts[0]), noted(0, g.key(0)), leased(1, 0, 30), now(20))},
		"Room for all but one":   {[]change{has(g.takes() - 1)}, changed(base, has(g.takes()-1, g.texts[:2]...), noted(0, g.key(0)), noted(1, g.key(1)), leased(2, 0, 30), now(20))},
		"a clash":                {[]change{has(9000, clashWith(t, g.texts[1]))}, changed(base, has(9000, g.texts[0], clashWith(t, g.texts[1])), noted(0, g.key(0)), leased(1, 0, 30), now(20))},
		"no room in the Journal": {[]change{journal(strings.Repeat("x", 60000))}, changed(base, journal(strings.Repeat("x", 60000)), has(9000, g.texts[0]), leased(0, 0, 30), now(20))},
	} {
		had := changed(base, one.had...)
		mustCalm(t, why, had, one.then)
		if told := calmBy(g, had); !sameWorld(told, one.then) {
			t.Errorf("%s: the tests tell %s", why, toldWorld(told))
		}
	}
}

// clashingGround has two Objects with one Key.
func clashingGround(t *testing.T) ground {
	t.Helper()
	g := groundIn(t, "lib: wtjn 0 8", "main lib: main 1 + $0 78824259")
	if !g.clashing() {
		t.Fatalf("%q have unlike Keys", g.texts)
	}
	return g
}

// Where Keys clash, nothing comes out, and not the wrong thing.
func TestCalmWhereKeysClash(t *testing.T) {
	g := clashingGround(t)
	w := g.newWorld(2, 100000)
	then := changed(w, has(100000, g.texts[0]), noted(0, g.key(0)), leased(1, 0, 30), now(20))
	mustCalm(t, "a clash", w, then)
	mustCalm(t, "a clash, again", then, changed(then, leased(1, 0, 50), now(40)))
	// The Key of lib is that of main too; what stands there is lib.
	mustHappen(t, "a clash", changed(then, ready(1, g.key(1))), act(11), changed(then, ready(1, g.key(1))), false)
}

// drawnGround has few words in it.
func drawnGround(c *chance) ground { return groundOf(drawnParts(c)) }

// oneAtWork is mostly one that has a Job, where there is any, else that one.
func oneAtWork(c *chance, w impl.World, worker int64) int64 {
	for at, one := range w.Workers {
		if one.Job != -1 && c.below(4) > 0 {
			worker = int64(at)
		}
	}
	return worker
}

// drawnAct is one of those that may well do something.
func drawnAct(c *chance, w impl.World) impl.Act {
	worker, number := int64(c.below(len(w.Workers))), int64(c.below(len(w.Net)+1))
	if c.below(20) == 0 {
		worker, number = edgeNumbers[c.below(len(edgeNumbers))], edgeNumbers[c.below(len(edgeNumbers))]
	}
	switch n := c.below(100); {
	case n < 20:
		return act(1, worker)
	case n < 50:
		return act(2, number)
	case n < 56:
		return act(3, number)
	case n < 59:
		return act(4, number)
	case n < 63:
		return act(5, number, int64(c.below(42)), int64(c.below(258))-1)
	case n < 79:
		return act(6, oneAtWork(c, w, worker))
	case n < 84:
		return act(7, []int64{0, 1, 3, 10, 999970, int64(c.below(30)), edgeNumbers[c.below(len(edgeNumbers))]}[c.below(7)])
	case n < 87:
		return act(8, []int64{0, int64(c.below(30)), lastFrame(w.Desk.Journal) + int64(c.below(3)) - 1, edgeNumbers[c.below(len(edgeNumbers))]}[c.below(4)])
	case n < 92:
		return act(9)
	case n < 96:
		return act(10, oneAtWork(c, w, worker))
	case n < 97:
		return act(edgeNumbers[c.below(len(edgeNumbers))], worker, number)
	}
	return act(11)
}

// nextAct is what would be next where all goes well.
func nextAct(c *chance, w impl.World) impl.Act {
	if allDoneBy(w.Desk) && w.Up && w.Cell == "" {
		return act(11)
	}
	for worker, one := range w.Workers {
		if one.Job != -1 {
			return act(6, int64(worker))
		}
	}
	switch {
	case !w.Up:
		return act(9)
	case len(w.Net) > 0:
		return act(2, int64(c.below(len(w.Net))))
	case c.below(3) == 0:
		return act(7, 10)
	}
	return act(1, int64(c.below(len(w.Workers))))
}

// A farming is a new World in which something happens.
type farming struct {
	g     ground
	first impl.World
	world impl.World
	acts  []impl.Act
	seen  map[string]int
}

func (f *farming) fits() bool {
	return f.g.takes() <= f.first.Store.Room && !f.g.clashing()
}

// mustKeepCell is the first half of promise 19.
func (f *farming) mustKeepCell(t *testing.T, was string) {
	t.Helper()
	switch cell := f.world.Cell; {
	case cell != "" && cell != f.g.built:
		t.Errorf("Cell is %.300q, not %.300q, of %v", cell, f.g.built, f.acts)
	case was != "" && cell != was:
		t.Errorf("Cell was %.300q, and is %.300q, of %v", was, cell, f.acts)
	case cell != "" && was == "":
		f.seen["published"]++
	}
}

// mustComeOut is the second half.
func (f *farming) mustComeOut(t *testing.T) {
	t.Helper()
	want := calmBy(f.g, f.world)
	mustCalm(t, "whatever happened", f.world, want)
	switch can := f.world.Desk.Now <= 1000000-20; {
	case f.fits() && can:
		f.seen["calm"]++
		if want.Cell != f.g.built {
			t.Errorf("in calm Cell is %.300q, not %.300q, of %v", want.Cell, f.g.built, f.acts)
		}
	case f.fits():
		f.seen["calm, no time"]++
	case f.g.clashing():
		f.seen["calm, a clash"]++
	default:
		f.seen["calm, no Room"]++
	}
	if want.Cell != "" && want.Cell != f.g.built {
		t.Errorf("in calm Cell is %.300q, of %v", want.Cell, f.acts)
	}
	if !impl.WorldOk(want) {
		t.Errorf("in calm it is %s", toldWorld(want))
	}
}

func (f *farming) happen(t *testing.T, a impl.Act) {
	t.Helper()
	was := f.world
	want, did := happenBy(f.g, was, a)
	got, is := impl.Happen(was, a)
	if is != did || !sameWorld(got, want) {
		t.Errorf("Happen of %+v is %v, not %v, and it is %s, not %s, of %s", a, is, did, toldWorld(got), toldWorld(want), toldWorld(was))
	}
	if isBetween(a.Kind, 1, 11) {
		f.seen[fmt.Sprint(a.Kind, " ", did)]++
	}
	if word, _ := letterSays(append(was.Net, impl.Letter{})[max(0, min(int(a.A), len(was.Net)))]); a.Kind == 2 && did && word != "" {
		f.seen[fmt.Sprint(word, " ", !sameWorld(want, changed(was, net(slices.Delete(slices.Clone(was.Net), int(a.A), int(a.A+1))...))))]++
	}
	if a.Kind == 8 && did && a.A > lastFrame(was.Desk.Journal) {
		f.seen["8 by more"]++
	}
	f.world, f.acts = got, append(f.acts, a)
	f.mustKeepCell(t, was.Cell)
}

// Promise 19.
func TestWhateverHappens(t *testing.T) {
	c, seen := chance(439), map[string]int{}
	for i := range 600 {
		g := drawnGround(&c)
		switch i % 20 {
		case 0:
			g = clashingGround(t)
		case 1:
			g = groundOf(drawnProject(&c, i))
		}
		room := []int64{g.takes(), g.takes(), 100000, g.takes() + int64(c.below(50)), g.takes() - 1, int64(c.below(int(g.takes())))}[c.below(6)]
		w := g.newWorld(1+c.below(4), room)
		f := &farming{g: g, first: w, world: w, seen: seen}
		well := []int{0, 40, 80}[i%3]
		for range []int{100, 100, c.below(101)}[c.below(3)] {
			a := drawnAct(&c, f.world)
			if c.below(100) < well {
				a = nextAct(&c, f.world)
			}
			f.happen(t, a)
			if c.below(40) == 0 {
				f.mustComeOut(t)
			}
		}
		if t.Failed() {
			return
		}
		mustBeWorld(t, "whatever happened", f.world, true)
		mustPlay(t, "whatever happened", w, f.acts, f.world)
		f.mustComeOut(t)
		if !sameWorld(w, g.newWorld(len(w.Workers), room)) {
			t.Errorf("the new World is another one now: %s", toldWorld(w))
		}
	}
	for what, least := range map[string]int{
		"published": 100, "calm": 300, "calm, no time": 20, "calm, a clash": 30, "calm, no Room": 100, "ask true": 1000, "ask false": 100, "job true": 500, "job false": 30, "done true": 300, "done false": 100,
		"1 true": 1000, "1 false": 300, "2 true": 3000, "2 false": 1000, "3 true": 300, "3 false": 100, "4 true": 200, "4 false": 50, "5 true": 200, "5 false": 100, "6 true": 500, "6 false": 500, "7 true": 300, "7 false": 100,
		"8 true": 200, "8 false": 50, "8 by more": 50, "9 true": 200, "9 false": 300, "10 true": 60, "10 false": 300, "11 true": 100, "11 false": 300,
	} {
		if seen[what] < least {
			t.Errorf("of %q there were %d: %v", what, seen[what], seen)
		}
	}
}

// Where the post is full: 60 Letters, and what is lost for it.
func TestWhateverHappensInACrowd(t *testing.T) {
	c, seen := chance(443), map[string]int{}
	for range 60 {
		g := drawnGround(&c)
		w := g.newWorld(1+c.below(4), g.takes())
		f := &farming{g: g, first: w, world: w, seen: seen}
		f.happen(t, act(1, 0))
		for len(f.acts) < 100 {
			a := drawnAct(&c, f.world)
			if len(f.world.Net) > 0 && (len(f.world.Net) < 58 || c.below(3) == 0) && c.below(3) > 0 {
				a = act(3, int64(c.below(len(f.world.Net))))
			}
			if len(f.world.Net) == 60 {
				seen["full"]++
			}
			f.happen(t, a)
		}
		f.mustComeOut(t)
		mustPlay(t, "in a crowd", w, f.acts, f.world)
	}
	if seen["full"] < 300 || seen["3 false"] < 20 || seen["1 false"] < 50 {
		t.Errorf("%v", seen)
	}
}

// In calm it comes out of any number of falls, each in the midst of a word.
func TestCalmAfterManyFalls(t *testing.T) {
	c := chance(449)
	for range 40 {
		g := drawnGround(&c)
		w := g.newWorld(2, g.takes())
		f := &farming{g: g, first: w, world: w, seen: map[string]int{}}
		for len(f.acts) < 90 {
			for _, a := range []impl.Act{act(1, 1), act(2), act(2), act(6, 1), act(2)} {
				f.happen(t, a)
			}
			f.happen(t, act(8, int64(c.below(int(lastFrame(f.world.Desk.Journal))+9))))
			f.happen(t, act(9))
			f.mustComeOut(t)
		}
		if fell := f.seen["8 true"]; fell < 12 || f.seen["9 true"] != fell {
			t.Errorf("it fell %d times, and rose %d times", fell, f.seen["9 true"])
		}
	}
}

// chosenLetter is one of any kind, whole or not.
func chosenLetter(c *chance, g ground) impl.Letter {
	n := func(below int) int64 {
		if c.below(12) == 0 {
			return edgeNumbers[c.below(len(edgeNumbers))]
		}
		return int64(c.below(below))
	}
	number := n(len(g.tasks) + 1)
	key := n(100)
	if isBetween(number, 0, int64(len(g.tasks))-1) {
		key = g.key(int(number))
	}
	text := []string{
		fmt.Sprint("ask ", n(5)), fmt.Sprint("job ", n(5), " ", number, " ", n(4)), fmt.Sprint("done ", n(5), " ", number, " ", n(4), " ", key),
	}[c.below(3)]
	l := letter(text)
	switch c.below(10) {
	case 0:
		l = impl.Letter{Text: impl.Turned(l.Text, int64(c.below(len(l.Text))), int64(c.below(256))), Bent: true}
	case 1:
		l.Text = l.Text[:c.below(len(l.Text))]
	case 2:
		l = letter(text[:c.below(len(text))])
	case 3:
		l = letter(strings.Replace(text, " ", []string{"  ", " 0", " -", ""}[c.below(4)], 1))
	case 4:
		l.Bent = true
	}
	return l
}

// chosenWorld is right, in any way.
func chosenWorld(c *chance, g ground) impl.World {
	w := g.newWorld(1+c.below(4), g.takes()+int64(c.below(100)))
	for number, task := range w.Desk.Tasks {
		switch c.below(4) {
		case 0:
			leased(int64(number), int64(c.below(4)), int64(c.below(30)))(&w)
		case 1:
			if openNeeds(w.Desk, task) == 0 {
				noted(int64(number), g.key(number))(&w)
				break
			}
			fallthrough
		case 2:
			ready(int64(number), []int64{g.key(number), g.key(number), 0, 2147483646}[c.below(4)])(&w)
		}
		if c.below(2) == 0 {
			w.Store, _ = keptBy(w.Store, g.texts[number])
		}
	}
	if c.below(3) == 0 {
		for number := range w.Desk.Tasks {
			ready(int64(number), g.key(number))(&w)
			w.Store, _ = keptBy(w.Store, g.texts[number])
		}
	}
	if c.below(4) == 0 {
		w.Store, _ = keptBy(w.Store, []string{"", "abc", g.built[:min(20, len(g.built))]}[c.below(3)])
	}
	if c.below(4) == 0 {
		w.Store.Room = max(impl.Taken(w.Store), int64(c.below(400)))
	}
	w.Desk.Now = []int64{0, int64(c.below(30)), 1000000 - int64(c.below(30))}[c.below(3)]
	w.Desk.Epoch = []int64{1, 1 + int64(c.below(3)), 1000}[c.below(3)]
	switch c.below(8) {
	case 0:
		w.Desk.Journal = strings.Repeat("x", 60000-c.below(50))
	case 1:
		w.Desk.Journal += strings.Repeat("x", c.below(30))
	case 2:
		w.Desk.Journal = w.Desk.Journal[:c.below(len(w.Desk.Journal))]
	}
	for worker := range w.Workers {
		if c.below(2) == 0 {
			job(int64(worker), int64(c.below(len(g.tasks))), 1+int64(c.below(3)))(&w)
		}
	}
	for range []int{0, 1, c.below(6), c.below(6), 60}[c.below(5)] {
		w.Net = append(w.Net, chosenLetter(c, g))
	}
	if c.below(5) == 0 {
		w.Cell = []string{"x", g.built}[c.below(2)]
	}
	if c.below(4) == 0 {
		fallen(&w)
	}
	return w
}

// worldSpoilt has one thing of it another one; its Packages stay.
func worldSpoilt(c *chance, w impl.World) impl.World {
	w = worldCopied(w)
	n := edgeNumbers[c.below(len(edgeNumbers))]
	switch c.below(12) {
	case 0:
		w.Up = !w.Up
	case 1:
		w.Workers[c.below(len(w.Workers))].Job = n
	case 2:
		w.Workers[c.below(len(w.Workers))].Epoch = n
	case 3:
		w.Workers = slices.Repeat(w.Workers, c.below(3))
	case 4:
		w.Net = append(w.Net, impl.Letter{Text: strings.Repeat("x", 199+c.below(4))})
	case 5:
		w.Net = append(w.Net, slices.Repeat(letters("x"), 58+c.below(5))...)
	case 6:
		w.Cell = strings.Repeat("x", 199999+c.below(4))
	case 7:
		w.Store.Room = n
	case 8:
		w.Store.Blobs = append(w.Store.Blobs, impl.Blob{Key: n, Bytes: "x"})
	case 9:
		w.Desk.Now = n
	default:
		if len(w.Desk.Tasks) > 0 {
			w.Desk = deskSpoilt(c, w.Desk)
		}
	}
	return w
}

// Promise 21: at every argument they answer, and as told.
func TestFarmAnswersAtEveryArgument(t *testing.T) {
	c, grounds := chance(457), []ground{clashingGround(t), threeGround(t)}
	for len(grounds) < 40 {
		grounds = append(grounds, drawnGround(&c))
	}
	right, wrong := 0, 0
	for i := range 4000 {
		g := grounds[c.below(len(grounds))]
		w := chosenWorld(&c, g)
		if !worldRight(g, w) {
			t.Fatalf("%s is not right", toldWorld(w))
		}
		for range i % 3 {
			if len(w.Workers) > 0 {
				w = worldSpoilt(&c, w)
			}
		}
		is := worldRight(g, w)
		mustBeWorld(t, "chosen", w, is)
		if !is {
			wrong++
			mustBeNoWorld(t, "spoilt", w)
			continue
		}
		right++
		acts, last := []impl.Act{}, w
		for range 5 {
			a := drawnAct(&c, last)
			if c.below(6) == 0 {
				a = impl.Act{Kind: int64(c.below(13)), A: edgeNumbers[c.below(len(edgeNumbers))], B: edgeNumbers[c.below(len(edgeNumbers))], C: edgeNumbers[c.below(len(edgeNumbers))]}
			}
			acts = append(acts, a)
			last, _ = mustHappenAsTold(t, "chosen", g, last, a)
			mustBeWorld(t, "chosen", last, true)
		}
		mustPlay(t, "chosen", w, acts, last)
		mustCalm(t, "chosen", w, calmBy(g, w))
		if t.Failed() {
			return
		}
	}
	if right < 1500 || wrong < 500 {
		t.Errorf("%d were right, %d wrong", right, wrong)
	}
	// Each Kind with each edge.
	g := threeGround(t)
	w := changed(g.newWorld(3, 9000), says("ask 1", "job 0 0 1", "x"), job(2, 0, 1), journal(journalOf(started(1), entry{0, 5})))
	for kind := int64(-1); kind <= 13; kind++ {
		for _, n := range edgeNumbers {
			for _, one := range []impl.World{w, changed(w, fallen)} {
				mustHappenAsTold(t, "at an edge", g, one, act(kind, n))
				mustHappenAsTold(t, "at an edge", g, one, act(kind, 1, n, 5))
				mustHappenAsTold(t, "at an edge", g, one, act(kind, 1, 5, n))
			}
		}
	}
}

// A span is where a list lies, with the room behind it.
type span struct{ from, to uintptr }

func spanOf[T any](list []T) span {
	var one T
	from := uintptr(unsafe.Pointer(unsafe.SliceData(list)))
	return span{from, from + uintptr(cap(list))*unsafe.Sizeof(one)}
}

func spansOf(w impl.World) []span {
	spans := []span{spanOf(w.Packages), spanOf(w.Desk.Tasks), spanOf(w.Store.Blobs), spanOf(w.Workers), spanOf(w.Net)}
	for _, p := range w.Packages {
		spans = append(spans, spanOf(p.Imports), spanOf(p.Funcs))
		for _, f := range p.Funcs {
			spans = append(spans, spanOf(f.Tree))
		}
	}
	for _, task := range w.Desk.Tasks {
		spans = append(spans, spanOf(task.Needs))
	}
	return spans
}

func mustShareNoList(t *testing.T, why string, some, others []span) {
	t.Helper()
	for _, a := range some {
		for _, b := range others {
			if a.from < b.to && b.from < a.to {
				t.Errorf("%s: two lists share memory: %v, %v", why, a, b)
			}
		}
	}
}

func textsOfWorld(w impl.World) []string {
	texts := append(textsOfProject(w.Packages), append(textsOfDesk(w.Desk), w.Cell)...)
	for _, b := range w.Store.Blobs {
		texts = append(texts, b.Bytes)
	}
	for _, l := range w.Net {
		texts = append(texts, l.Text)
	}
	return texts
}

func roomy[T any](list []T, spare ...T) []T {
	return append(slices.Clone(list), spare...)[:len(list)]
}

// laidWorld is the same, with its texts laid over the room, and room behind
// each list.
func laidWorld(room []byte, w impl.World) impl.World {
	lay := func(text string) string {
		if text == "" {
			return ""
		}
		laid := laidOver(room, text)[0]
		room = room[len(text):]
		return laid
	}
	w = worldCopied(w)
	for at := range w.Packages {
		p := &w.Packages[at]
		p.Name = lay(p.Name)
		for k := range p.Imports {
			p.Imports[k] = lay(p.Imports[k])
		}
		for k := range p.Funcs {
			f := &p.Funcs[k]
			f.Name = lay(f.Name)
			for i := range f.Tree {
				f.Tree[i].Package, f.Tree[i].Func = lay(f.Tree[i].Package), lay(f.Tree[i].Func)
			}
			f.Tree = roomy(f.Tree, num(91), num(92))
		}
		p.Imports, p.Funcs = roomy(p.Imports, "spare"), roomy(p.Funcs, fn("spare", 9))
	}
	for at := range w.Desk.Tasks {
		task := &w.Desk.Tasks[at]
		task.Name, task.Needs = lay(task.Name), roomy(task.Needs, 93, 94)
	}
	for at := range w.Store.Blobs {
		w.Store.Blobs[at].Bytes = lay(w.Store.Blobs[at].Bytes)
	}
	for at := range w.Net {
		w.Net[at].Text = lay(w.Net[at].Text)
	}
	w.Desk.Journal, w.Cell = lay(w.Desk.Journal), lay(w.Cell)
	w.Packages, w.Desk.Tasks, w.Store.Blobs = roomy(w.Packages, pack("spare", nil)), roomy(w.Desk.Tasks, impl.Task{Name: "spare"}), roomy(w.Store.Blobs, blobOf("spare"))
	w.Workers, w.Net = roomy(w.Workers, impl.Worker{Job: 95}, impl.Worker{Job: 96}), roomy(w.Net, letters("spare", "room")...)
	return w
}

// stretched is it with all that is behind its lists, copied.
func stretched(w impl.World) impl.World {
	w.Packages = slices.Clone(w.Packages[:cap(w.Packages)])
	for at, p := range w.Packages {
		w.Packages[at].Imports, w.Packages[at].Funcs = p.Imports[:cap(p.Imports)], slices.Clone(p.Funcs[:cap(p.Funcs)])
		for k, f := range w.Packages[at].Funcs {
			w.Packages[at].Funcs[k].Tree = f.Tree[:cap(f.Tree)]
		}
	}
	w.Desk, w.Store.Blobs, w.Workers, w.Net = wholeDesk(w.Desk), w.Store.Blobs[:cap(w.Store.Blobs)], w.Workers[:cap(w.Workers)], w.Net[:cap(w.Net)]
	return worldCopied(w)
}

// worldOverwritten writes into all of its lists, and into the room behind them.
func worldOverwritten(w impl.World) {
	for _, task := range w.Desk.Tasks {
		for at := range task.Needs[:cap(task.Needs)] {
			task.Needs[:cap(task.Needs)][at] = -77
		}
	}
	projectOverwritten(w.Packages)
	for at := range w.Desk.Tasks[:cap(w.Desk.Tasks)] {
		w.Desk.Tasks[:cap(w.Desk.Tasks)][at] = impl.Task{Name: "spoilt"}
	}
	for at := range w.Store.Blobs[:cap(w.Store.Blobs)] {
		w.Store.Blobs[:cap(w.Store.Blobs)][at] = impl.Blob{Key: -77}
	}
	for at := range w.Workers[:cap(w.Workers)] {
		w.Workers[:cap(w.Workers)][at] = impl.Worker{Job: -77}
	}
	for at := range w.Net[:cap(w.Net)] {
		w.Net[:cap(w.Net)][at] = impl.Letter{Text: "spoilt"}
	}
}

// textsAnew has texts of its own too.
func textsAnew(w impl.World) impl.World {
	room := make([]byte, len(strings.Join(textsOfWorld(w), ""))+1)
	return laidWorld(room, w)
}

// mustBeNewWorlds asks twice; no answer shares anything with another one, nor
// with what is given, nor within itself.
func mustBeNewWorlds(t *testing.T, what string, given []string, lists []span, ask func() impl.World) {
	t.Helper()
	first, again := ask(), ask()
	want, texts, spans := textsAnew(again), textsOfWorld(first), spansOf(first)
	mustShareNoText(t, what+", with what is given", texts, given)
	mustShareNoText(t, what+", with another answer", texts, textsOfWorld(again))
	mustShareNoList(t, what+", with what is given", spans, lists)
	mustShareNoList(t, what+", with another answer", spans, spansOf(again))
	for at := range texts {
		mustShareNoText(t, what+", within one answer", texts[at:at+1], texts[:at])
	}
	for at := range spans {
		mustShareNoList(t, what+", within one answer", spans[at:at+1], spans[:at])
	}
	worldOverwritten(first)
	if !sameWorld(again, want) || !sameWorld(ask(), want) {
		t.Errorf("%s: it is handed out twice: %s", what, toldWorld(want))
	}
}

// memoryActs are done or refused, each Kind of them, in each of these Worlds.
func memoryActs() []impl.Act {
	list := []impl.Act{act(0), act(12), act(1), act(1, 9), act(2), act(2, 9), act(2, 1), act(2, 2), act(2, 3), act(3), act(3, 9), act(4, 1), act(5, 0, 0, 1), act(5, 3, 1, 1), act(6), act(6, 1), act(6, 2), act(7, 5), act(7, -1)}
	return append(list, act(8), act(8, 5), act(8, 99), act(9), act(10), act(10, 1), act(11))
}

func memoryWorlds(t *testing.T) map[string]impl.World {
	g := threeGround(t)
	k0, k1, k2 := g.key(0), g.key(1), g.key(2)
	busy := changed(g.newWorld(3, 9000), says("ask 2", "job 0 1 1", fmt.Sprint("done 1 0 1 ", k0), "bent"), job(1, 0, 1), job(2, 1, 1), has(9000, "abc", g.texts[2]), leased(0, 1, 10))
	done := changed(g.newWorld(3, 9000), noted(0, k0), noted(1, k1), noted(2, k2), has(9000, g.texts...), says("x", "ask 1"))
	return map[string]impl.World{
		"new": g.newWorld(3, 9000), "busy": busy, "done": done, "down": changed(busy, fallen), "down, done": changed(done, fallen, job(2, 0, 1)),
		"published": changed(done, cell(g.built)), "full": changed(busy, has(0), func(w *impl.World) { w.Net = append(w.Net, slices.Repeat(letters("x"), 56)...) }),
	}
}

// Promise 21.
func TestWorldsAreNewMemoryAndArgumentsStay(t *testing.T) {
	for why, one := range memoryWorlds(t) {
		room := make([]byte, len(strings.Join(textsOfWorld(one), ""))+1)
		w := laidWorld(room, one)
		held, whole := string(room), stretched(w)
		given, lists := append(textsOfWorld(w), laidText(room)), spansOf(w)
		asks := map[string]func() impl.World{
			"Calm": func() impl.World { return impl.Calm(w) }, "Play of none": func() impl.World { return impl.Play(w, nil) },
		}
		for _, a := range memoryActs() {
			asks[fmt.Sprint("Happen ", a)] = func() impl.World { got, _ := impl.Happen(w, a); return got }
			asks[fmt.Sprint("Play ", a)] = func() impl.World { return impl.Play(w, []impl.Act{a, act(3), act(1, 2), a}) }
		}
		mustBeWorld(t, why, w, true)
		answers, wants := map[string]impl.World{}, map[string]impl.World{}
		for what, ask := range asks {
			mustBeNewWorlds(t, why+", "+what, given, lists, ask)
			answers[what] = ask()
			wants[what] = textsAnew(answers[what])
			if string(room) != held || !sameWorld(stretched(w), whole) {
				t.Fatalf("%s, %s: an argument, or the room behind it, was written into", why, what)
			}
		}
		// What was answered stays, though the argument is another one now.
		for at := range room {
			room[at] = 'x'
		}
		worldOverwritten(w)
		for what, got := range answers {
			if !sameWorld(got, wants[what]) {
				t.Errorf("%s, %s: it is %s now", why, what, toldWorld(got))
			}
		}
		mustBeNoWorld(t, why+", overwritten", w)
	}
	acts := append(slices.Repeat([]impl.Act{act(7, 1)}, 3), act(7, 100))
	w := threeGround(t).newWorld(1, 9)
	mustPlay(t, "Acts with room behind them", w, acts[:3], changed(w, now(3)))
	if acts[3] != act(7, 100) {
		t.Error("the room behind the Acts was written into")
	}
}

func TestWorldsThatAreWrongStay(t *testing.T) {
	base := threeGround(t).newWorld(3, 9000)
	for why, changes := range worldSpoilers(t) {
		w := changed(base, changes...)
		if len(w.Workers)+len(w.Net)+len(w.Cell) > 1000 {
			continue
		}
		whole := stretched(w)
		mustBeNoWorld(t, why, w)
		if !sameWorld(stretched(w), whole) {
			t.Errorf("%s: it was written into", why)
		}
	}
}

func TestNewWorldsAreNewMemoryAndSourcesStay(t *testing.T) {
	texts := []string{"package main\nimport lib\nfunc main 1 @lib.f/1 $0\n", "package zed\nfunc f 0 1\n", "package lib\nfunc f 1 + $0 2\n"}
	room := make([]byte, 200)
	laid := laidOver(room, append(slices.Clone(texts), "package spare\nfunc f 0 1\n")...)
	held, sources, before := string(room), laid[:3], slices.Clone(laid)
	given := append(slices.Clone(sources), laidText(room))
	mustBeNewWorlds(t, "NewWorld", given, []span{spanOf(sources)}, func() impl.World { w, _ := impl.NewWorld(sources, 3, 500); return w })
	mustBeNewWorlds(t, "no World", given, []span{spanOf(sources)}, func() impl.World { w, _ := impl.NewWorld(sources, 5, 500); return w })
	if string(room) != held || !slices.Equal(laid, before) {
		t.Error("a source, or the room behind it, was written into")
	}
	w, is := impl.NewWorld(sources, 3, 500)
	for at := range room {
		room[at] = 'x'
	}
	if want := groundOf(sorted(t, texts)).newWorld(3, 500); !is || !sameWorld(w, want) {
		t.Errorf("it is %s now, not %s", toldWorld(w), toldWorld(want))
	}
	mustMakeWorld(t, sources, 3, 500, impl.World{}, false)
}

func sorted(t *testing.T, sources []string) []impl.Package {
	t.Helper()
	list, is := sortedBy(sources)
	if !is {
		t.Fatalf("%s are no project", toldSources(sources))
	}
	return list
}

// Nothing is kept of what was asked ahead, though the same memory holds
// another World now, and askings at the same time are each answered for
// themselves.
func TestFarmsKeepNothing(t *testing.T) {
	g := threeGround(t)
	w := g.newWorld(2, 9000)
	for range 3 {
		mustCalm(t, "whole", w, calmBy(g, w))
		w.Packages[1].Imports[0] = "lab"
		mustBeNoWorld(t, "an Import that is not there", w)
		w.Packages[1].Imports[0] = "lib"
		w.Workers[1].Job = 7
		mustBeNoWorld(t, "a Job", w)
		w.Workers[1].Job = -1
	}
	c := chance(461)
	worlds, wants := []impl.World{}, []impl.World{}
	for range 20 {
		g := drawnGround(&c)
		w := chosenWorld(&c, g)
		worlds, wants = append(worlds, w), append(wants, calmBy(g, w))
	}
	var asked sync.WaitGroup
	for at := range worlds {
		for range 2 {
			asked.Go(func() {
				for range 20 {
					if got := impl.Calm(worlds[at]); !sameWorld(got, wants[at]) {
						t.Errorf("Calm is %s, not %s", toldWorld(got), toldWorld(wants[at]))
					}
				}
			})
		}
	}
	asked.Wait()
}

// The greatest that there can be is not too much.
func TestFarmOfTheGreatest(t *testing.T) {
	g := groundOf(greatestProject(t, 3, strings.Repeat("@/3 $0 $0 ", 19)+"+ $0 $0"))
	w := g.newWorld(4, g.takes())
	then := impl.Calm(w)
	if !sameWorld(then, calmBy(g, w)) || then.Cell != g.built || len(g.tasks) != 8 {
		t.Errorf("Calm is %s", toldWorld(then))
	}
	mustHappenAsTold(t, "the greatest", g, changed(then, cell("")), act(11))
}
