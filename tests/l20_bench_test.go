package tests

import (
	"fmt"
	"regexp"
	"slices"
	"strconv"
	"strings"
	"sync"
	"testing"
	"unsafe"

	"loop.example/g00346/impl"
)

// A said is a line, and what is answered to it; the line without a byte has no
// answer.
type said struct{ line, answer string }

// talk takes a line and its answer in turn.
func talk(pairs ...string) []said {
	list := []said{}
	for at := 0; at < len(pairs); at += 2 {
		list = append(list, said{pairs[at], pairs[at+1]})
	}
	return list
}

// spoken are sources that are laid one behind the other; each of them ends its
// last line.
func spoken(sources ...string) []said {
	list := []said{}
	for at, source := range sources {
		if at > 0 {
			list = append(list, said{"next", fmt.Sprint(at + 1)})
		}
		for line := range strings.Lines(source) {
			list = append(list, said{"p " + strings.TrimSuffix(line, "\n"), "ok"})
		}
	}
	return list
}

func linesSaid(list []said) string {
	text := ""
	for _, one := range list {
		text += one.line + "\n"
	}
	return text
}

func answersSaid(list []said) string {
	text := ""
	for _, one := range list {
		if one.line != "" {
			text += one.answer + "\n"
		}
	}
	return text
}

// mustBench asks twice.
func mustBench(t *testing.T, text, want string) {
	t.Helper()
	for range 2 {
		if got := impl.Bench(text); got != want {
			t.Errorf("%.2000q is answered, not %.2000q, to %.3000q", got, want, text)
		}
	}
}

// mustTalk asks all of it, with the last byte 10 and without, and then what is
// ahead of each line: what comes later changes no answer.
func mustTalk(t *testing.T, talks ...[]said) {
	t.Helper()
	list := slices.Concat(talks...)
	mustBench(t, linesSaid(list), answersSaid(list))
	for many := range len(list) + 1 {
		text := linesSaid(list[:many])
		mustBench(t, strings.TrimSuffix(text, "\n"), answersSaid(list[:many]))
		if t.Failed() {
			return
		}
	}
}

// builtSays is what build answers where this is Built.
func builtSays(text string) string { return fmt.Sprint(len(text), " ", impl.Hash(text)) }

const badSays = "12 1650262789"

var tableWords = []string{"p", "next", "check", "mean", "build", "run", "need", "farm", "act", "calm", "same"}

const libSource = "package lib\nfunc f 1 + $0 2\n"
const mainSource = "package main\nimport lib\nfunc main 1 @lib.f/1 $0\n"
const twoBuilt = "routine lib.f 1 4\n2 0 0 0 -\n1 1 2 0 -\n3 0 0 1 -\n10 0 0 0 -\nroutine main.main 1 3\n2 0 0 0 -\n9 0 1 0 lib.f\n10 0 0 0 -\n"

// aloneSource has main alone, of this tree.
func aloneSource(tree string) string { return "package main\nfunc main 1 " + tree + "\n" }

func twoSaid() []said { return spoken(libSource, mainSource) }

func TestBenchConstants(t *testing.T) {
	if impl.MaxBench != 20000 || impl.MaxLines != 200 {
		t.Errorf("%d, %d", impl.MaxBench, impl.MaxLines)
	}
	if got := builtSays(badText); got != badSays {
		t.Errorf("%q", got)
	}
	mustBuild(t, []string{mainSource, libSource}, twoBuilt)
}

// All the table in one talk.
func TestBenchByHand(t *testing.T) {
	mustTalk(t, twoSaid(), talk(
		"check", "0 - -", "mean 5", "7 0", "run 5", "7 0", "build", "116 1802266051", "need + 1 + 2 3", "2", "calm", "error", "same", "error", "act 1 0 0 0", "error",
		"farm 2 9000", "2", "same", "n", "act 1 0 0 0", "ok", "act 2 0 0 0", "ok", "act 2 0 0 0", "ok", "act 2 0 0 0", "error", "act 6 0 0 0", "ok", "act 2 0 0 0", "ok",
		"same", "n", "calm", "116", "same", "y", "act 11 0 0 0", "error", "calm", "116", "next", "3", "check", "6 - -", "same", "n", "build", badSays, "calm", "116",
		"p package zed", "ok", "p func f 0 1", "ok", "check", "0 - -", "same", "y", "farm 1 5", "2", "same", "n", "calm", "0", "same", "n"))
}

// What the bench is at first, by each line of the table.
func TestBenchAtFirst(t *testing.T) {
	for _, one := range talk("p x", "ok", "p ", "ok", "next", "2", "check", "6 - -", "mean 5", "0 3", "build", badSays, "run 5", "0 3", "need 1", "1", "farm 1 0", "error", "act 1 0 0 0", "error", "calm", "error", "same", "error") {
		mustTalk(t, []said{one})
		mustTalk(t, []said{one, {"check", "6 - -"}})
	}
	mustTalk(t, nil)
}

func TestBenchPassesOverEmptyLines(t *testing.T) {
	for _, many := range []int{1, 2, 3, 50} {
		gap := slices.Repeat(talk("", ""), many)
		mustTalk(t, gap)
		mustTalk(t, gap, talk("next", "2"))
		mustTalk(t, talk("next", "2"), gap)
		mustTalk(t, talk("next", "2"), gap, talk("next", "3"), gap, talk("x", "error"), gap)
	}
	// They are no lines of a source, and no answer is told.
	spread := []said{}
	for _, one := range slices.Concat(twoSaid(), talk("mean 5", "7 0", "build", builtSays(twoBuilt))) {
		spread = append(spread, one, said{"", ""}, said{"", ""})
	}
	mustTalk(t, spread)
	mustBench(t, "", "")
	mustBench(t, "\n", "")
	mustBench(t, "\n\n\nnext", "2\n")
	mustBench(t, "\n\n\nnext\n\n\n", "2\n")
	mustBench(t, "next\n\nnext", "2\n3\n")
	// A line of blanks has a byte, and so has each of these.
	for _, line := range []string{" ", "  ", "   ", "\r", "\t", "\x00", "\xff", "\r ", " \r"} {
		mustTalk(t, []said{{line, "error"}})
		mustTalk(t, talk("next", "2", line, "error", "", "", "next", "3", line, "error"))
	}
}

func TestBenchLacksTheLastByte(t *testing.T) {
	mustBench(t, "p package main\np func main 1 $0\nmean 5", "ok\nok\n5 0\n")
	mustBench(t, "p package main\np func main 1 $0\nmean 5\n", "ok\nok\n5 0\n")
	mustBench(t, "next", "2\n")
	mustBench(t, "next\n", "2\n")
	mustBench(t, "x", "error\n")
	mustBench(t, "p", "error\n")
	mustBench(t, "p ", "ok\n")
	// What is cut is what is left of it: a line that is not ended counts.
	mustBench(t, "next\nnex", "2\nerror\n")
	mustBench(t, "next\nnext", "2\n3\n")
	mustBench(t, "next\np", "2\nerror\n")
}

func TestBenchLinesOfASource(t *testing.T) {
	main := spoken(aloneSource("$0"))
	right, wrong := talk("check", "0 - -"), talk("check", "6 - -", "build", badSays)
	mustTalk(t, main, right)
	// A LINE that is empty is a line without a byte of the source.
	for at := range len(main) + 1 {
		mustTalk(t, slices.Insert(slices.Clone(main), at, said{"p ", "ok"}), wrong)
	}
	// A blank is missing: nothing comes to the source.
	for at := range len(main) + 1 {
		mustTalk(t, slices.Insert(slices.Clone(main), at, said{"p", "error"}), right)
	}
	// Blanks at its ends and within are its own.
	for _, line := range []string{"p  func f 0 1", "p func f 0 1 ", "p  ", "p   ", "p func f 0  1", "p func  f 0 1", "p func f 0 + 1  2", "p    func f 0 1", "p func f 0 1  "} {
		mustTalk(t, main, right, []said{{line, "ok"}}, wrong)
	}
	mustTalk(t, main, talk("p func f 0 + 1 2", "ok"), right)
	// It may begin with a word of the table, which does nothing there.
	for _, line := range []string{
		"p", "p ", "p p", "p package a", "p func f 0 1", "next", "next ", "check", "mean", "mean 5", "build", "run", "run 5", "need", "need 1", "farm", "farm 1 0", "act", "act 1 0 0 0", "calm", "same", "error", "ok",
		"x", "\r", "\t", "\x00", "\xff", "func f 0 1\r", "func f 0 1\x00", "Func f 0 1", "12", "-",
	} {
		mustTalk(t, main, right, []said{{"p " + line, "ok"}}, wrong, talk("next", "2", "calm", "error"))
		mustTalk(t, []said{{"p " + line, "ok"}}, main, wrong, talk("next", "2", "same", "error"))
	}
	for _, name := range tableWords {
		mustTalk(t, spoken("package "+name+"\nfunc "+name+" 0 7\n", "package main\nimport "+name+"\nfunc main 1 + $0 @"+name+"."+name+"/0\n"), talk("mean 5", "12 0", "run 5", "12 0"))
	}
	// It comes to the last source, whatever stands in those ahead of it.
	mustTalk(t, spoken(libSource), talk("p func g 0 9", "ok", "next", "2"), spoken("package main\nimport lib\nfunc main 1 @lib.g/0\n"), talk("mean 5", "9 0", "p func more 0 1", "ok", "mean 5", "9 0", "p package b", "ok", "check", "6 - -"))
	mustTalk(t, talk("p x", "ok", "next", "2"), main, wrong)
	// A Func more at a time: each is asked as the source is then.
	mustTalk(t, talk("p package main", "ok"), wrong, talk("p func f 0 3", "ok", "check", "5 main main", "p func main 1 + $0 @main.f/0", "ok", "mean 4", "7 0", "p func main 1 1", "ok"), wrong)
}

func TestBenchNext(t *testing.T) {
	up := talk("next", "2", "next", "3", "next", "4", "next", "5", "next", "6", "next", "7", "next", "8")
	mustTalk(t, up)
	mustTalk(t, up, slices.Repeat(talk("next", "error"), 20))
	mustTalk(t, up[:3], talk("next ", "error", "next 1", "error", "next  ", "error", "next 5", "error", "next x", "error", "next next", "error"), up[3:], talk("next", "error"))
	// They are that many sources: eight make a project, of one that is empty
	// none is made.
	eight := []string{"package a\nfunc f 0 1\n", "package b\nfunc f 0 1\n", "package c\nfunc f 0 1\n", "package d\nfunc f 0 1\n", "package e\nfunc f 0 1\n", "package f\nfunc f 0 1\n", aloneSource("$0"), "package z\nfunc f 0 1\n"}
	mustTalk(t, spoken(eight...), talk("check", "0 - -", "mean 5", "5 0", "next", "error", "check", "0 - -", "mean 6", "6 0", "p func g 0 2", "ok", "check", "0 - -", "p package y", "ok", "check", "6 - -", "next", "error"))
	for many := range 7 {
		mustTalk(t, spoken(append(slices.Clone(eight[:many]), eight[6])...), talk("check", "0 - -", "next", fmt.Sprint(many+2), "check", "6 - -", "mean 5", "0 3"))
	}
	// Their order is of no weight.
	c := chance(2003)
	for range 20 {
		mustTalk(t, spoken(sourcesShuffled(&c, eight)...), talk("check", "0 - -", "build", builtSays("routine main.main 1 2\n2 0 0 0 -\n10 0 0 0 -\n")))
	}
}

func TestBenchCheck(t *testing.T) {
	mustTalk(t, twoSaid(), talk("check", "0 - -", "check ", "error", "check 1", "error", "check main", "error", "check - -", "error", "check check", "error", "check", "0 - -"))
	seen := [8]int{}
	for _, f := range faulty {
		sources := sourcesIn(t, f.texts...)
		answer := strings.TrimSuffix(strings.TrimPrefix(f.text, "fault "), "\n")
		seen[answer[0]-'0']++
		mustTalk(t, spoken(sources...), talk("check", answer, "build", builtSays(f.text), "mean 5", "0 3", "run 5", "0 3", "farm 1 9000", "error", "check", answer))
	}
	for _, source := range unreadable {
		if source == "" || strings.HasSuffix(source, "\n") {
			seen[6]++
			mustTalk(t, spoken(source), talk("check", "6 - -", "build", badSays))
			mustTalk(t, spoken(libSource, source, mainSource), talk("check", "6 - -", "build", badSays, "mean 5", "0 3", "run 5", "0 3", "farm 1 9000", "error"))
		}
	}
	if slices.Min(seen[1:7]) < 3 {
		t.Errorf("of each Code there were %v", seen)
	}
	// Two of one Name are no project.
	mustTalk(t, spoken(mainSource, libSource, libSource), talk("check", "6 - -"))
	// It is asked anew each time.
	mustTalk(t, talk("check", "6 - -"), spoken(mainSource), talk("check", "1 main -", "next", "2", "check", "6 - -"), spoken(libSource), talk("check", "0 - -", "p func g 0 $0", "ok", "check", "3 lib g", "p func h 0 @lib.zz/0", "ok", "check", "3 lib g", "next", "3", "check", "6 - -"))
}

// numbersThatAreNone are words without a blank.
var numbersThatAreNone = []string{
	"", "-", "-0", "00", "01", "-01", "007", "0000000001", "+1", "+0", "--1", "1-", "1.0", "1e3", "0x1", "1_0", "x", "N", "five", "1x", "x1", "\r", "1\r", "\t1", "1\x00", "\xff", "\u0661",
	"10000000000", "-10000000000", "99999999999", "02147483647", "9223372036854775807", "-9223372036854775808", "9223372036854775808", "18446744073709551615", "18446744073709551616", "18446744073709551617",
	"-9223372036854775809", "340282366920938463463374607431768211457", strings.Repeat("9", 100), strings.Repeat("0", 300), "1" + strings.Repeat("0", 64),
}

func TestBenchMeanAndRun(t *testing.T) {
	// each asks both lines.
	each := func(pairs ...string) []said {
		list := []said{}
		for _, one := range talk(pairs...) {
			list = append(list, said{"mean " + one.line, one.answer}, said{"run " + one.line, one.answer})
		}
		return list
	}
	mustTalk(t, spoken(aloneSource("+ $0 2")), each("0", "2 0", "1", "3 0", "-1", "1 0", "-2", "0 0", "-3", "-1 0", "12", "14 0", "-12", "-10 0", "2147483645", "2147483647 0", "2147483646", "-2147483648 0", "2147483647", "-2147483647 0", "-2147483648", "-2147483646 0"))
	// A number that is no word: nothing is given by it.
	mustTalk(t, spoken(aloneSource("+ $0 2")), each("2147483648", "0 3", "-2147483649", "0 3", "9999999999", "0 3", "-9999999999", "0 3", "4294967296", "0 3", "4294967297", "0 3", "1000000000", "1000000002 0"))
	for _, word := range numbersThatAreNone {
		mustTalk(t, spoken(aloneSource("7")), each(word, "error", "1", "7 0"))
	}
	mustTalk(t, spoken(aloneSource("7")), talk("mean", "error", "run", "error"), each("", "error", " ", "error", " 1", "error", "1 ", "error", "1 2", "error", "1  2", "error", "1 1 1", "error", "main 1", "error", "1 main", "error", "1", "7 0"))
	// What ends, and what is stopped.
	mustTalk(t, spoken(aloneSource("/ 6 $0")), each("2", "3 0", "-4", "-1 0", "0", "0 1", "7", "0 0"))
	mustTalk(t, spoken(aloneSource("? $0 / 1 0 5")), each("0", "5 0", "1", "0 1", "-1", "0 1"))
	for _, one := range []struct {
		much  int64
		lines []string
	}{
		{13335, []string{"mean 0", "3336 0", "run 0", "3336 0"}},
		{13336, []string{"mean 0", "3336 0", "run 0", "0 2"}},
		{19999, []string{"mean 0", "5002 0", "run 0", "0 2"}},
		{20000, []string{"mean 0", "5002 0", "run 0", "0 2"}},
		{20001, []string{"mean 0", "0 2", "run 0", "0 2"}},
		{20002, []string{"mean 0", "0 2", "run 0", "0 2"}},
	} {
		list, _ := burning(t, one.much)
		// There is as much fuel each time.
		mustTalk(t, spoken(sourcesOf(list)...), talk(one.lines...), talk(one.lines...))
	}
	// No main, none of one argument, no project, nothing at all.
	for _, sources := range [][]string{
		{"package lib\nfunc main 1 $0\n"}, {"package main\nfunc mean 1 $0\n"}, {"package main\nfunc main 0 1\n"}, {"package main\nfunc main 2 $0\n"}, {mainSource}, {mainSource, mainSource, libSource}, {aloneSource("$0"), ""},
		{"x\n", aloneSource("$0")}, {aloneSource("$1")}, {aloneSource("@main.main/1 $0")}, {"\n"}, {""},
	} {
		mustTalk(t, spoken(sources...), each("0", "0 3", "5", "0 3", "-5", "0 3", "2147483648", "0 3", "x", "error", "", "error"), talk("mean", "error", "run", "error"))
	}
	// It is main of main that is asked.
	mustTalk(t, spoken("package lib\nfunc main 1 1\nfunc f 1 2\n", "package main\nimport lib\nfunc f 1 3\nfunc lib 1 4\nfunc main 1 5\n", "package zz\nfunc main 1 6\n"), each("9", "5 0"))
}

func TestBenchBuild(t *testing.T) {
	mustTalk(t, twoSaid(), talk("build", "116 1802266051", "build", builtSays(twoBuilt), "build ", "error", "build 1", "error", "build main", "error", "build build", "error", "build", builtSays(twoBuilt)))
	mustTalk(t, spoken(mainSource, libSource), talk("build", builtSays(twoBuilt)))
	// What main does not reach is not put in.
	mustTalk(t, spoken(mainSource, "package zed\nfunc f 0 1\n", libSource), talk("build", builtSays(twoBuilt)))
	mustTalk(t, spoken(aloneSource("+ 2 3")), talk("build", builtSays("routine main.main 1 2\n1 0 5 0 -\n10 0 0 0 -\n")))
	// The text of a Fault is Built too.
	mustTalk(t, spoken(mainSource), talk("build", builtSays("fault 1 main -\n"), "next", "2", "build", badSays), spoken(libSource), talk("build", builtSays(twoBuilt), "p x", "ok", "build", badSays))
	mustTalk(t, spoken(aloneSource("$1")), talk("build", builtSays("fault 3 main main\n")))
}

func TestBenchNeed(t *testing.T) {
	mustTalk(t, talk("need 5", "1", "need -5", "1", "need $2", "1", "need + 1 2", "2", "need + 1 + 2 3", "2", "need + + 1 2 + 3 4", "3", "need ? 1 2 3", "1", "need @a.f/0", "1", "need @lib.f/3 1 2 3", "3", "need @a.f/2 1 + 2 3", "3",
		"need "+strings.Repeat("+ 1 ", 29)+"1", "2", "need ? "+strings.Repeat("+ 1 ", 28)+"1 2 3", "2"))
	for _, line := range []string{
		"need", "need ", "need  ", "need x", "need +", "need + 1", "need + 1 2 3", "need 1 2", "need  1", "need 1 ", "need 1  2", "need + 1  2", "need $3", "need 01", "need -0", "need 2147483648", "need @a/0", "need @a.f/4 1 2 3 4", "need @a.f/1", "need TREE",
		"need 1\r", "need\t1", "need + 1\t2", "need ? 1 2", "need need 1", "need " + strings.Repeat("+ 1 ", 30) + "1", "need ? " + strings.Repeat("+ 1 ", 29) + "1 2 3",
	} {
		mustTalk(t, []said{{line, "error"}, {"need 1", "1"}})
	}
	for _, tree := range manyTrees() {
		if nodes := tree.nodes(); needBy(nodes) > 2 {
			mustBench(t, "need "+tree.text(), fmt.Sprintln(needBy(nodes)))
		}
	}
	// No source is asked.
	mustTalk(t, twoSaid(), talk("need @zz.zz/2 1 2", "2", "check", "0 - -"))
}

func TestBenchFarm(t *testing.T) {
	for _, w := range []string{"1", "2", "3", "4"} {
		for _, room := range []string{"0", "1", "9000", "99999", "100000"} {
			mustTalk(t, twoSaid(), []said{{"farm " + w + " " + room, "2"}, {"act 1 0 0 0", "ok"}})
		}
		// So many Workers there are.
		many, _ := strconv.Atoi(w)
		for worker := range 6 {
			answer := "error"
			if worker < many {
				answer = "ok"
			}
			mustTalk(t, twoSaid(), talk("farm "+w+" 9000", "2", fmt.Sprintf("act 1 %d 0 0", worker), answer))
		}
	}
	// Refused: out of range, no number, a word too many or too few.
	refused := talk("farm 0 9000", "error", "farm 5 9000", "error", "farm -1 9000", "error", "farm 9999999999 9000", "error", "farm 2 -1", "error", "farm 2 100001", "error", "farm 2 9999999999", "error", "farm 0 -1", "error",
		"farm", "error", "farm ", "error", "farm 2", "error", "farm 2 ", "error", "farm 2 9000 ", "error", "farm 2  9000", "error", "farm  2 9000", "error", "farm 2 9000 1", "error", "farm 2 9000 x", "error", "farm W ROOM", "error", "farm 9000 2", "error")
	for _, word := range numbersThatAreNone {
		refused = append(refused, talk("farm "+word+" 9000", "error", "farm 2 "+word, "error")...)
	}
	for _, one := range refused {
		mustTalk(t, twoSaid(), []said{one}, talk("calm", "error", "same", "error", "act 1 0 0 0", "error"))
		// The one that there is stays, and all that has happened in it.
		mustTalk(t, twoSaid(), talk("farm 1 9000", "2", "act 1 0 0 0", "ok"), []said{one}, talk("act 2 0 0 0", "ok", "act 2 0 0 0", "ok", "act 6 0 0 0", "ok", "calm", "116", "same", "y"), []said{one}, talk("same", "y"))
	}
	// The sources make no project, or one with a Fault.
	for _, f := range faulty {
		mustTalk(t, spoken(sourcesIn(t, f.texts...)...), talk("farm 2 9000", "error", "calm", "error"))
	}
	mustTalk(t, talk("farm 2 9000", "error"), spoken(libSource), talk("farm 2 9000", "error", "next", "2"), spoken(mainSource), talk("farm 2 9000", "2", "p x", "ok", "farm 2 9000", "error", "calm", "116"))
	// A Task for each of the Parts.
	mustTalk(t, spoken(aloneSource("$0")), talk("farm 1 9000", "1"), talk("next", "2"), spoken("package zed\nfunc f 0 1\n"), talk("farm 1 9000", "1"))
	mustTalk(t, spoken(sourcesIn(t, "a: f 0 1", "b a: f 0 1", "c b: f 0 1", "d c: f 0 1", "e d: f 0 1", "f e: f 0 1", "g f: f 0 1", "main g: main 1 1")...), talk("farm 1 9000", "8", "calm", "302", "same", "y"))
	// Another one in its stead: nothing has happened in it.
	mustTalk(t, twoSaid(), talk("farm 1 9000", "2", "act 1 0 0 0", "ok", "farm 2 9000", "2", "act 2 0 0 0", "error", "act 1 1 0 0", "ok", "calm", "116", "same", "y", "farm 1 9000", "2", "same", "n", "act 1 1 0 0", "error", "calm", "116"))
	mustTalk(t, twoSaid(), talk("farm 1 9000", "2", "calm", "116", "farm 1 0", "2", "calm", "0", "same", "n"))
	// It is of the sources as they are then.
	mustTalk(t, twoSaid(), talk("farm 1 9000", "2", "next", "3"), spoken("package more\nfunc f 0 1\n"), talk("calm", "116", "same", "y", "farm 1 9000", "2", "same", "n"))
}

// Each Kind is done and refused, at each step of a day on which all goes well.
func TestBenchActs(t *testing.T) {
	farm := slices.Concat(twoSaid(), talk("farm 2 9000", "2"))
	asked := talk("act 1 1 0 0", "ok")
	lent := slices.Concat(asked, talk("act 2 0 0 0", "ok"))
	given := slices.Concat(lent, talk("act 2 0 0 0", "ok"))
	worked := slices.Concat(given, talk("act 6 1 0 0", "ok"))
	back := slices.Concat(worked, talk("act 2 0 0 0", "ok"))
	all := slices.Concat(back, asked, talk("act 2 0 0 0", "ok", "act 2 0 0 0", "ok", "act 6 1 0 0", "ok", "act 2 0 0 0", "ok"))
	fallen := talk("act 8 0 0 0", "ok")
	for _, one := range []struct {
		ahead []said
		pairs []string
	}{
		// AcAsk: two Workers, and none that has a Job.
		{nil, []string{"act 1 0 0 0", "ok", "act 1 1 0 0", "ok", "act 1 2 0 0", "error", "act 1 -1 0 0", "error", "act 1 9999999999 0 0", "error", "act 2 0 0 0", "ok", "act 2 0 0 0", "ok", "act 2 0 0 0", "ok", "act 2 0 0 0", "error"}},
		{given, []string{"act 1 1 0 0", "error", "act 1 0 0 0", "ok"}},
		// What else it tells is passed over.
		{nil, []string{"act 1 0 5 -7", "ok", "act 1 0 9999999999 -9999999999", "ok", "act 2 1 9 9", "ok", "act 2 1 9 9", "ok", "act 2 1 9 9", "error"}},
		// AcTake.
		{nil, []string{"act 2 0 0 0", "error"}},
		{asked, []string{"act 2 1 0 0", "error", "act 2 -1 0 0", "error", "act 2 0 0 0", "ok", "act 2 1 0 0", "error", "act 2 0 0 0", "ok", "act 2 0 0 0", "error", "act 6 1 0 0", "ok"}},
		{lent, []string{"act 6 1 0 0", "error", "act 2 0 0 0", "ok", "act 6 0 0 0", "error", "act 6 1 0 0", "ok"}},
		// AcTwice and AcLose.
		{asked, []string{"act 3 0 0 0", "ok", "act 3 1 0 0", "ok", "act 3 3 0 0", "error", "act 3 -1 0 0", "error", "act 4 2 0 0", "ok", "act 4 2 0 0", "error", "act 4 0 0 0", "ok", "act 4 0 0 0", "ok", "act 4 0 0 0", "error", "act 3 0 0 0", "error"}},
		{lent, []string{"act 4 0 0 0", "ok", "act 2 0 0 0", "error", "act 6 1 0 0", "error"}},
		// AcBend: once, a byte that is there, to a byte.
		{asked, []string{"act 5 0 21 0", "error", "act 5 0 -1 0", "error", "act 5 0 0 256", "error", "act 5 0 0 -1", "error", "act 5 1 0 0", "error", "act 5 0 20 255", "ok", "act 5 0 20 255", "error", "act 5 0 0 0", "error", "act 2 0 0 0", "ok", "act 2 0 0 0", "error"}},
		{asked, []string{"act 5 0 0 48", "ok", "act 5 0 0 48", "error", "act 2 0 0 0", "ok", "act 2 0 0 0", "ok", "act 6 1 0 0", "ok"}},
		// AcWork and AcDrop.
		{nil, []string{"act 6 1 0 0", "error", "act 6 2 0 0", "error", "act 10 1 0 0", "error", "act 10 -1 0 0", "error"}},
		{given, []string{"act 6 2 0 0", "error", "act 6 0 0 0", "error", "act 6 1 0 0", "ok", "act 6 1 0 0", "error", "act 10 1 0 0", "error"}},
		{given, []string{"act 10 0 0 0", "error", "act 10 1 0 0", "ok", "act 10 1 0 0", "error", "act 6 1 0 0", "error", "act 1 1 0 0", "ok"}},
		// AcTick.
		{nil, []string{"act 7 -1 0 0", "error", "act 7 1 0 0", "ok", "act 7 999999 0 0", "ok", "act 7 1 0 0", "error", "act 7 9999999999 0 0", "error"}},
		{lent, []string{"act 7 9 0 0", "ok", "act 1 0 0 0", "ok", "act 2 1 0 0", "ok", "act 2 1 0 0", "error", "act 7 1 0 0", "ok", "act 1 0 0 0", "ok", "act 2 1 0 0", "ok", "act 2 1 0 0", "ok", "act 6 0 0 0", "ok"}},
		// AcFall and AcRise.
		{nil, []string{"act 9 0 0 0", "error", "act 8 -1 0 0", "error", "act 8 0 0 0", "ok", "act 8 0 0 0", "error", "act 7 1 0 0", "error", "act 9 0 0 0", "ok", "act 9 0 0 0", "error", "act 8 23 0 0", "ok", "act 9 0 0 0", "ok", "act 8 9999999999 0 0", "ok"}},
		{fallen, []string{"act 1 0 0 0", "ok", "act 2 0 0 0", "ok", "act 2 0 0 0", "error", "act 11 0 0 0", "error", "act 7 0 0 0", "error", "act 9 0 0 0", "ok"}},
		// AcPublish: all is done, and that once.
		{worked, []string{"act 11 0 0 0", "error", "same", "n"}},
		{back, []string{"act 11 0 0 0", "error", "same", "n"}},
		{all, []string{"same", "n", "act 11 0 0 0", "ok", "same", "y", "act 11 0 0 0", "error", "same", "y", "calm", "116"}},
		{all, []string{"act 8 0 0 0", "ok", "act 11 0 0 0", "error", "act 9 0 0 0", "ok", "act 11 1 2 3", "ok", "same", "y"}},
		{all, []string{"act 8 1 0 0", "ok", "act 9 0 0 0", "ok", "act 11 0 0 0", "error", "same", "n", "calm", "116", "same", "y"}},
		// No Kind.
		{all, []string{"act 0 0 0 0", "error", "act 12 0 0 0", "error", "act -1 0 0 0", "error", "act 9999999999 0 0 0", "error", "act -9999999999 0 0 0", "error"}},
	} {
		mustTalk(t, farm, one.ahead, talk(one.pairs...))
	}
}

// Where there is no farm nothing happens, and where a word is no number, or
// one too many or too few, it is as if it had not been said.
func TestBenchActsThatAreNotTold(t *testing.T) {
	lines := []string{"act", "act ", "act 1", "act 1 0", "act 1 0 0", "act 1 0 0 ", "act 1 0 0 0 ", "act 1 0 0 0 0", "act  1 0 0 0", "act 1  0 0 0", "act 1 0  0 0", "act 1 0 0  0", "act 1 0 0  ", "act 1 0 0 0 x", "act x 1 0 0 0", "act KIND A B C", "act 1 0 0 0\r", "act\t1 0 0 0"}
	for _, word := range numbersThatAreNone {
		for place := range 4 {
			words := []string{"1", "0", "0", "0"}
			words[place] = word
			lines = append(lines, "act "+strings.Join(words, " "))
		}
	}
	mustTalk(t, twoSaid(), talk("farm 1 9000", "2", "act 1 0 0 0", "ok", "act 2 0 0 0", "ok", "act 2 0 0 0", "ok"))
	for _, line := range lines {
		none := []said{{line, "error"}}
		mustTalk(t, twoSaid(), talk("farm 1 9000", "2"), none, talk("act 2 0 0 0", "error", "act 1 0 0 0", "ok", "act 2 0 0 0", "ok"), none, talk("act 2 0 0 0", "ok", "act 6 0 0 0", "ok"))
		mustTalk(t, twoSaid(), none, talk("same", "error"))
	}
	for kind := range 14 {
		for a := range 3 {
			mustTalk(t, twoSaid(), []said{{fmt.Sprintf("act %d %d 0 0", kind, a), "error"}}, talk("calm", "error", "same", "error"))
		}
	}
}

func TestBenchCalmAndSame(t *testing.T) {
	for _, line := range []string{"calm", "calm ", "calm 1", "calm x", "calm calm", "calm  ", "same", "same ", "same 1", "same y", "same same", "same  "} {
		none := []said{{line, "error"}}
		mustTalk(t, none)
		mustTalk(t, twoSaid(), none, talk("check", "0 - -"))
		if strings.Contains(line, " ") {
			// Nothing is calm by it.
			mustTalk(t, twoSaid(), talk("farm 1 9000", "2"), none, talk("same", "n"), none, talk("calm", "116"), none, talk("same", "y"), none)
		}
	}
	farm := slices.Concat(twoSaid(), talk("farm 2 9000", "2", "same", "n"))
	mustTalk(t, farm, talk("calm", "116", "same", "y", "calm", "116", "same", "y", "same", "y"))
	// What had happened ahead of it is as in the chapter: all Letters go, time
	// goes on by 20, what is down rises.
	mustTalk(t, farm, talk("act 1 0 0 0", "ok", "act 2 0 0 0", "ok", "act 2 0 0 0", "ok", "act 1 1 0 0", "ok", "act 8 0 0 0", "ok", "same", "n", "calm", "116", "same", "y", "act 2 0 0 0", "error", "act 9 0 0 0", "error", "act 10 0 0 0", "error", "act 7 999980 0 0", "ok", "act 7 1 0 0", "error"))
	// Where it comes to nothing, it has none.
	mustTalk(t, farm, talk("act 7 999981 0 0", "ok", "act 1 0 0 0", "ok", "act 2 0 0 0", "ok", "calm", "0", "same", "n"))
	mustTalk(t, twoSaid(), talk("farm 2 60", "2", "calm", "0", "same", "n", "calm", "0"))
	mustTalk(t, spoken(sourcesOf(clashingGround(t).list)...), talk("farm 4 100000", "2", "calm", "0", "same", "n"))
	// The sources are others now: the farm is as it was, but Built is not.
	for _, other := range []struct {
		changes []said
		answer  string
	}{
		{talk("p func g 0 1", "ok"), "n"}, {talk("p ", "ok"), "n"}, {talk("p x", "ok"), "n"}, {talk("next", "3"), "n"}, {slices.Concat(talk("next", "3"), spoken(libSource)), "n"}, {slices.Concat(talk("next", "3"), spoken("package zed\nfunc f 0 $0\n")), "n"},
		{slices.Concat(talk("next", "3"), spoken("package zed\nfunc f 0 1\n")), "y"}, {slices.Concat(talk("next", "3"), spoken("package zed\nimport lib\nfunc f 0 @lib.f/1 3\n")), "y"}, {talk("p", "error"), "y"}, {talk("next 1", "error"), "y"},
	} {
		mustTalk(t, farm, talk("calm", "116", "same", "y"), other.changes, talk("same", other.answer, "calm", "116", "same", other.answer))
		mustTalk(t, farm, other.changes, talk("same", "n", "calm", "116", "same", other.answer))
	}
	// They are others, and then what is made of them is in Cell again.
	mustTalk(t, farm, talk("calm", "116", "p func g 0 1", "ok", "same", "n", "farm 2 9000", "2", "same", "n", "calm", "156", "same", "y"))
	mustTalk(t, farm, talk("calm", "116", "next", "3", "same", "n", "p package zed", "ok", "same", "n", "p func f 0 1", "ok", "same", "y"))
}

// One byte other than in the table, one less, one more, or a blank ahead.
func TestBenchOfOtherWords(t *testing.T) {
	lines := []string{"x", "P x", "ok", "error", "-", "0", "1 2", "pnext", "p\tx", "NEXT", "Check", "checks", "what", "means 5", "farms 1 9000", "package lib", "func f 0 1", "import lib", "routine", "object", "fault 6 - -", "bench", "next,", "next;next", "p\rx", "run\t5", "quit", "help", "#", "//", "\xef\xbb\xbfnext"}
	for _, line := range []string{"p x", "next", "check", "mean 5", "build", "run 5", "need 1", "farm 2 9000", "act 1 0 0 0", "calm", "same"} {
		word, rest, _ := strings.Cut(line, " ")
		behind := ""
		if rest != "" {
			behind = " " + rest
		}
		for at := range len(word) {
			lines = append(lines, word[:at]+word[at+1:]+behind, word[:at]+strings.ToUpper(word[at:at+1])+word[at+1:]+behind, word[:at]+string(word[at]+1)+word[at+1:]+behind, word[:at]+string(word[at]^32)+word[at:]+behind, word[:at]+word[at:at+1]+word[at:]+behind)
		}
		lines = append(lines, " "+line, "  "+line, "\t"+line, "\x00"+line, word+"s"+behind, word+"\r"+behind, word+"\t"+behind, word+"\x00"+behind, word+"."+behind)
	}
	for _, line := range lines {
		other := []said{{line, "error"}}
		mustTalk(t, other)
		// It does nothing.
		mustTalk(t, spoken(libSource), other, talk("next", "2"), spoken(mainSource), other, talk("check", "0 - -", "farm 1 9000", "2"), other, talk("act 2 0 0 0", "error", "act 1 1 0 0", "error", "same", "n"), other, talk("calm", "116", "same", "y"), other, talk("same", "y"))
	}
}

func TestBenchByNumberOfBytes(t *testing.T) {
	for _, last := range []string{"", "\n"} {
		for _, ahead := range []string{"", "next\n", "\n\nnext\n"} {
			room := 20000 - len(ahead) - len("p ") - len(last)
			want := strings.Replace(strings.TrimLeft(ahead, "\n"), "next", "2", 1)
			mustBench(t, ahead+"p "+strings.Repeat("x", room-1)+last, want+"ok\n")
			mustBench(t, ahead+"p "+strings.Repeat("x", room)+last, want+"ok\n")
			mustBench(t, ahead+"p "+strings.Repeat("x", room+1)+last, "")
			mustBench(t, ahead+"p "+strings.Repeat("x", room+2)+last, "")
		}
	}
	mustBench(t, strings.Repeat("x", 20000), "error\n")
	mustBench(t, strings.Repeat("x", 19999)+"\n", "error\n")
	mustBench(t, strings.Repeat("x", 20001), "")
	mustBench(t, strings.Repeat("x", 20000)+"\n", "")
	// Bytes are counted, not signs.
	mustBench(t, strings.Repeat("\u00e9", 10000), "error\n")
	mustBench(t, strings.Repeat("\u00e9", 10000)+"x", "")
	for _, great := range []int{20001, 40000, 1000000, 50000000} {
		for _, piece := range []string{"\n", " ", "x", "next\n", "p x\n", "\xff"} {
			mustBench(t, strings.Repeat(piece, great/len(piece)+1), "")
		}
	}
}

func TestBenchByNumberOfLines(t *testing.T) {
	answers := func(many int) string { return strings.Repeat("error\n", many) }
	for _, many := range []int{1, 2, 199, 200} {
		mustBench(t, strings.Repeat("x\n", many), answers(many))
		mustBench(t, strings.Repeat("x\n", many-1)+"x", answers(many))
		mustBench(t, strings.Repeat("\n", many), "")
		mustBench(t, strings.Repeat("\n", many-1)+"x", answers(1))
		mustBench(t, strings.Repeat("\n", many-1)+"x\n", answers(1))
		mustBench(t, "x\n"+strings.Repeat("\n", many-1), answers(1))
	}
	for _, many := range []int{201, 202, 400, 5000} {
		mustBench(t, strings.Repeat("x\n", many), "")
		mustBench(t, strings.Repeat("x\n", many-1)+"x", "")
		// Also those without a byte.
		mustBench(t, strings.Repeat("\n", many-1)+"x", "")
		mustBench(t, strings.Repeat("\n", many-1)+"x\n", "")
		mustBench(t, "x\n"+strings.Repeat("\n", many-1), "")
		mustBench(t, strings.Repeat("\n", 100)+"x\n"+strings.Repeat("\n", many-101), "")
	}
	mustBench(t, strings.Repeat("p x\n", 193)+strings.Repeat("next\n", 7), strings.Repeat("ok\n", 193)+"2\n3\n4\n5\n6\n7\n8\n")
	mustBench(t, strings.Repeat("p x\n", 193)+strings.Repeat("next\n", 7)+"\n", "")
}

// A workbench is a bench by the document's sentences, over what the tests tell
// of the chapters.
type workbench struct {
	sources []string
	ground  ground
	world   impl.World
	has     bool
}

var benchNumber = regexp.MustCompile(`^` + numberForm + `$`)

func wordsAreNumbers(words []string) bool {
	return alwaysOf(words, func(word string) bool {
		return len(strings.TrimPrefix(word, "-")) <= 10 && benchNumber.MatchString(word)
	})
}

func (b *workbench) building() building {
	c := chance(2011)
	return buildingBy(&c, b.sources)
}

func (b *workbench) given(word string, n int64) string {
	built := b.building()
	got := badAnswer
	switch m, is := imageOfText(built.text); {
	case word == "mean":
		got = answerBy(built.list, "main", "main", words(n), 20000)
	case is && isBetween(n, leastWord, greatestWord):
		got = ranBy(m, "main.main", words(n), 20000)
	}
	return fmt.Sprint(got.value, " ", got.code)
}

func (b *workbench) farm(workers, room int64) string {
	built := b.building()
	if built.fault.Code != 0 || !isBetween(workers, 1, 4) || !isBetween(room, 0, 100000) {
		return "error"
	}
	b.ground, b.has = groundOf(built.list), true
	b.world = b.ground.newWorld(int(workers), room)
	return fmt.Sprint(len(built.parts))
}

func (b *workbench) act(a impl.Act) string {
	after, did := happenBy(b.ground, b.world, a)
	b.world = after
	if !did {
		return "error"
	}
	return "ok"
}

func (b *workbench) same() string {
	if b.world.Cell == b.building().text {
		return "y"
	}
	return "n"
}

// counted are the words behind which stand so many numbers.
var counted = map[string]int{"next": 0, "check": 0, "mean": 1, "build": 0, "run": 1, "farm": 2, "act": 4, "calm": 0, "same": 0}

func (b *workbench) answer(line string) string {
	word, text, more := strings.Cut(line, " ")
	switch {
	case word == "p" && more:
		b.sources[len(b.sources)-1] += text + "\n"
		return "ok"
	case word == "need" && more:
		if tree, is := readBy(text); is {
			return fmt.Sprint(needBy(tree))
		}
		return "error"
	}
	many, is := counted[word]
	digits := strings.Split(line, " ")[1:]
	if !is || len(digits) != many || !wordsAreNumbers(digits) {
		return "error"
	}
	numbers := []int64{}
	for _, one := range digits {
		numbers = append(numbers, parsed(one))
	}
	return b.counted(word, numbers)
}

func (b *workbench) counted(word string, n []int64) string {
	if (word == "act" || word == "calm" || word == "same") && !b.has {
		return "error"
	}
	switch word {
	case "next":
		if len(b.sources) == 8 {
			return "error"
		}
		b.sources = append(b.sources, "")
		return fmt.Sprint(len(b.sources))
	case "check":
		list, _ := sortedBy(b.sources)
		fault := append(faultsBy(list), impl.Fault{})[0]
		return strings.TrimSuffix(strings.TrimPrefix(faultText(fault), "fault "), "\n")
	case "build":
		return builtSays(b.building().text)
	case "farm":
		return b.farm(n[0], n[1])
	case "act":
		return b.act(impl.Act{Kind: n[0], A: n[1], B: n[2], C: n[3]})
	case "calm":
		b.world = calmBy(b.ground, b.world)
		return fmt.Sprint(len(b.world.Cell))
	case "same":
		return b.same()
	}
	return b.given(word, n[0])
}

func benchBy(text string) string {
	lines := strings.Split(text, "\n")
	if last := len(lines) - 1; lines[last] == "" {
		lines = lines[:last]
	}
	if len(text) > 20000 || len(lines) > 200 {
		return ""
	}
	b, answers := workbench{sources: []string{""}}, ""
	for _, line := range lines {
		if line != "" {
			answers += b.answer(line) + "\n"
		}
	}
	return answers
}

// spoiltLine has a word more or less, another byte, or a blank ahead.
func spoiltLine(c *chance, line string) string {
	at := c.below(len(line) + 1)
	switch c.below(7) {
	case 0:
		return line[:at] + " " + line[at:]
	case 1:
		return line + " 0"
	case 2:
		return line[:max(0, strings.LastIndex(line, " "))]
	case 3:
		return " " + line
	case 4:
		return line[:at] + string("0-x\r~"[c.below(5)]) + line[at:]
	case 5:
		return line[:at] + line[min(at+1, len(line)):]
	}
	words := strings.Split(line, " ")
	words[c.below(len(words))] = numbersThatAreNone[c.below(len(numbersThatAreNone))]
	return strings.Join(words, " ")
}

// drawnLine is one of the table that may well be answered.
func drawnLine(c *chance, b *workbench) string {
	n := []int64{int64(c.below(5)), int64(c.below(300)) - 100, edgeWords[c.below(len(edgeWords))], edgeNumbers[c.below(len(edgeNumbers))]}[c.below(4)]
	k := c.below(40)
	switch {
	case k < 2:
		return "check"
	case k < 4:
		return fmt.Sprint("mean ", n)
	case k < 6:
		return fmt.Sprint("run ", n)
	case k < 8:
		return "build"
	case k < 10:
		return "need " + treeOf(c, 1+c.below(20)).text()
	case k < 11:
		return "calm"
	case k < 13:
		return "same"
	case k < 14 || !b.has && k < 26:
		return fmt.Sprintf("farm %d %d", 1+c.below(5), []int64{100000, 100001, 9000, int64(c.below(500))}[c.below(4)])
	case !b.has || k < 15:
		return fmt.Sprintf("act %d %d %d %d", c.below(13), c.below(5), c.below(30), c.below(300))
	}
	a := drawnAct(c, b.world)
	if k < 32 {
		a = nextAct(c, b.world)
	}
	return fmt.Sprintf("act %d %d %d %d", a.Kind, a.A, a.B, a.C)
}

// A benching is a talk with a workbench, as far as there is room for it.
type benching struct {
	bench workbench
	list  []said
	bytes int
}

func (b *benching) say(line string) {
	if len(b.list) == 200 || b.bytes+len(line)+1 > 20000 || strings.Contains(line, "\n") {
		return
	}
	one := said{line: line}
	if line != "" {
		one.answer = b.bench.answer(line)
	}
	b.list, b.bytes = append(b.list, one), b.bytes+len(line)+1
}

// Promise 20, of projects whole and spoilt, of which a farm is at work.
func TestBenchTellsWhatTheChaptersTell(t *testing.T) {
	c, seen := chance(2017), map[string]int{}
	for i := range 300 {
		list := drawnParts(&c)
		switch i % 6 {
		case 0:
			list = drawnProject(&c, i)
		case 1:
			mistaken(&c, list)
		}
		b := benching{bench: workbench{sources: []string{""}}}
		spoilt := []int{0, 2, 10, 30}[c.below(4)]
		for _, one := range spoken(sourcesShuffled(&c, sourcesOf(list))...) {
			if c.below(600) < spoilt {
				b.say(spoiltLine(&c, one.line))
			}
			b.say(one.line)
			if c.below(30) == 0 {
				b.say(drawnLine(&c, &b.bench))
			}
		}
		for range c.below(140) {
			line := drawnLine(&c, &b.bench)
			switch k := c.below(200); {
			case k < 2*spoilt:
				line = spoiltLine(&c, line)
			case k >= 196:
				line = []string{"", "next", "p func zz 0 1", "p", "p "}[c.below(5)]
			}
			b.say(line)
		}
		mustBench(t, linesSaid(b.list), answersSaid(b.list))
		if cut := c.below(len(b.list) + 1); !strings.HasPrefix(answersSaid(b.list), impl.Bench(linesSaid(b.list[:cut]))) {
			t.Errorf("the first %d lines of %q are answered otherwise", cut, linesSaid(b.list))
		}
		for _, one := range b.list {
			word, _, _ := strings.Cut(one.line, " ")
			if !slices.Contains(tableWords, word) {
				continue
			}
			seen[word]++
			if slices.Contains([]string{"error", "y", "n"}, one.answer) {
				seen[word+" "+one.answer]++
			} else if word == "mean" || word == "run" {
				seen[word+one.answer[len(one.answer)-2:]]++
			}
		}
		if t.Failed() {
			return
		}
	}
	for what, least := range map[string]int{
		"p": 1000, "p error": 5, "next": 300, "next error": 5, "check": 500, "check error": 15, "mean": 500, "mean error": 50, "build": 500, "build error": 10, "run": 500, "run error": 50, "need": 500, "need error": 50,
		"farm": 200, "farm error": 300, "act": 4000, "act error": 2000, "calm": 300, "calm error": 30, "same y": 200, "same n": 200, "same error": 30,
		"mean 0": 300, "mean 1": 30, "mean 3": 100, "run 0": 300, "run 1": 30, "run 3": 100,
	} {
		if seen[what] < least {
			t.Errorf("of %q there were %d: %v", what, seen[what], seen)
		}
	}
}

// Cut at any byte, the answers to all whole lines are the same.
func TestBenchCutAnywhere(t *testing.T) {
	list := slices.Concat(twoSaid(), talk("", "", "check", "0 - -", "mean 15", "17 0", "need + 1 2", "2", "x", "error", "farm 2 9000", "2", "act 1 0 0 0", "ok", "act 2 0 0 0", "ok", "", "", "calm", "116", "same", "y", "build", "116 1802266051"))
	text := linesSaid(list)
	for cut := range len(text) + 1 {
		got := impl.Bench(text[:cut])
		whole := strings.Count(text[:cut], "\n")
		if want := answersSaid(list[:whole]); !strings.HasPrefix(got, want) || strings.Count(got, "\n") > strings.Count(want, "\n")+1 {
			t.Errorf("%q is answered to %q", got, text[:cut])
		}
		mustBench(t, text[:cut], benchBy(text[:cut]))
	}
}

// What is too long for MaxCode is told by build alone.
func TestBenchOfAnObjectThatIsZero(t *testing.T) {
	bench := changedProgram(t, "l13_code.go", "const MaxCode = 200", "const MaxCode = 5", "fmt.Print(impl.Bench(os.Args[1]))")
	for _, one := range [][]said{
		slices.Concat(spoken(aloneSource("? $0 1 2")), talk("check", "0 - -", "mean 5", "1 0", "build", builtSays(bigText), "run 5", "0 3", "farm 1 9000", "error", "calm", "error")),
		slices.Concat(spoken(aloneSource("+ $0 2")), talk("check", "0 - -", "mean 5", "7 0", "build", "63 203544666", "run 5", "7 0", "farm 1 9000", "1", "calm", "63", "same", "y", "p func g 1 ? $0 1 2", "ok", "same", "n", "calm", "63")),
	} {
		if got := bench([]string{linesSaid(one)}); got != answersSaid(one) {
			t.Errorf("%q is answered to %q", got, linesSaid(one))
		}
	}
}

// Promise 21: whatever it is given, it answers.
func TestBenchAnswersAtEveryText(t *testing.T) {
	for _, s := range piecedTexts() {
		mustBench(t, s, benchBy(s))
	}
	// All short texts of a few pieces.
	pieces := []string{"p", "next", " ", "\n", "x", "need 1", "check"}
	short := []string{""}
	for range 5 {
		longer := []string{}
		for _, s := range short {
			for _, piece := range pieces {
				longer = append(longer, s+piece)
			}
		}
		for _, s := range longer {
			if got, want := impl.Bench(s), benchBy(s); got != want {
				t.Errorf("%q is answered, not %q, to %q", got, want, s)
			}
		}
		short = longer
	}
	// Any bytes.
	c := chance(2027)
	for range 2000 {
		bytes := make([]byte, c.below(200))
		for at := range bytes {
			bytes[at] = []byte{'\n', ' ', byte(c.below(256)), "penxtchkmaburdfls019-$+@./"[c.below(26)]}[c.below(4)]
		}
		mustBench(t, string(bytes), benchBy(string(bytes)))
	}
}

// Each byte of a talk turned, left out, and put in.
func TestBenchOfOneByteTurned(t *testing.T) {
	text := "p package main\np func main 1 + $0 2\nmean 5\nfarm 1 900\nact 1 0 0 0\ncalm\nsame"
	for at := range len(text) {
		for _, b := range []byte("\n 01-xp$\r\xff") {
			for _, s := range []string{text[:at] + string([]byte{b}) + text[at+1:], text[:at] + string([]byte{b}) + text[at:], text[:at] + text[at+1:]} {
				if got, want := impl.Bench(s), benchBy(s); got != want {
					t.Errorf("%q is answered, not %q, to %q", got, want, s)
				}
			}
		}
	}
}

func TestBenchIsNewMemoryAndItsTextStays(t *testing.T) {
	for _, text := range []string{"", "\n", "x", "ok", "p ok", "next\n2\n", "error\nerror\n", linesSaid(slices.Concat(twoSaid(), talk("check", "", "build", "", "farm 2 9000", "", "calm", "", "same", "")))} {
		room := []byte(text + "spare room")
		given := unsafe.String(&room[0], len(text))
		one, other := impl.Bench(given), impl.Bench(given)
		mustShareNoText(t, "Bench", []string{one}, []string{given, other, laidText(room)})
		if string(room) != text+"spare room" {
			t.Errorf("%q was written into", text)
		}
		want := benchBy(text)
		for at := range room {
			room[at] = 'y'
		}
		if one != want || other != want {
			t.Errorf("%q and %q are answered to %q", one, other, text)
		}
	}
}

// Nothing is kept of what was asked ahead, and askings at the same time are
// each answered for themselves.
func TestBenchesKeepNothing(t *testing.T) {
	for range 3 {
		mustBench(t, linesSaid(twoSaid())+"farm 1 9000\ncalm\nnext\n", answersSaid(twoSaid())+"2\n116\n3\n")
		mustBench(t, "calm\nsame\ncheck\nnext\n", "error\nerror\n6 - -\n2\n")
	}
	room := []byte("p package main\np func main 1 + $0 2\nrun 5")
	text := laidText(room)
	for at, digit := range []byte("0123456789") {
		room[len(room)-len("\nrun 5")-1] = digit
		mustBench(t, text, fmt.Sprintf("ok\nok\n%d 0\n", 5+at))
	}
	c := chance(2029)
	texts, wants := []string{}, []string{}
	for range 16 {
		b := benching{bench: workbench{sources: []string{""}}}
		for _, one := range spoken(sourcesOf(drawnParts(&c))...) {
			b.say(one.line)
		}
		for range 40 {
			b.say(drawnLine(&c, &b.bench))
		}
		texts, wants = append(texts, linesSaid(b.list)), append(wants, answersSaid(b.list))
	}
	var asked sync.WaitGroup
	for at := range texts {
		for range 2 {
			asked.Go(func() {
				for range 3 {
					if got := impl.Bench(texts[at]); got != wants[at] {
						t.Errorf("%q is answered, not %q, to %q", got, wants[at], texts[at])
					}
				}
			})
		}
	}
	asked.Wait()
}

// The most that can be asked of it is not too much: eight sources of eight
// Funcs each, at which a farm is at work as long as there are lines.
func TestBenchOfTheGreatest(t *testing.T) {
	list := greatestProject(t, 2, "@/2 0 "+strings.Repeat("? $0 -2147483648 ", 10)+"$0")
	c, b := chance(2039), benching{bench: workbench{sources: []string{""}}}
	for _, one := range spoken(sourcesOf(list)...) {
		b.say(one.line)
	}
	for _, line := range []string{"next", "check", "build", "mean 0", "mean 1", "run 0", "run -1", "farm 4 100000"} {
		b.say(line)
	}
	for len(b.list) < 197 {
		a := nextAct(&c, b.bench.world)
		b.say(fmt.Sprintf("act %d %d %d %d", a.Kind, a.A, a.B, a.C))
	}
	for _, line := range []string{"calm", "same", "build"} {
		b.say(line)
	}
	mustBench(t, linesSaid(b.list), answersSaid(b.list))
	if len(b.list) != 200 || len(b.bench.world.Desk.Tasks) != 8 || b.list[198] != (said{"same", "y"}) || b.bytes < 15000 {
		t.Errorf("of %d bytes in %d lines: %q", b.bytes, len(b.list), b.list[190:])
	}
}
