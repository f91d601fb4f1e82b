package tests

import (
	"regexp"
	"strconv"
	"strings"
	"testing"

	"loop.example/buildscheduler/impl"
)

// printed returns what each of some lines prints. There may be no more of them than
// a session has.
func printed(t *testing.T, lines []string) []string {
	output := impl.RunSession(lines)
	if strings.Count(output, "\n") != len(lines) || !strings.HasSuffix("\n"+output, "\n") {
		t.Fatalf("RunSession(%q) = %q", lines, output)
	}
	return strings.Split(output, "\n")[:len(lines)]
}

// talk is a session as a list of lines, each one with what it prints behind it.
type talk []string

// lines returns the lines, and what they print.
func (x talk) lines() ([]string, []string) {
	lines := []string{}
	want := []string{}
	for i := 0; i < len(x); i += 2 {
		lines = append(lines, x[i])
		want = append(want, x[i+1])
	}
	return lines, want
}

// check checks what the lines print.
func (x talk) check(t *testing.T) {
	lines, want := x.lines()
	if got := printed(t, lines); !sameLines(got, want...) {
		t.Errorf("RunSession(%q) = %q, not %q", lines, got, want)
	}
}

// joined returns the lines of several lists.
func joined(lists ...[]string) []string {
	all := []string{}
	for _, list := range lists {
		all = append(all, list...)
	}
	return all
}

// repeated returns a line some times.
func repeated(line string, times int) []string {
	list := []string{}
	for len(list) < times {
		list = append(list, line)
	}
	return list
}

// adding returns the lines that add the tasks of a graph.
func adding(g []impl.Task) []string {
	lines := []string{}
	for at := range g {
		lines = append(lines, "add "+textByWords(g[at:at+1]))
	}
	return lines
}

// listByWords returns the text of a list of numbers.
func listByWords(list []int) string {
	words := []string{}
	for _, n := range list {
		words = append(words, strconv.Itoa(n))
	}
	return strings.Join(words, " ")
}

// diary is what has come of the lines of a session.
type diary struct {
	g    []impl.Task
	done []int
}

// numberByWord returns the number behind a command and a space, -1 for what is no
// number; false if the line has another command, or no word, or several, behind it.
func numberByWord(line string, command string) (int, bool) {
	word, ok := strings.CutPrefix(line, command+" ")
	if !ok || strings.Contains(word, " ") {
		return 0, false
	}
	if !regexp.MustCompile(`\A(0|[1-9][0-9]?[0-9]?)\z`).MatchString(word) {
		return -1, true
	}
	n, _ := strconv.Atoi(word)
	return n, true
}

// next returns what a line prints, and writes it down.
func (d *diary) next(line string) string {
	if text, ok := strings.CutPrefix(line, "add "); ok {
		return d.add(text)
	}
	if n, ok := numberByWord(line, "finish"); ok {
		return d.finish(n)
	}
	if n, ok := numberByWord(line, "plan"); ok {
		if n < 1 || n > 4 {
			return "no"
		}
		return listByWords(shop{d.g, []int{4, 4, 4}, n}.planByTimes())
	}
	ready := byTails(d.g, readyByNeeds(d.g, d.done))
	left := []int{}
	for _, at := range ready {
		left = append(left, tailByChains(d.g, at))
	}
	all := []int{}
	for at := range d.g {
		all = append(all, tailByChains(d.g, at))
	}
	switch line {
	case "ready":
		return listByWords(ready)
	case "left":
		return strconv.Itoa(greatest(left))
	case "chain":
		return listByWords(firstLongest(d.g, nil, greatest(all)))
	}
	return "what"
}

// add adds the task that makes the text of the graph longer by a text.
func (d *diary) add(text string) string {
	longer := text
	if len(d.g) > 0 {
		longer = textByWords(d.g) + "; " + text
	}
	g, ok := graphByWords(longer)
	if !ok || len(g) != len(d.g)+1 {
		return "no"
	}
	d.g = g
	return "ok"
}

// finish finishes a task.
func (d *diary) finish(at int) string {
	if !has(readyByNeeds(d.g, d.done), at) {
		return "no"
	}
	d.done = with(d.done, at)
	return "ok"
}

// outputByWords returns the output of a session.
func outputByWords(lines []string) string {
	d := diary{}
	output := ""
	for i, line := range lines {
		if i < 20 {
			output += d.next(line) + "\n"
		}
	}
	return output
}

// drawnTask returns the text of a task that can mostly be added to some others.
func drawnTask(d *dice, tasks int) string {
	task := impl.Task{Time: d.below(impl.MaxTime) + 1, Pool: d.below(impl.Pools), Units: d.below(impl.MaxUnits) + 1}
	for need := 0; need < tasks; need++ {
		if d.below(3) == 0 {
			task.Needs = append(task.Needs, need)
		}
	}
	if d.below(12) == 0 {
		task.Needs = append(task.Needs, d.below(impl.MaxTasks+1))
	}
	return textByWords([]impl.Task{task})
}

// drawnLine returns a line for a session with some tasks.
func drawnLine(d *dice, tasks int) string {
	switch d.below(9) {
	case 0, 1, 2:
		return "add " + drawnTask(d, tasks)
	case 3, 4:
		return "finish " + strconv.Itoa(d.below(tasks+1))
	case 5:
		return "plan " + strconv.Itoa(d.below(impl.MaxWorkers+2))
	case 6:
		return "ready"
	case 7:
		return "left"
	}
	return "chain"
}

// almost returns a line that is changed at a place.
func almost(d *dice, line string) string {
	others := []string{"", " ", "  ", "0", "1", "-", "+", ";", "; ", "a", "A", "\t", "\n", "\x00", "\xff"}
	changed := changedTexts(line, d.below(len(line)+1), others[d.below(len(others))])
	return changed[d.below(len(changed))]
}

// drawnSession returns a session with a number of lines. Some of them are changed.
func drawnSession(d *dice, length int) []string {
	lines := []string{}
	state := diary{}
	for len(lines) < length {
		line := drawnLine(d, len(state.g))
		if d.below(8) == 0 {
			line = almost(d, line)
		}
		state.next(line)
		lines = append(lines, line)
	}
	return lines
}

// drawnSessions returns many sessions, also such with more lines than are run.
func drawnSessions() [][]string {
	list := [][]string{nil, {""}}
	d := &dice{state: 114}
	for i := 0; i < 500; i++ {
		list = append(list, drawnSession(d, d.below(impl.MaxLines+4)))
	}
	return list
}

// wrongLines returns lines that are no commands.
func wrongLines() []string {
	lines := []string{"", " ", "  ", "   ", "\t", "\n", "help", "what", "ok", "no", "0", "-1", "3 0 1", "add;", "\x00", "\xff", "tasks", "quit"}
	// Lines without a number have none behind them, and no spaces.
	for _, command := range []string{"ready", "left", "chain"} {
		lines = append(lines, command+" ", " "+command, command+"  ", command+" 0", command+" 1", command+" -1", command+" x", command+" 0 1", command+"0", command+"\n", command+"\t", command+"\x00", command+"s", command[1:], command[:len(command)-1], strings.ToUpper(command), strings.ToUpper(command[:1])+command[1:], command+" "+command, command+";")
	}
	// The others have one number, behind one space.
	for _, command := range []string{"finish", "plan"} {
		lines = append(lines, command, " "+command, command+"0", command+"1", command+"\t1", command+"\n1", command+";1", command+"-1")
		for _, n := range []string{"0", "1", "2"} {
			lines = append(lines, command+"  "+n, " "+command+" "+n, command+" "+n+" ", command+" "+n+"  ", command+" "+n+" "+n, command+" "+n+" x", command+" x "+n)
			lines = append(lines, strings.ToUpper(command)+" "+n, strings.ToUpper(command[:1])+command[1:]+" "+n, command+"s "+n, command[1:]+" "+n, command[:len(command)-1]+" "+n, n+" "+command, n)
		}
		lines = append(lines, command+"  ", command+"   ", command+" x ", command+"  x", " "+command+" ")
	}
	return append(lines, "add", "Add 3 0 1", "ADD 3 0 1", "adds 3 0 1", "ad 3 0 1", "dd 3 0 1", " add 3 0 1", "  add 3 0 1", "\tadd 3 0 1", "add\t3 0 1", "add3 0 1", "add\n3 0 1", "add; 3 0 1", " add", "add\n", "aadd 3 0 1", "\x00add 3 0 1", "add\u00a03 0 1", "adD 3 0 1")
}

// refusedLines returns lines that are commands, but fail whatever tasks there are.
func refusedLines() []string {
	lines := []string{}
	for _, s := range wrongTexts() {
		if _, ok := graphByWords("1 0 1; 1 0 1; " + s); !ok {
			lines = append(lines, "add "+s)
		}
	}
	lines = append(lines, "add 3 0 1; 4 0 1", "add 3 0 1; 4 0 1 0", "add 3 0 1;", "add 3 0 1; ", "add ;", "add ; 3 0 1", "add add 3 0 1", "add 3 0 1 8", "add 3 0 1 9", "add 3 0 1 0 1 2 3 4 5 6 7", "add 3 0 1 1 0", "add 3 0 1 0 0", "add 100 0 1", "add 1000 0 1")
	strange := []string{"", "x", "-1", "-0", "+0", "+1", "00", "01", "02", "001", "000", "0x0", "1.0", "1e0", "0\n", "\n1", "1\x00", "\xff", "\u0661", "a", "one", ";", "1;", "9", "10", "99", "100", "101", "999", "0001", "1000", "1001", "9999", "10000", "4294967296", "4294967297", "18446744073709551616", "18446744073709551617", "9223372036854775808"}
	for _, word := range strange {
		lines = append(lines, "finish "+word, "plan "+word)
	}
	return append(lines, "finish 8", "plan 0", "plan 5", "plan 6", "plan 8")
}

// TestSampleSession has all commands, for no task, for one, and for several.
func TestSampleSession(t *testing.T) {
	talk{
		"ready", "", "left", "0", "chain", "", "plan 1", "", "plan 4", "", "finish 0", "no",
		"add 7 2 3", "ok", "ready", "0", "left", "7", "chain", "0", "plan 1", "0", "plan 4", "0", "finish 1", "no",
		"finish 0", "ok", "ready", "", "left", "0", "chain", "0", "plan 2", "0", "finish 0", "no",
	}.check(t)
	talk{
		"add 3 0 1", "ok", "add 4 1 2 0", "ok", "add 2 0 4", "ok", "add 20 2 1 1 2", "ok",
		"ready", "0 2", "left", "27", "chain", "0 1 3", "plan 1", "0 3 7 9", "plan 2", "0 3 3 7", "plan 3", "0 3 3 7", "plan 4", "0 3 3 7",
		"finish 2", "ok", "ready", "0", "finish 0", "ok", "ready", "1", "left", "24", "finish 1", "ok", "ready", "3", "left", "20",
	}.check(t)
	// Tails, and not numbers, order what is ready.
	talk{
		"add 3 0 1", "ok", "add 5 0 1", "ok", "add 3 1 1", "ok", "add 4 2 1 2", "ok", "ready", "2 1 0", "chain", "2 3", "left", "7",
		"finish 2", "ok", "ready", "1 3 0", "left", "5", "finish 1", "ok", "ready", "3 0", "left", "4", "chain", "2 3",
	}.check(t)
}

func TestSessionsWithoutLines(t *testing.T) {
	for _, lines := range [][]string{nil, {}} {
		if output := impl.RunSession(lines); output != "" {
			t.Errorf("RunSession(%q) = %q", lines, output)
		}
	}
	if output := impl.RunSession([]string{""}); output != "what\n" {
		t.Errorf("RunSession of an empty line = %q", output)
	}
	if output := impl.RunSession([]string{"ready"}); output != "\n" {
		t.Errorf("RunSession of a line that prints an empty list = %q", output)
	}
}

// TestLimitOfLines has as many lines as are run, and more.
func TestLimitOfLines(t *testing.T) {
	full := joined([]string{"add 3 0 1"}, repeated("left", impl.MaxLines-2), []string{"finish 0"})
	want := "ok\n" + strings.Repeat("3\n", 18) + "ok\n"
	for _, more := range [][]string{nil, {"left"}, {"", "add 3 0 1"}, repeated("chain", 5000), repeated(strings.Repeat("x", 1000), 1000)} {
		if output := impl.RunSession(joined(full, more)); output != want {
			t.Errorf("RunSession of %d lines = %q", len(full)+len(more), output)
		}
	}
	if output := impl.RunSession(full[:impl.MaxLines-1]); output != want[:len(want)-len("ok\n")] {
		t.Errorf("RunSession of %d lines = %q", impl.MaxLines-1, output)
	}
	// Lines that are no commands, that fail, and that are empty count, too.
	for _, line := range []string{"", "help", "finish 0", "add "} {
		output := impl.RunSession(joined(repeated(line, impl.MaxLines), []string{"left"}))
		if strings.Count(output, "\n") != 20 || strings.Contains(output, "0") {
			t.Errorf("RunSession of %d times %q = %q", impl.MaxLines+1, line, output)
		}
	}
}

// TestLinesChangeNothing has lines that are no commands, and such that fail: what is
// asked behind them is the same as without them.
func TestLinesChangeNothing(t *testing.T) {
	before := []string{"add 3 0 4", "add 4 0 2", "finish 0"}
	asked := []string{"ready", "left", "chain", "plan 2", "finish 0", "add 2 0 1 1", "chain", "finish 1"}
	answers := []string{"1", "4", "1", "4 0", "no", "ok", "1 2", "ok"}
	for i, lines := range [][]string{wrongLines(), refusedLines()} {
		want := []string{"what", "no"}[i]
		for _, line := range lines {
			got := printed(t, joined(before, []string{line}, asked))
			if !sameLines(got, joined([]string{"ok", "ok", "ok", want}, answers)...) {
				t.Errorf("RunSession with %q = %q", line, got)
			}
			// Without tasks, too.
			if output := impl.RunSession([]string{line, "left", "add 5 0 1", "left"}); output != want+"\n0\nok\n5\n" {
				t.Errorf("RunSession with %q first = %q", line, output)
			}
		}
	}
}

// TestAddNeedsTasksBefore has tasks that need themselves, or what is not there yet.
func TestAddNeedsTasksBefore(t *testing.T) {
	talk{
		"add 3 0 1 0", "no", "add 3 0 1 1", "no", "add 3 0 1", "ok", "add 3 0 1 1", "no", "add 3 0 1 2", "no", "add 3 0 1 0 1", "no", "add 3 0 1 -1", "no",
		"add 4 0 1 0", "ok", "add 5 0 1 2", "no", "add 5 0 1 1 0", "no", "add 5 0 1 0 0", "no", "add 5 0 1 0 1", "ok", "chain", "0 1 2", "left", "12",
	}.check(t)
}

func TestAddHasLimits(t *testing.T) {
	talk{
		"add 0 0 1", "no", "add 1 0 1", "ok", "add 20 0 1", "ok", "add 21 0 1", "no", "add 1 2 1", "ok", "add 1 3 1", "no",
		"add 1 0 4", "ok", "add 1 0 5", "no", "add 1 0 0", "no", "plan 1", "20 0 21 22", "chain", "1",
	}.check(t)
	// A ninth task, of any kind, is one too many, and the others stay.
	talk(joined(adding8(), []string{
		"add 1 0 1", "no", "add 1 0 1 7", "no", "add 1 0 1 8", "no", "finish 8", "no", "finish 7", "no",
		"chain", "0 1 2 3 4 5 6 7", "left", "160", "plan 1", "0 20 40 60 80 100 120 140", "finish 0", "ok", "left", "140", "add ", "no",
	})).check(t)
}

// adding8 returns the talk that adds a chain of MaxTasks tasks.
func adding8() talk {
	x := talk{}
	for _, line := range adding(chainOf(impl.MaxTasks, impl.MaxTime)) {
		x = append(x, line, "ok")
	}
	return x
}

// TestFinish has tasks that are not ready, that are done already, and that there are
// not.
func TestFinish(t *testing.T) {
	talk{
		"finish 0", "no", "add 3 0 1", "ok", "add 4 0 1 0", "ok", "add 2 0 1 0 1", "ok", "finish 1", "no", "finish 2", "no", "finish 3", "no",
		"finish 0", "ok", "finish 0", "no", "finish 2", "no", "finish 1", "ok", "finish 1", "no", "finish 0", "no", "finish 2", "ok", "finish 2", "no", "left", "0", "ready", "",
	}.check(t)
	// Tasks are done in another order than that of their numbers.
	talk{
		"add 1 0 1", "ok", "add 2 0 1", "ok", "add 3 0 1", "ok", "finish 2", "ok", "finish 0", "ok", "ready", "1", "finish 2", "no", "finish 0", "no", "finish 1", "ok", "ready", "",
	}.check(t)
	// Tasks that come behind need what is done.
	talk{
		"add 3 0 1", "ok", "finish 0", "ok", "add 4 0 1 0", "ok", "ready", "1", "left", "4", "chain", "0 1", "add 5 0 1 0 1", "ok", "ready", "1", "left", "9", "finish 2", "no", "finish 1", "ok", "ready", "2",
	}.check(t)
}

// TestPlanHasWorkersAndRooms has each number of workers, and pools that are full:
// each one has the room SessionRoom. What is done is planned, too.
func TestPlanHasWorkersAndRooms(t *testing.T) {
	talk{
		"add 2 0 1", "ok", "add 2 0 1", "ok", "add 2 0 1", "ok", "add 2 0 1", "ok", "add 2 1 1", "ok",
		"plan 0", "no", "plan 1", "0 2 4 6 8", "plan 2", "0 0 2 2 4", "plan 3", "0 0 0 2 2", "plan 4", "0 0 0 0 2", "plan 5", "no", "plan 6", "no",
		"finish 1", "ok", "plan 1", "0 2 4 6 8", "plan 4", "0 0 0 0 2",
	}.check(t)
	for _, pool := range []string{"0", "1", "2"} {
		talk{
			"add 3 " + pool + " 2", "ok", "add 3 " + pool + " 2", "ok", "plan 4", "0 0", "add 3 " + pool + " 1", "ok", "plan 4", "0 0 3",
			"add 3 " + pool + " 4", "ok", "plan 4", "0 0 3 6",
		}.check(t)
		talk{"add 3 " + pool + " 3", "ok", "add 3 " + pool + " 2", "ok", "plan 4", "0 3"}.check(t)
	}
	talk{"add 5 0 4", "ok", "add 5 1 4", "ok", "add 5 2 4", "ok", "plan 3", "0 0 0", "plan 2", "0 0 5"}.check(t)
}

func TestSessionsByWords(t *testing.T) {
	changes := 0
	for _, lines := range drawnSessions() {
		want := outputByWords(lines)
		if output := impl.RunSession(lines); output != want {
			t.Errorf("RunSession(%q) = %q, not %q", lines, output, want)
		}
		changes += strings.Count(want, "ok")
	}
	if changes < 1000 {
		t.Errorf("only %d lines change something", changes)
	}
}

// TestAlmostCommands changes each place of lines to each byte.
func TestAlmostCommands(t *testing.T) {
	for _, line := range []string{"add 3 0 1", "add 12 2 4 0", "finish 1", "ready", "left", "chain", "plan 2"} {
		for place := 0; place <= len(line); place++ {
			for b := 0; b < 256; b++ {
				for _, changed := range append(changedTexts(line, place, string([]byte{byte(b)})), line[:place], line[place:]) {
					lines := []string{"add 3 0 2", "add 2 0 1", changed, "ready", "chain", "left"}
					if output := impl.RunSession(lines); output != outputByWords(lines) {
						t.Errorf("RunSession(%q) = %q, not %q", lines, output, outputByWords(lines))
					}
				}
			}
		}
	}
}

// TestNumbersOfLines has all numbers of up to four digits.
func TestNumbersOfLines(t *testing.T) {
	for _, word := range textsOf("0123456789", 4) {
		lines := []string{"add 3 0 1", "add 4 0 1", "plan " + word, "finish " + word, "ready"}
		if output := impl.RunSession(lines); output != outputByWords(lines) {
			t.Errorf("RunSession(%q) = %q, not %q", lines, output, outputByWords(lines))
		}
	}
}

// TestLinesStay has lines with memory behind their end, and runs them twice.
func TestLinesStay(t *testing.T) {
	for _, lines := range drawnSessions() {
		all := joined(lines, []string{"behind", "behind"})
		output := impl.RunSession(all[:len(lines)])
		if !sameLines(all, joined(lines, []string{"behind", "behind"})...) {
			t.Errorf("RunSession writes into %q", lines)
		}
		if again := impl.RunSession(all[:len(lines)]); again != output {
			t.Errorf("RunSession(%q) = %q, and then %q", lines, output, again)
		}
	}
}

func TestP114SessionsRunLineByLine(t *testing.T) {
	for _, lines := range drawnSessions() {
		output := impl.RunSession(lines)
		for first := 0; first <= len(lines); first++ {
			beginning := impl.RunSession(lines[:first])
			if !strings.HasPrefix(output, beginning) || strings.Count(beginning, "\n") != min(first, impl.MaxLines) {
				t.Errorf("RunSession(%q) = %q, but %q", lines, output, beginning)
			}
		}
	}
}

// withQuestions returns the lines with a question behind each one.
func withQuestions(d *dice, lines []string) []string {
	questions := []string{"ready", "left", "chain", "plan 1", "plan 2", "plan 4"}
	asked := []string{}
	for _, line := range lines {
		asked = append(asked, line, questions[d.below(len(questions))])
	}
	return asked
}

func TestP115QuestionsChangeNothing(t *testing.T) {
	d := &dice{state: 115}
	left := 0
	for i := 0; i < 500; i++ {
		lines := drawnSession(d, d.below(9)+1)
		asked := withQuestions(d, lines)
		before := printed(t, joined(lines, []string{"left", "ready", "chain"}))
		behind := printed(t, joined(asked, []string{"left", "ready"}))
		if !sameLines(behind[len(asked):], before[len(lines):len(lines)+2]...) {
			t.Errorf("RunSession(%q) = %q, but without questions %q", asked, behind, before)
		}
		for place := range lines {
			if behind[2*place] != before[place] {
				t.Errorf("RunSession(%q) = %q, but without questions %q", asked, behind, before)
			}
		}
		// All questions one behind the other, too.
		all := printed(t, joined(lines, []string{"ready", "left", "chain", "plan 1", "plan 3", "plan 4", "plan 0", "what", "left"}))
		if all[len(all)-1] != before[len(lines)] {
			t.Errorf("RunSession(%q) = %q behind all questions", lines, all)
		}
		if before[len(lines)] != "0" {
			left++
		}
	}
	if left < 100 {
		t.Errorf("something is left only %d times", left)
	}
}

func TestP116ChainsTakeTheirTime(t *testing.T) {
	for first := 1; first <= impl.MaxTime; first += 3 {
		for second := 1; second <= impl.MaxTime; second++ {
			for _, third := range []int{1, second, first + second - 1, first + second, first + second + 1, impl.MaxTime} {
				if third < 1 || third > impl.MaxTime {
					continue
				}
				checkChain(t, first, second, third)
			}
		}
	}
}

// checkChain checks the session of a chain of two tasks with some times, and a
// third one, which comes last, and then first.
func checkChain(t *testing.T, first int, second int, third int) {
	sum := strconv.Itoa(max(first+second, third))
	chain := "0 1"
	if third > first+second {
		chain = "2"
	}
	begin := strconv.Itoa(first)
	talk{
		"add " + begin + " 0 1", "ok", "add " + strconv.Itoa(second) + " 1 1 0", "ok", "add " + strconv.Itoa(third) + " 2 1", "ok",
		"chain", chain, "left", sum, "plan 3", "0 " + begin + " 0",
	}.check(t)
	chain = "1 2"
	// Of chains that take the same, the one with the least task is told.
	if third >= first+second {
		chain = "0"
	}
	talk{
		"add " + strconv.Itoa(third) + " 2 1", "ok", "add " + begin + " 0 1", "ok", "add " + strconv.Itoa(second) + " 1 1 1", "ok",
		"chain", chain, "left", sum, "plan 3", "0 0 " + begin,
	}.check(t)
}

func TestP179WhatIsFinishedIsNotReady(t *testing.T) {
	for n := 1; n <= impl.MaxTasks; n++ {
		x := talk{}
		for _, line := range adding(chainOf(n, n)) {
			x = append(x, line, "ok")
		}
		for at := 0; at < n; at++ {
			x = append(x, "finish "+strconv.Itoa(at), "ok")
		}
		talk(joined(x, []string{"ready", "", "left", "0"})).check(t)
		talk(joined(x, []string{"finish " + strconv.Itoa(n-1), "no", "finish " + strconv.Itoa(n), "no"})).check(t)
		// One before the end the last task is ready, and its time is left.
		last := strconv.Itoa(n - 1)
		talk(joined(x[:len(x)-2], []string{"ready", last, "left", strconv.Itoa(n)})).check(t)
	}
}
