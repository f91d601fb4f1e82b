package tests

import (
	"runtime"
	"strconv"
	"strings"
	"testing"

	"loop.example/buildscheduler/impl"
)

// textByWords returns the text that the numbers of a graph make, also if it is not
// valid.
func textByWords(g []impl.Task) string {
	tasks := []string{}
	for _, task := range g {
		words := []string{}
		for _, n := range with([]int{task.Time, task.Pool, task.Units}, task.Needs...) {
			words = append(words, strconv.Itoa(n))
		}
		tasks = append(tasks, strings.Join(words, " "))
	}
	return strings.Join(tasks, "; ")
}

// graphByWords returns the graph with a text. It reads more texts than there are,
// and then looks whether the graph has this one.
func graphByWords(s string) ([]impl.Task, bool) {
	g := []impl.Task{}
	for _, text := range strings.Split(s, ";") {
		numbers := []int{}
		for _, word := range strings.Fields(text) {
			n, err := strconv.Atoi(word)
			if err != nil {
				return nil, false
			}
			numbers = append(numbers, n)
		}
		if len(numbers) < 3 {
			return nil, false
		}
		g = append(g, impl.Task{Time: numbers[0], Pool: numbers[1], Units: numbers[2], Needs: numbers[3:]})
	}
	if !validByReach(g) || textByWords(g) != s {
		return nil, false
	}
	return g, true
}

// validByReach reports whether a graph is valid, by its numbers, and by what its
// tasks reach.
func validByReach(g []impl.Task) bool {
	if len(g) > 8 {
		return false
	}
	for _, task := range g {
		if task.Time < 1 || task.Time > 20 || task.Pool < 0 || task.Pool > 2 || task.Units < 1 || task.Units > 4 {
			return false
		}
		for i, need := range task.Needs {
			if need < 0 || need >= len(g) || i > 0 && need <= task.Needs[i-1] {
				return false
			}
		}
	}
	return !anyNeedsItself(g)
}

// checkParse checks ParseGraph, and reports whether there is a graph with the text.
func checkParse(t *testing.T, s string) bool {
	want, valid := graphByWords(s)
	g, ok := impl.ParseGraph(s)
	if ok != valid || !sameGraphs(g, want) {
		t.Errorf("ParseGraph(%q) = %v, %v, not %v, %v", s, g, ok, want, valid)
	}
	return valid
}

// textsOf returns all texts of up to a number of bytes, which are those of another
// text.
func textsOf(bytes string, most int) []string {
	list := []string{""}
	longest := list
	for length := 1; length <= most; length++ {
		longer := []string{}
		for _, s := range longest {
			for i := range bytes {
				longer = append(longer, s+bytes[i:i+1])
			}
		}
		list = append(list, longer...)
		longest = longer
	}
	return list
}

// changedTexts returns the texts in which there is another text at a place of a
// text: before the byte there, or instead of it.
func changedTexts(s string, place int, other string) []string {
	list := []string{s[:place] + other + s[place:]}
	if place < len(s) {
		list = append(list, s[:place]+other+s[place+1:])
	}
	return list
}

// variousGraphs returns graphs whose texts are of different shapes.
func variousGraphs() [][]impl.Task {
	return [][]impl.Task{
		{needing(1)},
		{{Time: 20, Pool: 2, Units: 4}},
		{needing(10), {Time: 7, Needs: []int{0}, Pool: 1, Units: 3}},
		{needing(1, 1), needing(12)},
		sample(),
		chainOf(impl.MaxTasks, impl.MaxTime),
	}
}

func TestSampleTexts(t *testing.T) {
	full := fullGraph(impl.MaxTasks)
	for at := range full {
		full[at].Time = impl.MaxTime
	}
	for _, x := range []struct {
		g    []impl.Task
		text string
	}{
		// One task, with the least numbers, and with the greatest ones.
		{[]impl.Task{needing(1)}, "1 0 1"},
		{[]impl.Task{{Time: 20, Pool: 2, Units: 4}}, "20 2 4"},
		{[]impl.Task{{Time: 9, Pool: 1, Units: 2}}, "9 1 2"},
		{[]impl.Task{{Time: 10, Pool: 1, Units: 3, Needs: []int{}}}, "10 1 3"},
		{[]impl.Task{needing(11)}, "11 0 1"},
		{[]impl.Task{needing(19)}, "19 0 1"},
		// Tasks without needs, with one, and with several, before and behind.
		{[]impl.Task{needing(3), needing(4)}, "3 0 1; 4 0 1"},
		{[]impl.Task{needing(3), needing(4, 0)}, "3 0 1; 4 0 1 0"},
		{[]impl.Task{needing(3, 1), needing(4)}, "3 0 1 1; 4 0 1"},
		{sample(), "3 0 1 4; 2 0 1; 5 0 1 0 1; 1 0 1 1; 4 0 1; 6 0 1"},
		{forked(), "2 0 1; 3 0 1 0; 3 0 1 0; 4 0 1 1 2; 1 0 1 0"},
		{workshop(), "3 0 4; 3 0 3; 3 0 1; 3 1 4; 3 1 2; 3 2 1; 3 2 1; 3 0 2"},
		{[]impl.Task{needing(1, 1, 2, 3, 4, 5, 6, 7), needing(1), needing(1), needing(1), needing(1), needing(1), needing(1), needing(1)}, "1 0 1 1 2 3 4 5 6 7; 1 0 1; 1 0 1; 1 0 1; 1 0 1; 1 0 1; 1 0 1; 1 0 1"},
		// The longest text of all.
		{full, "20 0 1; 20 0 1 0; 20 0 1 0 1; 20 0 1 0 1 2; 20 0 1 0 1 2 3; 20 0 1 0 1 2 3 4; 20 0 1 0 1 2 3 4 5; 20 0 1 0 1 2 3 4 5 6"},
	} {
		if got := impl.FormatGraph(x.g); got != x.text {
			t.Errorf("FormatGraph(%v) = %q, not %q", x.g, got, x.text)
		}
		if g, ok := impl.ParseGraph(x.text); !ok || !sameGraphs(g, x.g) {
			t.Errorf("ParseGraph(%q) = %v, %v", x.text, g, ok)
		}
	}
}

func TestNoTasksHaveNoText(t *testing.T) {
	if impl.FormatGraph(nil) != "" || impl.FormatGraph([]impl.Task{}) != "" {
		t.Errorf("FormatGraph of no tasks = %q, %q", impl.FormatGraph(nil), impl.FormatGraph([]impl.Task{}))
	}
	if g, ok := impl.ParseGraph(""); ok || len(g) != 0 {
		t.Errorf("ParseGraph of no text = %v, %v", g, ok)
	}
}

// wrongTexts returns texts that no graph has.
func wrongTexts() []string {
	return []string{
		// Nothing but gaps.
		"", " ", "  ", "   ", ";", "; ", " ; ", ";;", "; ; ",
		// Leading zeros.
		"01 0 1", "1 00 1", "1 0 01", "001 0 1", "00 0 1", "1 0 1; 1 0 1 00", "1 0 1; 1 0 1; 1 0 1 01", "1 0 1; 01 0 1",
		// Signs, and other ways to write a number.
		"+1 0 1", "-1 0 1", "1 +0 1", "1 -0 1", "1 -1 1", "1 0 +1", "1 0 -1", "1 0 1 -1", "1 0 1; 1 0 1 +0", "1 0 1; 1 0 1 -0", "- 0 1", "+ 0 1",
		"1.0 0 1", "1e0 0 1", "0x1 0 1", "1_0 0 1", "1,0,1", "1 0 1 ,", "'1' 0 1", "i 0 1",
		// Too many digits. Some of these numbers are 1, or 0, in 32 or 64 bits.
		"100 0 1", "111 0 1", "1000 0 1", "1 000 1", "1 0 001", "1 100 1", "1 0 100", "4294967297 0 1", "1 4294967296 1", "18446744073709551617 0 1", "1 18446744073709551616 1", "1 0 18446744073709551617",
		"9223372036854775807 0 1", "9223372036854775808 0 1", "1 0 1; 1 0 1 18446744073709551616", "99999999999999999999999999999999999999 0 1",
		// Empty numbers, and spaces at the beginning, at the end, and doubled.
		" 0 1", "1  1", "1 0 ", "1  ", "  1", " 1 0 1", "1 0 1 ", "1  0 1", "1 0  1", "  1 0 1", "1 0 1  ", "1 0 1; 1 0 1 ", "1 0 1; 1 0 1  0", "1 0 1; 1 0 1 0 ", "1 0 1;  1 0 1", "1 0 1 ; 1 0 1",
		// Semicolons without a space, with one before, at the beginning, at the end,
		// and doubled.
		"1 0 1;1 0 1", "1 0 1 ;1 0 1", "1 0 1;", "1 0 1; ", "1 0 1;;", "1 0 1; ; ", ";1 0 1", "; 1 0 1", " ;1 0 1", "1 0 1;; 1 0 1", "1 0 1; ;1 0 1", "1 0 1; ; 1 0 1", "1; 0 1", "1 0; 1", "1;0;1", "1; 0; 1", "1 0 1: 1 0 1", "1 0 1, 1 0 1",
		// Too few numbers.
		"1", "20", "1 0", "1 0 1; 1", "1 0 1; 1 0", "1 0; 1 0 1", "1; 1 0 1", "x", "1 0 x", "x 0 1",
		// Other spaces, other digits, and what is no text.
		"1\t0 1", "1\n0\n1", "1 0 1\n", "\n1 0 1", "1 0 1\r\n", "1 0 1;\n1 0 1", "1 0 1;\u00a01 0 1", "1\u00a00 1", "\u0661 0 1", "\uff11 0 1", "1 0 1\x00", "\x001 0 1", "1\x000 1", "1 0 1\xff", "\xff", "\xff\xfe 0 1", "\ufeff1 0 1", "1\x80 0 1", "\xb1 0 1",
		// Graphs that are not valid.
		"0 0 1", "21 0 1", "99 0 1", "1 3 1", "1 10 1", "1 0 0", "1 0 5", "1 0 10", "1 0 1 0", "1 0 1 1", "1 0 1; 1 0 1 1", "1 0 1; 1 0 1 2", "1 0 1; 0 0 1", "0 0 1; 1 0 1",
		"1 0 1 1; 1 0 1 0", "1 0 1 1; 1 0 1 2; 1 0 1 0", "1 0 1; 1 0 1; 1 0 1 1 0", "1 0 1; 1 0 1 0 0", "1 0 1; 1 0 1 8", "1 0 1; 1 0 1 10",
		"1 0 1; 1 0 1; 1 0 1; 1 0 1; 1 0 1; 1 0 1; 1 0 1; 1 0 1; 1 0 1", "1 0 1; 1 0 1; 1 0 1; 1 0 1; 1 0 1; 1 0 1; 1 0 1; 1 0 1 7",
		"1 0 1; 1 0 1; 1 0 1; 1 0 1; 1 0 1; 1 0 1; 1 0 1; 1 0 1 0 1 2 3 4 5 6 7", "1 0 1; 1 0 1; 1 0 1; 1 0 1; 1 0 1; 1 0 1; 1 0 1; 1 0 1 0 1 2 3 4 5 6 7 8", "1 0 1; 1 0 1 0 0 0 0 0 0 0 0 0 0 0 0",
		"1 0 1; 1 0 1; 1 0 1; 1 0 1; 1 0 1; 1 0 1; 1 0 1; 1 0 1; ", "1 0 1; 1 0 1; 1 0 1; 1 0 1; 1 0 1; 1 0 1; 1 0 1; 1 0 1;",
	}
}

func TestWrongTexts(t *testing.T) {
	for _, s := range wrongTexts() {
		if g, ok := impl.ParseGraph(s); ok || len(g) != 0 {
			t.Errorf("ParseGraph(%q) = %v, %v", s, g, ok)
		}
	}
}

func TestTextsByWords(t *testing.T) {
	for _, g := range validGraphs() {
		text := textByWords(g)
		if got := impl.FormatGraph(g); got != text {
			t.Errorf("FormatGraph(%v) = %q, not %q", g, got, text)
		}
		if checkParse(t, text) != (len(g) > 0) {
			t.Errorf("%v has no text", g)
		}
	}
}

// TestShortTexts has all short texts of some bytes, and these before, and behind,
// the text of a task.
func TestShortTexts(t *testing.T) {
	valid := 0
	for _, s := range textsOf("012; ", 7) {
		if checkParse(t, s) {
			valid++
		}
	}
	for _, s := range textsOf("01; ", 7) {
		for _, longer := range []string{s + "; 1 0 1", "2 0 1; " + s, "2 0 1" + s + "1 0 1"} {
			if checkParse(t, longer) {
				valid++
			}
		}
	}
	if valid < 50 {
		t.Errorf("only %d short texts are those of graphs", valid)
	}
}

// TestNumbersOfTexts has all numbers of up to four digits at each place.
func TestNumbersOfTexts(t *testing.T) {
	for _, word := range textsOf("0123456789", 4) {
		for _, s := range []string{word + " 0 1", "1 " + word + " 1", "1 0 " + word, "1 0 1; 1 0 1; 1 0 1 " + word} {
			checkParse(t, s)
		}
	}
}

// TestAnyBytesInTexts changes each place of texts to each byte.
func TestAnyBytesInTexts(t *testing.T) {
	valid := 0
	for _, g := range variousGraphs() {
		text := textByWords(g)
		for place := 0; place <= len(text); place++ {
			for b := 0; b < 256; b++ {
				for _, s := range changedTexts(text, place, string([]byte{byte(b)})) {
					if checkParse(t, s) {
						valid++
					}
				}
			}
		}
	}
	if valid < 100 {
		t.Errorf("only %d changed texts are those of graphs", valid)
	}
}

// TestChangedTexts changes each place of texts to what is almost the same, leaves it
// out, and ends there.
func TestChangedTexts(t *testing.T) {
	for i, g := range validGraphs() {
		text := textByWords(g)
		for place := i % 5; place <= len(text); place += 5 {
			checkParse(t, text[:place])
			checkParse(t, text[place:])
			for _, other := range []string{"", " ", "  ", ";", "; ", "0", "1", "00", "-", "1 ", " 0", "\n"} {
				for _, s := range changedTexts(text, place, other) {
					checkParse(t, s)
				}
			}
		}
	}
}

func TestTextsRefuseGraphs(t *testing.T) {
	for _, g := range append(wrongGraphs(), loopedGraphs()...) {
		if text := impl.FormatGraph(g); text != "" {
			t.Errorf("FormatGraph(%v) = %q", g, text)
		}
		if parsed, ok := impl.ParseGraph(textByWords(g)); ok || len(parsed) != 0 {
			t.Errorf("ParseGraph(%q) = %v", textByWords(g), parsed)
		}
	}
}

// allocated returns how many bytes are allocated while texts are read, and a
// session runs with them.
func allocated(texts []string) uint64 {
	before := runtime.MemStats{}
	behind := runtime.MemStats{}
	runtime.ReadMemStats(&before)
	for _, s := range texts {
		impl.ParseGraph(s)
		impl.RunSession([]string{s})
	}
	runtime.ReadMemStats(&behind)
	return behind.TotalAlloc - before.TotalAlloc
}

// TestLongTextsMakeNoLongLists has texts of a million parts.
func TestLongTextsMakeNoLongLists(t *testing.T) {
	texts := []string{}
	for _, part := range []string{" ", ";", "; ", "1", "0", "1 ", "1 0 1; ", "1 0 1;", "1 0 1 ", "\x00", "\xff"} {
		long := strings.Repeat(part, 1<<20)
		texts = append(texts, long, "1 0 1"+long, "1 0 1; "+long, "add "+long, "add 1 0 1 "+long, "finish "+long, "plan 1"+long)
	}
	for _, s := range texts {
		if g, ok := impl.ParseGraph(s); ok || len(g) != 0 {
			t.Errorf("ParseGraph(%q...) succeeds", s[:20])
		}
	}
	if bytes := allocated(texts); bytes > 1<<20 {
		t.Errorf("%d bytes are allocated for %d texts", bytes, len(texts))
	}
}

// TestParsedGraphsAreNewMemory writes over graphs, and behind the ends of their
// lists.
func TestParsedGraphsAreNewMemory(t *testing.T) {
	for _, g := range validGraphs() {
		text := textByWords(g)
		parsed, _ := impl.ParseGraph(text)
		other, _ := impl.ParseGraph(text)
		if !areApart(needsOf(parsed)) {
			t.Errorf("lists of a graph share memory: %q", text)
		}
		for at := range parsed {
			parsed[at] = needing(mark)
		}
		_ = append(parsed, needing(mark))
		again, _ := impl.ParseGraph(text)
		if !sameGraphs(other, g) || !sameGraphs(again, g) {
			t.Errorf("ParseGraph(%q) is kept between calls", text)
		}
	}
}

func TestP110TextsOfGraphsLoseNothing(t *testing.T) {
	for _, g := range validGraphs() {
		parsed, ok := impl.ParseGraph(impl.FormatGraph(g))
		if ok != (len(g) > 0) || !sameGraphs(parsed, g) {
			t.Errorf("ParseGraph(%q) = %v, %v", impl.FormatGraph(g), parsed, ok)
		}
	}
}

func TestP111GraphsHaveOneText(t *testing.T) {
	accepted := 0
	texts := append(textsOf("012; ", 7), wrongTexts()...)
	for _, g := range variousGraphs() {
		text := textByWords(g)
		for place := 0; place <= len(text); place++ {
			for _, other := range []string{"", " ", ";", "; ", "0", "1", "2", "+", "\t"} {
				texts = append(texts, changedTexts(text, place, other)...)
			}
		}
	}
	for _, s := range texts {
		g, ok := impl.ParseGraph(s)
		if !ok {
			continue
		}
		accepted++
		if !validByReach(g) || len(g) == 0 || impl.FormatGraph(g) != s {
			t.Errorf("ParseGraph(%q) = %v, but FormatGraph = %q", s, g, impl.FormatGraph(g))
		}
	}
	if accepted < 100 {
		t.Errorf("only %d texts are accepted", accepted)
	}
}

func TestP112TextsOfGraphsHaveAPartForEachTask(t *testing.T) {
	for _, g := range validGraphs() {
		if text := impl.FormatGraph(g); len(g) > 0 && strings.Count(text, ";") != len(g)-1 {
			t.Errorf("FormatGraph(%v) = %q", g, text)
		}
	}
}

func TestP177TextsOfGraphsHaveNumbers(t *testing.T) {
	for _, g := range validGraphs() {
		if len(g) == 0 {
			continue
		}
		for at, text := range strings.Split(impl.FormatGraph(g), "; ") {
			words := strings.Split(text, " ")
			if len(words) != 3+len(g[at].Needs) {
				t.Fatalf("FormatGraph(%v) = %q", g, impl.FormatGraph(g))
			}
			for place, n := range with([]int{g[at].Time, g[at].Pool, g[at].Units}, g[at].Needs...) {
				if words[place] != strconv.Itoa(n) {
					t.Errorf("FormatGraph(%v) = %q", g, impl.FormatGraph(g))
				}
			}
		}
	}
}
