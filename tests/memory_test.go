package tests

import (
	"testing"

	"loop.example/buildscheduler/impl"
)

// mark is what no function may write over, and what no function returns.
const mark = -77

// guarded returns a graph whose slices have marked memory behind their ends, and
// all of this memory.
func guarded(g []impl.Task) ([]impl.Task, []impl.Task, [][]int) {
	tasks := []impl.Task{}
	needs := [][]int{}
	for _, t := range g {
		memory := append(append([]int{}, t.Needs...), mark, mark, mark)
		needs = append(needs, memory)
		t.Needs = memory[:len(t.Needs)]
		tasks = append(tasks, t)
	}
	tasks = append(tasks, needing(mark), needing(mark))
	return tasks[:len(g)], tasks, needs
}

// isGuarded reports whether memory is as guarded returned it.
func isGuarded(g []impl.Task, tasks []impl.Task, needs [][]int) bool {
	for i := range needs {
		end := len(g[i].Needs)
		if !same(needs[i][:end], g[i].Needs...) || !same(needs[i][end:], mark, mark, mark) {
			return false
		}
	}
	return sameGraphs(tasks[:len(g)], g) && sameGraphs(tasks[len(g):], []impl.Task{needing(mark), needing(mark)})
}

// allLists returns the lists that all functions return.
func allLists(g []impl.Task, at int) [][]int {
	return [][]int{
		impl.TopOrder(g), impl.StuckTasks(g), impl.AllNeeds(g, at), impl.AllUsers(g, at),
		impl.HeadTimes(g), impl.TailTimes(g), impl.CriticalChain(g), impl.SlackTimes(g),
	}
}

// allGraphs returns graphs that are valid, and such that are not.
func allGraphs() [][]impl.Task {
	return append(append(validGraphs(), loopedGraphs()...), wrongGraphs()...)
}

func TestArgumentsStay(t *testing.T) {
	for _, g := range allGraphs() {
		given, tasks, needs := guarded(g)
		impl.ValidGraph(given)
		impl.LongestTime(given)
		for _, at := range []int{-1, 0, 1, 2, len(g) - 1, len(g)} {
			allLists(given, at)
		}
		if !isGuarded(g, tasks, needs) {
			t.Errorf("a function writes into %v", g)
		}
	}
}

func TestAnswersAreNewMemory(t *testing.T) {
	for _, g := range allGraphs() {
		given, tasks, needs := guarded(g)
		at := len(g) - 1
		expected := allLists(copyOf(g), at)
		for _, list := range allLists(given, at) {
			for i := range list {
				list[i] = mark
			}
			// This writes behind the end of the list, if there is memory.
			_ = append(list, mark+1)
		}
		if !isGuarded(g, tasks, needs) {
			t.Errorf("an answer is memory of %v", g)
		}
		for i, list := range allLists(given, at) {
			if !same(list, expected[i]...) {
				t.Errorf("list %d of %v is kept between calls: %v", i, g, list)
			}
		}
	}
}
