package tests

import (
	"testing"

	"loop.example/buildscheduler/impl"
)

// stageByNeeds returns the stage of a task, by those of its needs.
func stageByNeeds(g []impl.Task, at int) int {
	stages := []int{}
	for _, need := range g[at].Needs {
		stages = append(stages, stageByNeeds(g, need)+1)
	}
	return greatest(stages)
}

// stagesByNeeds returns the stages of all tasks, and the tasks of all stages.
func stagesByNeeds(g []impl.Task) ([]int, [][]int) {
	stageOf := []int{}
	for at := range g {
		stageOf = append(stageOf, stageByNeeds(g, at))
	}
	stages := [][]int{}
	for stage := 0; has(stageOf, stage); stage++ {
		list := []int{}
		for at := range g {
			if stageOf[at] == stage {
				list = append(list, at)
			}
		}
		stages = append(stages, list)
	}
	return stageOf, stages
}

// isUseless reports whether another need of a task needs one of them, by what is
// reached.
func isUseless(g []impl.Task, r [][]bool, at int, need int) bool {
	for _, other := range g[at].Needs {
		if other != need && r[other][need] {
			return true
		}
	}
	return false
}

// uselessByReach returns the useless needs, and the graph without them.
func uselessByReach(g []impl.Task) ([][]int, []impl.Task) {
	r := reaches(g)
	pairs := [][]int{}
	less := copyOf(g)
	for at, task := range g {
		less[at].Needs = nil
		for _, need := range task.Needs {
			if isUseless(g, r, at, need) {
				pairs = append(pairs, []int{at, need})
			} else {
				less[at].Needs = append(less[at].Needs, need)
			}
		}
	}
	return pairs, less
}

// sameLists reports whether two lists have the same lists.
func sameLists(lists [][]int, others [][]int) bool {
	if len(lists) != len(others) {
		return false
	}
	for i := range lists {
		if !same(lists[i], others[i]...) {
			return false
		}
	}
	return true
}

// needsOf returns the needs of all tasks.
func needsOf(g []impl.Task) [][]int {
	lists := [][]int{}
	for _, task := range g {
		lists = append(lists, task.Needs)
	}
	return lists
}

// allNeedsOf returns AllNeeds of all tasks.
func allNeedsOf(g []impl.Task) [][]int {
	lists := [][]int{}
	for at := range g {
		lists = append(lists, impl.AllNeeds(g, at))
	}
	return lists
}

// fullGraph returns the graph in which each task needs all before it.
func fullGraph(n int) []impl.Task {
	g := []impl.Task{}
	for at := 0; at < n; at++ {
		g = append(g, needing(at+1, allNumbers(g)...))
	}
	return g
}

// areApart reports whether no two lists share memory, also behind their ends. It
// writes over all of them.
func areApart(lists [][]int) bool {
	longer := [][]int{}
	for i, list := range lists {
		for k := range list {
			list[k] = i
		}
		for n := 0; n < impl.MaxTasks; n++ {
			list = append(list, i)
		}
		longer = append(longer, list)
	}
	for i, list := range longer {
		for _, n := range with(list, lists[i]...) {
			if n != i {
				return false
			}
		}
	}
	return true
}

func TestSampleStages(t *testing.T) {
	behind := []impl.Task{needing(1, 2), needing(20), needing(1, 1), needing(1, 0, 1), needing(1, 1, 2)}
	last := append([]impl.Task{needing(1, 1, 2, 3, 4, 5, 6, 7)}, withoutNeeds(chainOf(7, 1))...)
	for _, x := range []struct {
		g       []impl.Task
		stageOf []int
		stages  [][]int
	}{
		{nil, nil, nil},
		{[]impl.Task{}, nil, nil},
		{[]impl.Task{needing(7)}, []int{0}, [][]int{{0}}},
		{withoutNeeds(chainOf(8, 20)), []int{0, 0, 0, 0, 0, 0, 0, 0}, [][]int{{0, 1, 2, 3, 4, 5, 6, 7}}},
		{chainOf(2, 1), []int{0, 1}, [][]int{{0}, {1}}},
		{chainOf(8, 20), []int{0, 1, 2, 3, 4, 5, 6, 7}, [][]int{{0}, {1}, {2}, {3}, {4}, {5}, {6}, {7}}},
		{fullGraph(8), []int{0, 1, 2, 3, 4, 5, 6, 7}, [][]int{{0}, {1}, {2}, {3}, {4}, {5}, {6}, {7}}},
		{[]impl.Task{needing(1, 1), needing(1, 2), needing(1)}, []int{2, 1, 0}, [][]int{{2}, {1}, {0}}},
		{sample(), []int{1, 0, 2, 1, 0, 0}, [][]int{{1, 4, 5}, {0, 3}, {2}}},
		{forked(), []int{0, 1, 1, 2, 1}, [][]int{{0}, {1, 2, 4}, {3}}},
		// The needs of the tasks 3 and 4 stand in different stages, and in the first
		// place once the higher one, and once the lower one.
		{behind, []int{2, 0, 1, 3, 2}, [][]int{{1}, {2}, {0, 4}, {3}}},
		{last, []int{1, 0, 0, 0, 0, 0, 0, 0}, [][]int{{1, 2, 3, 4, 5, 6, 7}, {0}}},
	} {
		if got := impl.StageOf(x.g); !same(got, x.stageOf...) {
			t.Errorf("StageOf(%v) = %v", x.g, got)
		}
		if got := impl.StagesOf(x.g); !sameLists(got, x.stages) {
			t.Errorf("StagesOf(%v) = %v", x.g, got)
		}
	}
}

func TestSampleUselessNeeds(t *testing.T) {
	for _, x := range []struct {
		needs   [][]int
		useless [][]int
		less    [][]int
	}{
		{nil, nil, nil},
		{[][]int{{}}, nil, [][]int{{}}},
		{[][]int{{}, {}, {}}, nil, [][]int{{}, {}, {}}},
		{[][]int{{}, {0}, {1}}, nil, [][]int{{}, {0}, {1}}},
		{[][]int{{}, {}, {0, 1}}, nil, [][]int{{}, {}, {0, 1}}},
		// Two tasks need task 0, but none of these needs the other one.
		{[][]int{{}, {0}, {0}}, nil, [][]int{{}, {0}, {0}}},
		{[][]int{{}, {0}, {0}, {1, 2}}, nil, [][]int{{}, {0}, {0}, {1, 2}}},
		// The needs stand in different stages, and none of them is useless.
		{[][]int{{}, {0}, {}, {1, 2}}, nil, [][]int{{}, {0}, {}, {1, 2}}},
		// Task 3 needs task 1, but not task 2, which stands between them.
		{[][]int{{}, {0}, {0, 1}, {1}}, [][]int{{2, 0}}, [][]int{{}, {0}, {1}, {1}}},
		// By one other need, with greater numbers, too.
		{[][]int{{}, {0}, {0, 1}}, [][]int{{2, 0}}, [][]int{{}, {0}, {1}}},
		{[][]int{{1, 2}, {2}, {}}, [][]int{{0, 2}}, [][]int{{1}, {2}, {}}},
		{[][]int{{1, 2}, {}, {1}}, [][]int{{0, 1}}, [][]int{{2}, {}, {1}}},
		// By several, with another need before and behind.
		{[][]int{{}, {0}, {0}, {0, 1, 2}}, [][]int{{3, 0}}, [][]int{{}, {0}, {0}, {1, 2}}},
		{[][]int{{}, {}, {1}, {0, 1, 2, 4}, {1}}, [][]int{{3, 1}}, [][]int{{}, {}, {1}, {0, 2, 4}, {1}}},
		// By way of others that the task does not need itself.
		{[][]int{{}, {0}, {1}, {0, 2}}, [][]int{{3, 0}}, [][]int{{}, {0}, {1}, {2}}},
		{[][]int{{}, {0}, {1}, {2}, {3}, {0, 4}}, [][]int{{5, 0}}, [][]int{{}, {0}, {1}, {2}, {3}, {4}}},
		// By a need whose own need is useless.
		{[][]int{{}, {0}, {0, 1}, {0, 2}}, [][]int{{2, 0}, {3, 0}}, [][]int{{}, {0}, {1}, {2}}},
		// Several of one task, and of several tasks.
		{[][]int{{}, {0}, {1}, {0, 1, 2}}, [][]int{{3, 0}, {3, 1}}, [][]int{{}, {0}, {1}, {2}}},
		{[][]int{{}, {0}, {}, {2}, {0, 1, 2, 3}}, [][]int{{4, 0}, {4, 2}}, [][]int{{}, {0}, {}, {2}, {1, 3}}},
		{[][]int{{}, {0}, {0, 1}, {0, 1, 2}}, [][]int{{2, 0}, {3, 0}, {3, 1}}, [][]int{{}, {0}, {1}, {2}}},
		{[][]int{{1, 2, 3}, {2, 3}, {3}, {}}, [][]int{{0, 2}, {0, 3}, {1, 3}}, [][]int{{1}, {2}, {3}, {}}},
		{[][]int{{1, 2, 3}, {3}, {1, 3}, {}}, [][]int{{0, 1}, {0, 3}, {2, 3}}, [][]int{{2}, {3}, {1}, {}}},
	} {
		g := []impl.Task{}
		for at, needs := range x.needs {
			g = append(g, impl.Task{Time: at + 1, Needs: needs, Pool: at % 3, Units: at%4 + 1})
		}
		if got := impl.UselessNeeds(g); !sameLists(got, x.useless) {
			t.Errorf("UselessNeeds(%v) = %v", x.needs, got)
		}
		less := impl.WithoutUseless(g)
		if !sameLists(needsOf(less), x.less) || !sameGraphs(withoutNeeds(less), withoutNeeds(g)) {
			t.Errorf("WithoutUseless(%v) = %v", g, less)
		}
	}
}

// TestMostUselessNeeds has as many as there can be: of each task all but one.
func TestMostUselessNeeds(t *testing.T) {
	g := fullGraph(impl.MaxTasks)
	pairs := [][]int{}
	for at := range g {
		for need := 0; need < at-1; need++ {
			pairs = append(pairs, []int{at, need})
		}
	}
	if useless := impl.UselessNeeds(g); len(pairs) != 21 || !sameLists(useless, pairs) {
		t.Errorf("UselessNeeds(%v) = %v", g, useless)
	}
	less := impl.WithoutUseless(g)
	if !sameLists(needsOf(less), needsOf(chainOf(impl.MaxTasks, 1))) || less[7].Time != 8 {
		t.Errorf("WithoutUseless(%v) = %v", g, less)
	}
}

func TestStagesByNeeds(t *testing.T) {
	for _, g := range validGraphs() {
		stageOf, stages := stagesByNeeds(g)
		if got := impl.StageOf(g); !same(got, stageOf...) {
			t.Errorf("StageOf(%v) = %v, not %v", g, got, stageOf)
		}
		if got := impl.StagesOf(g); !sameLists(got, stages) {
			t.Errorf("StagesOf(%v) = %v, not %v", g, got, stages)
		}
	}
}

func TestUselessByReach(t *testing.T) {
	for _, g := range validGraphs() {
		pairs, less := uselessByReach(g)
		if got := impl.UselessNeeds(g); !sameLists(got, pairs) {
			t.Errorf("UselessNeeds(%v) = %v, not %v", g, got, pairs)
		}
		if got := impl.WithoutUseless(g); !sameGraphs(got, less) {
			t.Errorf("WithoutUseless(%v) = %v, not %v", g, got, less)
		}
	}
}

func TestStagesRefuseGraphs(t *testing.T) {
	for _, g := range append(wrongGraphs(), loopedGraphs()...) {
		if len(impl.StageOf(g)) != 0 || len(impl.StagesOf(g)) != 0 {
			t.Errorf("StageOf, StagesOf(%v) = %v, %v", g, impl.StageOf(g), impl.StagesOf(g))
		}
		if len(impl.UselessNeeds(g)) != 0 || len(impl.WithoutUseless(g)) != 0 {
			t.Errorf("UselessNeeds, WithoutUseless(%v) = %v, %v", g, impl.UselessNeeds(g), impl.WithoutUseless(g))
		}
	}
}

// TestStagesAreNewMemory writes over all lists of the answers, and behind their
// ends.
func TestStagesAreNewMemory(t *testing.T) {
	for _, g := range validGraphs() {
		given, m := arguments{g: g}.guarded()
		stages := impl.StagesOf(given.g)
		pairs := impl.UselessNeeds(given.g)
		less := impl.WithoutUseless(given.g)
		if !areApart(stages) || !areApart(pairs) || !areApart(needsOf(less)) {
			t.Errorf("lists of an answer share memory: %v", g)
		}
		for at := range less {
			less[at] = needing(mark)
		}
		_ = append(less, needing(mark+1))
		if !m.isWhole() {
			t.Errorf("an answer is memory of %v, or it was written into", g)
		}
		_, expectedStages := stagesByNeeds(g)
		expectedPairs, expectedLess := uselessByReach(g)
		if !sameLists(impl.StagesOf(given.g), expectedStages) || !sameLists(impl.UselessNeeds(given.g), expectedPairs) || !sameGraphs(impl.WithoutUseless(given.g), expectedLess) {
			t.Errorf("an answer is kept between calls: %v", g)
		}
	}
}

func TestP96StagesComeBehindStages(t *testing.T) {
	for _, g := range validGraphs() {
		stageOf := impl.StageOf(g)
		if len(stageOf) != len(g) {
			t.Fatalf("StageOf(%v) = %v", g, stageOf)
		}
		for at, task := range g {
			before := []int{}
			for _, need := range task.Needs {
				before = append(before, stageOf[need])
			}
			if len(before) == 0 && stageOf[at] != 0 || len(before) > 0 && stageOf[at] != greatest(before)+1 {
				t.Errorf("StageOf(%v) = %v", g, stageOf)
			}
		}
	}
}

func TestP97StagesHaveAllTasks(t *testing.T) {
	for _, g := range validGraphs() {
		stageOf := impl.StageOf(g)
		stages := impl.StagesOf(g)
		all := []int{}
		for stage, list := range stages {
			if len(list) == 0 || !same(list, ascendingOf(list)...) {
				t.Errorf("StagesOf(%v) = %v", g, stages)
			}
			for _, at := range list {
				if !has(allNumbers(g), at) || stageOf[at] != stage {
					t.Errorf("StagesOf(%v) = %v", g, stages)
				}
			}
			all = with(all, list...)
		}
		if len(all) != len(g) || !hasAll(all, allNumbers(g)) {
			t.Errorf("StagesOf(%v) = %v", g, stages)
		}
	}
}

func TestP98StagesCanBeDoneOneByOne(t *testing.T) {
	for _, g := range validGraphs() {
		done := []int{}
		for _, list := range impl.StagesOf(g) {
			if !impl.ValidDone(g, done) || !hasAll(impl.ReadyTasks(g, done), list) {
				t.Errorf("StagesOf(%v) = %v, but behind %v %v are ready", g, impl.StagesOf(g), done, impl.ReadyTasks(g, done))
			}
			done = ascendingOf(with(done, list...))
		}
		if !same(done, allNumbers(g)...) {
			t.Errorf("StagesOf(%v) = %v", g, impl.StagesOf(g))
		}
	}
}

func TestP99UselessNeedsAreNeededAnyway(t *testing.T) {
	useless := 0
	for _, g := range validGraphs() {
		for _, pair := range impl.UselessNeeds(g) {
			useless++
			needed := false
			for _, other := range g[pair[0]].Needs {
				needed = needed || other != pair[1] && has(impl.AllNeeds(g, other), pair[1])
			}
			if !needed || !has(g[pair[0]].Needs, pair[1]) {
				t.Errorf("UselessNeeds(%v) = %v", g, impl.UselessNeeds(g))
			}
		}
	}
	if useless < 100 {
		t.Errorf("only %d needs are useless", useless)
	}
}

func TestP100UselessNeedsDoNotMatter(t *testing.T) {
	fewer := 0
	for _, g := range validGraphs() {
		less := impl.WithoutUseless(g)
		if !impl.ValidGraph(less) || !sameLists(allNeedsOf(less), allNeedsOf(g)) || len(impl.UselessNeeds(less)) != 0 {
			t.Errorf("WithoutUseless(%v) = %v", g, less)
		}
		if !sameGraphs(impl.WithoutUseless(less), less) {
			t.Errorf("WithoutUseless(%v) = %v", less, impl.WithoutUseless(less))
		}
		if !sameGraphs(less, g) {
			fewer++
		}
		if sameGraphs(less, g) != (len(impl.UselessNeeds(g)) == 0) {
			t.Errorf("UselessNeeds(%v) = %v", g, impl.UselessNeeds(g))
		}
	}
	if fewer == 0 {
		t.Error("no graph has useless needs")
	}
}

func TestP101UselessNeedsTakeNoTime(t *testing.T) {
	for _, g := range validGraphs() {
		less := impl.WithoutUseless(g)
		if !same(impl.HeadTimes(less), impl.HeadTimes(g)...) || !same(impl.TailTimes(less), impl.TailTimes(g)...) || !same(impl.StageOf(less), impl.StageOf(g)...) {
			t.Errorf("WithoutUseless(%v) = %v", g, less)
		}
		if len(less) != len(g) || !sameGraphs(withoutNeeds(less), withoutNeeds(g)) {
			t.Errorf("WithoutUseless(%v) = %v", g, less)
		}
	}
}

func TestP102NothingElseIsUseless(t *testing.T) {
	for _, g := range validGraphs() {
		less := impl.WithoutUseless(g)
		all := allNeedsOf(less)
		for at, task := range less {
			for _, need := range task.Needs {
				fewer := withNeeds(less, at, without(task.Needs, []int{need}))
				if sameLists(allNeedsOf(fewer), all) || has(impl.AllNeeds(fewer, at), need) {
					t.Errorf("WithoutUseless(%v) = %v, in which %d need not need %d", g, less, at, need)
				}
			}
		}
	}
}

func TestP170StagesAreNoMoreThanTasks(t *testing.T) {
	for _, g := range validGraphs() {
		for at, stage := range impl.StageOf(g) {
			if stage < 0 || stage >= len(g) || stage > len(impl.AllNeeds(g, at)) {
				t.Errorf("StageOf(%v) = %v", g, impl.StageOf(g))
			}
		}
	}
}

func TestP171ChainsHaveAStageForEachTask(t *testing.T) {
	chains := 0
	for _, g := range searchGraphs() {
		chain := len(impl.StagesOf(g)) == len(g)
		if chain {
			chains++
		}
		if chain != (impl.CountOrders(g) == 1) {
			t.Errorf("StagesOf(%v) = %v, but CountOrders = %d", g, impl.StagesOf(g), impl.CountOrders(g))
		}
	}
	if chains < 20 || chains > len(searchGraphs())-20 {
		t.Errorf("%d chains", chains)
	}
}

func TestP172NeedsOfTheHighestStageAreNotUseless(t *testing.T) {
	for _, g := range validGraphs() {
		stageOf := impl.StageOf(g)
		for _, pair := range impl.UselessNeeds(g) {
			higher := false
			for _, other := range g[pair[0]].Needs {
				higher = higher || stageOf[other] > stageOf[pair[1]]
			}
			if !higher {
				t.Errorf("UselessNeeds(%v) = %v, but StageOf = %v", g, impl.UselessNeeds(g), stageOf)
			}
		}
	}
}
