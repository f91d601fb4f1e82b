package tests

import (
	"testing"

	"loop.example/buildscheduler/impl"
)

// doneLists returns all lists of tasks that can be done together: what counts as
// that is decided here, and not by the program.
func doneLists(g []impl.Task) [][]int {
	lists := [][]int{}
	for _, list := range subsets(len(g)) {
		if needsNothingElse(g, list) {
			lists = append(lists, list)
		}
	}
	return lists
}

// needsNothingElse reports whether all needs of the tasks of a list are in it.
func needsNothingElse(g []impl.Task, list []int) bool {
	for _, at := range list {
		if !hasAll(list, g[at].Needs) {
			return false
		}
	}
	return true
}

// readyByNeeds returns the tasks that are not done, but whose needs are.
func readyByNeeds(g []impl.Task, done []int) []int {
	ready := []int{}
	for at, task := range g {
		if !has(done, at) && hasAll(done, task.Needs) {
			ready = append(ready, at)
		}
	}
	return ready
}

// byTails returns numbers of tasks by their tails, the greatest ones first, and by
// their numbers if these are equal.
func byTails(g []impl.Task, list []int) []int {
	sorted := []int{}
	for tail := impl.MaxTasks * impl.MaxTime; tail > 0; tail-- {
		for at := range g {
			if has(list, at) && tailByChains(g, at) == tail {
				sorted = append(sorted, at)
			}
		}
	}
	return sorted
}

func TestSampleReady(t *testing.T) {
	// The tails are 8, 7, 5, 1, 12, 6.
	g := sample()
	if !same(impl.ReadyTasks(g, nil), 1, 4, 5) || !same(impl.ReadyOrder(g, nil), 4, 1, 5) {
		t.Errorf("ReadyTasks, ReadyOrder = %v, %v", impl.ReadyTasks(g, nil), impl.ReadyOrder(g, nil))
	}
	if !same(impl.ReadyTasks(g, []int{1, 4}), 0, 3, 5) || !same(impl.ReadyOrder(g, []int{1, 4}), 0, 5, 3) {
		t.Errorf("ReadyTasks, ReadyOrder = %v, %v", impl.ReadyTasks(g, []int{1, 4}), impl.ReadyOrder(g, []int{1, 4}))
	}
	if done, ok := impl.FinishTask(g, []int{1, 4}, 0); !ok || !same(done, 0, 1, 4) {
		t.Errorf("FinishTask = %v, %v", done, ok)
	}
	if done, ok := impl.FinishTask(g, []int{1, 4}, 2); ok || len(done) != 0 {
		t.Errorf("FinishTask of a task that is not ready = %v, %v", done, ok)
	}
	if !same(impl.WaitsFor(g, nil, 2), 0, 1) || !same(impl.WaitsFor(g, []int{1}, 2), 0) || len(impl.WaitsFor(g, []int{1}, 3)) != 0 {
		t.Errorf("WaitsFor = %v, %v", impl.WaitsFor(g, nil, 2), impl.WaitsFor(g, []int{1}, 2))
	}
	if !impl.ValidDone(g, []int{0, 4}) || impl.ValidDone(g, []int{0}) || impl.ValidDone(g, []int{0, 1, 2}) || impl.ValidDone(g, []int{4, 0}) {
		t.Error("ValidDone")
	}
}

// TestWaitsForNeedsAlone has a task that needs tasks that need others: it does not
// wait for these, even if they are not done.
func TestWaitsForNeedsAlone(t *testing.T) {
	if g := chainOf(4, 1); !same(impl.WaitsFor(g, nil, 3), 2) || !same(impl.WaitsFor(g, []int{0}, 3), 2) {
		t.Errorf("WaitsFor = %v", impl.WaitsFor(g, nil, 3))
	}
	g := []impl.Task{needing(1), needing(1), needing(1), needing(1, 0, 1, 2)}
	if !same(impl.WaitsFor(g, []int{1}, 3), 0, 2) || !same(impl.WaitsFor(g, []int{0, 2}, 3), 1) {
		t.Errorf("WaitsFor = %v", impl.WaitsFor(g, []int{1}, 3))
	}
}

// TestEqualTails has tasks that are taken by their numbers.
func TestEqualTails(t *testing.T) {
	free := withoutNeeds(chainOf(impl.MaxTasks, 5))
	if !same(impl.ReadyOrder(free, nil), 0, 1, 2, 3, 4, 5, 6, 7) || !same(impl.ReadyOrder(free, []int{0, 3}), 1, 2, 4, 5, 6, 7) {
		t.Errorf("ReadyOrder = %v", impl.ReadyOrder(free, nil))
	}
	// Two tails, in turns.
	for at := 1; at < impl.MaxTasks; at += 2 {
		free = withTime(free, at, 6)
	}
	if !same(impl.ReadyOrder(free, nil), 1, 3, 5, 7, 0, 2, 4, 6) || !same(impl.ReadyOrder(free, []int{0, 3}), 1, 5, 7, 2, 4, 6) {
		t.Errorf("ReadyOrder = %v", impl.ReadyOrder(free, nil))
	}
	// The tails of the tasks 1, 2, 3 are 6: their times are not.
	g := []impl.Task{needing(1), needing(2), needing(6), needing(3), needing(3, 3), needing(4, 1)}
	if !same(impl.ReadyOrder(g, nil), 1, 2, 3, 0) {
		t.Errorf("ReadyOrder = %v", impl.ReadyOrder(g, nil))
	}
	// Task 2 becomes ready last, but is taken with those whose tails are equal.
	g = []impl.Task{needing(3), needing(4, 4), needing(4, 4), needing(4), needing(2)}
	if !same(impl.ReadyOrder(g, []int{4}), 1, 2, 3, 0) {
		t.Errorf("ReadyOrder = %v", impl.ReadyOrder(g, []int{4}))
	}
}

// TestOrdersOfTails has all orders of few tails, and drawn ones of many.
func TestOrdersOfTails(t *testing.T) {
	lists := listsOf(1, 4, 5)
	d := &dice{state: 3}
	for i := 0; i < 2000; i++ {
		list := []int{}
		most := d.below(impl.MaxTime) + 1
		for len(list) < impl.MaxTasks {
			list = append(list, d.below(most)+1)
		}
		lists = append(lists, list)
	}
	for _, times := range lists {
		g := []impl.Task{}
		for _, time := range times {
			g = append(g, needing(time))
		}
		if order := impl.ReadyOrder(g, nil); !same(order, byTails(g, allNumbers(g))...) {
			t.Errorf("ReadyOrder of free tasks with the times %v = %v", times, order)
		}
	}
}

// TestValidDoneByNeeds has all short lists, also with numbers that no task has,
// numbers that come twice, and numbers that do not ascend.
func TestValidDoneByNeeds(t *testing.T) {
	for _, g := range smallGraphs() {
		for _, list := range listsOf(-1, len(g), 3) {
			valid := !anyNeedsItself(g) && same(list, ascendingOf(list)...) && hasAll(allNumbers(g), list) && needsNothingElse(g, list)
			if impl.ValidDone(g, list) != valid {
				t.Errorf("ValidDone(%v, %v) = %v", g, list, !valid)
			}
		}
	}
}

func TestReadyByNeeds(t *testing.T) {
	for _, g := range validGraphs() {
		for _, done := range subsets(len(g)) {
			valid := needsNothingElse(g, done)
			if impl.ValidDone(g, done) != valid {
				t.Errorf("ValidDone(%v, %v) = %v", g, done, !valid)
			}
			if !valid {
				checkNothingIsReady(t, g, done)
				continue
			}
			ready := readyByNeeds(g, done)
			if got := impl.ReadyTasks(g, done); !same(got, ready...) {
				t.Errorf("ReadyTasks(%v, %v) = %v", g, done, got)
			}
			if got := impl.ReadyOrder(g, done); !same(got, byTails(g, ready)...) {
				t.Errorf("ReadyOrder(%v, %v) = %v", g, done, got)
			}
			for at, task := range g {
				if got := impl.WaitsFor(g, done, at); !same(got, without(task.Needs, done)...) {
					t.Errorf("WaitsFor(%v, %v, %d) = %v", g, done, at, got)
				}
			}
		}
	}
}

// checkNothingIsReady checks the fixed results for arguments that are not valid.
func checkNothingIsReady(t *testing.T, g []impl.Task, done []int) {
	if impl.ValidDone(g, done) {
		t.Errorf("ValidDone(%v, %v) = true", g, done)
	}
	if len(impl.ReadyTasks(g, done)) != 0 || len(impl.ReadyOrder(g, done)) != 0 {
		t.Errorf("ReadyTasks, ReadyOrder(%v, %v) = %v, %v", g, done, impl.ReadyTasks(g, done), impl.ReadyOrder(g, done))
	}
	if left, progress := impl.TimeLeft(g, done), impl.ProgressOf(g, done); left != -1 || progress != -1 {
		t.Errorf("TimeLeft, ProgressOf(%v, %v) = %d, %d", g, done, left, progress)
	}
	for at := -1; at <= len(g) && at <= impl.MaxTasks; at++ {
		checkNoTask(t, g, done, at)
	}
}

// checkNoTask checks the fixed results for numbers that no task has.
func checkNoTask(t *testing.T, g []impl.Task, done []int, at int) {
	if more, ok := impl.FinishTask(g, done, at); ok || len(more) != 0 {
		t.Errorf("FinishTask(%v, %v, %d) = %v, %v", g, done, at, more, ok)
	}
	if list := impl.WaitsFor(g, done, at); len(list) != 0 {
		t.Errorf("WaitsFor(%v, %v, %d) = %v", g, done, at, list)
	}
}

func TestReadyRefusesGraphs(t *testing.T) {
	for _, g := range append(wrongGraphs(), loopedGraphs()...) {
		for _, done := range append(listsOf(-1, 3, 2), []int{0, 1, 2}, make([]int, 5000)) {
			checkNothingIsReady(t, g, done)
		}
	}
}

func TestReadyRefusesDoneTasks(t *testing.T) {
	for _, g := range [][]impl.Task{sample(), forked(), withoutNeeds(sample()), withoutNeeds(chainOf(impl.MaxTasks, 2))} {
		for _, done := range append(wrongNumbers(len(g)), with(allNumbers(g), len(g)), with(allNumbers(g), 0)) {
			checkNothingIsReady(t, g, done)
		}
	}
	// Task 2 waits for task 1, and this for task 0: one need that is not done is
	// enough.
	for _, done := range [][]int{{1}, {2}, {1, 2}, {0, 2}} {
		checkNothingIsReady(t, chainOf(3, 1), done)
	}
}

func TestReadyRefusesStrangeTasks(t *testing.T) {
	for _, g := range [][]impl.Task{nil, sample(), forked(), chainOf(impl.MaxTasks, 1), withoutNeeds(chainOf(impl.MaxTasks, 1))} {
		for _, at := range strangeNumbers(len(g)) {
			for _, done := range doneLists(g) {
				checkNoTask(t, g, done, at)
			}
		}
	}
}

func TestNoTasksAreReady(t *testing.T) {
	for _, g := range [][]impl.Task{nil, {}} {
		for _, done := range [][]int{nil, {}} {
			if !impl.ValidDone(g, done) || len(impl.ReadyTasks(g, done)) != 0 || len(impl.ReadyOrder(g, done)) != 0 {
				t.Error("without tasks nothing is done, and nothing is ready")
			}
			checkNoTask(t, g, done, 0)
		}
		checkNothingIsReady(t, g, []int{0})
	}
}

func TestP17NothingAndEverythingCanBeDone(t *testing.T) {
	for _, g := range validGraphs() {
		if !impl.ValidDone(g, nil) || !impl.ValidDone(g, []int{}) || !impl.ValidDone(g, allNumbers(g)) {
			t.Errorf("ValidDone(%v) of no tasks, or of all, = false", g)
		}
		if ready := impl.ReadyTasks(g, allNumbers(g)); len(ready) != 0 {
			t.Errorf("ReadyTasks(%v), with all tasks done, = %v", g, ready)
		}
	}
}

func TestP18ReadyTasksAreNotDoneAndCanBe(t *testing.T) {
	for _, g := range validGraphs() {
		for _, done := range doneLists(g) {
			ready := impl.ReadyTasks(g, done)
			for at := -1; at <= len(g); at++ {
				more, ok := impl.FinishTask(g, done, at)
				if ok != has(ready, at) || !ok && len(more) != 0 {
					t.Errorf("FinishTask(%v, %v, %d) = %v, %v", g, done, at, more, ok)
				}
				if ok && has(done, at) {
					t.Errorf("ReadyTasks(%v, %v) = %v", g, done, ready)
				}
			}
		}
	}
}

func TestP19TasksWithoutNeedsAreReadyAtFirst(t *testing.T) {
	for _, g := range validGraphs() {
		free := []int{}
		for at, task := range g {
			if len(task.Needs) == 0 {
				free = append(free, at)
			}
		}
		if ready := impl.ReadyTasks(g, nil); !same(ready, free...) {
			t.Errorf("ReadyTasks(%v, nil) = %v", g, ready)
		}
	}
}

func TestP20TheLongestTailsComeFirst(t *testing.T) {
	for _, g := range validGraphs() {
		tails := impl.TailTimes(g)
		for _, done := range doneLists(g) {
			order := impl.ReadyOrder(g, done)
			ready := impl.ReadyTasks(g, done)
			if len(order) != len(ready) || !same(ascendingOf(order), ready...) {
				t.Errorf("ReadyOrder(%v, %v) = %v", g, done, order)
			}
			for i := 1; i < len(order); i++ {
				before := tails[order[i-1]]
				tail := tails[order[i]]
				if tail > before || tail == before && order[i] < order[i-1] {
					t.Errorf("ReadyOrder(%v, %v) = %v", g, done, order)
				}
			}
		}
	}
}

func TestP21FinishedTasksAreDone(t *testing.T) {
	for _, g := range validGraphs() {
		for _, done := range doneLists(g) {
			for _, at := range readyByNeeds(g, done) {
				more, ok := impl.FinishTask(g, done, at)
				if !ok || !same(more, ascendingOf(with(done, at))...) || !impl.ValidDone(g, more) {
					t.Errorf("FinishTask(%v, %v, %d) = %v, %v", g, done, at, more, ok)
				}
			}
		}
	}
}

func TestP22TheOrderOfFinishingDoesNotMatter(t *testing.T) {
	for _, g := range validGraphs() {
		for _, done := range doneLists(g) {
			ready := readyByNeeds(g, done)
			for _, a := range ready {
				for _, b := range without(ready, []int{a}) {
					checkBothOrders(t, g, done, a, b)
				}
			}
		}
	}
}

// checkBothOrders checks that two ready tasks can be finished in both orders.
func checkBothOrders(t *testing.T, g []impl.Task, done []int, a int, b int) {
	withA, okA := impl.FinishTask(g, done, a)
	withB, okB := impl.FinishTask(g, done, b)
	withAB, okAB := impl.FinishTask(g, withA, b)
	withBA, okBA := impl.FinishTask(g, withB, a)
	if !okA || !okB || !okAB || !okBA || !same(withAB, withBA...) || len(withAB) != len(done)+2 {
		t.Errorf("FinishTask(%v, %v) of %d and %d = %v, %v", g, done, a, b, withAB, withBA)
	}
}

func TestP23ReadyTasksWaitForNothing(t *testing.T) {
	for _, g := range validGraphs() {
		for _, done := range doneLists(g) {
			ready := impl.ReadyTasks(g, done)
			for at := range g {
				waits := impl.WaitsFor(g, done, at)
				if (len(waits) == 0) != (has(ready, at) || has(done, at)) {
					t.Errorf("WaitsFor(%v, %v, %d) = %v", g, done, at, waits)
				}
			}
		}
	}
}

func TestP127NeedsOfWhatIsDoneAreDone(t *testing.T) {
	for _, g := range validGraphs() {
		for _, list := range subsets(len(g)) {
			all := true
			for _, at := range list {
				all = all && hasAll(list, impl.AllNeeds(g, at))
			}
			if impl.ValidDone(g, list) != all {
				t.Errorf("ValidDone(%v, %v) = %v", g, list, !all)
			}
		}
	}
}

// finishAll returns the tasks in the order in which they are finished if always
// the first one that is ready is.
func finishAll(t *testing.T, g []impl.Task) []int {
	order := []int{}
	done := []int{}
	for range g {
		ready := impl.ReadyTasks(g, done)
		if len(ready) == 0 {
			return order
		}
		more, ok := impl.FinishTask(g, done, ready[0])
		if !ok {
			t.Errorf("FinishTask(%v, %v, %d) fails", g, done, ready[0])
		}
		order = append(order, ready[0])
		done = more
	}
	if !same(done, allNumbers(g)...) {
		t.Errorf("FinishTask of all tasks of %v = %v", g, done)
	}
	return order
}

func TestP128AllTasksCanBeDoneOneByOne(t *testing.T) {
	for _, g := range validGraphs() {
		if order := finishAll(t, g); !same(ascendingOf(order), allNumbers(g)...) || len(order) != len(g) {
			t.Errorf("ReadyTasks of %v, finished one by one, = %v", g, order)
		}
	}
}

func TestP129ReadyTasksLeadToTheOrder(t *testing.T) {
	for _, g := range validGraphs() {
		if order := finishAll(t, g); !same(order, impl.TopOrder(g)...) {
			t.Errorf("ReadyTasks of %v, finished one by one, = %v", g, order)
		}
	}
}

func TestP131FinishedTasksMakeOthersReady(t *testing.T) {
	woken := 0
	for _, g := range validGraphs() {
		for _, done := range doneLists(g) {
			before := impl.ReadyTasks(g, done)
			for _, at := range before {
				more, _ := impl.FinishTask(g, done, at)
				for _, next := range without(impl.ReadyTasks(g, more), before) {
					woken++
					if !has(g[next].Needs, at) {
						t.Errorf("FinishTask(%v, %v, %d) makes %d ready", g, done, at, next)
					}
				}
			}
		}
	}
	if woken == 0 {
		t.Error("no task becomes ready")
	}
}

func TestP132AtFirstTasksWaitForAllTheirNeeds(t *testing.T) {
	for _, g := range validGraphs() {
		for at, task := range g {
			if waits := impl.WaitsFor(g, nil, at); !same(waits, task.Needs...) {
				t.Errorf("WaitsFor(%v, nil, %d) = %v", g, at, waits)
			}
			if waits := impl.WaitsFor(g, allNumbers(g), at); len(waits) != 0 {
				t.Errorf("WaitsFor(%v, %d), with all tasks done, = %v", g, at, waits)
			}
		}
	}
}
