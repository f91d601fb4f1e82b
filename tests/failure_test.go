package tests

import (
	"testing"

	"loop.example/buildscheduler/impl"
)

// mishap has valid arguments of Outcomes.
type mishap struct {
	g     []impl.Task
	fails []int
	keep  int
}

// outcomes calls Outcomes.
func (m mishap) outcomes() []int {
	return impl.Outcomes(m.g, m.fails, m.keep)
}

// count calls CountOutcome.
func (m mishap) count(kind int) int {
	return impl.CountOutcome(m.g, m.fails, m.keep, kind)
}

// blamed calls BlamedFor, which keeps everything going.
func (m mishap) blamed(at int) int {
	return impl.BlamedFor(m.g, m.fails, at)
}

// withKeep returns the mishap with another number of failures that end everything.
func (m mishap) withKeep(keep int) mishap {
	m.keep = keep
	return m
}

// mishaps returns many mishaps, each with several numbers of failures: all failing
// tasks of small graphs, and drawn ones of others.
func mishaps() []mishap {
	list := []mishap{}
	d := &dice{state: 37}
	for _, g := range append(validGraphs(), workshop()) {
		lists := subsets(len(g))
		if len(g) > 4 {
			lists = drawnSubsets(d, len(g), 6)
		}
		for _, fails := range lists {
			for _, keep := range []int{1, 2, 3, 4, impl.MaxTasks} {
				list = append(list, mishap{g, fails, keep})
			}
		}
	}
	return list
}

// drawnSubsets returns ascending lists of numbers of n tasks: none, all, and
// several drawn ones.
func drawnSubsets(d *dice, n int, several int) [][]int {
	lists := [][]int{{}, subsets(n)[1<<n-1]}
	for len(lists) < several+2 {
		lists = append(lists, subsets(n)[d.below(1<<n)])
	}
	return lists
}

// numbersWith returns the numbers of the tasks that have an outcome.
func numbersWith(outcomes []int, kind int) []int {
	list := []int{}
	for at, outcome := range outcomes {
		if outcome == kind {
			list = append(list, at)
		}
	}
	return list
}

// brokenByReach reports whether a task needs one that is to fail.
func (m mishap) brokenByReach(at int) bool {
	r := reaches(m.g)
	for _, fails := range m.fails {
		if r[at][fails] {
			return true
		}
	}
	return false
}

// outcomesByReach returns the outcomes: if everything is kept going it is what
// tasks need that matters alone, and the others are left from then on when as many
// have failed.
func (m mishap) outcomesByReach() []int {
	outcomes := make([]int, len(m.g))
	failed := 0
	for _, at := range readyOneByOne(m.g) {
		if failed == m.keep {
			outcomes[at] = impl.TaskLeft
		} else if m.brokenByReach(at) {
			outcomes[at] = impl.TaskSkipped
		} else if has(m.fails, at) {
			outcomes[at] = impl.TaskFailed
			failed++
		}
	}
	return outcomes
}

// blamedByReach returns who is to blame for a task, -1 if nobody is.
func (m mishap) blamedByReach(at int) int {
	r := reaches(m.g)
	for _, fails := range m.fails {
		if (fails == at || r[at][fails]) && !m.brokenByReach(fails) {
			return fails
		}
	}
	return -1
}

func TestSampleFailures(t *testing.T) {
	// The order is 1, 3, 4, 0, 2, 5.
	g := sample()
	for _, x := range []struct {
		fails []int
		keep  int
		want  []int
	}{
		{nil, 1, []int{0, 0, 0, 0, 0, 0}},
		{[]int{4}, 8, []int{2, 0, 2, 0, 1, 0}},
		{[]int{4}, 1, []int{3, 0, 3, 0, 1, 3}},
		{[]int{0, 3}, 1, []int{3, 0, 3, 1, 3, 3}},
		{[]int{0, 3}, 2, []int{1, 0, 3, 1, 0, 3}},
		{[]int{0, 3}, 3, []int{1, 0, 2, 1, 0, 0}},
		// Task 0 is skipped because of its need, and so no failure.
		{[]int{0, 4}, 2, []int{2, 0, 2, 0, 1, 0}},
		{[]int{0, 4, 5}, 2, []int{2, 0, 2, 0, 1, 1}},
		{[]int{0, 1, 2, 3, 4, 5}, 8, []int{2, 1, 2, 2, 1, 1}},
		{[]int{0, 1, 2, 3, 4, 5}, 3, []int{2, 1, 2, 2, 1, 1}},
		{[]int{0, 1, 2, 3, 4, 5}, 2, []int{3, 1, 3, 2, 1, 3}},
		{[]int{0, 1, 2, 3, 4, 5}, 1, []int{3, 1, 3, 3, 3, 3}},
	} {
		if got := impl.Outcomes(g, x.fails, x.keep); !same(got, x.want...) {
			t.Errorf("Outcomes(%v, %d) = %v", x.fails, x.keep, got)
		}
	}
	m := mishap{g, []int{0, 3}, 3}
	if m.count(impl.TaskDone) != 3 || m.count(impl.TaskFailed) != 2 || m.count(impl.TaskSkipped) != 1 || m.count(impl.TaskLeft) != 0 {
		t.Errorf("CountOutcome of TaskDone = %d", m.count(impl.TaskDone))
	}
	m.keep = 2
	if m.count(impl.TaskDone) != 2 || m.count(impl.TaskFailed) != 2 || m.count(impl.TaskSkipped) != 0 || m.count(impl.TaskLeft) != 2 {
		t.Errorf("CountOutcome of TaskLeft = %d", m.count(impl.TaskLeft))
	}
}

// TestFailuresBehindFailures has failing tasks whose needs are skipped, or failed.
func TestFailuresBehindFailures(t *testing.T) {
	g := chainOf(5, 2)
	for keep := 2; keep <= impl.MaxTasks; keep++ {
		if got := impl.Outcomes(g, []int{1, 2, 4}, keep); !same(got, 0, 1, 2, 2, 2) {
			t.Errorf("Outcomes of a chain with %d failures = %v", keep, got)
		}
	}
	if got := impl.Outcomes(g, []int{1, 2, 4}, 1); !same(got, 0, 1, 3, 3, 3) {
		t.Errorf("Outcomes of a chain = %v", got)
	}
	for at, want := range []int{-1, 1, 1, 1, 1} {
		if got := impl.BlamedFor(g, []int{1, 2, 4}, at); got != want {
			t.Errorf("BlamedFor(%d) of a chain = %d", at, got)
		}
	}
	// Of the chain's other direction the greatest number is the first task.
	g = []impl.Task{needing(1, 1), needing(1, 2), needing(1, 3), needing(1)}
	for at, want := range []int{2, 2, 2, -1} {
		if got := impl.BlamedFor(g, []int{0, 1, 2}, at); got != want {
			t.Errorf("BlamedFor(%d) of a chain = %d", at, got)
		}
	}
}

// TestTheLeastOneIsToBlame has several tasks that fail.
func TestTheLeastOneIsToBlame(t *testing.T) {
	g := []impl.Task{needing(1, 3), needing(1), needing(1), needing(1, 1, 2), needing(1)}
	for at, want := range []int{1, 1, 2, 1, 4} {
		if got := impl.BlamedFor(g, []int{1, 2, 4}, at); got != want {
			t.Errorf("BlamedFor(%d) = %d", at, got)
		}
	}
	for at, want := range []int{2, -1, 2, 2, -1} {
		if got := impl.BlamedFor(g, []int{0, 2, 3}, at); got != want {
			t.Errorf("BlamedFor(%d) = %d", at, got)
		}
	}
	// Here everything fails, and nothing is left.
	free := withoutNeeds(chainOf(impl.MaxTasks, 1))
	for at := range free {
		if got := impl.BlamedFor(free, allNumbers(free), at); got != at {
			t.Errorf("BlamedFor(%d) = %d", at, got)
		}
	}
}

// TestEnoughFailures has as many failures as end everything, one fewer, and one
// more.
func TestEnoughFailures(t *testing.T) {
	free := withoutNeeds(chainOf(impl.MaxTasks, 1))
	for _, x := range []struct {
		fails []int
		keep  int
		want  []int
	}{
		{[]int{1, 3, 5}, 1, []int{0, 1, 3, 3, 3, 3, 3, 3}},
		{[]int{1, 3, 5}, 2, []int{0, 1, 0, 1, 3, 3, 3, 3}},
		{[]int{1, 3, 5}, 3, []int{0, 1, 0, 1, 0, 1, 3, 3}},
		{[]int{1, 3, 5}, 4, []int{0, 1, 0, 1, 0, 1, 0, 0}},
		{[]int{7}, 1, []int{0, 0, 0, 0, 0, 0, 0, 1}},
		{[]int{0, 1, 2, 3, 4, 5, 6, 7}, 8, []int{1, 1, 1, 1, 1, 1, 1, 1}},
		{[]int{0, 1, 2, 3, 4, 5, 6, 7}, 7, []int{1, 1, 1, 1, 1, 1, 1, 3}},
		{[]int{0, 1, 2, 3, 4, 5, 6, 7}, 1, []int{1, 3, 3, 3, 3, 3, 3, 3}},
	} {
		if got := impl.Outcomes(free, x.fails, x.keep); !same(got, x.want...) {
			t.Errorf("Outcomes(%v, %d) = %v", x.fails, x.keep, got)
		}
	}
	// A task behind the last failure is left, even if it needs one that failed.
	g := []impl.Task{needing(1), needing(1), needing(1, 0), needing(1, 1)}
	if got := impl.Outcomes(g, []int{0, 1}, 2); !same(got, 1, 1, 3, 3) {
		t.Errorf("Outcomes = %v", got)
	}
	// The order is 1, 0, 2: task 2 is left, but skipped with another one.
	g = []impl.Task{needing(1, 1), needing(1), needing(1, 0)}
	if got := impl.Outcomes(g, []int{0}, 1); !same(got, 1, 0, 3) {
		t.Errorf("Outcomes = %v", got)
	}
	if got := impl.Outcomes(g, []int{0}, 2); !same(got, 1, 0, 2) {
		t.Errorf("Outcomes = %v", got)
	}
}

func TestOutcomesByReach(t *testing.T) {
	for _, m := range mishaps() {
		expected := m.outcomesByReach()
		if got := m.outcomes(); !same(got, expected...) {
			t.Errorf("Outcomes(%v) = %v, not %v", m, got, expected)
		}
		for kind := impl.TaskDone; kind <= impl.TaskLeft; kind++ {
			if got := m.count(kind); got != len(numbersWith(expected, kind)) {
				t.Errorf("CountOutcome(%v, %d) = %d", m, kind, got)
			}
		}
		if m.keep != impl.MaxTasks {
			continue
		}
		for at := range m.g {
			if got := m.blamed(at); got != m.blamedByReach(at) {
				t.Errorf("BlamedFor(%v, %d) = %d, not %d", m, at, got, m.blamedByReach(at))
			}
		}
	}
}

// checkNoOutcomes checks the fixed results for arguments that are not valid.
func checkNoOutcomes(t *testing.T, m mishap) {
	if outcomes := m.outcomes(); len(outcomes) != 0 {
		t.Errorf("Outcomes(%v) = %v", m, outcomes)
	}
	for kind := -1; kind <= impl.TaskLeft+1; kind++ {
		if count := m.count(kind); count != -1 {
			t.Errorf("CountOutcome(%v, %d) = %d", m, kind, count)
		}
	}
}

// checkNobodyIsBlamed checks the fixed results for arguments that are not valid.
func checkNobodyIsBlamed(t *testing.T, g []impl.Task, fails []int) {
	for at := -1; at <= impl.MaxTasks; at++ {
		if blamed := impl.BlamedFor(g, fails, at); blamed != -1 {
			t.Errorf("BlamedFor(%v, %v, %d) = %d", g, fails, at, blamed)
		}
	}
}

func TestFailuresRefuseGraphs(t *testing.T) {
	for _, g := range append(wrongGraphs(), loopedGraphs()...) {
		for _, fails := range [][]int{nil, {0}, {0, 1}} {
			checkNobodyIsBlamed(t, g, fails)
			for keep := 1; keep <= impl.MaxTasks; keep++ {
				checkNoOutcomes(t, mishap{g, fails, keep})
			}
		}
	}
}

func TestFailuresRefuseTasks(t *testing.T) {
	for _, g := range [][]impl.Task{sample(), forked(), workshop(), chainOf(2, 1)} {
		for _, fails := range wrongNumbers(len(g)) {
			checkNobodyIsBlamed(t, g, fails)
			checkNoOutcomes(t, mishap{g, fails, 1})
			checkNoOutcomes(t, mishap{g, fails, impl.MaxTasks})
		}
	}
}

// TestFailuresOfShortLists has all short lists, also those that are not valid.
func TestFailuresOfShortLists(t *testing.T) {
	for _, g := range smallGraphs() {
		if anyNeedsItself(g) {
			continue
		}
		for _, fails := range listsOf(-1, len(g), 3) {
			m := mishap{g, fails, 2}
			if !same(fails, ascendingOf(fails)...) || !hasAll(allNumbers(g), fails) {
				checkNoOutcomes(t, m)
				checkNobodyIsBlamed(t, g, fails)
			} else if got := m.outcomes(); !same(got, m.outcomesByReach()...) {
				t.Errorf("Outcomes(%v) = %v", m, got)
			}
		}
	}
}

func TestLimitsOfKeep(t *testing.T) {
	const far = 1 << 62
	for _, g := range [][]impl.Task{nil, {}, sample(), workshop(), chainOf(impl.MaxTasks, 1)} {
		for _, fails := range drawnSubsets(&dice{state: 41}, len(g), 4) {
			for _, keep := range []int{0, -1, -impl.MaxTasks, impl.MaxTasks + 1, 64, far, -far, 2*far - 1, -2 * far} {
				checkNoOutcomes(t, mishap{g, fails, keep})
			}
			for keep := 1; keep <= impl.MaxTasks; keep++ {
				m := mishap{g, fails, keep}
				if got := m.outcomes(); !same(got, m.outcomesByReach()...) || m.count(impl.TaskDone) < 0 {
					t.Errorf("Outcomes(%v) = %v", m, got)
				}
			}
		}
	}
}

func TestStrangeOutcomes(t *testing.T) {
	for _, g := range [][]impl.Task{nil, sample(), chainOf(impl.MaxTasks, 1)} {
		for _, kind := range strangeNumbers(impl.TaskLeft + 1) {
			if count := impl.CountOutcome(g, nil, 1, kind); count != -1 {
				t.Errorf("CountOutcome of %d = %d", kind, count)
			}
		}
	}
}

func TestNobodyIsBlamedForStrangeTasks(t *testing.T) {
	for _, g := range [][]impl.Task{nil, sample(), forked(), workshop(), chainOf(impl.MaxTasks, 1)} {
		for _, at := range strangeNumbers(len(g)) {
			for _, fails := range [][]int{nil, allNumbers(g)} {
				if blamed := impl.BlamedFor(g, fails, at); blamed != -1 {
					t.Errorf("BlamedFor(%v, %v, %d) = %d", g, fails, at, blamed)
				}
			}
		}
	}
}

func TestFailuresOfNoTasks(t *testing.T) {
	for _, g := range [][]impl.Task{nil, {}} {
		for _, fails := range [][]int{nil, {}} {
			m := mishap{g, fails, 1}
			if len(m.outcomes()) != 0 {
				t.Errorf("Outcomes of no tasks = %v", m.outcomes())
			}
			for kind := impl.TaskDone; kind <= impl.TaskLeft; kind++ {
				if m.count(kind) != 0 || m.withKeep(impl.MaxTasks).count(kind) != 0 {
					t.Errorf("CountOutcome of no tasks = %d", m.count(kind))
				}
			}
			checkNoOutcomes(t, m.withKeep(0))
			checkNoOutcomes(t, m.withKeep(impl.MaxTasks+1))
			checkNobodyIsBlamed(t, g, fails)
		}
		checkNoOutcomes(t, mishap{g, []int{0}, 1})
		checkNobodyIsBlamed(t, g, []int{0})
		if outcomes := impl.CancelAt(g, narrowRoom(), 1, nil, 0); len(outcomes) != 0 {
			t.Errorf("CancelAt of no tasks = %v", outcomes)
		}
	}
}

func TestP55TasksAreDoneIfTheirNeedsAre(t *testing.T) {
	for _, m := range mishaps() {
		outcomes := m.outcomes()
		done := numbersWith(outcomes, impl.TaskDone)
		for at, task := range m.g {
			needsDone := hasAll(done, task.Needs)
			switch outcomes[at] {
			case impl.TaskDone:
				if !needsDone || has(m.fails, at) {
					t.Errorf("Outcomes(%v) = %v", m, outcomes)
				}
			case impl.TaskFailed:
				if !needsDone || !has(m.fails, at) {
					t.Errorf("Outcomes(%v) = %v", m, outcomes)
				}
			case impl.TaskSkipped:
				if needsDone {
					t.Errorf("Outcomes(%v) = %v", m, outcomes)
				}
			}
		}
	}
}

func TestP56EnoughIsEnough(t *testing.T) {
	left := 0
	for _, m := range mishaps() {
		failed := m.count(impl.TaskFailed)
		if failed > m.keep {
			t.Errorf("Outcomes(%v) = %v", m, m.outcomes())
		}
		if failed < m.keep && m.count(impl.TaskLeft) != 0 {
			t.Errorf("Outcomes(%v) = %v", m, m.outcomes())
		}
		left += m.count(impl.TaskLeft)
	}
	if left == 0 {
		t.Error("nothing is ever left")
	}
}

func TestP57WithoutFailuresEverythingIsDone(t *testing.T) {
	for _, g := range validGraphs() {
		for keep := 1; keep <= impl.MaxTasks; keep++ {
			for _, fails := range [][]int{nil, {}} {
				outcomes := impl.Outcomes(g, fails, keep)
				if !same(outcomes, make([]int, len(g))...) {
					t.Errorf("Outcomes(%v, nil, %d) = %v", g, keep, outcomes)
				}
			}
		}
	}
}

func TestP58AllTasksHaveOutcomes(t *testing.T) {
	for _, m := range mishaps() {
		sum := m.count(impl.TaskDone) + m.count(impl.TaskFailed) + m.count(impl.TaskSkipped) + m.count(impl.TaskLeft)
		if sum != len(m.g) || len(m.outcomes()) != len(m.g) {
			t.Errorf("CountOutcome(%v) of all outcomes = %d", m, sum)
		}
	}
}

func TestP59WhoKeepsGoingDoesMore(t *testing.T) {
	more := 0
	for _, m := range mishaps() {
		if m.keep == impl.MaxTasks {
			continue
		}
		before := m.count(impl.TaskDone)
		behind := m.withKeep(m.keep + 1).count(impl.TaskDone)
		if behind < before {
			t.Errorf("CountOutcome(%v) of TaskDone = %d, but with a failure more %d", m, before, behind)
		}
		if behind > before {
			more++
		}
	}
	if more == 0 {
		t.Error("who keeps going never does more")
	}
}

func TestP60SomebodyIsToBlame(t *testing.T) {
	for _, m := range mishaps() {
		if m.keep != impl.MaxTasks {
			continue
		}
		outcomes := m.outcomes()
		r := reaches(m.g)
		for at := range m.g {
			blamed := m.blamed(at)
			if (blamed == -1) != (outcomes[at] == impl.TaskDone) {
				t.Errorf("BlamedFor(%v, %d) = %d", m, at, blamed)
			}
			if blamed == -1 {
				continue
			}
			if outcomes[blamed] != impl.TaskFailed || (blamed != at && !r[at][blamed]) {
				t.Errorf("BlamedFor(%v, %d) = %d", m, at, blamed)
			}
		}
	}
}

func TestP153OneFailureIsEnough(t *testing.T) {
	for _, m := range mishaps() {
		if m.keep != 1 {
			continue
		}
		outcomes := m.outcomes()
		failed := false
		for _, at := range impl.TopOrder(m.g) {
			want := impl.TaskDone
			if failed {
				want = impl.TaskLeft
			} else if has(m.fails, at) {
				want = impl.TaskFailed
				failed = true
			}
			if outcomes[at] != want {
				t.Errorf("Outcomes(%v) = %v", m, outcomes)
			}
		}
	}
}

func TestP154FailuresSkipUsers(t *testing.T) {
	for _, m := range mishaps() {
		if m.keep != impl.MaxTasks {
			continue
		}
		outcomes := m.outcomes()
		stale := impl.StaleTasks(m.g, m.fails)
		for at := range m.g {
			if (outcomes[at] == impl.TaskDone) == has(stale, at) || outcomes[at] == impl.TaskLeft {
				t.Errorf("Outcomes(%v) = %v, but StaleTasks are %v", m, outcomes, stale)
			}
		}
	}
}

func TestP155DoneTasksAreValidAsDone(t *testing.T) {
	for _, m := range mishaps() {
		done := numbersWith(m.outcomes(), impl.TaskDone)
		if len(done) != m.count(impl.TaskDone) || !impl.ValidDone(m.g, done) || !needsNothingElse(m.g, done) {
			t.Errorf("Outcomes(%v) = %v", m, m.outcomes())
		}
	}
}

func TestP156WhoFailsFirstIsToBlame(t *testing.T) {
	for _, m := range mishaps() {
		for at, task := range m.g {
			blamed := m.blamed(at)
			if blamed != -1 && !has(m.fails, blamed) {
				t.Errorf("BlamedFor(%v, %d) = %d", m, at, blamed)
			}
			if len(task.Needs) > 0 {
				continue
			}
			if has(m.fails, at) != (blamed == at) || (blamed != at && blamed != -1) {
				t.Errorf("BlamedFor(%v, %d) = %d", m, at, blamed)
			}
		}
	}
}
