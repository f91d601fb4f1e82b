package tests

import (
	"testing"

	"loop.example/buildscheduler/impl"
)

func TestSampleGraph(t *testing.T) {
	g := sample()
	if !impl.ValidGraph(g) || !same(impl.TopOrder(g), 1, 3, 4, 0, 2, 5) || len(impl.StuckTasks(g)) != 0 {
		t.Errorf("TopOrder = %v", impl.TopOrder(g))
	}
	if !same(impl.AllNeeds(g, 0), 4) || len(impl.AllNeeds(g, 1)) != 0 || !same(impl.AllNeeds(g, 2), 0, 1, 4) || !same(impl.AllNeeds(g, 3), 1) {
		t.Error("AllNeeds")
	}
	if !same(impl.AllUsers(g, 4), 0, 2) || !same(impl.AllUsers(g, 1), 2, 3) || !same(impl.AllUsers(g, 0), 2) || len(impl.AllUsers(g, 5)) != 0 {
		t.Error("AllUsers")
	}
}

func TestStuckSamples(t *testing.T) {
	// Task 3 is in no loop, but needs one; tasks 0 and 4 can be done.
	g := []impl.Task{needing(1), needing(1, 2), needing(1, 0, 1), needing(1, 2, 4), needing(1, 0)}
	if !same(impl.StuckTasks(g), 1, 2, 3) {
		t.Errorf("StuckTasks = %v", impl.StuckTasks(g))
	}
	// What a loop needs is not stuck.
	ring := []impl.Task{needing(1, 1), needing(1, 2), needing(1, 0, 3), needing(1)}
	if !same(impl.StuckTasks(ring), 0, 1, 2) {
		t.Errorf("StuckTasks = %v", impl.StuckTasks(ring))
	}
}

// TestValidIsWithoutLoops compares ValidGraph and StuckTasks with what the needs
// of needs tell, for all small graphs.
func TestValidIsWithoutLoops(t *testing.T) {
	for _, g := range smallGraphs() {
		if impl.ValidGraph(g) == anyNeedsItself(g) {
			t.Errorf("ValidGraph(%v) = %v", g, impl.ValidGraph(g))
		}
		if stuck := impl.StuckTasks(g); !same(stuck, stuckByReach(g)...) {
			t.Errorf("StuckTasks(%v) = %v", g, stuck)
		}
	}
}

// stuckByReach returns the tasks that are, or need, tasks that need themselves.
func stuckByReach(g []impl.Task) []int {
	r := reaches(g)
	list := []int{}
	for at := range g {
		stuck := r[at][at]
		for need := range g {
			stuck = stuck || r[at][need] && r[need][need]
		}
		if stuck {
			list = append(list, at)
		}
	}
	return list
}

func TestP1TasksWithoutNeedsAreValid(t *testing.T) {
	for _, g := range validGraphs() {
		if !impl.ValidGraph(g) || !impl.ValidGraph(withoutNeeds(g)) {
			t.Errorf("ValidGraph(%v) = false", g)
		}
		for at := range g {
			looped := withNeeds(g, at, []int{at})
			if impl.ValidGraph(looped) {
				t.Errorf("ValidGraph(%v) = true", looped)
			}
		}
	}
}

// TestP1NeedsByWayOfOthers lets a task need one of its users.
func TestP1NeedsByWayOfOthers(t *testing.T) {
	for _, g := range validGraphs() {
		r := reaches(g)
		for at := range g {
			for user := range g {
				looped := withNeeds(g, at, []int{user})
				if r[user][at] && impl.ValidGraph(looped) {
					t.Errorf("ValidGraph(%v) = true", looped)
				}
			}
		}
	}
}

func TestP2TasksComeBehindTheirNeeds(t *testing.T) {
	for _, g := range validGraphs() {
		order := impl.TopOrder(g)
		if len(order) != len(g) {
			t.Errorf("TopOrder(%v) = %v", g, order)
		}
		for at, task := range g {
			if !has(order, at) {
				t.Errorf("TopOrder(%v) = %v", g, order)
			}
			for _, need := range task.Needs {
				if placeOf(order, need) >= placeOf(order, at) {
					t.Errorf("TopOrder(%v) = %v", g, order)
				}
			}
		}
	}
}

func TestP3TheLeastPossibleTaskComesNext(t *testing.T) {
	for _, g := range validGraphs() {
		order := impl.TopOrder(g)
		for i := range order {
			if i > 0 && order[i] < order[i-1] && !has(g[order[i]].Needs, order[i-1]) {
				t.Errorf("TopOrder(%v) = %v", g, order)
			}
			if order[i] != leastPossible(g, order[:i]) {
				t.Errorf("TopOrder(%v) = %v", g, order)
			}
		}
	}
}

// leastPossible returns the least task that is not in a list, but all of whose
// needs are; -1 if there is none.
func leastPossible(g []impl.Task, done []int) int {
	for at, task := range g {
		possible := !has(done, at)
		for _, need := range task.Needs {
			possible = possible && has(done, need)
		}
		if possible {
			return at
		}
	}
	return -1
}

func TestP4ValidGraphsHaveNoStuckTasks(t *testing.T) {
	for _, g := range validGraphs() {
		if stuck := impl.StuckTasks(g); len(stuck) != 0 {
			t.Errorf("StuckTasks(%v) = %v", g, stuck)
		}
	}
}

func TestP5StuckTasksNeedStuckTasks(t *testing.T) {
	for _, g := range loopedGraphs() {
		stuck := impl.StuckTasks(g)
		for at, task := range g {
			needsStuck := false
			for _, need := range task.Needs {
				needsStuck = needsStuck || has(stuck, need)
			}
			if needsStuck != has(stuck, at) {
				t.Errorf("StuckTasks(%v) = %v", g, stuck)
			}
		}
		if !same(stuck, stuckByReach(g)...) {
			t.Errorf("StuckTasks(%v) = %v", g, stuck)
		}
	}
}

func TestP6NeedsOfNeedsAreNeeds(t *testing.T) {
	for _, g := range validGraphs() {
		r := reaches(g)
		for at, task := range g {
			all := impl.AllNeeds(g, at)
			for _, need := range task.Needs {
				if !has(all, need) || !hasAll(all, impl.AllNeeds(g, need)) {
					t.Errorf("AllNeeds(%v, %d) = %v", g, at, all)
				}
			}
			if has(all, at) || !same(all, chosen(r[at])...) {
				t.Errorf("AllNeeds(%v, %d) = %v", g, at, all)
			}
		}
	}
}

// hasAll reports whether a list has all numbers of another one.
func hasAll(list []int, others []int) bool {
	for _, n := range others {
		if !has(list, n) {
			return false
		}
	}
	return true
}

// chosen returns the places that are marked.
func chosen(marks []bool) []int {
	list := []int{}
	for i := range marks {
		if marks[i] {
			list = append(list, i)
		}
	}
	return list
}

func TestP7UsersNeed(t *testing.T) {
	for _, g := range validGraphs() {
		for at := range g {
			users := []int{}
			for user := range g {
				if has(impl.AllNeeds(g, user), at) {
					users = append(users, user)
				}
			}
			if all := impl.AllUsers(g, at); !same(all, users...) {
				t.Errorf("AllUsers(%v, %d) = %v", g, at, all)
			}
		}
	}
}

func TestP8UsersComeBehind(t *testing.T) {
	for _, g := range validGraphs() {
		order := impl.TopOrder(g)
		for at := range g {
			place := placeOf(order, at)
			for _, user := range impl.AllUsers(g, at) {
				if placeOf(order, user) <= place {
					t.Errorf("AllUsers(%v, %d) come in %v", g, at, order)
				}
			}
			for _, need := range impl.AllNeeds(g, at) {
				if placeOf(order, need) >= place {
					t.Errorf("AllNeeds(%v, %d) come in %v", g, at, order)
				}
			}
		}
	}
}

func TestP117GraphsWithoutTheirLastTask(t *testing.T) {
	for _, g := range validGraphs() {
		last := len(g) - 1
		if last < 0 || len(impl.AllUsers(g, last)) > 0 {
			continue
		}
		if !impl.ValidGraph(g[:last]) {
			t.Errorf("ValidGraph(%v) = false", g[:last])
		}
	}
	// Somebody needs the last task here.
	if g := sample(); impl.ValidGraph(g[:4]) || !impl.ValidGraph(g[:5]) {
		t.Error("a graph without a task that is needed")
	}
}

func TestP118FreeTasksKeepTheirOrder(t *testing.T) {
	for _, g := range validGraphs() {
		if order := impl.TopOrder(withoutNeeds(g)); !same(order, allNumbers(g)...) {
			t.Errorf("TopOrder of %d free tasks = %v", len(g), order)
		}
	}
}

func TestP119WhoNeedsItselfIsStuck(t *testing.T) {
	for _, g := range validGraphs() {
		for at := range g {
			expected := []int{}
			for i := range g {
				if i == at || has(impl.AllUsers(g, at), i) {
					expected = append(expected, i)
				}
			}
			if stuck := impl.StuckTasks(withNeeds(g, at, []int{at})); !same(stuck, expected...) {
				t.Errorf("StuckTasks(%v), with %d, = %v", g, at, stuck)
			}
		}
	}
}

func TestP120NeedsHaveFewerNeeds(t *testing.T) {
	for _, g := range validGraphs() {
		for at := range g {
			all := impl.AllNeeds(g, at)
			for _, need := range all {
				fewer := impl.AllNeeds(g, need)
				if !hasAll(all, fewer) || has(fewer, need) || len(fewer) >= len(all) {
					t.Errorf("AllNeeds(%v, %d) = %v", g, need, fewer)
				}
			}
		}
	}
}

func TestP121NeedsAndUsersAreAsMany(t *testing.T) {
	for _, g := range validGraphs() {
		needs := 0
		users := 0
		pairs := 0
		r := reaches(g)
		for at := range g {
			needs += len(impl.AllNeeds(g, at))
			users += len(impl.AllUsers(g, at))
			pairs += len(chosen(r[at]))
		}
		if needs != pairs || users != pairs {
			t.Errorf("AllNeeds, AllUsers of %v: %d, %d", g, needs, users)
		}
	}
}

func TestP180OrdersBeginWithTasksWithoutNeeds(t *testing.T) {
	for _, g := range validGraphs() {
		first := -1
		for at := len(g) - 1; at >= 0; at-- {
			if len(g[at].Needs) == 0 {
				first = at
			}
		}
		order := impl.TopOrder(g)
		if len(g) > 0 && (len(order) == 0 || order[0] != first) {
			t.Errorf("TopOrder(%v) = %v", g, order)
		}
	}
}
