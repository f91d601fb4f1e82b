package tests

import (
	"testing"

	"loop.example/buildscheduler/impl"
)

// shop has valid arguments of PlanStarts.
type shop struct {
	g       []impl.Task
	room    []int
	workers int
}

// valid calls ValidStarts.
func (s shop) valid(start []int) bool {
	return impl.ValidStarts(s.g, s.room, s.workers, start)
}

// plan calls PlanStarts.
func (s shop) plan() []int {
	return impl.PlanStarts(s.g, s.room, s.workers)
}

// end calls EndTime.
func (s shop) end(start []int) int {
	return impl.EndTime(s.g, s.room, s.workers, start)
}

// running calls RunningAt.
func (s shop) running(start []int, now int) []int {
	return impl.RunningAt(s.g, s.room, s.workers, start, now)
}

// least calls LeastTime.
func (s shop) least() int {
	return impl.LeastTime(s.g, s.room, s.workers)
}

// withWorkers returns the shop with another number of workers.
func (s shop) withWorkers(workers int) shop {
	s.workers = workers
	return s
}

// shops returns many shops, with each number of workers.
func shops() []shop {
	list := []shop{}
	d := &dice{state: 17}
	for _, g := range append(poolGraphs(), crowdedGraphs()...) {
		room := drawnRoom(d)
		for workers := 1; workers <= impl.MaxWorkers; workers++ {
			list = append(list, shop{g, room, workers})
		}
	}
	return list
}

// crowdedGraphs returns the valid graphs of up to 3 tasks, which are all of one
// pool here, so that not all of them run together.
func crowdedGraphs() [][]impl.Task {
	list := [][]impl.Task{}
	for _, g := range smallGraphs() {
		if anyNeedsItself(g) {
			continue
		}
		for at := range g {
			g[at].Pool = 0
			g[at].Units = at%2 + 3
		}
		list = append(list, g)
	}
	return list
}

// endByTimes returns when the last task is over.
func endByTimes(g []impl.Task, start []int) int {
	end := 0
	for at := range g {
		if end < start[at]+g[at].Time {
			end = start[at] + g[at].Time
		}
	}
	return end
}

// runningByTimes returns the tasks of a list that run at a time.
func runningByTimes(g []impl.Task, start []int, list []int, now int) []int {
	running := []int{}
	for _, at := range list {
		if start[at] <= now && start[at]+g[at].Time > now {
			running = append(running, at)
		}
	}
	return running
}

// fits reports whether there are workers and units for some tasks.
func (s shop) fits(list []int) bool {
	return len(list) <= s.workers && fitTogether(s.g, s.room, list)
}

// validByTimes reports whether beginnings are valid, by looking at each time.
func (s shop) validByTimes(start []int) bool {
	if len(start) != len(s.g) {
		return false
	}
	for at, task := range s.g {
		if start[at] < 0 || start[at] > 200 {
			return false
		}
		for _, need := range task.Needs {
			if start[at] < start[need]+s.g[need].Time {
				return false
			}
		}
	}
	for now := 0; now < endByTimes(s.g, start); now++ {
		if !s.fits(runningByTimes(s.g, start, allNumbers(s.g), now)) {
			return false
		}
	}
	return true
}

// planByTimes returns the plan, by looking at each time.
func (s shop) planByTimes() []int {
	start := make([]int, len(s.g))
	begun := []int{}
	order := byTails(s.g, allNumbers(s.g))
	for now := 0; len(begun) < len(s.g); now++ {
		running := runningByTimes(s.g, start, begun, now)
		ready := readyByNeeds(s.g, without(begun, running))
		for _, at := range order {
			if has(ready, at) && !has(running, at) && s.fits(with(running, at)) {
				running = with(running, at)
				begun = with(begun, at)
				start[at] = now
			}
		}
	}
	return start
}

// canRun reports whether a task can run from a time on up to its end, besides
// those of a list that have beginnings.
func (s shop) canRun(start []int, list []int, at int, time int) bool {
	for _, need := range s.g[at].Needs {
		if start[need]+s.g[need].Time > time {
			return false
		}
	}
	for now := time; now < time+s.g[at].Time; now++ {
		if !s.fits(with(runningByTimes(s.g, start, list, now), at)) {
			return false
		}
	}
	return true
}

// startsByTimes returns the beginnings of tasks by an order: each one begins at
// the least time that is possible, from one that is told for it on.
func (s shop) startsByTimes(order []int, from []int) []int {
	start := make([]int, len(s.g))
	for place, at := range order {
		time := from[place]
		for !s.canRun(start, order[:place], at, time) {
			time++
		}
		start[at] = time
	}
	return start
}

// inTurn returns the beginnings of tasks that run one behind the other.
func inTurn(g []impl.Task, order []int) []int {
	start := make([]int, len(g))
	time := 0
	for _, at := range order {
		start[at] = time
		time += g[at].Time
	}
	return start
}

// drawnOrder returns an order in which all tasks come behind their needs.
func drawnOrder(d *dice, g []impl.Task) []int {
	order := []int{}
	for len(order) < len(g) {
		ready := readyByNeeds(g, order)
		order = append(order, ready[d.below(len(ready))])
	}
	return order
}

// later returns beginnings that are all later by a time.
func later(start []int, time int) []int {
	list := []int{}
	for _, n := range start {
		list = append(list, n+time)
	}
	return list
}

// timetable is a shop with valid beginnings of its tasks.
type timetable struct {
	shop
	start []int
}

// timetables returns many timetables: what counts as valid is decided here, and
// not by the program.
func timetables() []timetable {
	list := []timetable{}
	d := &dice{state: 19}
	for _, s := range shops() {
		order := drawnOrder(d, s.g)
		from := make([]int, len(s.g))
		list = append(list, timetable{s, s.planByTimes()}, timetable{s, inTurn(s.g, order)}, timetable{s, s.startsByTimes(order, from)})
		for place := range from {
			from[place] = d.below(impl.MaxTime)
		}
		list = append(list, timetable{s, s.startsByTimes(drawnOrder(d, s.g), from)})
	}
	return list
}

// wideRoom returns rooms with the most units.
func wideRoom() []int {
	return []int{impl.MaxRoom, impl.MaxRoom, impl.MaxRoom}
}

// narrowRoom returns rooms with the fewest units.
func narrowRoom() []int {
	return []int{impl.MaxUnits, impl.MaxUnits, impl.MaxUnits}
}

func TestSampleSchedules(t *testing.T) {
	// The tails are 8, 7, 5, 1, 12, 6, and all tasks are of pool 0.
	s := shop{sample(), narrowRoom(), 4}
	if start := s.plan(); !same(start, 4, 0, 7, 2, 0, 0) || s.end(start) != 12 {
		t.Errorf("PlanStarts = %v", start)
	}
	s.workers = 2
	if start := s.plan(); !same(start, 4, 0, 7, 8, 0, 2) || s.end(start) != 12 || s.least() != 12 {
		t.Errorf("PlanStarts = %v", start)
	}
	s.workers = 1
	if start := s.plan(); !same(start, 4, 7, 15, 20, 0, 9) {
		t.Errorf("PlanStarts = %v", start)
	}
	if s.least() != 21 || s.end(inTurn(s.g, []int{5, 1, 3, 4, 0, 2})) != 21 {
		t.Errorf("LeastTime = %d", s.least())
	}
}

// TestTasksBeginWhenOthersEnd has tasks that take a pool, a worker, or a need from
// those that end at this time, or 1 before it.
func TestTasksBeginWhenOthersEnd(t *testing.T) {
	pool := shop{[]impl.Task{taking(1, 3), taking(1, 2)}, narrowRoom(), 2}
	worker := shop{[]impl.Task{taking(0, 1), taking(1, 1)}, wideRoom(), 1}
	need := shop{[]impl.Task{taking(0, 1), {Time: 3, Needs: []int{0}, Units: 1}}, wideRoom(), 2}
	for _, s := range []shop{pool, worker, need} {
		if !s.valid([]int{0, 3}) || s.valid([]int{0, 2}) || s.valid([]int{1, 3}) || !s.valid([]int{1, 4}) || s.valid([]int{0, 0}) {
			t.Errorf("ValidStarts of %v", s)
		}
		if !same(s.plan(), 0, 3) || !same(impl.OrderStarts(s.g, s.room, s.workers, []int{0, 1}), 0, 3) {
			t.Errorf("PlanStarts, OrderStarts of %v = %v, %v", s, s.plan(), impl.OrderStarts(s.g, s.room, s.workers, []int{0, 1}))
		}
		start := []int{0, 3}
		if !same(s.running(start, 0), 0) || !same(s.running(start, 2), 0) || !same(s.running(start, 3), 1) || !same(s.running(start, 5), 1) || len(s.running(start, 6)) != 0 {
			t.Errorf("RunningAt of %v", s)
		}
	}
	// The other way round, too, but for the need.
	for _, s := range []shop{pool, worker} {
		if !s.valid([]int{3, 0}) || s.valid([]int{2, 0}) || !same(impl.OrderStarts(s.g, s.room, s.workers, []int{1, 0}), 3, 0) {
			t.Errorf("ValidStarts of %v", s)
		}
	}
	if need.valid([]int{3, 0}) {
		t.Error("ValidStarts of a task before its need")
	}
}

// TestAllEndsComeFirst has two tasks that end at the same time, and each one has a
// user: the one with the longer tail takes the pool, whatever ends first.
func TestAllEndsComeFirst(t *testing.T) {
	for _, needs := range [][]int{{0, 1}, {1, 0}} {
		g := []impl.Task{needing(2), needing(2), {Time: 1, Needs: needs[:1], Pool: 1, Units: 4}, {Time: 5, Needs: needs[1:], Pool: 1, Units: 4}}
		if start := impl.PlanStarts(g, narrowRoom(), 4); !same(start, 0, 0, 7, 2) {
			t.Errorf("PlanStarts = %v", start)
		}
		// With the tails turned round the other one comes first.
		g[2].Time = 6
		if start := impl.PlanStarts(g, narrowRoom(), 4); !same(start, 0, 0, 2, 8) {
			t.Errorf("PlanStarts = %v", start)
		}
		// Equal tails are taken by their numbers.
		g[2].Time = 5
		if start := impl.PlanStarts(g, narrowRoom(), 4); !same(start, 0, 0, 2, 7) {
			t.Errorf("PlanStarts = %v", start)
		}
	}
}

// TestSmallTasksGoAhead has a task that does not fit, and a later one that does.
func TestSmallTasksGoAhead(t *testing.T) {
	g := []impl.Task{{Time: 9, Units: 3}, {Time: 8, Units: 2}, {Time: 7, Units: 1}, {Time: 1, Units: 1}}
	// Task 1 waits for units behind task 0, and task 3 behind task 2.
	for _, workers := range []int{2, 3, 4} {
		if start := impl.PlanStarts(g, narrowRoom(), workers); !same(start, 0, 9, 0, 7) {
			t.Errorf("PlanStarts with %d workers = %v", workers, start)
		}
	}
	// With one unit more tasks 0 and 1 run together, and the others wait.
	if start := impl.PlanStarts(g, []int{5, 4, 4}, 4); !same(start, 0, 0, 8, 8) {
		t.Errorf("PlanStarts = %v", start)
	}
}

// TestOneWorker has one task after the other, by their tails.
func TestOneWorker(t *testing.T) {
	g := []impl.Task{needing(2), needing(5), needing(2), needing(4, 0), needing(20)}
	s := shop{g, wideRoom(), 1}
	if start := s.plan(); !same(start, 20, 22, 31, 27, 0) || s.end(start) != 33 || s.least() != 33 {
		t.Errorf("PlanStarts = %v", start)
	}
	if s.valid([]int{0, 0, 7, 9, 13}) || !s.valid([]int{0, 2, 7, 9, 13}) || s.valid([]int{0, 2, 7, 8, 13}) {
		t.Error("ValidStarts with one worker")
	}
	if best := impl.BestOrder(g, wideRoom(), 1); !same(best, 0, 1, 2, 3, 4) || impl.BestTime(g, wideRoom(), 1) != 33 {
		t.Errorf("BestOrder = %v", best)
	}
}

// TestMoreIsTakenBehindTheFirstTime has tasks of which too many run only after a
// while.
func TestMoreIsTakenBehindTheFirstTime(t *testing.T) {
	g := []impl.Task{{Time: 10, Units: 2}, {Time: 4, Units: 2}, {Time: 4, Units: 1}}
	s := shop{g, narrowRoom(), 3}
	for begin := 0; begin <= 20; begin++ {
		// Tasks 0 and 1 run together in 3 to 6, and task 0 goes on up to 9.
		apart := begin+4 <= 3 || begin >= 7
		if s.valid([]int{0, 3, begin}) != apart {
			t.Errorf("ValidStarts of task 2 at %d = %v", begin, !apart)
		}
	}
	// With one unit more in the pool, but a worker less, it is the same.
	s = shop{g, []int{5, 4, 4}, 2}
	for begin := 0; begin <= 20; begin++ {
		apart := begin+4 <= 3 || begin >= 7
		if s.valid([]int{0, 3, begin}) != apart {
			t.Errorf("ValidStarts of task 2 at %d = %v", begin, !apart)
		}
	}
}

func TestValidStartsByTimes(t *testing.T) {
	lists := listsOf(-1, 7, 3)
	for i, g := range crowdedGraphs() {
		s := shop{g, []int{4 + i%5, 4, 4}, i%impl.MaxWorkers + 1}
		for _, start := range lists {
			if s.valid(start) != s.validByTimes(start) {
				t.Errorf("ValidStarts(%v, %v) = %v", s, start, s.valid(start))
			}
		}
	}
}

// TestChangedStartsByTimes moves one task of a timetable.
func TestChangedStartsByTimes(t *testing.T) {
	d := &dice{state: 23}
	valid := 0
	wrong := 0
	for _, table := range timetables() {
		for at := range table.start {
			start := with(table.start)
			start[at] += d.below(7) - 3
			expected := table.validByTimes(start)
			if table.valid(start) != expected {
				t.Errorf("ValidStarts(%v, %v) = %v", table.shop, start, !expected)
			}
			if expected {
				valid++
			} else {
				wrong++
			}
		}
	}
	if valid < 1000 || wrong < 1000 {
		t.Errorf("only %d changed beginnings are valid, and %d are not", valid, wrong)
	}
}

func TestPlanByTimes(t *testing.T) {
	for _, s := range shops() {
		if start := s.plan(); !same(start, s.planByTimes()...) {
			t.Errorf("PlanStarts(%v) = %v, not %v", s, start, s.planByTimes())
		}
	}
}

func TestRunningByTimes(t *testing.T) {
	const far = 1 << 62
	for _, table := range timetables() {
		for now := -2; now <= endByTimes(table.g, table.start)+2; now++ {
			expected := runningByTimes(table.g, table.start, allNumbers(table.g), now)
			if running := table.running(table.start, now); !same(running, expected...) {
				t.Errorf("RunningAt(%v, %d) = %v, not %v", table, now, running, expected)
			}
		}
		for _, now := range []int{far, -far, 2*far - 1, -2 * far} {
			if running := table.running(table.start, now); len(running) != 0 {
				t.Errorf("RunningAt(%v, %d) = %v", table, now, running)
			}
		}
	}
}

// leastByParts returns the greatest one of all that LeastTime looks at.
func (s shop) leastByParts() int {
	least := 0
	for at := range s.g {
		least = greatest([]int{least, tailByChains(s.g, at)})
	}
	for least*s.workers < sumOfTimes(s.g, allNumbers(s.g)) {
		least++
	}
	for pool := range s.room {
		for least*s.room[pool] < workOf(s.g, pool) {
			least++
		}
	}
	return least
}

// TestLeastTimeByParts has shops in which each part is the greatest one alone.
func TestLeastTimeByParts(t *testing.T) {
	for _, s := range shops() {
		if least := s.least(); least != s.leastByParts() {
			t.Errorf("LeastTime(%v) = %d, not %d", s, least, s.leastByParts())
		}
	}
	for pool := 0; pool < impl.Pools; pool++ {
		g := crowd(pool, 4)
		if least := impl.LeastTime(g, narrowRoom(), 4); least != 24 {
			t.Errorf("LeastTime of a crowd = %d", least)
		}
		if least := impl.LeastTime(crowd(pool, 1), wideRoom(), 4); least != 6 {
			t.Errorf("LeastTime of a crowd for 4 workers = %d", least)
		}
	}
	// 24 divided by 3, 25 divided by 3 and by 4, and the rest of a chain.
	g := withTime(crowd(0, 1), 7, 4)
	if impl.LeastTime(crowd(0, 1), wideRoom(), 3) != 8 || impl.LeastTime(g, wideRoom(), 3) != 9 || impl.LeastTime(g, wideRoom(), 4) != 7 || impl.LeastTime(withTime(g, 7, 20), wideRoom(), 4) != 20 {
		t.Error("LeastTime of a crowd")
	}
}

// TestLimitsOfClocks has beginnings at the limits, and one beyond each.
func TestLimitsOfClocks(t *testing.T) {
	s := shop{[]impl.Task{needing(20), needing(3)}, narrowRoom(), 2}
	for _, start := range [][]int{{0, 0}, {0, 200}, {200, 0}, {200, 200}, {199, 200}} {
		if !s.valid(start) || s.end(start) != endByTimes(s.g, start) {
			t.Errorf("ValidStarts, EndTime of %v = %v, %d", start, s.valid(start), s.end(start))
		}
	}
	for _, start := range [][]int{{-1, 0}, {0, -1}, {-1, -1}, {201, 0}, {0, 201}, {201, 201}} {
		checkNoStarts(t, s, start)
	}
	if s.end([]int{200, 200}) != 220 || !same(s.running([]int{200, 200}, 219), 0) || !same(s.running([]int{200, 200}, 200), 0, 1) || len(s.running([]int{200, 200}, 220)) != 0 {
		t.Error("tasks that begin at MaxClock")
	}
	// A chain whose last task begins at MaxClock, or behind it.
	chain := shop{chainOf(2, 20), narrowRoom(), 1}
	if !chain.valid([]int{180, 200}) || chain.end([]int{180, 200}) != 220 {
		t.Error("ValidStarts of a chain up to MaxClock")
	}
	checkNoStarts(t, chain, []int{181, 201})
	checkNoStarts(t, chain, []int{181, 200})
}

// TestLongestPlan has as many tasks as there can be, which take as long as they
// can, one after the other.
func TestLongestPlan(t *testing.T) {
	g := withoutNeeds(chainOf(impl.MaxTasks, impl.MaxTime))
	for workers := 1; workers <= impl.MaxWorkers; workers++ {
		s := shop{chainOf(impl.MaxTasks, impl.MaxTime), narrowRoom(), workers}
		if start := s.plan(); !same(start, 0, 20, 40, 60, 80, 100, 120, 140) || s.end(start) != 160 || s.least() != 160 {
			t.Errorf("PlanStarts = %v", start)
		}
	}
	for _, x := range []struct {
		workers int
		start   []int
	}{
		{1, []int{0, 20, 40, 60, 80, 100, 120, 140}}, {2, []int{0, 0, 20, 20, 40, 40, 60, 60}},
		{3, []int{0, 0, 0, 20, 20, 20, 40, 40}}, {4, []int{0, 0, 0, 0, 20, 20, 20, 20}},
	} {
		if start := impl.PlanStarts(g, narrowRoom(), x.workers); !same(start, x.start...) {
			t.Errorf("PlanStarts with %d workers = %v", x.workers, start)
		}
	}
}

func TestLimitsOfPlanWorkers(t *testing.T) {
	const far = 1 << 62
	for _, g := range [][]impl.Task{nil, {}, sample(), workshop(), chainOf(impl.MaxTasks, impl.MaxTime)} {
		for _, workers := range []int{0, -1, impl.MaxWorkers + 1, far, -far} {
			checkNoPlan(t, shop{g, wideRoom(), workers}, inTurn(g, readyOneByOne(g)))
		}
		for _, workers := range []int{1, impl.MaxWorkers} {
			s := shop{g, wideRoom(), workers}
			if start := s.plan(); len(start) != len(g) || !s.valid(start) || s.least() < 0 {
				t.Errorf("PlanStarts(%v) = %v", s, start)
			}
		}
	}
}

// checkNoPlan checks the fixed results for graphs, rooms, or workers that are not
// valid, also with beginnings that would be.
func checkNoPlan(t *testing.T, s shop, start []int) {
	if start := s.plan(); len(start) != 0 {
		t.Errorf("PlanStarts(%v) = %v", s, start)
	}
	if least := s.least(); least != -1 {
		t.Errorf("LeastTime(%v) = %d", s, least)
	}
	checkNoStarts(t, s, start)
	checkNoStarts(t, s, make([]int, len(s.g)))
	checkNoStarts(t, s, nil)
}

// readyOneByOne returns an order of all tasks.
func readyOneByOne(g []impl.Task) []int {
	order := []int{}
	for len(order) < len(g) {
		order = append(order, readyByNeeds(g, order)[0])
	}
	return order
}

// checkNoStarts checks the fixed results for beginnings that are not valid.
func checkNoStarts(t *testing.T, s shop, start []int) {
	const far = 1 << 62
	if s.valid(start) {
		t.Errorf("ValidStarts(%v, %v) = true", s, start)
	}
	if end := s.end(start); end != -1 {
		t.Errorf("EndTime(%v, %v) = %d", s, start, end)
	}
	if log := (timetable{s, start}).log(); len(log) != 0 {
		t.Errorf("LogOf(%v, %v) = %v", s, start, log)
	}
	for _, now := range []int{-1, 0, 1, 2, 5, 20, 200, 219, far, -far} {
		if running := s.running(start, now); len(running) != 0 {
			t.Errorf("RunningAt(%v, %v, %d) = %v", s, start, now, running)
		}
	}
	checkNoDeadline(t, s, start)
}

func TestSchedulesRefuseGraphs(t *testing.T) {
	for _, g := range append(wrongGraphs(), loopedGraphs()...) {
		for workers := 1; workers <= impl.MaxWorkers; workers++ {
			checkNoPlan(t, shop{g, wideRoom(), workers}, inTurn(g, allNumbers(g)))
		}
	}
}

func TestSchedulesRefuseRooms(t *testing.T) {
	for _, room := range wrongRooms() {
		for _, g := range [][]impl.Task{nil, {}, sample(), workshop(), crowd(2, 1)} {
			checkNoPlan(t, shop{g, room, 1}, inTurn(g, readyOneByOne(g)))
			checkNoPlan(t, shop{g, room, 4}, inTurn(g, readyOneByOne(g)))
		}
	}
}

// TestSchedulesRefuseBeginnings changes beginnings that are valid.
func TestSchedulesRefuseBeginnings(t *testing.T) {
	const far = 1 << 62
	for _, table := range timetables() {
		start := table.start
		if !table.valid(start) {
			t.Errorf("ValidStarts(%v) = false", table)
		}
		checkNoStarts(t, table.shop, with(start, 0))
		checkNoStarts(t, table.shop, with(start, 200))
		if len(start) == 0 {
			continue
		}
		checkNoStarts(t, table.shop, start[:len(start)-1])
		checkNoStarts(t, table.shop, start[1:])
		checkNoStarts(t, table.shop, nil)
		checkNoStarts(t, table.shop, make([]int, 5000))
		for at := range start {
			for _, strange := range []int{-1, 201, far, -far, 2*far - 1, -2 * far} {
				wrong := with(start)
				wrong[at] = strange
				checkNoStarts(t, table.shop, wrong)
			}
		}
	}
}

func TestSchedulesOfNoTasks(t *testing.T) {
	for _, g := range [][]impl.Task{nil, {}} {
		for _, start := range [][]int{nil, {}} {
			s := shop{g, narrowRoom(), 1}
			if !s.valid(start) || s.end(start) != 0 || len(s.running(start, 0)) != 0 {
				t.Error("no tasks have no beginnings")
			}
			if len(s.plan()) != 0 || s.least() != 0 || impl.LeastTime(g, wideRoom(), 4) != 0 {
				t.Error("no tasks need no time")
			}
			checkNoStarts(t, s, []int{0})
			checkNoStarts(t, s.withWorkers(0), start)
			checkNoStarts(t, s.withWorkers(5), start)
		}
	}
}

func TestP31TasksCanBeginLaterTogether(t *testing.T) {
	for _, table := range timetables() {
		start := later(table.start, 1)
		// A task that begins at MaxClock cannot begin later.
		valid := greatest(start) <= impl.MaxClock
		if table.valid(start) != valid {
			t.Errorf("ValidStarts(%v, %v) = %v", table.shop, start, !valid)
		}
	}
	// Up to MaxClock, but not behind it.
	for _, table := range timetables() {
		for start := table.start; greatest(start) <= impl.MaxClock && len(start) > 0; start = later(start, 40) {
			if !table.valid(start) {
				t.Errorf("ValidStarts(%v, %v) = false", table.shop, start)
			}
		}
	}
}

func TestP32MoreWorkersAndRoomsDoNoHarm(t *testing.T) {
	for _, table := range timetables() {
		if !impl.ValidStarts(table.g, wideRoom(), impl.MaxWorkers, table.start) {
			t.Errorf("ValidStarts(%v) with MaxWorkers and MaxRoom = false", table)
		}
		for pool := range table.room {
			room := with(table.room)
			room[pool] = impl.MaxRoom
			if !impl.ValidStarts(table.g, room, table.workers, table.start) {
				t.Errorf("ValidStarts(%v) with %v = false", table, room)
			}
		}
	}
}

func TestP33PlansAreValid(t *testing.T) {
	for _, s := range shops() {
		start := s.plan()
		if !s.valid(start) || !s.validByTimes(start) {
			t.Errorf("PlanStarts(%v) = %v", s, start)
		}
		if len(s.g) > 0 && !has(start, 0) {
			t.Errorf("PlanStarts(%v) = %v", s, start)
		}
	}
}

func TestP34PlansAreNeverIdle(t *testing.T) {
	for _, s := range shops() {
		start := s.plan()
		for now := 0; now < s.end(start); now++ {
			if len(s.running(start, now)) == 0 {
				t.Errorf("PlanStarts(%v) = %v", s, start)
			}
		}
	}
}

func TestP35OneWorkerDoesOneTaskAfterTheOther(t *testing.T) {
	for _, s := range shops() {
		s.workers = 1
		if end := s.end(s.plan()); end != sumOfTimes(s.g, allNumbers(s.g)) {
			t.Errorf("EndTime of PlanStarts(%v) = %d", s, end)
		}
	}
}

func TestP36EndsAreEnds(t *testing.T) {
	for _, table := range timetables() {
		ends := []int{}
		for at := range table.g {
			ends = append(ends, table.start[at]+table.g[at].Time)
		}
		if end := table.end(table.start); end != greatest(ends) {
			t.Errorf("EndTime(%v) = %d", table, end)
		}
	}
}

func TestP37NobodyIsFasterThanPossible(t *testing.T) {
	equal := 0
	for _, table := range timetables() {
		end := table.end(table.start)
		if end < table.least() {
			t.Errorf("EndTime(%v) = %d, but LeastTime = %d", table, end, table.least())
		}
		if end == table.least() {
			equal++
		}
	}
	if equal == 0 {
		t.Error("nobody is as fast as possible")
	}
}

func TestP38RunningTasksHaveBegunAndAreNotOver(t *testing.T) {
	for _, table := range timetables() {
		for now := -1; now <= table.end(table.start)+1; now++ {
			running := table.running(table.start, now)
			for at, begin := range table.start {
				if has(running, at) != (begin <= now && now < begin+table.g[at].Time) {
					t.Errorf("RunningAt(%v, %d) = %v", table, now, running)
				}
			}
			if !same(running, ascendingOf(running)...) || !hasAll(allNumbers(table.g), running) {
				t.Errorf("RunningAt(%v, %d) = %v", table, now, running)
			}
			if !impl.RunsTogether(table.g, table.room, running) || len(running) > table.workers {
				t.Errorf("RunningAt(%v, %d) = %v", table, now, running)
			}
		}
	}
}

func TestP39AllWorkIsDone(t *testing.T) {
	for _, table := range timetables() {
		sum := 0
		for now := -20; now < impl.MaxClock+2*impl.MaxTime; now++ {
			sum += len(table.running(table.start, now))
		}
		if sum != sumOfTimes(table.g, allNumbers(table.g)) {
			t.Errorf("RunningAt(%v) at all times are %d", table, sum)
		}
	}
}

func TestP40LeastTimesArePartsOfAll(t *testing.T) {
	for _, s := range shops() {
		if s.least() < impl.LongestTime(s.g) {
			t.Errorf("LeastTime(%v) = %d", s, s.least())
		}
		for pool := range s.room {
			if s.least() < impl.PoolTime(s.g, pool, s.room[pool]) {
				t.Errorf("LeastTime(%v) = %d", s, s.least())
			}
		}
		if s.workers == 1 && s.least() < sumOfTimes(s.g, allNumbers(s.g)) {
			t.Errorf("LeastTime(%v) = %d", s, s.least())
		}
	}
}

func TestP41MoreWorkersNeedNoMoreTime(t *testing.T) {
	for _, s := range shops() {
		if s.workers > 1 && s.least() > s.withWorkers(s.workers-1).least() {
			t.Errorf("LeastTime(%v) = %d, and with a worker less %d", s, s.least(), s.withWorkers(s.workers-1).least())
		}
		if s.end(s.plan()) < s.least() {
			t.Errorf("LeastTime(%v) = %d, but PlanStarts needs %d", s, s.least(), s.end(s.plan()))
		}
	}
}

func TestP122WithEnoughOfEverythingTasksBeginAtOnce(t *testing.T) {
	enough := 0
	for _, s := range shops() {
		s.workers = impl.MaxWorkers
		heads := impl.HeadTimes(s.g)
		for at, begin := range s.plan() {
			if begin < heads[at] {
				t.Errorf("PlanStarts(%v) = %v", s, s.plan())
			}
		}
		if len(s.g) > impl.MaxWorkers {
			continue
		}
		enough++
		small := copyOf(s.g)
		for at := range small {
			small[at].Units = at%2 + 1
		}
		if start := impl.PlanStarts(small, wideRoom(), impl.MaxWorkers); !same(start, heads...) {
			t.Errorf("PlanStarts(%v) = %v, not %v", small, start, heads)
		}
	}
	// Tasks with the most units for which the promise holds.
	g := crowd(1, 2)[:4]
	if start := impl.PlanStarts(g, wideRoom(), 4); enough == 0 || !same(start, 0, 0, 0, 0) {
		t.Errorf("PlanStarts = %v", start)
	}
}

func TestP138NobodyBeginsTooEarly(t *testing.T) {
	for _, table := range timetables() {
		heads := impl.HeadTimes(table.g)
		for at, begin := range table.start {
			if begin < heads[at] {
				t.Errorf("valid beginnings %v are before %v", table, heads)
			}
			early := with(table.start)
			early[at] = heads[at] - 1
			if table.valid(early) {
				t.Errorf("ValidStarts(%v, %v) = true", table.shop, early)
			}
		}
	}
}

func TestP139OneAfterTheOtherIsAlwaysValid(t *testing.T) {
	for _, g := range append(validGraphs(), poolGraphs()...) {
		s := shop{g, narrowRoom(), 1}
		if start := inTurn(g, impl.TopOrder(g)); !s.valid(start) {
			t.Errorf("ValidStarts(%v, %v) = false", s, start)
		}
	}
}

func TestP140TheLongestChainBeginsAtOnce(t *testing.T) {
	for _, s := range shops() {
		if len(s.g) == 0 {
			continue
		}
		first := impl.ReadyOrder(s.g, nil)[0]
		if start := s.plan(); start[first] != 0 {
			t.Errorf("PlanStarts(%v) = %v", s, start)
		}
	}
}

func TestP141MoreWorkersAreNeverSlowerThanOne(t *testing.T) {
	for _, s := range shops() {
		end := s.end(s.plan())
		one := s.withWorkers(1)
		if end > one.end(one.plan()) || end < impl.LongestTime(s.g) {
			t.Errorf("EndTime of PlanStarts(%v) = %d, and for one worker %d", s, end, one.end(one.plan()))
		}
	}
}

func TestP142LaterBeginningsEndLater(t *testing.T) {
	for _, table := range timetables() {
		start := later(table.start, 2)
		if len(start) > 0 && greatest(start) <= impl.MaxClock && table.end(start) != table.end(table.start)+2 {
			t.Errorf("EndTime(%v, %v) = %d", table.shop, start, table.end(start))
		}
	}
}

func TestP143AtTheEndNothingRuns(t *testing.T) {
	for _, table := range timetables() {
		end := table.end(table.start)
		if len(table.running(table.start, end)) != 0 || len(table.running(table.start, -1)) != 0 {
			t.Errorf("RunningAt(%v) the end and before 0 = %v, %v", table, table.running(table.start, end), table.running(table.start, -1))
		}
		if end > 0 && len(table.running(table.start, end-1)) == 0 {
			t.Errorf("RunningAt(%v) just before the end is empty", table)
		}
	}
}

func TestP144WithoutNeedsThereAreNoChains(t *testing.T) {
	less := 0
	for _, s := range shops() {
		free := shop{withoutNeeds(s.g), s.room, s.workers}
		if free.least() > s.least() {
			t.Errorf("LeastTime(%v) = %d, and without needs %d", s, s.least(), free.least())
		}
		if free.least() < s.least() {
			less++
		}
	}
	if less == 0 {
		t.Error("LeastTime never knows needs")
	}
}
