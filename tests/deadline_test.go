package tests

import (
	"testing"

	"loop.example/buildscheduler/impl"
)

// late calls LateTasks.
func (table timetable) late(deadline int) []int {
	return impl.LateTasks(table.g, table.room, table.workers, table.start, deadline)
}

// meets calls MeetsDeadline.
func (table timetable) meets(deadline int) bool {
	return impl.MeetsDeadline(table.g, table.room, table.workers, table.start, deadline)
}

// workersFor calls WorkersFor.
func (s shop) workersFor(deadline int) int {
	return impl.WorkersFor(s.g, s.room, deadline)
}

// latestByTails returns the latest beginnings, by chains of tasks.
func latestByTails(g []impl.Task, deadline int) []int {
	latest := []int{}
	for at := range g {
		latest = append(latest, deadline-tailByChains(g, at))
	}
	return latest
}

// lateByPushing returns the tasks that begin too late: they are over behind the
// deadline, or another task is even if it waits for nothing but what comes between.
func (table timetable) lateByPushing(deadline int) []int {
	list := []int{}
	r := reaches(table.g)
	for at, task := range table.g {
		late := table.start[at]+task.Time > deadline
		for user := range table.g {
			late = late || r[user][at] && table.overAfter(user, at) > deadline
		}
		if late {
			list = append(list, at)
		}
	}
	return list
}

// overAfter returns when a task that needs another one, or is it, is over if that
// one begins at its time, and nothing is waited for but what comes between.
func (table timetable) overAfter(user int, at int) int {
	if user == at {
		return table.start[at] + table.g[at].Time
	}
	r := reaches(table.g)
	over := []int{}
	for _, need := range table.g[user].Needs {
		if need == at || r[need][at] {
			over = append(over, table.overAfter(need, at))
		}
	}
	return greatest(over) + table.g[user].Time
}

// dueTables returns timetables, of which some go on behind MaxClock.
func dueTables() []timetable {
	list := []timetable{}
	for i, table := range lateTimetables() {
		if i%5 == 0 {
			list = append(list, table)
		}
	}
	return list
}

// planEnds returns when the last task is over, for each number of workers from 1
// on, by looking at each time.
func (s shop) planEnds() []int {
	ends := []int{}
	for workers := 1; workers <= impl.MaxWorkers; workers++ {
		ends = append(ends, endByTimes(s.g, s.withWorkers(workers).planByTimes()))
	}
	return ends
}

// isJumbled reports whether more workers are over later.
func isJumbled(ends []int) bool {
	for i := 1; i < len(ends); i++ {
		if ends[i-1] < ends[i] {
			return true
		}
	}
	return false
}

// fewestWorkers returns the least number of workers that are over at a deadline, -1
// if there is none.
func fewestWorkers(ends []int, deadline int) int {
	for i, end := range ends {
		if end <= deadline {
			return i + 1
		}
	}
	return -1
}

// rush returns tasks of which more workers do more at first, and the longest chain
// waits for them.
func rush() []impl.Task {
	return []impl.Task{{Time: 2, Pool: 1, Units: 3}, {Time: 1, Pool: 2, Units: 2}, {Time: 3, Needs: []int{1}, Pool: 1, Units: 1}, {Time: 2, Pool: 1, Units: 1}}
}

// laterRush returns tasks of which this is so for the last worker alone.
func laterRush() []impl.Task {
	return []impl.Task{{Time: 1, Pool: 2, Units: 1}, {Time: 1, Pool: 2, Units: 3}, {Time: 2, Units: 1}, {Time: 2, Units: 3}, {Time: 3, Needs: []int{0, 1}, Units: 1}}
}

// longer returns tasks that take some times as long.
func longer(g []impl.Task, times int) []impl.Task {
	h := copyOf(g)
	for at := range h {
		h[at].Time *= times
	}
	return h
}

// dueShop is a shop with the ends of its plans.
type dueShop struct {
	shop
	ends []int
}

// dueShops returns shops with different graphs and rooms. For some of them more
// workers are over later.
func dueShops() []dueShop {
	shops := []shop{}
	for times := 1; times <= 6; times++ {
		shops = append(shops, shop{longer(rush(), times), narrowRoom(), 1}, shop{longer(laterRush(), times), narrowRoom(), 1})
	}
	d := &dice{state: 109}
	for _, g := range append(poolGraphs(), crowdedGraphs()...) {
		shops = append(shops, shop{g, drawnRoom(d), 1})
	}
	list := []dueShop{}
	for _, s := range shops {
		list = append(list, dueShop{s, s.planEnds()})
	}
	for len(list) < len(shops)+2 {
		s := shop{drawnGraph(d), narrowRoom(), 1}
		if ends := s.planEnds(); isJumbled(ends) {
			list = append(list, dueShop{s, ends})
		}
	}
	return list
}

// deadlines returns those deadlines that are limits, or at which a plan is over, or
// 1 before, or behind it.
func (s dueShop) deadlines() []int {
	times := []int{0, 1, impl.MaxClock - 1, impl.MaxClock, impl.LongestTime(s.g)}
	for _, end := range s.ends {
		times = with(times, end-1, end, end+1)
	}
	return ascendingOf(times)
}

// strangeDeadlines returns times that are no deadlines.
func strangeDeadlines() []int {
	const far = 1 << 62
	return []int{-1, impl.MaxClock + 1, -2, impl.MaxClock + 2, -impl.MaxClock, 2 * impl.MaxClock, far, -far, 2*far - 1, -2 * far}
}

func TestSampleLatestStarts(t *testing.T) {
	for _, x := range []struct {
		g        []impl.Task
		deadline int
		want     []int
	}{
		{nil, 0, nil}, {nil, 200, nil}, {[]impl.Task{}, 5, nil},
		// One task, before 0, at 0, and behind it.
		{[]impl.Task{needing(20)}, 0, []int{-20}}, {[]impl.Task{needing(20)}, 19, []int{-1}},
		{[]impl.Task{needing(20)}, 20, []int{0}}, {[]impl.Task{needing(20)}, 21, []int{1}},
		{[]impl.Task{needing(20)}, 200, []int{180}}, {[]impl.Task{needing(1)}, 200, []int{199}},
		// The tails are 8, 7, 5, 1, 12, 6.
		{sample(), 0, []int{-8, -7, -5, -1, -12, -6}}, {sample(), 6, []int{-2, -1, 1, 5, -6, 0}},
		{sample(), 11, []int{3, 4, 6, 10, -1, 5}}, {sample(), 12, []int{4, 5, 7, 11, 0, 6}},
		{sample(), 13, []int{5, 6, 8, 12, 1, 7}}, {sample(), 200, []int{192, 193, 195, 199, 188, 194}},
		{chainOf(8, 20), 0, []int{-160, -140, -120, -100, -80, -60, -40, -20}},
		{chainOf(8, 20), 160, []int{0, 20, 40, 60, 80, 100, 120, 140}},
		{chainOf(8, 20), 200, []int{40, 60, 80, 100, 120, 140, 160, 180}},
		{withoutNeeds(chainOf(3, 7)), 10, []int{3, 3, 3}},
	} {
		if got := impl.LatestStarts(x.g, x.deadline); !same(got, x.want...) {
			t.Errorf("LatestStarts(%v, %d) = %v", x.g, x.deadline, got)
		}
	}
}

func TestSampleDeadlines(t *testing.T) {
	// The tails are 12, 9, 7 and 5.
	g := []impl.Task{needing(3), needing(4, 0), needing(2), needing(5, 1, 2)}
	one := []impl.Task{needing(3)}
	for _, x := range []struct {
		g        []impl.Task
		start    []int
		deadline int
		late     []int
		meets    bool
	}{
		{nil, nil, 0, nil, true}, {nil, nil, 200, nil, true},
		{one, []int{0}, 0, []int{0}, false}, {one, []int{0}, 2, []int{0}, false}, {one, []int{0}, 3, nil, true}, {one, []int{0}, 200, nil, true},
		{one, []int{1}, 3, []int{0}, false}, {one, []int{1}, 4, nil, true},
		// The schedule ends at 12. Task 2 begins exactly at its latest time for 10.
		{g, []int{0, 3, 3, 7}, 200, nil, true}, {g, []int{0, 3, 3, 7}, 13, nil, true}, {g, []int{0, 3, 3, 7}, 12, nil, true},
		{g, []int{0, 3, 3, 7}, 11, []int{0, 1, 3}, false}, {g, []int{0, 3, 3, 7}, 10, []int{0, 1, 3}, false},
		{g, []int{0, 3, 3, 7}, 9, []int{0, 1, 2, 3}, false}, {g, []int{0, 3, 3, 7}, 0, []int{0, 1, 2, 3}, false},
		// All tasks begin at their latest times for 13, and then the last one 1 later,
		// or two of them, or three.
		{g, []int{1, 4, 6, 8}, 13, nil, true}, {g, []int{1, 4, 6, 9}, 13, []int{3}, false}, {g, []int{1, 4, 7, 9}, 13, []int{2, 3}, false},
		{g, []int{1, 5, 6, 9}, 13, []int{1, 3}, false}, {g, []int{2, 5, 6, 9}, 13, []int{0, 1, 3}, false}, {g, []int{2, 5, 6, 9}, 14, nil, true},
		// The last task alone is late.
		{g, []int{0, 3, 3, 8}, 12, []int{3}, false}, {g, []int{0, 3, 3, 20}, 24, []int{3}, false}, {g, []int{0, 3, 3, 20}, 25, nil, true},
		// The task that is over last needs nothing, and nothing needs it.
		{[]impl.Task{needing(2), needing(2)}, []int{0, 5}, 6, []int{1}, false}, {[]impl.Task{needing(2), needing(2)}, []int{5, 0}, 6, []int{0}, false},
		{[]impl.Task{needing(2), needing(2)}, []int{5, 0}, 7, nil, true}, {[]impl.Task{needing(2), needing(2)}, []int{5, 0}, 1, []int{0, 1}, false},
		// Beginnings up to MaxClock.
		{one, []int{197}, 200, nil, true}, {one, []int{198}, 200, []int{0}, false}, {one, []int{200}, 200, []int{0}, false}, {one, []int{197}, 199, []int{0}, false},
	} {
		for _, workers := range []int{2, 3, 4} {
			table := timetable{shop{x.g, narrowRoom(), workers}, x.start}
			if got := table.late(x.deadline); !same(got, x.late...) {
				t.Errorf("LateTasks(%v, %d) = %v", table, x.deadline, got)
			}
			if got := table.meets(x.deadline); got != x.meets {
				t.Errorf("MeetsDeadline(%v, %d) = %v", table, x.deadline, got)
			}
		}
	}
}

// expectWorkers checks the least numbers of workers for deadlines.
func expectWorkers(t *testing.T, g []impl.Task, room []int, want [][2]int) {
	for _, x := range want {
		if got := impl.WorkersFor(g, room, x[0]); got != x[1] {
			t.Errorf("WorkersFor(%v, %v, %d) = %d, not %d", g, room, x[0], got, x[1])
		}
	}
}

func TestSampleWorkersFor(t *testing.T) {
	expectWorkers(t, nil, narrowRoom(), [][2]int{{0, 1}, {1, 1}, {200, 1}})
	expectWorkers(t, []impl.Task{needing(20)}, narrowRoom(), [][2]int{{0, -1}, {19, -1}, {20, 1}, {200, 1}})
	// The plans are over at 14 for one worker, and at 12 for more.
	g := []impl.Task{needing(3), needing(4, 0), needing(2), needing(5, 1, 2)}
	expectWorkers(t, g, narrowRoom(), [][2]int{{0, -1}, {11, -1}, {12, 2}, {13, 2}, {14, 1}, {200, 1}})
	// More workers do nothing for a chain.
	expectWorkers(t, chainOf(8, 20), wideRoom(), [][2]int{{159, -1}, {160, 1}, {161, 1}, {200, 1}})
	// The plans are over at 160, 80, 60 and 40: MaxWorkers alone meet 40.
	free := withoutNeeds(chainOf(8, 20))
	expectWorkers(t, free, wideRoom(), [][2]int{{0, -1}, {39, -1}, {40, 4}, {59, 4}, {60, 3}, {79, 3}, {80, 2}, {159, 2}, {160, 1}, {200, 1}})
	// At 9, 6, 3 and 3: MaxWorkers are one more than there is work for.
	expectWorkers(t, withoutNeeds(chainOf(3, 3)), wideRoom(), [][2]int{{2, -1}, {3, 3}, {5, 3}, {6, 2}, {8, 2}, {9, 1}})
	// Two tasks at a time fill the pool, and so do tasks that take all of it.
	pairs := crowd(1, 2)
	for at := range pairs {
		pairs[at].Time = 5
	}
	expectWorkers(t, pairs, narrowRoom(), [][2]int{{19, -1}, {20, 2}, {39, 2}, {40, 1}})
	expectWorkers(t, pairs, wideRoom(), [][2]int{{9, -1}, {10, 4}, {14, 4}, {15, 3}, {19, 3}, {20, 2}, {40, 1}})
	for at := range pairs {
		pairs[at].Units = 4
	}
	expectWorkers(t, pairs, narrowRoom(), [][2]int{{20, -1}, {39, -1}, {40, 1}})
}

// TestMoreWorkersCanBeLater has plans that are over at 8, 4, 5 and 5, and at 9, 5, 4
// and 5: the least number of workers is looked for, whatever more of them do.
func TestMoreWorkersCanBeLater(t *testing.T) {
	s := shop{rush(), narrowRoom(), 1}
	if ends := s.planEnds(); !same(ends, 8, 4, 5, 5) {
		t.Errorf("the plans of %v are over at %v", s, ends)
	}
	expectWorkers(t, s.g, s.room, [][2]int{{3, -1}, {4, 2}, {5, 2}, {7, 2}, {8, 1}})
	s.g = laterRush()
	if ends := s.planEnds(); !same(ends, 9, 5, 4, 5) {
		t.Errorf("the plans of %v are over at %v", s, ends)
	}
	expectWorkers(t, s.g, s.room, [][2]int{{3, -1}, {4, 3}, {5, 2}, {8, 2}, {9, 1}})
}

// TestPlansMissLeastTimes has a deadline that LeastTime allows, and that the plan
// for no number of workers meets.
func TestPlansMissLeastTimes(t *testing.T) {
	missed := 0
	for _, s := range dueShops() {
		least := s.withWorkers(impl.MaxWorkers).least()
		if fewestWorkers(s.ends, least) != -1 {
			continue
		}
		missed++
		if got := s.workersFor(least); got != -1 {
			t.Errorf("WorkersFor(%v, %d) = %d", s, least, got)
		}
	}
	if missed < 10 {
		t.Errorf("only %d plans miss the least time", missed)
	}
}

func TestLatestStartsByTails(t *testing.T) {
	for _, g := range validGraphs() {
		for _, deadline := range []int{0, 1, 19, 20, 33, 100, 199, 200} {
			expected := latestByTails(g, deadline)
			if got := impl.LatestStarts(g, deadline); !same(got, expected...) {
				t.Errorf("LatestStarts(%v, %d) = %v, not %v", g, deadline, got, expected)
			}
		}
	}
}

func TestDeadlinesByPushing(t *testing.T) {
	for _, table := range dueTables() {
		end := endByTimes(table.g, table.start)
		for _, deadline := range table.turningTimes() {
			expected := table.lateByPushing(deadline)
			if got := table.late(deadline); !same(got, expected...) {
				t.Errorf("LateTasks(%v, %d) = %v, not %v", table, deadline, got, expected)
			}
			if got := table.meets(deadline); got != (end <= deadline) {
				t.Errorf("MeetsDeadline(%v, %d) = %v", table, deadline, got)
			}
		}
	}
}

func TestWorkersByPlans(t *testing.T) {
	jumbled := 0
	for _, s := range dueShops() {
		if isJumbled(s.ends) {
			jumbled++
		}
		for _, deadline := range s.deadlines() {
			expected := fewestWorkers(s.ends, deadline)
			if got := s.workersFor(deadline); got != expected {
				t.Errorf("WorkersFor(%v, %d) = %d, not %d", s, deadline, got, expected)
			}
		}
	}
	if jumbled < 14 {
		t.Errorf("more workers are over later only %d times", jumbled)
	}
}

func TestStrangeDeadlines(t *testing.T) {
	for _, g := range [][]impl.Task{nil, {needing(1)}, sample(), forked(), workshop()} {
		s := shop{g, wideRoom(), 2}
		table := timetable{s, s.planByTimes()}
		if !table.meets(impl.MaxClock) || len(table.late(0)) != len(g) || s.workersFor(impl.MaxClock) != 1 {
			t.Errorf("the deadlines 0 and MaxClock for %v", table)
		}
		for _, deadline := range strangeDeadlines() {
			if len(impl.LatestStarts(g, deadline)) != 0 || len(table.late(deadline)) != 0 {
				t.Errorf("LatestStarts, LateTasks(%v, %d) = %v, %v", table, deadline, impl.LatestStarts(g, deadline), table.late(deadline))
			}
			if table.meets(deadline) || s.workersFor(deadline) != -1 {
				t.Errorf("MeetsDeadline, WorkersFor(%v, %d) = %v, %d", table, deadline, table.meets(deadline), s.workersFor(deadline))
			}
		}
	}
}

// checkNoDeadline checks the fixed results for beginnings that are not valid.
func checkNoDeadline(t *testing.T, s shop, start []int) {
	table := timetable{s, start}
	for _, deadline := range []int{0, 20, impl.MaxClock} {
		if late := table.late(deadline); len(late) != 0 {
			t.Errorf("LateTasks(%v, %d) = %v", table, deadline, late)
		}
		if table.meets(deadline) {
			t.Errorf("MeetsDeadline(%v, %d) = true", table, deadline)
		}
	}
}

// checkNoWorkers checks the fixed result for graphs, or rooms, that are not valid.
func checkNoWorkers(t *testing.T, s shop) {
	for _, deadline := range []int{-1, 0, 20, impl.MaxClock, impl.MaxClock + 1} {
		if got := s.workersFor(deadline); got != -1 {
			t.Errorf("WorkersFor(%v, %d) = %d", s, deadline, got)
		}
	}
}

func TestDeadlinesRefuseGraphs(t *testing.T) {
	for _, g := range append(wrongGraphs(), loopedGraphs()...) {
		s := shop{g, wideRoom(), impl.MaxWorkers}
		checkNoDeadline(t, s, inTurn(g, allNumbers(g)))
		checkNoDeadline(t, s, make([]int, len(g)))
		checkNoDeadline(t, s, nil)
		checkNoWorkers(t, s)
		for _, deadline := range []int{-1, 0, 20, impl.MaxClock, impl.MaxClock + 1} {
			if got := impl.LatestStarts(g, deadline); len(got) != 0 {
				t.Errorf("LatestStarts(%v, %d) = %v", g, deadline, got)
			}
		}
	}
}

func TestDeadlinesRefuseRoomsAndWorkers(t *testing.T) {
	const far = 1 << 62
	for _, g := range [][]impl.Task{nil, {needing(1)}, sample(), workshop(), crowd(2, 1)} {
		start := inTurn(g, readyOneByOne(g))
		for _, room := range wrongRooms() {
			checkNoDeadline(t, shop{g, room, 1}, start)
			checkNoDeadline(t, shop{g, room, 4}, start)
			checkNoWorkers(t, shop{g, room, 1})
		}
		for _, workers := range []int{0, -1, impl.MaxWorkers + 1, far, -far} {
			checkNoDeadline(t, shop{g, wideRoom(), workers}, start)
		}
	}
}

func TestDeadlinesRefuseBeginnings(t *testing.T) {
	const far = 1 << 62
	for _, g := range [][]impl.Task{{needing(1)}, sample(), forked(), workshop()} {
		s := shop{g, narrowRoom(), 2}
		start := s.planByTimes()
		checkNoDeadline(t, s, nil)
		checkNoDeadline(t, s, with(start, 0))
		checkNoDeadline(t, s, start[1:])
		checkNoDeadline(t, s, make([]int, 5000))
		for at := range start {
			for _, strange := range []int{-1, impl.MaxClock + 1, far, -far, 2*far - 1, -2 * far} {
				wrong := with(start)
				wrong[at] = strange
				checkNoDeadline(t, s, wrong)
			}
		}
	}
	// A worker less, a need that is not over, and a pool that is too small.
	s := shop{sample(), narrowRoom(), 2}
	checkNoDeadline(t, s.withWorkers(1), s.planByTimes())
	checkNoDeadline(t, s, make([]int, len(s.g)))
	checkNoDeadline(t, shop{crowd(1, 4), narrowRoom(), 4}, make([]int, len(crowd(1, 4))))
	checkNoDeadline(t, shop{chainOf(2, 3), narrowRoom(), 2}, []int{0, 2})
}

func TestP103LatestBeginningsLeaveTimeForWhatFollows(t *testing.T) {
	for _, g := range validGraphs() {
		for _, deadline := range []int{0, 7, 20, 160, impl.MaxClock} {
			latest := impl.LatestStarts(g, deadline)
			if len(latest) != len(g) {
				t.Fatalf("LatestStarts(%v, %d) = %v", g, deadline, latest)
			}
			for at, task := range g {
				if latest[at] > deadline-task.Time {
					t.Errorf("LatestStarts(%v, %d) = %v", g, deadline, latest)
				}
				for _, need := range task.Needs {
					if latest[need] > latest[at]-g[need].Time {
						t.Errorf("LatestStarts(%v, %d) = %v", g, deadline, latest)
					}
				}
			}
		}
	}
}

func TestP104AtTheLongestTimeLatestIsEarliestAndSlack(t *testing.T) {
	for _, g := range validGraphs() {
		latest := impl.LatestStarts(g, impl.LongestTime(g))
		heads := impl.HeadTimes(g)
		slack := impl.SlackTimes(g)
		if len(latest) != len(g) {
			t.Fatalf("LatestStarts(%v) = %v", g, latest)
		}
		for at := range g {
			if latest[at] != heads[at]+slack[at] {
				t.Errorf("LatestStarts(%v) = %v", g, latest)
			}
		}
	}
}

func TestP105LateTasksAreTooLate(t *testing.T) {
	late := 0
	for _, table := range dueTables() {
		for _, deadline := range table.turningTimes() {
			if len(table.late(deadline)) == 0 {
				continue
			}
			late++
			if table.meets(deadline) {
				t.Errorf("MeetsDeadline(%v, %d) = true, but LateTasks = %v", table, deadline, table.late(deadline))
			}
		}
	}
	if late == 0 {
		t.Error("no task is late")
	}
}

func TestP106SomebodyIsLate(t *testing.T) {
	behind := 0
	for _, table := range dueTables() {
		end := endByTimes(table.g, table.start)
		if end > impl.MaxClock {
			behind++
		}
		for _, deadline := range table.turningTimes() {
			if table.meets(deadline) {
				continue
			}
			for at, task := range table.g {
				if table.start[at]+task.Time == end && !has(table.late(deadline), at) {
					t.Errorf("LateTasks(%v, %d) = %v", table, deadline, table.late(deadline))
				}
			}
			if len(table.late(deadline)) == 0 {
				t.Errorf("nobody is late in %v at %d", table, deadline)
			}
		}
	}
	if behind == 0 {
		t.Error("no timetable is over behind MaxClock")
	}
}

func TestP107DeadlinesAreMetAtTheEnd(t *testing.T) {
	for _, table := range dueTables() {
		end := table.end(table.start)
		met := false
		for _, deadline := range table.turningTimes() {
			if table.meets(deadline) != (end <= deadline) || met && !table.meets(deadline) {
				t.Errorf("MeetsDeadline(%v, %d) = %v", table, deadline, table.meets(deadline))
			}
			met = table.meets(deadline)
		}
	}
}

func TestP108AsManyWorkersAreEnough(t *testing.T) {
	enough := 0
	for _, s := range dueShops() {
		for _, deadline := range s.deadlines() {
			least := s.workersFor(deadline)
			for workers := 1; workers <= impl.MaxWorkers; workers++ {
				given := s.withWorkers(workers)
				meets := timetable{given, given.plan()}.meets(deadline)
				if meets && (least == -1 || workers < least) || !meets && workers == least {
					t.Errorf("WorkersFor(%v, %d) = %d, but MeetsDeadline for %d is %v", s, deadline, least, workers, meets)
				}
			}
			if least > 1 {
				enough++
			}
		}
	}
	if enough == 0 {
		t.Error("no deadline needs more workers")
	}
}

func TestP109MuchTimeNeedsOneWorker(t *testing.T) {
	for _, s := range dueShops() {
		sum := sumOfTimes(s.g, allNumbers(s.g))
		if s.workersFor(sum) != 1 || s.workersFor(impl.MaxClock) != 1 || sum > 0 && s.workersFor(sum-1) == 1 {
			t.Errorf("WorkersFor(%v, %d) = %d", s, sum, s.workersFor(sum))
		}
		for deadline := impl.LongestTime(s.g) - 1; deadline >= 0; deadline -= 3 {
			if got := s.workersFor(deadline); got != -1 {
				t.Errorf("WorkersFor(%v, %d) = %d", s, deadline, got)
			}
		}
	}
}

func TestP173LaterDeadlinesLeaveMoreTime(t *testing.T) {
	for _, g := range validGraphs() {
		before := impl.LatestStarts(g, 0)
		for deadline := 1; deadline <= impl.MaxClock; deadline++ {
			latest := impl.LatestStarts(g, deadline)
			if len(latest) != len(g) || !same(latest, later(before, 1)...) {
				t.Errorf("LatestStarts(%v, %d) = %v, and 1 before %v", g, deadline, latest, before)
			}
			before = latest
		}
	}
}

func TestP174LateIsLaterThanTheLatestTime(t *testing.T) {
	exact := 0
	for _, table := range dueTables() {
		for _, deadline := range table.turningTimes() {
			late := table.late(deadline)
			if !same(late, ascendingOf(late)...) {
				t.Errorf("LateTasks(%v, %d) = %v", table, deadline, late)
			}
			for at, latest := range impl.LatestStarts(table.g, deadline) {
				if has(late, at) != (table.start[at] > latest) {
					t.Errorf("LateTasks(%v, %d) = %v", table, deadline, late)
				}
				if table.start[at] == latest {
					exact++
				}
			}
		}
	}
	if exact == 0 {
		t.Error("no task begins exactly at its latest time")
	}
}

func TestP175NothingIsDoneAtOnce(t *testing.T) {
	for _, table := range dueTables() {
		if table.meets(0) != (len(table.g) == 0) {
			t.Errorf("MeetsDeadline(%v, 0) = %v", table, table.meets(0))
		}
	}
}

func TestP176LaterDeadlinesNeedNoMoreWorkers(t *testing.T) {
	fewer := 0
	for _, s := range dueShops() {
		before := -1
		for _, deadline := range s.deadlines() {
			workers := s.workersFor(deadline)
			if before != -1 && (workers > before || workers < 1) {
				t.Errorf("WorkersFor(%v, %d) = %d, and before %d", s, deadline, workers, before)
			}
			if workers < before {
				fewer++
			}
			before = workers
		}
	}
	if fewer == 0 {
		t.Error("later deadlines never need fewer workers")
	}
}
