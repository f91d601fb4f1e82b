package tests

import (
	"testing"

	"loop.example/buildscheduler/impl"
)

// cancelled calls CancelAt.
func (table timetable) cancelled(now int) []int {
	return impl.CancelAt(table.g, table.room, table.workers, table.start, now)
}

// cancelledByTimes returns the outcomes if everything is cancelled at a time, by
// looking at each time before.
func (table timetable) cancelledByTimes(now int) []int {
	outcomes := []int{}
	for at, task := range table.g {
		ran := 0
		for time := 0; time < now; time++ {
			ran += len(runningByTimes(table.g, table.start, []int{at}, time))
		}
		switch ran {
		case task.Time:
			outcomes = append(outcomes, impl.TaskDone)
		case 0:
			outcomes = append(outcomes, impl.TaskLeft)
		default:
			outcomes = append(outcomes, impl.TaskFailed)
		}
	}
	return outcomes
}

// lateTimetables returns timetables, and the same with the last beginnings at
// MaxClock, so that some tasks are not over then.
func lateTimetables() []timetable {
	list := []timetable{}
	for _, table := range timetables() {
		late := later(table.start, impl.MaxClock-greatest(table.start))
		list = append(list, table, timetable{table.shop, late})
	}
	return list
}

// turningTimes returns the times in 0..MaxClock at which a task begins, or is
// over, with those 1 before and behind, and the limits.
func (table timetable) turningTimes() []int {
	times := []int{0, 1, impl.MaxClock - 1, impl.MaxClock}
	for at, begin := range table.start {
		over := begin + table.g[at].Time
		times = with(times, begin-1, begin, begin+1, over-1, over, over+1)
	}
	valid := []int{}
	for _, now := range ascendingOf(times) {
		if now <= impl.MaxClock {
			valid = append(valid, now)
		}
	}
	return valid
}

func TestSampleCancels(t *testing.T) {
	// Task 0 runs in 0 to 2, and 1 behind it up to 6, beside 2, and then 3.
	g := []impl.Task{needing(3), needing(4, 0), needing(2), needing(5, 1, 2)}
	table := timetable{shop{g, narrowRoom(), 2}, []int{0, 3, 3, 7}}
	for _, x := range []struct {
		now  int
		want []int
	}{
		{0, []int{3, 3, 3, 3}}, {1, []int{1, 3, 3, 3}}, {2, []int{1, 3, 3, 3}},
		{3, []int{0, 3, 3, 3}}, {4, []int{0, 1, 1, 3}},
		{5, []int{0, 1, 0, 3}}, {6, []int{0, 1, 0, 3}},
		{7, []int{0, 0, 0, 3}}, {8, []int{0, 0, 0, 1}}, {11, []int{0, 0, 0, 1}},
		{12, []int{0, 0, 0, 0}}, {13, []int{0, 0, 0, 0}}, {200, []int{0, 0, 0, 0}},
	} {
		if got := table.cancelled(x.now); !same(got, x.want...) {
			t.Errorf("CancelAt(%d) = %v", x.now, got)
		}
	}
}

// TestLimitsOfCancels has tasks that begin at MaxClock, or before it, and go on.
func TestLimitsOfCancels(t *testing.T) {
	const far = 1 << 62
	g := []impl.Task{needing(20), needing(1), needing(1), needing(2)}
	table := timetable{shop{g, narrowRoom(), 4}, []int{200, 200, 199, 199}}
	if got := table.cancelled(200); !same(got, 3, 3, 0, 1) {
		t.Errorf("CancelAt MaxClock = %v", got)
	}
	if got := table.cancelled(199); !same(got, 3, 3, 3, 3) {
		t.Errorf("CancelAt 1 before MaxClock = %v", got)
	}
	for _, now := range []int{-1, 201, 202, 220, -200, far, -far, 2*far - 1, -2 * far} {
		if got := table.cancelled(now); len(got) != 0 {
			t.Errorf("CancelAt(%d) = %v", now, got)
		}
	}
}

func TestCancelsByTimes(t *testing.T) {
	for _, table := range lateTimetables() {
		for _, now := range table.turningTimes() {
			expected := table.cancelledByTimes(now)
			if got := table.cancelled(now); !same(got, expected...) {
				t.Errorf("CancelAt(%v, %d) = %v, not %v", table, now, got, expected)
			}
		}
	}
}

// checkNoCancels checks the fixed result for arguments that are not valid.
func checkNoCancels(t *testing.T, s shop, start []int) {
	table := timetable{s, start}
	for _, now := range []int{-1, 0, 1, 20, 199, 200, 201} {
		if got := table.cancelled(now); len(got) != 0 {
			t.Errorf("CancelAt(%v, %d) = %v", table, now, got)
		}
	}
}

func TestCancelRefusesGraphs(t *testing.T) {
	for _, g := range append(wrongGraphs(), loopedGraphs()...) {
		for workers := 1; workers <= impl.MaxWorkers; workers++ {
			checkNoCancels(t, shop{g, wideRoom(), workers}, inTurn(g, allNumbers(g)))
			checkNoCancels(t, shop{g, wideRoom(), workers}, nil)
		}
	}
}

func TestCancelRefusesRoomsAndWorkers(t *testing.T) {
	const far = 1 << 62
	for _, g := range [][]impl.Task{nil, sample(), workshop(), crowd(2, 1)} {
		start := inTurn(g, readyOneByOne(g))
		for _, room := range wrongRooms() {
			checkNoCancels(t, shop{g, room, 1}, start)
			checkNoCancels(t, shop{g, room, 4}, start)
		}
		for _, workers := range []int{0, -1, impl.MaxWorkers + 1, far, -far} {
			checkNoCancels(t, shop{g, wideRoom(), workers}, start)
		}
	}
}

func TestCancelRefusesBeginnings(t *testing.T) {
	const far = 1 << 62
	s := shop{sample(), narrowRoom(), 2}
	start := s.planByTimes()
	if len((timetable{s, start}).cancelled(0)) != len(s.g) {
		t.Error("CancelAt of a plan")
	}
	checkNoCancels(t, s, nil)
	checkNoCancels(t, s, with(start, 0))
	checkNoCancels(t, s, start[1:])
	checkNoCancels(t, s, make([]int, len(s.g)))
	checkNoCancels(t, s, make([]int, 5000))
	checkNoCancels(t, s.withWorkers(1), start)
	for at := range start {
		for _, strange := range []int{-1, 201, far, -far, 2*far - 1, -2 * far} {
			wrong := with(start)
			wrong[at] = strange
			checkNoCancels(t, s, wrong)
		}
	}
}

// TestCancelRefusesChanges moves one task of a timetable.
func TestCancelRefusesChanges(t *testing.T) {
	d := &dice{state: 43}
	for _, table := range timetables() {
		for at := range table.start {
			start := with(table.start)
			start[at] += d.below(7) - 3
			if !table.validByTimes(start) {
				checkNoCancels(t, table.shop, start)
			}
		}
	}
}

func TestP61CancelledTasksHaveBegun(t *testing.T) {
	for _, table := range lateTimetables() {
		for _, now := range table.turningTimes() {
			outcomes := table.cancelled(now)
			done := numbersWith(outcomes, impl.TaskDone)
			before := table.running(table.start, now-1)
			running := table.running(table.start, now)
			for at, task := range table.g {
				over := table.start[at]+task.Time <= now
				failed := has(running, at) && has(before, at)
				if (outcomes[at] == impl.TaskDone) != over || (outcomes[at] == impl.TaskFailed) != failed {
					t.Errorf("CancelAt(%v, %d) = %v", table, now, outcomes)
				}
				if !over && !failed && outcomes[at] != impl.TaskLeft {
					t.Errorf("CancelAt(%v, %d) = %v", table, now, outcomes)
				}
				if outcomes[at] != impl.TaskLeft && !hasAll(done, task.Needs) {
					t.Errorf("CancelAt(%v, %d) = %v", table, now, outcomes)
				}
			}
		}
	}
}

func TestP62AtTheEndEverythingIsDone(t *testing.T) {
	behind := 0
	for _, table := range lateTimetables() {
		atFirst := numbersWith(table.cancelled(0), impl.TaskLeft)
		if len(atFirst) != len(table.g) {
			t.Errorf("CancelAt(%v, 0) = %v", table, table.cancelled(0))
		}
		end := table.end(table.start)
		if end > impl.MaxClock {
			// Behind MaxClock nothing can be cancelled.
			checkNoCancelAt(t, table, end)
			behind++
			continue
		}
		if done := numbersWith(table.cancelled(end), impl.TaskDone); len(done) != len(table.g) {
			t.Errorf("CancelAt(%v, %d) = %v", table, end, table.cancelled(end))
		}
		if end > 0 && len(numbersWith(table.cancelled(end-1), impl.TaskDone)) == len(table.g) {
			t.Errorf("CancelAt(%v, %d) = %v", table, end-1, table.cancelled(end-1))
		}
	}
	if behind == 0 {
		t.Error("no timetable ends behind MaxClock")
	}
}

// checkNoCancelAt checks the fixed result for a time behind MaxClock.
func checkNoCancelAt(t *testing.T, table timetable, now int) {
	if got := table.cancelled(now); len(got) != 0 {
		t.Errorf("CancelAt(%v, %d) = %v", table, now, got)
	}
}

func TestP157LaterCancellingDoesMore(t *testing.T) {
	for _, table := range lateTimetables() {
		before := []int{}
		for _, now := range table.turningTimes() {
			done := numbersWith(table.cancelled(now), impl.TaskDone)
			if !hasAll(done, before) {
				t.Errorf("CancelAt(%v, %d) has %v done, but before %v", table, now, done, before)
			}
			before = done
		}
	}
}
