package tests

import (
	"testing"

	"loop.example/buildscheduler/impl"
)

func TestConstants(t *testing.T) {
	got := []int{
		impl.MaxTasks, impl.MaxTime, impl.Pools, impl.MaxUnits, impl.MaxRoom, impl.MaxWorkers, impl.MaxClock, impl.MaxSearch,
		impl.MaxTries, impl.FirstDelay, impl.MostDelay,
		impl.TaskDone, impl.TaskFailed, impl.TaskSkipped, impl.TaskLeft,
		impl.MaxShare, impl.MaxUsed, impl.MaxWaits, impl.MaxUsers,
		impl.KeyStep, impl.KeyCycle, impl.MaxInput, impl.MaxStored, impl.MaxEarlier, impl.MaxLines, impl.SessionRoom,
	}
	if !same(got, 8, 20, 3, 4, 8, 4, 200, 5, 5, 2, 20, 0, 1, 2, 3, 10, 10000, 6, 5, 131, 10007, 1000, 20, 6, 20, 4) {
		t.Errorf("constants = %v", got)
	}
}

// TestLimitsOfTasks has each limit itself; wrongGraphs has one beyond each.
func TestLimitsOfTasks(t *testing.T) {
	for _, x := range []impl.Task{
		{Time: 1, Units: 1},
		{Time: 20, Units: 1},
		{Time: 1, Units: 4},
		{Time: 1, Units: 1, Pool: 2},
		{Time: 20, Units: 4, Pool: 2, Needs: []int{0, 1}},
	} {
		if !impl.ValidGraph([]impl.Task{needing(1), needing(1), x}) {
			t.Errorf("ValidGraph with %v = false", x)
		}
	}
	// The greatest number of a task is a need here, and all others are, too.
	first := []impl.Task{needing(1, 1, 2, 3, 4, 5, 6, 7), needing(1), needing(1), needing(1), needing(1), needing(1), needing(1), needing(1)}
	if !impl.ValidGraph(first) || !same(impl.TopOrder(first), 1, 2, 3, 4, 5, 6, 7, 0) {
		t.Errorf("TopOrder = %v", impl.TopOrder(first))
	}
}

func TestLimitOfGraphs(t *testing.T) {
	full := chainOf(impl.MaxTasks, impl.MaxTime)
	if !impl.ValidGraph(full) || impl.LongestTime(full) != 160 || len(impl.TopOrder(full)) != 8 || len(impl.AllNeeds(full, 7)) != 7 {
		t.Error("a graph with MaxTasks tasks")
	}
	for _, g := range [][]impl.Task{append(copyOf(full), needing(1)), chainOf(impl.MaxTasks+1, 1)} {
		if impl.ValidGraph(g) || len(impl.TopOrder(g)) != 0 || impl.LongestTime(g) != -1 {
			t.Error("a graph with one task more than MaxTasks")
		}
	}
	looped := chainOf(impl.MaxTasks+1, 1)
	looped[0].Needs = []int{0}
	if len(impl.StuckTasks(looped)) != 0 || !same(impl.StuckTasks(looped[:impl.MaxTasks]), 0, 1, 2, 3, 4, 5, 6, 7) {
		t.Error("StuckTasks at MaxTasks")
	}
}

func TestNoTasks(t *testing.T) {
	for _, g := range [][]impl.Task{nil, {}} {
		if !impl.ValidGraph(g) || impl.LongestTime(g) != 0 {
			t.Error("a graph without tasks is valid and takes no time")
		}
		if len(impl.TopOrder(g)) != 0 || len(impl.StuckTasks(g)) != 0 || len(impl.AllNeeds(g, 0)) != 0 || len(impl.AllUsers(g, 0)) != 0 {
			t.Error("no tasks have no numbers")
		}
		if len(impl.HeadTimes(g)) != 0 || len(impl.TailTimes(g)) != 0 || len(impl.CriticalChain(g)) != 0 || len(impl.SlackTimes(g)) != 0 {
			t.Error("no tasks have no times")
		}
	}
}

func TestNoNeedsAreNilOrEmpty(t *testing.T) {
	g := []impl.Task{{Time: 2, Needs: nil, Units: 1}, {Time: 2, Needs: []int{}, Units: 1}}
	if !impl.ValidGraph(g) || !same(impl.TopOrder(g), 0, 1) || !same(impl.TailTimes(g), 2, 2) {
		t.Error("nil and empty needs are the same")
	}
}

// checkRefused checks the fixed results for graphs that are not valid.
func checkRefused(t *testing.T, g []impl.Task) {
	if impl.ValidGraph(g) {
		t.Errorf("ValidGraph(%v) = true", g)
	}
	if len(impl.TopOrder(g)) != 0 {
		t.Errorf("TopOrder(%v) = %v", g, impl.TopOrder(g))
	}
	for at := -1; at < 10; at++ {
		if len(impl.AllNeeds(g, at)) != 0 || len(impl.AllUsers(g, at)) != 0 {
			t.Errorf("AllNeeds, AllUsers(%v, %d) are not empty", g, at)
		}
	}
	if len(impl.HeadTimes(g)) != 0 || len(impl.TailTimes(g)) != 0 || len(impl.SlackTimes(g)) != 0 {
		t.Errorf("HeadTimes, TailTimes, SlackTimes(%v) are not empty", g)
	}
	if impl.LongestTime(g) != -1 || len(impl.CriticalChain(g)) != 0 {
		t.Errorf("LongestTime, CriticalChain(%v) = %d, %v", g, impl.LongestTime(g), impl.CriticalChain(g))
	}
}

func TestWrongTasksAreRefused(t *testing.T) {
	for _, g := range wrongGraphs() {
		checkRefused(t, g)
		if len(impl.StuckTasks(g)) != 0 {
			t.Errorf("StuckTasks(%v) = %v", g, impl.StuckTasks(g))
		}
	}
}

func TestLoopsAreRefused(t *testing.T) {
	for _, g := range loopedGraphs() {
		checkRefused(t, g)
		if len(impl.StuckTasks(g)) == 0 {
			t.Errorf("StuckTasks(%v) is empty", g)
		}
	}
}

func TestStrangeNumbers(t *testing.T) {
	for _, g := range [][]impl.Task{nil, sample(), forked(), chainOf(impl.MaxTasks, 1)} {
		for _, at := range strangeNumbers(len(g)) {
			if len(impl.AllNeeds(g, at)) != 0 || len(impl.AllUsers(g, at)) != 0 {
				t.Errorf("a graph of %d tasks has a task %d", len(g), at)
			}
		}
	}
}
