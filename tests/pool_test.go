package tests

import (
	"testing"

	"loop.example/buildscheduler/impl"
)

// taking returns a task of a pool with units.
func taking(pool int, units int) impl.Task {
	return impl.Task{Time: 3, Pool: pool, Units: units}
}

// crowd returns tasks of one pool with the same units, as many as there can be.
func crowd(pool int, units int) []impl.Task {
	g := []impl.Task{}
	for len(g) < impl.MaxTasks {
		g = append(g, taking(pool, units))
	}
	return g
}

// workshop returns a graph with tasks of all pools: the tasks 0, 1, 2, 7 are of
// pool 0, with 4, 3, 1, 2 units, 3 and 4 of pool 1, with 4 and 2 units, and 5 and
// 6 of pool 2, with 1 unit each.
func workshop() []impl.Task {
	return []impl.Task{taking(0, 4), taking(0, 3), taking(0, 1), taking(1, 4), taking(1, 2), taking(2, 1), taking(2, 1), taking(0, 2)}
}

// poolGraphs returns valid graphs, also such whose tasks are all of one pool.
func poolGraphs() [][]impl.Task {
	list := [][]impl.Task{nil, sample(), forked(), workshop(), chainOf(impl.MaxTasks, impl.MaxTime)}
	for units := 1; units <= impl.MaxUnits; units++ {
		for pool := 0; pool < impl.Pools; pool++ {
			list = append(list, crowd(pool, units))
		}
	}
	d := &dice{state: 11}
	for i := 0; i < 150; i++ {
		g := drawnGraph(d)
		crowded := copyOf(g)
		pool := d.below(impl.Pools)
		for at := range crowded {
			crowded[at].Pool = pool
		}
		list = append(list, g, crowded)
	}
	return list
}

// rooms returns valid rooms: all in which each pool has the least room, the
// greatest one, or one between.
func rooms() [][]int {
	list := [][]int{}
	for _, a := range []int{4, 6, 8} {
		for _, b := range []int{4, 5, 8} {
			for _, c := range []int{4, 7, 8} {
				list = append(list, []int{a, b, c})
			}
		}
	}
	return list
}

// wrongRooms returns rooms that are not valid.
func wrongRooms() [][]int {
	const far = 1 << 62
	list := [][]int{nil, {}, {4}, {4, 4}, {8, 8}, {4, 4, 4, 4}, {8, 8, 8, 8}, make([]int, 5000)}
	for _, units := range []int{impl.MaxUnits - 1, impl.MaxRoom + 1, 0, -1, -4, far, -far} {
		list = append(list, []int{units, 8, 8}, []int{8, units, 8}, []int{8, 8, units}, []int{units, units, units})
	}
	return list
}

// drawnRoom returns valid rooms.
func drawnRoom(d *dice) []int {
	room := []int{}
	for len(room) < impl.Pools {
		room = append(room, impl.MaxUnits+d.below(impl.MaxRoom-impl.MaxUnits+1))
	}
	return room
}

// unitsIn returns how many units of a pool some tasks take.
func unitsIn(g []impl.Task, list []int, pool int) int {
	units := 0
	for _, at := range list {
		if g[at].Pool == pool {
			units += g[at].Units
		}
	}
	return units
}

// fitTogether reports whether tasks take no more units than there are.
func fitTogether(g []impl.Task, room []int, list []int) bool {
	for pool := range room {
		if unitsIn(g, list, pool) > room[pool] {
			return false
		}
	}
	return true
}

// call has valid arguments of AdmitTasks.
type call struct {
	g       []impl.Task
	room    []int
	running []int
	list    []int
	workers int
}

// admit calls AdmitTasks.
func (c call) admit() []int {
	return impl.AdmitTasks(c.g, c.room, c.running, c.list, c.workers)
}

// admitted returns what AdmitTasks is to return, and how many tasks are refused
// because all workers are busy, and how many because their pools are full.
func (c call) admitted() ([]int, int, int) {
	admitted := []int{}
	busy := 0
	full := 0
	for _, at := range c.list {
		runs := with(c.running, admitted...)
		pool := c.g[at].Pool
		if len(runs) >= c.workers {
			busy++
		} else if unitsIn(c.g, runs, pool)+c.g[at].Units > c.room[pool] {
			full++
		} else {
			admitted = append(admitted, at)
		}
	}
	return admitted, busy, full
}

// calls returns many valid arguments of AdmitTasks.
func calls() []call {
	list := []call{}
	d := &dice{state: 5}
	for _, g := range poolGraphs() {
		for i := 0; i < 40; i++ {
			c := call{g: g, room: drawnRoom(d), workers: d.below(impl.MaxWorkers) + 1}
			// Mostly few tasks run, so that there are workers left.
			most := d.below(4)
			for at := range g {
				if len(c.running) < most && d.below(3) == 0 && fitTogether(g, c.room, with(c.running, at)) {
					c.running = append(c.running, at)
				}
			}
			rest := without(allNumbers(g), c.running)
			for len(rest) > 0 && d.below(10) > 0 {
				at := rest[d.below(len(rest))]
				rest = without(rest, []int{at})
				c.list = append(c.list, at)
			}
			list = append(list, c)
		}
	}
	return list
}

func TestSamplePools(t *testing.T) {
	g := workshop()
	if !same(impl.UsedUnits(g, []int{0, 1, 2, 3, 4, 5, 6, 7}), 10, 6, 2) || !same(impl.UsedUnits(g, []int{1, 4, 5}), 3, 2, 1) || !same(impl.UsedUnits(g, nil), 0, 0, 0) {
		t.Errorf("UsedUnits = %v", impl.UsedUnits(g, []int{1, 4, 5}))
	}
	// Tasks 0 and 1 take 7 units of pool 0.
	if impl.RunsTogether(g, []int{6, 8, 8}, []int{0, 1}) || !impl.RunsTogether(g, []int{7, 4, 4}, []int{0, 1}) {
		t.Error("RunsTogether in pool 0")
	}
	if impl.RunsTogether(g, []int{8, 5, 8}, []int{3, 4}) || !impl.RunsTogether(g, []int{4, 6, 4}, []int{3, 4}) {
		t.Error("RunsTogether in pool 1")
	}
	// The work is 30 in pool 0, 18 in pool 1, and 6 in pool 2.
	if impl.PoolTime(g, 0, 4) != 8 || impl.PoolTime(g, 0, 5) != 6 || impl.PoolTime(g, 1, 6) != 3 || impl.PoolTime(g, 2, 8) != 1 {
		t.Errorf("PoolTime = %d, %d, %d, %d", impl.PoolTime(g, 0, 4), impl.PoolTime(g, 0, 5), impl.PoolTime(g, 1, 6), impl.PoolTime(g, 2, 8))
	}
}

// TestNeedsDoNotMatterForPools has tasks that need each other, and run together.
func TestNeedsDoNotMatterForPools(t *testing.T) {
	g := chainOf(4, 2)
	if !impl.RunsTogether(g, []int{4, 4, 4}, []int{0, 1, 2, 3}) || !impl.RunsTogether(g, []int{4, 4, 4}, []int{3}) {
		t.Error("RunsTogether of a chain")
	}
	if !same(impl.AdmitTasks(g, []int{4, 4, 4}, []int{2}, []int{3, 1}, 4), 3, 1) {
		t.Errorf("AdmitTasks of a chain = %v", impl.AdmitTasks(g, []int{4, 4, 4}, []int{2}, []int{3, 1}, 4))
	}
}

// TestFullPools has pools with no unit left, or too few.
func TestFullPools(t *testing.T) {
	g := workshop()
	for _, c := range []struct {
		call
		expected []int
	}{
		// Pool 0 is full at 4 units: its tasks stay out, those behind them do not.
		{call{g, []int{4, 4, 4}, []int{0}, []int{1, 3, 2, 5, 7}, 4}, []int{3, 5}},
		// One unit is left in pool 0: task 2 fits exactly, behind one that does not.
		{call{g, []int{4, 4, 4}, []int{1}, []int{7, 0, 2}, 4}, []int{2}},
		// The greatest room, filled exactly by tasks that are admitted.
		{call{g, []int{8, 4, 4}, []int{0}, []int{1, 2, 7}, 4}, []int{1, 2}},
		{call{g, []int{8, 4, 4}, []int{0}, []int{7, 1, 2}, 4}, []int{7, 2}},
		{call{g, []int{7, 4, 4}, []int{0}, []int{2, 7, 1}, 4}, []int{2, 7}},
		{call{g, []int{6, 4, 4}, []int{0}, []int{2, 7, 1}, 4}, []int{2}},
		// What is full in one pool leaves the others as they are.
		{call{g, []int{4, 8, 4}, []int{0, 3}, []int{2, 4, 5}, 4}, []int{4, 5}},
		{call{g, []int{4, 5, 4}, []int{0, 3}, []int{2, 4, 5}, 4}, []int{5}},
		// All in one pool, with room for two tasks and no more.
		{call{crowd(1, 4), []int{4, 8, 4}, nil, []int{7, 6, 5}, 4}, []int{7, 6}},
		{call{crowd(1, 4), []int{8, 7, 8}, nil, []int{7, 6, 5}, 4}, []int{7}},
		{call{crowd(2, 2), []int{4, 4, 8}, []int{0}, []int{1, 2, 3}, 4}, []int{1, 2, 3}},
		{call{crowd(2, 2), []int{4, 4, 7}, []int{0}, []int{1, 2, 3}, 4}, []int{1, 2}},
	} {
		if got := c.admit(); !same(got, c.expected...) {
			t.Errorf("AdmitTasks(%v, %v, %v, %d) = %v, not %v", c.room, c.running, c.list, c.workers, got, c.expected)
		}
	}
}

// TestBusyWorkers has as many tasks as workers, and more.
func TestBusyWorkers(t *testing.T) {
	g := crowd(0, 1)
	room := []int{8, 4, 4}
	all := allNumbers(g)
	for workers := 1; workers <= impl.MaxWorkers; workers++ {
		for runs := 0; runs <= impl.MaxTasks; runs++ {
			expected := []int{}
			for at := runs; at < workers; at++ {
				expected = append(expected, at)
			}
			if got := impl.AdmitTasks(g, room, all[:runs], all[runs:], workers); !same(got, expected...) {
				t.Errorf("AdmitTasks besides %d tasks with %d workers = %v", runs, workers, got)
			}
		}
	}
	// A task that does not fit takes no worker.
	if got := impl.AdmitTasks(workshop(), []int{4, 4, 4}, []int{0}, []int{1, 2, 7, 3, 4, 5}, 2); !same(got, 3) {
		t.Errorf("AdmitTasks with 2 workers = %v", got)
	}
}

// TestAdmitsInOrderOfTheList has a list that does not ascend.
func TestAdmitsInOrderOfTheList(t *testing.T) {
	g := crowd(0, 1)
	if got := impl.AdmitTasks(g, []int{8, 4, 4}, []int{3}, []int{6, 1, 7, 0}, 4); !same(got, 6, 1, 7) {
		t.Errorf("AdmitTasks = %v", got)
	}
	if got := impl.AdmitTasks(g, []int{8, 4, 4}, []int{3}, nil, 4); len(got) != 0 {
		t.Errorf("AdmitTasks of no tasks = %v", got)
	}
}

func TestAdmitsByDefinition(t *testing.T) {
	allBusy := 0
	allFull := 0
	for _, c := range calls() {
		expected, busy, full := c.admitted()
		allBusy += busy
		allFull += full
		if got := c.admit(); !same(got, expected...) {
			t.Errorf("AdmitTasks(%v) = %v, not %v", c, got, expected)
		}
	}
	if allBusy < 100 || allFull < 100 {
		t.Errorf("only %d busy workers, and %d full pools", allBusy, allFull)
	}
}

// TestRooms has all short lists of numbers around the limits.
func TestRooms(t *testing.T) {
	for _, room := range listsOf(impl.MaxUnits-1, impl.MaxRoom+1, impl.Pools+1) {
		valid := len(room) == 3
		for _, units := range room {
			valid = valid && 4 <= units && units <= 8
		}
		if impl.ValidRoom(room) != valid {
			t.Errorf("ValidRoom(%v) = %v", room, !valid)
		}
	}
	for _, room := range wrongRooms() {
		if impl.ValidRoom(room) {
			t.Errorf("ValidRoom(%v) = true", room)
		}
	}
}

func TestPoolTimeByWork(t *testing.T) {
	for _, g := range poolGraphs() {
		for pool := 0; pool < impl.Pools; pool++ {
			for room := impl.MaxUnits; room <= impl.MaxRoom; room++ {
				time := 0
				for time*room < workOf(g, pool) {
					time++
				}
				if got := impl.PoolTime(g, pool, room); got != time {
					t.Errorf("PoolTime(%v, %d, %d) = %d, not %d", g, pool, room, got, time)
				}
			}
		}
	}
}

// workOf returns the sum of all times in which units of a pool are taken.
func workOf(g []impl.Task, pool int) int {
	work := 0
	for _, task := range g {
		if task.Pool == pool {
			work += task.Time * task.Units
		}
	}
	return work
}

// TestLimitOfPoolTime has the most work that a pool can have.
func TestLimitOfPoolTime(t *testing.T) {
	g := crowd(2, impl.MaxUnits)
	for at := range g {
		g = withTime(g, at, impl.MaxTime)
	}
	if impl.PoolTime(g, 2, 4) != 160 || impl.PoolTime(g, 2, 8) != 80 || impl.PoolTime(g, 2, 7) != 92 || impl.PoolTime(g, 1, 4) != 0 {
		t.Errorf("PoolTime = %d, %d, %d, %d", impl.PoolTime(g, 2, 4), impl.PoolTime(g, 2, 8), impl.PoolTime(g, 2, 7), impl.PoolTime(g, 1, 4))
	}
}

func TestPoolsRefuseGraphs(t *testing.T) {
	for _, g := range append(wrongGraphs(), loopedGraphs()...) {
		for _, list := range append(listsOf(-1, 3, 2), []int{0, 1, 2}, make([]int, 5000)) {
			checkNothingRuns(t, g, []int{8, 8, 8}, list)
		}
		for _, list := range [][]int{nil, {0}, {1, 0}} {
			refuse(t, call{g, []int{8, 8, 8}, nil, list, 4})
		}
		for pool := -1; pool <= impl.Pools; pool++ {
			checkNoPoolTime(t, g, pool, 8)
		}
	}
}

// checkNothingRuns checks the fixed results for tasks that do not exist.
func checkNothingRuns(t *testing.T, g []impl.Task, room []int, running []int) {
	if used := impl.UsedUnits(g, running); len(used) != 0 {
		t.Errorf("UsedUnits(%v, %v) = %v", g, running, used)
	}
	if impl.RunsTogether(g, room, running) {
		t.Errorf("RunsTogether(%v, %v, %v) = true", g, room, running)
	}
}

// refuse checks the fixed result of AdmitTasks.
func refuse(t *testing.T, c call) {
	if got := c.admit(); len(got) != 0 {
		t.Errorf("AdmitTasks(%v) = %v", c, got)
	}
}

// checkNoPoolTime checks the fixed result of PoolTime.
func checkNoPoolTime(t *testing.T, g []impl.Task, pool int, room int) {
	if got := impl.PoolTime(g, pool, room); got != -1 {
		t.Errorf("PoolTime(%v, %d, %d) = %d", g, pool, room, got)
	}
}

func TestPoolsRefuseNumbers(t *testing.T) {
	for _, g := range [][]impl.Task{sample(), workshop(), crowd(0, 1)} {
		room := []int{8, 8, 8}
		for _, running := range wrongNumbers(len(g)) {
			checkNothingRuns(t, g, room, running)
			refuse(t, call{g, room, running, []int{2}, 4})
			refuse(t, call{g, room, running, nil, 4})
		}
	}
	// No task exists here.
	for _, list := range [][]int{{0}, {-1}, {impl.MaxTasks}} {
		checkNothingRuns(t, nil, []int{8, 8, 8}, list)
		refuse(t, call{nil, []int{8, 8, 8}, list, nil, 4})
		refuse(t, call{nil, []int{8, 8, 8}, nil, list, 4})
	}
}

func TestPoolsRefuseRooms(t *testing.T) {
	for _, room := range wrongRooms() {
		if impl.RunsTogether(nil, room, nil) {
			t.Errorf("RunsTogether without tasks in %v = true", room)
		}
		for _, g := range [][]impl.Task{sample(), workshop(), crowd(0, 1)} {
			for _, running := range [][]int{nil, {0}, {0, 1}} {
				if impl.RunsTogether(g, room, running) {
					t.Errorf("RunsTogether(%v, %v, %v) = true", g, room, running)
				}
			}
			refuse(t, call{g, room, nil, allNumbers(g), 4})
		}
	}
}

// TestAdmitRefuses changes one argument of a call that admits tasks.
func TestAdmitRefuses(t *testing.T) {
	const far = 1 << 62
	g := workshop()
	room := []int{8, 8, 8}
	base := call{g, room, []int{2}, []int{6, 1, 5}, 4}
	if !same(base.admit(), 6, 1, 5) {
		t.Fatalf("AdmitTasks(%v) = %v", base, base.admit())
	}
	for _, workers := range []int{0, -1, impl.MaxWorkers + 1, far, -far} {
		refuse(t, call{g, room, []int{2}, []int{6, 1, 5}, workers})
	}
	for _, wrong := range wrongRooms() {
		refuse(t, call{g, wrong, []int{2}, []int{6, 1, 5}, 4})
	}
	// The list may not have tasks twice, nor those that run.
	for _, list := range [][]int{{6, 6}, {6, 1, 6}, {6, 1, 1}, {2}, {2, 6}, {6, 2, 1}, {6, 2}, {2, 2}, make([]int, 5000)} {
		refuse(t, call{g, room, []int{2}, list, 4})
	}
	// A number may be wrong behind those for which there are workers, too.
	for _, strange := range append(strangeNumbers(len(g)), 2, 0, 7) {
		for _, list := range [][]int{{strange, 0, 7, 6}, {0, strange, 7, 6}, {0, 7, 6, strange}} {
			refuse(t, call{g, room, []int{2}, list, 1})
			refuse(t, call{g, room, []int{2}, list, 4})
		}
	}
	// Tasks that do not run together: 8 units are full with the tasks 0, 1, 2.
	if !same(call{g, room, []int{0, 1, 2}, []int{5}, 4}.admit(), 5) {
		t.Error("AdmitTasks besides a full pool")
	}
	refuse(t, call{g, room, []int{0, 1, 7}, []int{5}, 4})
	refuse(t, call{g, []int{7, 8, 8}, []int{0, 1, 2}, []int{5}, 4})
	refuse(t, call{g, []int{8, 5, 8}, []int{3, 4}, []int{5}, 4})
}

func TestLimitsOfWorkers(t *testing.T) {
	g := crowd(0, 1)
	room := []int{8, 4, 4}
	for _, c := range []struct {
		workers int
		most    int
	}{{0, 0}, {1, 1}, {impl.MaxWorkers, 4}, {impl.MaxWorkers + 1, 0}} {
		if got := impl.AdmitTasks(g, room, nil, allNumbers(g), c.workers); len(got) != c.most {
			t.Errorf("AdmitTasks with %d workers = %v", c.workers, got)
		}
	}
}

func TestPoolTimeRefuses(t *testing.T) {
	const far = 1 << 62
	for _, g := range [][]impl.Task{nil, workshop()} {
		for _, pool := range []int{-1, impl.Pools, impl.Pools + 1, far, -far} {
			checkNoPoolTime(t, g, pool, 4)
		}
		for _, room := range []int{impl.MaxUnits - 1, impl.MaxRoom + 1, 0, -1, -4, far, -far} {
			checkNoPoolTime(t, g, 0, room)
		}
	}
}

func TestPoolsOfNoTasks(t *testing.T) {
	for _, g := range [][]impl.Task{nil, {}} {
		for _, none := range [][]int{nil, {}} {
			if !same(impl.UsedUnits(g, none), 0, 0, 0) || !impl.RunsTogether(g, []int{4, 4, 4}, none) {
				t.Error("no tasks take no units, and run together")
			}
			if len(impl.AdmitTasks(g, []int{4, 4, 4}, none, none, 1)) != 0 {
				t.Error("no tasks are admitted")
			}
		}
		if impl.PoolTime(g, 0, 4) != 0 || impl.PoolTime(g, 2, 8) != 0 {
			t.Error("no tasks need no time")
		}
	}
}

func TestP24RoomsCanBeLarger(t *testing.T) {
	if !impl.ValidRoom([]int{impl.MaxRoom, impl.MaxRoom, impl.MaxRoom}) || !impl.ValidRoom([]int{impl.MaxUnits, impl.MaxUnits, impl.MaxUnits}) {
		t.Error("rooms at their limits are not valid")
	}
	for _, room := range listsOf(0, 9, impl.Pools) {
		if !impl.ValidRoom(room) {
			continue
		}
		for pool := range room {
			larger := with(room)
			larger[pool] = impl.MaxRoom
			if room[pool] < impl.MaxUnits || !impl.ValidRoom(larger) {
				t.Errorf("ValidRoom(%v) = true", room)
			}
		}
	}
}

func TestP25UnitsAddUp(t *testing.T) {
	for _, g := range poolGraphs() {
		for _, list := range subsets(len(g)) {
			if len(list) == 0 {
				continue
			}
			used := impl.UsedUnits(g, list)
			first := impl.UsedUnits(g, list[:1])
			others := impl.UsedUnits(g, list[1:])
			if len(used) != impl.Pools || len(first) != impl.Pools || len(others) != impl.Pools {
				t.Fatalf("UsedUnits(%v, %v) = %v", g, list, used)
			}
			for pool := range used {
				if used[pool] != first[pool]+others[pool] || used[pool] != unitsIn(g, list, pool) {
					t.Errorf("UsedUnits(%v, %v) = %v", g, list, used)
				}
			}
		}
	}
}

func TestP26FewerTasksRunTogetherToo(t *testing.T) {
	together := 0
	for _, g := range poolGraphs() {
		for _, list := range subsets(len(g)) {
			room := []int{4 + len(list)%5, 8, 6}
			if !impl.RunsTogether(g, room, list) {
				continue
			}
			together++
			for _, at := range list {
				if fewer := without(list, []int{at}); !impl.RunsTogether(g, room, fewer) {
					t.Errorf("RunsTogether(%v, %v, %v) = false", g, room, fewer)
				}
			}
		}
	}
	if together == 0 {
		t.Error("no tasks run together")
	}
}

func TestP27RoomsHaveUnits(t *testing.T) {
	d := &dice{state: 13}
	for _, g := range poolGraphs() {
		for _, list := range subsets(len(g)) {
			used := impl.UsedUnits(g, list)
			for i := 0; i < 4; i++ {
				room := drawnRoom(d)
				fits := len(used) == impl.Pools
				for pool := range used {
					fits = fits && used[pool] <= room[pool]
				}
				if impl.RunsTogether(g, room, list) != fits || fits != fitTogether(g, room, list) {
					t.Errorf("RunsTogether(%v, %v, %v) = %v", g, room, list, !fits)
				}
			}
		}
	}
}

// TestRoomsAtTheLimit has each pool full, and one unit short.
func TestRoomsAtTheLimit(t *testing.T) {
	for pool := 0; pool < impl.Pools; pool++ {
		for units := impl.MaxUnits; units <= impl.MaxRoom; units++ {
			g := crowd(pool, 1)
			room := []int{8, 8, 8}
			room[pool] = units
			for runs := 0; runs <= len(g); runs++ {
				if impl.RunsTogether(g, room, allNumbers(g)[:runs]) != (runs <= units) {
					t.Errorf("RunsTogether of %d tasks of pool %d in %v", runs, pool, room)
				}
			}
		}
	}
}

func TestP28AdmittedTasksFit(t *testing.T) {
	for _, c := range calls() {
		admitted := c.admit()
		if len(c.running) > c.workers {
			// They are more than workers already: the promise is that none comes.
			refuse(t, c)
			continue
		}
		runs := with(c.running, admitted...)
		if len(runs) > c.workers || !impl.RunsTogether(c.g, c.room, ascendingOf(runs)) || !hasAll(c.list, admitted) {
			t.Errorf("AdmitTasks(%v) = %v", c, admitted)
		}
	}
}

func TestP29NobodyIsLeftOutWithoutNeed(t *testing.T) {
	left := 0
	for _, c := range calls() {
		admitted := c.admit()
		runs := with(c.running, admitted...)
		for _, at := range without(c.list, admitted) {
			left++
			if len(runs) < c.workers && impl.RunsTogether(c.g, c.room, ascendingOf(with(runs, at))) {
				t.Errorf("AdmitTasks(%v) = %v, without %d", c, admitted, at)
			}
		}
	}
	if left == 0 {
		t.Error("all tasks are admitted")
	}
}

func TestP30LargerPoolsNeedLessTime(t *testing.T) {
	for _, g := range poolGraphs() {
		for pool := 0; pool < impl.Pools; pool++ {
			work := workOf(g, pool)
			for room := impl.MaxUnits; room <= impl.MaxRoom; room++ {
				time := impl.PoolTime(g, pool, room)
				if time*room < work || time*room >= work+room {
					t.Errorf("PoolTime(%v, %d, %d) = %d", g, pool, room, time)
				}
				if room < impl.MaxRoom && impl.PoolTime(g, pool, room+1) > time {
					t.Errorf("PoolTime(%v, %d, %d) = %d", g, pool, room, time)
				}
			}
		}
	}
}

func TestP133AllUnitsAreUsedByAllTasks(t *testing.T) {
	for _, g := range append(poolGraphs(), validGraphs()...) {
		sum := 0
		for _, task := range g {
			sum += task.Units
		}
		for _, units := range impl.UsedUnits(g, allNumbers(g)) {
			sum -= units
		}
		if sum != 0 {
			t.Errorf("UsedUnits of all tasks of %v = %v", g, impl.UsedUnits(g, allNumbers(g)))
		}
	}
}

func TestP134EachTaskFitsAlone(t *testing.T) {
	for _, g := range append(poolGraphs(), crowd(0, impl.MaxUnits), crowd(1, impl.MaxUnits), crowd(2, impl.MaxUnits)) {
		for at := range g {
			for _, room := range rooms() {
				if !impl.RunsTogether(g, room, []int{at}) {
					t.Errorf("RunsTogether(%v, %v) of task %d alone = false", g, room, at)
				}
			}
		}
	}
}

func TestP135TheFirstTaskOfAListIsAdmitted(t *testing.T) {
	for _, c := range calls() {
		if len(c.list) == 0 {
			continue
		}
		c.running = nil
		if admitted := c.admit(); len(admitted) == 0 || admitted[0] != c.list[0] {
			t.Errorf("AdmitTasks(%v) = %v", c, admitted)
		}
	}
}

func TestP136MoreWorkersAdmitMore(t *testing.T) {
	grown := 0
	for _, c := range calls() {
		for workers := 1; workers < impl.MaxWorkers; workers++ {
			c.workers = workers
			few := c.admit()
			c.workers = workers + 1
			many := c.admit()
			if len(many) > len(few) {
				grown++
			}
			if len(many) < len(few) || len(many) > len(few)+1 || !same(many[:len(few)], few...) {
				t.Errorf("AdmitTasks(%v) = %v, and with a worker less %v", c, many, few)
			}
		}
	}
	if grown == 0 {
		t.Error("a worker more never admits more")
	}
}

func TestP137PoolsShareTheWork(t *testing.T) {
	for _, g := range poolGraphs() {
		work := 0
		for _, task := range g {
			work += task.Time * task.Units
		}
		for _, room := range rooms() {
			shared := 0
			for pool := range room {
				shared += impl.PoolTime(g, pool, room[pool]) * room[pool]
			}
			if shared < work {
				t.Errorf("PoolTime of all pools of %v with %v: %d is less than %d", g, room, shared, work)
			}
		}
	}
}
