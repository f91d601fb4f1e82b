package tests

import (
	"testing"

	"loop.example/buildscheduler/impl"
)

// mark is what no function may write over, and what no function returns.
const mark = -77

// arguments has all that functions are called with.
type arguments struct {
	g       []impl.Task
	done    []int
	room    []int
	running []int
	list    []int
	start   []int
	log     []impl.Event
	at      int
	workers int
}

// memory has all memory of arguments, also behind the ends of their slices, and
// what is to be in it.
type memory struct {
	tasks      []impl.Task
	events     []impl.Event
	lists      [][]int
	wantTasks  []impl.Task
	wantEvents []impl.Event
	wantLists  [][]int
}

// guard returns a list with marked memory behind its end, which it keeps.
func (m *memory) guard(list []int) []int {
	all := with(list, mark, mark, mark)
	m.lists = append(m.lists, all)
	m.wantLists = append(m.wantLists, with(all))
	return all[:len(list)]
}

// guarded returns the arguments in marked memory, and this memory.
func (a arguments) guarded() (arguments, *memory) {
	m := &memory{}
	for _, t := range a.g {
		t.Needs = m.guard(t.Needs)
		m.tasks = append(m.tasks, t)
	}
	m.tasks = append(m.tasks, needing(mark), needing(mark))
	m.wantTasks = copyOf(m.tasks)
	given := a
	given.g = m.tasks[:len(a.g)]
	given.done = m.guard(a.done)
	given.room = m.guard(a.room)
	given.running = m.guard(a.running)
	given.list = m.guard(a.list)
	given.start = m.guard(a.start)
	m.events = withEvents(a.log, begins(mark, mark), begins(mark, mark))
	m.wantEvents = withEvents(m.events)
	given.log = m.events[:len(a.log)]
	return given, m
}

// isWhole reports whether nothing was written into the memory.
func (m *memory) isWhole() bool {
	for i := range m.lists {
		if !same(m.lists[i], m.wantLists[i]...) {
			return false
		}
	}
	return sameGraphs(m.tasks, m.wantTasks) && sameLogs(m.events, m.wantEvents)
}

// allLists returns the lists that all functions return, and calls the functions
// that return none.
func (a arguments) allLists() [][]int {
	impl.ValidGraph(a.g)
	impl.LongestTime(a.g)
	impl.ValidDone(a.g, a.done)
	impl.ValidRoom(a.room)
	impl.RunsTogether(a.g, a.room, a.running)
	impl.PoolTime(a.g, a.at, a.workers)
	impl.ValidStarts(a.g, a.room, a.workers, a.start)
	impl.EndTime(a.g, a.room, a.workers, a.start)
	impl.LeastTime(a.g, a.room, a.workers)
	impl.BestTime(a.g, a.room, a.workers)
	impl.CountOrders(a.g)
	impl.ValidLog(a.g, a.log)
	impl.LogOf(a.g, a.room, a.workers, a.start)
	impl.BusyTime(a.g, a.log)
	impl.MostTogether(a.g, a.log)
	impl.TimeLeft(a.g, a.done)
	impl.ProgressOf(a.g, a.done)
	impl.StagesOf(a.g)
	impl.UselessNeeds(a.g)
	impl.WithoutUseless(a.g)
	impl.MeetsDeadline(a.g, a.room, a.workers, a.start, a.at)
	impl.WorkersFor(a.g, a.room, a.at)
	impl.FormatGraph(a.g)
	impl.ChartLines(a.g, a.room, a.workers, a.start)
	// The tasks that run are those that fail, and those that change, here, too, the
	// beginnings are inputs, and the list has stored keys, and earlier times.
	impl.CountOutcome(a.g, a.running, a.workers, impl.TaskDone)
	impl.BlamedFor(a.g, a.running, a.at)
	impl.StaleTime(a.g, a.running)
	impl.EstimateOf(a.list)
	times, _ := impl.AddTime(a.list, a.workers)
	finished, _ := impl.FinishTask(a.g, a.done, a.at)
	return [][]int{
		impl.TopOrder(a.g), impl.StuckTasks(a.g), impl.AllNeeds(a.g, a.at), impl.AllUsers(a.g, a.at),
		impl.HeadTimes(a.g), impl.TailTimes(a.g), impl.CriticalChain(a.g), impl.SlackTimes(a.g),
		impl.ReadyTasks(a.g, a.done), impl.ReadyOrder(a.g, a.done), finished, impl.WaitsFor(a.g, a.done, a.at),
		impl.UsedUnits(a.g, a.running), impl.AdmitTasks(a.g, a.room, a.running, a.list, a.workers),
		impl.PlanStarts(a.g, a.room, a.workers), impl.RunningAt(a.g, a.room, a.workers, a.start, a.at),
		impl.OrderStarts(a.g, a.room, a.workers, a.list), impl.BestOrder(a.g, a.room, a.workers),
		impl.Outcomes(a.g, a.running, a.workers), impl.CancelAt(a.g, a.room, a.workers, a.start, a.at),
		impl.StaleTasks(a.g, a.running), impl.TaskKeys(a.g, a.start), impl.MissingKeys(a.g, a.start, a.list),
		impl.DoneBy(a.g, a.log, a.at), times,
		impl.StageOf(a.g), impl.LatestStarts(a.g, a.at), impl.LateTasks(a.g, a.room, a.workers, a.start, a.at),
	}
}

// allGraphs returns graphs that are valid, and such that are not.
func allGraphs() [][]impl.Task {
	return append(append(validGraphs(), loopedGraphs()...), wrongGraphs()...)
}

// allArguments returns arguments that are valid, and such that are not.
func allArguments() []arguments {
	list := []arguments{}
	for _, g := range allGraphs() {
		for _, at := range []int{-1, 0, 1, 2, len(g) - 1, len(g)} {
			a := arguments{g: g, room: []int{4, 8, 4}, list: []int{0, 1}, at: at, workers: 4}
			list = append(list, a)
			a.done = []int{0}
			a.running = []int{0, 2}
			list = append(list, a)
			a.running = []int{0}
			a.list = []int{2, 1}
			list = append(list, a)
		}
	}
	for i, c := range calls() {
		a := arguments{g: c.g, room: c.room, running: c.running, list: c.list, workers: c.workers}
		// Among all done lists of many graphs, some of each size are taken.
		dones := doneLists(c.g)
		a.done = dones[i*7%len(dones)]
		ready := readyByNeeds(c.g, a.done)
		if len(ready) > 0 {
			a.at = ready[i%len(ready)]
		}
		list = append(list, a)
	}
	for _, table := range timetables() {
		list = append(list, table.arguments())
	}
	for _, s := range searchShops() {
		list = append(list, timetable{s, s.planByTimes()}.arguments())
	}
	return append(list, strangeArguments()...)
}

// arguments returns the timetable, with a time at which tasks run, its tasks in
// order, and its log.
func (table timetable) arguments() arguments {
	return arguments{g: table.g, room: table.room, list: readyOneByOne(table.g), start: table.start, log: upToMaxClock(table.logByRanks()), at: greatest(table.start), workers: table.workers}
}

// strangeArguments returns arguments that are wrong in one list.
func strangeArguments() []arguments {
	list := []arguments{}
	g := workshop()
	base := arguments{g: g, room: []int{8, 8, 8}, running: []int{2}, list: []int{6, 1}, workers: 3}
	base.start = inTurn(g, allNumbers(g))
	for _, wrong := range append(wrongRooms(), wrongNumbers(len(g))...) {
		a := base
		a.room = wrong
		b := base
		b.done = wrong
		c := base
		c.running = wrong
		d := base
		d.list = wrong
		e := base
		e.start = wrong
		list = append(list, a, b, c, d, e)
	}
	return list
}

func TestArgumentsStay(t *testing.T) {
	for _, a := range allArguments() {
		given, m := a.guarded()
		given.allLists()
		if !m.isWhole() {
			t.Errorf("a function writes into %v", a)
		}
	}
}

func TestAnswersAreNewMemory(t *testing.T) {
	met := make([]bool, len(arguments{}.allLists()))
	for _, a := range allArguments() {
		given, m := a.guarded()
		expected := arguments{g: copyOf(a.g), done: with(a.done), room: with(a.room), running: with(a.running), list: with(a.list), start: with(a.start), log: withEvents(a.log), at: a.at, workers: a.workers}.allLists()
		for i, list := range given.allLists() {
			for k := range list {
				list[k] = mark
				met[i] = true
			}
			// This writes behind the end of the list, if there is memory.
			_ = append(list, mark+1)
		}
		if !m.isWhole() {
			t.Errorf("an answer is memory of %v", a)
		}
		for i, list := range given.allLists() {
			if !same(list, expected[i]...) {
				t.Errorf("list %d of %v is kept between calls: %v", i, a, list)
			}
		}
	}
	for i := range met {
		if !met[i] {
			t.Errorf("list %d is always empty", i)
		}
	}
}
