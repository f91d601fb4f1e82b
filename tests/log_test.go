package tests

import (
	"testing"

	"loop.example/buildscheduler/impl"
)

// record is a graph with a log.
type record struct {
	g   []impl.Task
	log []impl.Event
}

// valid calls ValidLog.
func (r record) valid() bool {
	return impl.ValidLog(r.g, r.log)
}

// done calls DoneBy.
func (r record) done(now int) []int {
	return impl.DoneBy(r.g, r.log, now)
}

// busy calls BusyTime.
func (r record) busy() int {
	return impl.BusyTime(r.g, r.log)
}

// most calls MostTogether.
func (r record) most() int {
	return impl.MostTogether(r.g, r.log)
}

// withLog returns the record with another log.
func (r record) withLog(log []impl.Event) record {
	r.log = log
	return r
}

// end returns the time of the last event, 0 without any.
func (r record) end() int {
	if len(r.log) == 0 {
		return 0
	}
	return r.log[len(r.log)-1].At
}

// begins returns the event that a task begins.
func begins(at int, task int) impl.Event {
	return impl.Event{At: at, Task: task}
}

// ends returns the event that a task is over.
func ends(at int, task int) impl.Event {
	return impl.Event{At: at, Task: task, Over: true}
}

// withEvents returns a log with events behind it, in its own memory.
func withEvents(log []impl.Event, events ...impl.Event) []impl.Event {
	return append(append([]impl.Event{}, log...), events...)
}

// sameLogs reports whether two logs have the same events.
func sameLogs(log []impl.Event, other []impl.Event) bool {
	if len(log) != len(other) {
		return false
	}
	for place := range log {
		if log[place] != other[place] {
			return false
		}
	}
	return true
}

// placeOfEvent returns the first place of an event of a task, -1 if it is not in the
// log.
func placeOfEvent(log []impl.Event, task int, over bool) int {
	for place, e := range log {
		if e.Task == task && e.Over == over {
			return place
		}
	}
	return -1
}

// isRight reports whether the event of a place may stand there, if all before it
// may.
func (r record) isRight(place int) bool {
	e := r.log[place]
	if e.At < 0 || e.At > 200 || e.Task < 0 || e.Task >= len(r.g) {
		return false
	}
	if place > 0 && r.log[place-1].At > e.At {
		return false
	}
	if placeOfEvent(r.log, e.Task, e.Over) < place {
		return false
	}
	if e.Over {
		begin := placeOfEvent(r.log[:place], e.Task, false)
		return begin >= 0 && r.log[begin].At+r.g[e.Task].Time == e.At
	}
	for _, need := range r.g[e.Task].Needs {
		if placeOfEvent(r.log[:place], need, true) < 0 {
			return false
		}
	}
	return true
}

// validByPlaces reports whether a log of a valid graph is valid, by looking, for
// each event, for those that it needs.
func (r record) validByPlaces() bool {
	for place := range r.log {
		if !r.isRight(place) {
			return false
		}
	}
	return len(r.log) <= 16
}

// tasksByPlaces returns the tasks that have begun, or those that are over, by events
// up to a time.
func (r record) tasksByPlaces(now int, over bool) []int {
	list := []int{}
	for at := range r.g {
		place := placeOfEvent(r.log, at, over)
		if place >= 0 && r.log[place].At <= now {
			list = append(list, at)
		}
	}
	return list
}

// mostByTimes returns the greatest number of tasks that have begun up to a time, and
// are not over up to this time, by looking at each one.
func (r record) mostByTimes() int {
	most := 0
	for now := 0; now <= 200; now++ {
		running := without(r.tasksByPlaces(now, false), r.tasksByPlaces(now, true))
		most = greatest([]int{most, len(running)})
	}
	return most
}

// log calls LogOf.
func (table timetable) log() []impl.Event {
	return impl.LogOf(table.g, table.room, table.workers, table.start)
}

// rankOf returns a number that tells which one of two events comes first.
func rankOf(e impl.Event) int {
	rank := e.At*2*impl.MaxTasks + e.Task
	if !e.Over {
		rank += impl.MaxTasks
	}
	return rank
}

// logByRanks returns the events of a timetable, put in order one by one.
func (table timetable) logByRanks() []impl.Event {
	log := []impl.Event{}
	for at, begin := range table.start {
		for _, e := range []impl.Event{begins(begin, at), ends(begin+table.g[at].Time, at)} {
			place := 0
			for place < len(log) && rankOf(log[place]) < rankOf(e) {
				place++
			}
			behind := withEvents(log[place:])
			log = append(withEvents(log[:place], e), behind...)
		}
	}
	return log
}

// upToMaxClock returns the events of a log that a valid one can have.
func upToMaxClock(log []impl.Event) []impl.Event {
	events := []impl.Event{}
	for _, e := range log {
		if e.At <= impl.MaxClock {
			events = append(events, e)
		}
	}
	return events
}

// drawnLog returns a valid log of a valid graph. Some of its tasks are never over,
// and at the same time some begin before others are over.
func drawnLog(d *dice, g []impl.Task) []impl.Event {
	log := []impl.Event{}
	now := d.below(40)
	if d.below(4) == 0 {
		now += 140
	}
	for steps := d.below(2*len(g) + 1); steps > 0; steps-- {
		possible := []impl.Event{}
		for at, task := range g {
			events := []impl.Event{begins(now+d.below(4), at)}
			if begin := placeOfEvent(log, at, false); begin >= 0 {
				over := ends(log[begin].At+task.Time, at)
				// It is taken more often, so that others can begin.
				events = []impl.Event{over, over, over}
			}
			for _, e := range events {
				if (record{g, withEvents(log, e)}).isRight(len(log)) {
					possible = append(possible, e)
				}
			}
		}
		if len(possible) == 0 {
			return log
		}
		e := possible[d.below(len(possible))]
		log = append(log, e)
		now = e.At
	}
	return log
}

// records returns many valid logs: what counts as valid is decided here, and not by
// the program.
func records() []record {
	list := []record{}
	d := &dice{state: 89}
	for _, g := range append(validGraphs(), workshop()) {
		for i := 0; i < 3; i++ {
			list = append(list, record{g, drawnLog(d, g)})
		}
	}
	for i, table := range lateTimetables() {
		// Some are left out, so that this takes less time.
		if i%3 == 0 {
			list = append(list, record{table.g, upToMaxClock(table.logByRanks())})
		}
	}
	return list
}

// loggedTables returns the timetables whose logs are valid: those that are over at
// MaxClock.
func loggedTables() []timetable {
	list := []timetable{}
	for i, table := range lateTimetables() {
		if i%3 != 0 && endByTimes(table.g, table.start) <= impl.MaxClock {
			list = append(list, table)
		}
	}
	for i, table := range timetables() {
		latest := later(table.start, impl.MaxClock-endByTimes(table.g, table.start))
		if i%5 == 0 {
			list = append(list, timetable{table.shop, latest})
		}
	}
	return list
}

// checkNoLog checks the fixed results for logs that are not valid.
func checkNoLog(t *testing.T, r record) {
	if r.valid() {
		t.Errorf("ValidLog(%v) = true", r)
	}
	for _, now := range []int{-1, 0, 3, impl.MaxClock, impl.MaxClock + 1} {
		if done := r.done(now); len(done) != 0 {
			t.Errorf("DoneBy(%v, %d) = %v", r, now, done)
		}
	}
	if r.busy() != -1 || r.most() != -1 {
		t.Errorf("BusyTime, MostTogether(%v) = %d, %d", r, r.busy(), r.most())
	}
}

// checkLog compares all functions of a log with what its places tell.
func checkLog(t *testing.T, r record) {
	if !r.validByPlaces() {
		checkNoLog(t, r)
		return
	}
	if !r.valid() {
		t.Errorf("ValidLog(%v) = false", r)
	}
	for _, e := range withEvents(r.log, begins(0, 0), begins(impl.MaxClock, 0)) {
		for now := e.At - 1; now <= e.At+1; now++ {
			if done := r.done(now); !same(done, r.tasksByPlaces(now, true)...) {
				t.Errorf("DoneBy(%v, %d) = %v", r, now, done)
			}
		}
	}
	if busy := r.busy(); busy != sumOfTimes(r.g, r.tasksByPlaces(200, true)) {
		t.Errorf("BusyTime(%v) = %d", r, busy)
	}
	if most := r.most(); most != r.mostByTimes() {
		t.Errorf("MostTogether(%v) = %d, not %d", r, most, r.mostByTimes())
	}
}

// kitchen returns a graph whose last task needs two others, one of which needs the
// first one.
func kitchen() []impl.Task {
	return []impl.Task{needing(3), needing(4, 0), needing(2), needing(5, 1, 2)}
}

func TestSampleLog(t *testing.T) {
	r := record{kitchen(), []impl.Event{begins(0, 0), begins(0, 2), ends(2, 2), ends(3, 0), begins(3, 1), ends(7, 1), begins(7, 3), ends(12, 3)}}
	for _, x := range []struct {
		now  int
		done []int
	}{
		{-1 << 63, nil}, {-1, nil}, {0, nil}, {1, nil}, {2, []int{2}}, {3, []int{0, 2}}, {6, []int{0, 2}}, {7, []int{0, 1, 2}},
		{11, []int{0, 1, 2}}, {12, []int{0, 1, 2, 3}}, {200, []int{0, 1, 2, 3}}, {201, []int{0, 1, 2, 3}}, {1<<63 - 1, []int{0, 1, 2, 3}},
	} {
		if done := r.done(x.now); !same(done, x.done...) {
			t.Errorf("DoneBy(%d) = %v", x.now, done)
		}
	}
	for events, x := range []struct{ busy, most int }{{0, 0}, {0, 1}, {0, 2}, {2, 2}, {5, 2}, {5, 2}, {9, 2}, {9, 2}, {14, 2}} {
		part := r.withLog(r.log[:events])
		if !part.valid() || part.busy() != x.busy || part.most() != x.most {
			t.Errorf("ValidLog, BusyTime, MostTogether of %d events = %v, %d, %d", events, part.valid(), part.busy(), part.most())
		}
	}
}

// TestValidLogs has logs that are valid, and how many tasks run together at most.
func TestValidLogs(t *testing.T) {
	for _, x := range []struct {
		what string
		log  []impl.Event
		busy int
		most int
	}{
		{"no events", nil, 0, 0},
		{"no events", []impl.Event{}, 0, 0},
		{"a task that begins at 0", []impl.Event{begins(0, 0)}, 0, 1},
		{"a task that begins at MaxClock", []impl.Event{begins(200, 2)}, 0, 1},
		{"a task that is over at MaxClock", []impl.Event{begins(197, 0), ends(200, 0)}, 3, 1},
		{"the same time", []impl.Event{begins(5, 2), begins(5, 0)}, 0, 2},
		{"a need that is over at the same time", []impl.Event{begins(4, 0), ends(7, 0), begins(7, 1)}, 3, 1},
		{"a need that was over before", []impl.Event{begins(4, 0), ends(7, 0), begins(17, 1)}, 3, 1},
		{"a task that begins when another one ends", []impl.Event{begins(0, 0), ends(3, 0), begins(3, 2), ends(5, 2)}, 5, 1},
		{"the same with the beginning first", []impl.Event{begins(0, 0), begins(3, 2), ends(3, 0), ends(5, 2)}, 5, 1},
		{"a task that begins 1 before another one ends", []impl.Event{begins(0, 0), begins(2, 2), ends(3, 0), ends(4, 2)}, 5, 2},
		{"a task that is not over yet", []impl.Event{begins(0, 2), begins(1, 0), ends(4, 0)}, 3, 2},
		{"a task that is never over", []impl.Event{begins(0, 2), begins(100, 0), ends(103, 0), begins(200, 1)}, 3, 2},
	} {
		r := record{kitchen(), x.log}
		if !r.valid() || r.busy() != x.busy || r.most() != x.most {
			t.Errorf("%s: ValidLog, BusyTime, MostTogether = %v, %d, %d", x.what, r.valid(), r.busy(), r.most())
		}
	}
}

func TestWrongLogs(t *testing.T) {
	const far = 1 << 62
	for _, x := range []struct {
		what string
		log  []impl.Event
	}{
		{"a time before 0", []impl.Event{begins(-1, 0)}},
		{"a beginning behind MaxClock", []impl.Event{begins(201, 0)}},
		{"an end behind MaxClock", []impl.Event{begins(198, 0), ends(201, 0)}},
		{"a time that is far away", []impl.Event{begins(far, 0)}},
		{"a time that is far away", []impl.Event{begins(-2*far, 0)}},
		{"a time that is far away", []impl.Event{begins(0, 0), ends(-far, 0)}},
		{"a time that falls", []impl.Event{begins(1, 0), begins(0, 2)}},
		{"a time that falls to an end", []impl.Event{begins(0, 0), begins(4, 2), ends(3, 0)}},
		{"a time that falls from an end", []impl.Event{begins(0, 0), ends(3, 0), begins(2, 2)}},
		{"a task that begins twice", []impl.Event{begins(0, 0), begins(0, 0)}},
		{"a task that begins twice, later", []impl.Event{begins(0, 0), begins(2, 0)}},
		{"a task that begins again when it is over", []impl.Event{begins(0, 0), ends(3, 0), begins(3, 0)}},
		{"a task that is over twice", []impl.Event{begins(0, 0), ends(3, 0), ends(3, 0)}},
		{"a task that is over twice, later", []impl.Event{begins(0, 0), ends(3, 0), ends(6, 0)}},
		{"a task that is over without having begun", []impl.Event{ends(3, 0)}},
		{"a task that is over when others have begun", []impl.Event{begins(0, 2), ends(2, 0)}},
		{"a task that is over at 0", []impl.Event{ends(0, 0)}},
		{"an end 1 too early", []impl.Event{begins(5, 0), ends(7, 0)}},
		{"an end 1 too late", []impl.Event{begins(5, 0), ends(9, 0)}},
		{"an end at once", []impl.Event{begins(3, 0), ends(3, 0)}},
		{"an end by the time of another task", []impl.Event{begins(0, 0), begins(0, 2), ends(2, 0)}},
		{"a need that has not begun", []impl.Event{begins(0, 1)}},
		{"a need that is not over", []impl.Event{begins(0, 0), begins(3, 1)}},
		{"a need that is over at the same time, behind it", []impl.Event{begins(0, 0), begins(3, 1), ends(3, 0)}},
		{"one need that is not over", []impl.Event{begins(0, 0), ends(3, 0), begins(3, 1), ends(7, 1), begins(7, 3)}},
		{"the other need that is not over", []impl.Event{begins(0, 2), ends(2, 2), begins(2, 3)}},
		{"a task before the first one", []impl.Event{begins(0, -1)}},
		{"a task behind the last one", []impl.Event{begins(0, 4)}},
		{"a task that is over behind the last one", []impl.Event{begins(0, 0), ends(3, 4)}},
		{"a task that is far away", []impl.Event{begins(0, far)}},
		{"a task that is far away", []impl.Event{begins(0, -far), ends(3, -far)}},
		{"a task that is far away", []impl.Event{begins(0, 64)}},
		{"too many events", make([]impl.Event, 17)},
		{"too many events", make([]impl.Event, 5000)},
	} {
		r := record{kitchen(), x.log}
		if r.validByPlaces() {
			t.Errorf("%s: the test takes it for valid", x.what)
		}
		checkNoLog(t, r)
	}
}

// TestLimitOfLogs has twice MaxTasks events, and one more.
func TestLimitOfLogs(t *testing.T) {
	g := withoutNeeds(chainOf(impl.MaxTasks, impl.MaxTime))
	log := []impl.Event{}
	for at := range g {
		log = append(log, begins(180, at))
	}
	for at := range g {
		log = append(log, ends(200, impl.MaxTasks-1-at))
	}
	r := record{g, log}
	if len(log) != 16 || !r.valid() || r.busy() != 160 || r.most() != 8 || !same(r.done(200), allOf(8)...) || len(r.done(199)) != 0 {
		t.Errorf("ValidLog, BusyTime, MostTogether of 16 events = %v, %d, %d", r.valid(), r.busy(), r.most())
	}
	for _, e := range []impl.Event{ends(200, 0), ends(200, 7), begins(200, 0), begins(200, 8), {}} {
		checkNoLog(t, r.withLog(withEvents(log, e)))
		checkNoLog(t, r.withLog(append([]impl.Event{e}, log...)))
	}
	// As many events are too many for fewer tasks, since each one has two.
	checkNoLog(t, record{g[:7], log})
}

// TestSampleLogOf has several events at one time.
func TestSampleLogOf(t *testing.T) {
	g := []impl.Task{needing(2, 3), needing(4), needing(1), needing(3), needing(1, 3), needing(6)}
	table := timetable{shop{g, narrowRoom(), 4}, []int{3, 0, 3, 0, 4, 6}}
	want := []impl.Event{
		begins(0, 1), begins(0, 3),
		ends(3, 3), begins(3, 0), begins(3, 2),
		ends(4, 1), ends(4, 2), begins(4, 4),
		ends(5, 0), ends(5, 4),
		begins(6, 5), ends(12, 5),
	}
	if log := table.log(); !sameLogs(log, want) {
		t.Errorf("LogOf = %v", log)
	}
	// All tasks are over at the same time, or begin at the same time.
	free := []impl.Task{needing(1), needing(2), needing(3), needing(4)}
	table = timetable{shop{free, narrowRoom(), 4}, []int{3, 2, 1, 0}}
	want = []impl.Event{begins(0, 3), begins(1, 2), begins(2, 1), begins(3, 0), ends(4, 0), ends(4, 1), ends(4, 2), ends(4, 3)}
	if log := table.log(); !sameLogs(log, want) || impl.MostTogether(free, log) != 4 {
		t.Errorf("LogOf = %v", log)
	}
	table = timetable{shop{free, narrowRoom(), 4}, []int{0, 0, 0, 0}}
	want = []impl.Event{begins(0, 0), begins(0, 1), begins(0, 2), begins(0, 3), ends(1, 0), ends(2, 1), ends(3, 2), ends(4, 3)}
	if log := table.log(); !sameLogs(log, want) || impl.MostTogether(free, log) != 4 {
		t.Errorf("LogOf = %v", log)
	}
	// One begins when another one ends.
	table = timetable{shop{free, narrowRoom(), 1}, []int{9, 7, 4, 0}}
	want = []impl.Event{begins(0, 3), ends(4, 3), begins(4, 2), ends(7, 2), begins(7, 1), ends(9, 1), begins(9, 0), ends(10, 0)}
	if log := table.log(); !sameLogs(log, want) || impl.MostTogether(free, log) != 1 {
		t.Errorf("LogOf = %v", log)
	}
}

// TestLateLogs has tasks that begin up to MaxClock: their log is told, but is not
// valid if it goes on behind it.
func TestLateLogs(t *testing.T) {
	table := timetable{shop{[]impl.Task{needing(20), needing(1, 0)}, narrowRoom(), 1}, []int{180, 200}}
	want := []impl.Event{begins(180, 0), ends(200, 0), begins(200, 1), ends(201, 1)}
	log := table.log()
	if !sameLogs(log, want) || impl.ValidLog(table.g, log) || !impl.ValidLog(table.g, want[:3]) {
		t.Errorf("LogOf = %v", log)
	}
	checkNoLog(t, record{table.g, log})
	table = timetable{shop{[]impl.Task{needing(20), needing(20)}, narrowRoom(), 2}, []int{200, 200}}
	want = []impl.Event{begins(200, 0), begins(200, 1), ends(220, 0), ends(220, 1)}
	if log = table.log(); !sameLogs(log, want) || impl.ValidLog(table.g, log) {
		t.Errorf("LogOf = %v", log)
	}
	// What begins at MaxClock minus MaxTime is always over at MaxClock.
	table.start = []int{180, 180}
	if log = table.log(); !impl.ValidLog(table.g, log) || !same(impl.DoneBy(table.g, log, 200), 0, 1) {
		t.Errorf("LogOf = %v", log)
	}
}

func TestNoTasksHaveNoEvents(t *testing.T) {
	for _, g := range [][]impl.Task{nil, {}} {
		if log := impl.LogOf(g, wideRoom(), 1, nil); len(log) != 0 {
			t.Errorf("LogOf no tasks = %v", log)
		}
		for _, log := range [][]impl.Event{nil, {}} {
			r := record{g, log}
			if !r.valid() || len(r.done(0)) != 0 || len(r.done(200)) != 0 || r.busy() != 0 || r.most() != 0 {
				t.Errorf("ValidLog, BusyTime, MostTogether of no tasks = %v, %d, %d", r.valid(), r.busy(), r.most())
			}
		}
		checkNoLog(t, record{g, []impl.Event{begins(0, 0)}})
		checkNoLog(t, record{g, []impl.Event{begins(0, -1)}})
	}
}

// checkLogsBehind checks all logs that go on behind a valid one, up to a time. Each
// task begins once, and is over once: the logs end.
func checkLogsBehind(t *testing.T, r record, latest int) {
	for at := -1; at <= latest; at++ {
		for task := -1; task <= len(r.g); task++ {
			for _, e := range []impl.Event{begins(at, task), ends(at, task)} {
				next := r.withLog(withEvents(r.log, e))
				checkLog(t, next)
				if next.validByPlaces() {
					checkLogsBehind(t, next, latest)
				}
			}
		}
	}
}

func TestShortLogsByPlaces(t *testing.T) {
	for _, g := range smallGraphs() {
		if len(g) <= 2 && !anyNeedsItself(g) {
			checkLogsBehind(t, record{g: g}, 4)
		}
	}
}

func TestLogsByPlaces(t *testing.T) {
	for _, r := range records() {
		checkLog(t, r)
	}
}

// changedLog returns a log with a change at a place.
func changedLog(d *dice, log []impl.Event, place int) []impl.Event {
	changed := withEvents(log)
	e := changed[place]
	switch d.below(7) {
	case 0:
		changed[place].At = e.At + 1
	case 1:
		changed[place].At = e.At - 1
	case 2:
		changed[place].Over = !e.Over
	case 3:
		changed[place].Task = d.below(impl.MaxTasks+2) - 1
	case 4:
		return append(withEvents(log[:place]), log[place+1:]...)
	case 5:
		return append(withEvents(log[:place], e), log[place:]...)
	default:
		other := d.below(len(log))
		changed[place] = changed[other]
		changed[other] = e
	}
	return changed
}

func TestChangedLogsByPlaces(t *testing.T) {
	d := &dice{state: 97}
	valid := 0
	wrong := 0
	for _, r := range records() {
		for i := 0; i < 3 && len(r.log) > 0; i++ {
			changed := r.withLog(changedLog(d, r.log, d.below(len(r.log))))
			checkLog(t, changed)
			if changed.validByPlaces() {
				valid++
			} else {
				wrong++
			}
		}
	}
	if valid < 1000 || wrong < 1000 {
		t.Errorf("only %d changed logs are valid, and %d are not", valid, wrong)
	}
}

func TestLogOfByRanks(t *testing.T) {
	for _, table := range lateTimetables() {
		if log := table.log(); !sameLogs(log, table.logByRanks()) {
			t.Errorf("LogOf(%v) = %v, not %v", table, log, table.logByRanks())
		}
	}
}

func TestLogsRefuseGraphs(t *testing.T) {
	for _, g := range append(wrongGraphs(), loopedGraphs()...) {
		for _, log := range [][]impl.Event{nil, {begins(0, 0)}, {begins(0, 0), begins(1, 1)}, {begins(0, 1), ends(1, 1)}} {
			checkNoLog(t, record{g, log})
		}
	}
}

// TestLogOfRefusesWhatIsNotValid has graphs, rooms, workers, and beginnings that are
// not valid.
func TestLogOfRefusesWhatIsNotValid(t *testing.T) {
	const far = 1 << 62
	for _, g := range append(wrongGraphs(), loopedGraphs()...) {
		checkNoStarts(t, shop{g, wideRoom(), impl.MaxWorkers}, make([]int, len(g)))
		checkNoStarts(t, shop{g, wideRoom(), impl.MaxWorkers}, nil)
	}
	g := sample()
	start := inTurn(g, readyOneByOne(g))
	if log := (timetable{shop{g, narrowRoom(), 1}, start}).log(); len(log) != 12 {
		t.Errorf("LogOf = %v", log)
	}
	for _, room := range wrongRooms() {
		checkNoStarts(t, shop{g, room, 1}, start)
	}
	for _, workers := range []int{0, -1, impl.MaxWorkers + 1, far, -far} {
		checkNoStarts(t, shop{g, narrowRoom(), workers}, start)
	}
	s := shop{g, narrowRoom(), 1}
	checkNoStarts(t, s, nil)
	checkNoStarts(t, s, start[1:])
	checkNoStarts(t, s, with(start, 100))
	checkNoStarts(t, s, make([]int, 5000))
	for at := range start {
		for _, strange := range []int{-1, 201, far, -far, 2*far - 1, -2 * far} {
			wrong := with(start)
			wrong[at] = strange
			checkNoStarts(t, s, wrong)
		}
	}
}

// TestEventsStay has events behind the end of the log, which would go on with it, or
// not: they are not looked at, and nothing is written into them.
func TestEventsStay(t *testing.T) {
	for _, r := range records() {
		all := withEvents(r.log, begins(200, 0), begins(200, 0), begins(200, 1), begins(200, 2))
		expected := withEvents(all)
		for events := len(r.log); events <= len(r.log)+2; events++ {
			given := r.withLog(all[:events])
			checkLog(t, given)
			done := given.done(200)
			for i := range done {
				done[i] = mark
			}
			_ = append(done, mark)
		}
		if !sameLogs(all, expected) {
			t.Errorf("a function writes into %v, or answers with its memory", r)
		}
	}
}

// TestLogsAreNewMemory writes over logs, and behind their ends.
func TestLogsAreNewMemory(t *testing.T) {
	for _, table := range timetables() {
		log := table.log()
		other := table.log()
		for place := range log {
			log[place] = begins(mark, mark)
		}
		_ = append(log, begins(mark, mark), begins(mark, mark))
		if !sameLogs(other, table.logByRanks()) || !sameLogs(table.log(), other) {
			t.Errorf("LogOf(%v) is kept between calls", table)
		}
	}
}

func TestP80LogsHaveBeginnings(t *testing.T) {
	for _, r := range records() {
		for events := len(r.log) - 1; events >= 0; events-- {
			if !r.withLog(r.log[:events]).valid() {
				t.Errorf("ValidLog(%v) of %d events = false", r, events)
			}
		}
	}
}

func TestP81TasksBeginOnce(t *testing.T) {
	for _, r := range records() {
		if len(r.log) == 0 {
			continue
		}
		checkNoLog(t, r.withLog(withEvents(r.log, r.log[0])))
		// A time that does not fall makes it no better.
		again := r.log[0]
		again.At = r.end()
		checkNoLog(t, r.withLog(withEvents(r.log, again)))
	}
}

func TestP82SchedulesHaveLogs(t *testing.T) {
	behind := 0
	for _, table := range lateTimetables() {
		log := table.log()
		if len(log) != 2*len(table.g) {
			t.Errorf("LogOf(%v) = %v", table, log)
		}
		if greatest(table.start) > impl.MaxClock-impl.MaxTime {
			table.start = later(table.start, -impl.MaxTime)
			log = table.log()
			behind++
		}
		if !impl.ValidLog(table.g, log) {
			t.Errorf("LogOf(%v) = %v", table, log)
		}
		for at := range table.g {
			if placeOfEvent(log, at, false) < 0 || placeOfEvent(log, at, true) < 0 {
				t.Errorf("LogOf(%v) = %v", table, log)
			}
		}
	}
	if behind == 0 {
		t.Error("no timetable begins behind MaxClock minus MaxTime")
	}
}

func TestP83LogsTellBeginnings(t *testing.T) {
	for _, table := range lateTimetables() {
		log := table.log()
		for at, task := range table.g {
			begin := placeOfEvent(log, at, false)
			over := placeOfEvent(log, at, true)
			if begin < 0 || over < begin || log[begin].At != table.start[at] || log[over].At != table.start[at]+task.Time {
				t.Errorf("LogOf(%v) = %v", table, log)
			}
		}
	}
}

func TestP84DoneTasksAreOver(t *testing.T) {
	for _, r := range records() {
		before := []int{}
		for now := -1; now <= r.end()+1; now++ {
			done := r.done(now)
			if !impl.ValidDone(r.g, done) || !needsNothingElse(r.g, done) || !hasAll(done, before) {
				t.Errorf("DoneBy(%v, %d) = %v", r, now, done)
			}
			before = done
		}
	}
}

func TestP85LogsAndSchedulesAgree(t *testing.T) {
	for _, table := range loggedTables() {
		log := table.log()
		for _, now := range with(table.turningTimes(), -1, impl.MaxClock+1) {
			over := []int{}
			for at, task := range table.g {
				if table.start[at]+task.Time <= now {
					over = append(over, at)
				}
			}
			if done := impl.DoneBy(table.g, log, now); !same(done, over...) {
				t.Errorf("DoneBy(LogOf(%v), %d) = %v", table, now, done)
			}
		}
	}
}

func TestP86BusyTimesAreTimesOfTasks(t *testing.T) {
	for _, r := range records() {
		if busy := r.busy(); busy != sumOfTimes(r.g, r.done(r.end())) || busy > sumOfTimes(r.g, allNumbers(r.g)) {
			t.Errorf("BusyTime(%v) = %d", r, busy)
		}
	}
	for _, table := range loggedTables() {
		if busy := impl.BusyTime(table.g, table.log()); busy != sumOfTimes(table.g, allNumbers(table.g)) {
			t.Errorf("BusyTime(LogOf(%v)) = %d", table, busy)
		}
	}
}

func TestP87TasksRunTogether(t *testing.T) {
	for _, r := range records() {
		if most := r.most(); most < 0 || most > len(r.g) || (most >= 1) != (len(r.log) > 0) {
			t.Errorf("MostTogether(%v) = %d", r, most)
		}
	}
}

func TestP88NoMoreTasksRunTogetherThanThereAreWorkers(t *testing.T) {
	for _, table := range loggedTables() {
		running := []int{}
		for _, now := range table.turningTimes() {
			running = append(running, len(table.running(table.start, now)))
		}
		if most := impl.MostTogether(table.g, table.log()); most > table.workers || most != greatest(running) {
			t.Errorf("MostTogether(LogOf(%v)) = %d", table, most)
		}
	}
}

func TestP166AtTheEndAllIsDone(t *testing.T) {
	for _, table := range loggedTables() {
		log := table.log()
		end := table.end(table.start)
		if done := impl.DoneBy(table.g, log, end); !same(done, allNumbers(table.g)...) {
			t.Errorf("DoneBy(LogOf(%v), %d) = %v", table, end, done)
		}
		if end > 0 && len(impl.DoneBy(table.g, log, end-1)) == len(table.g) {
			t.Errorf("DoneBy(LogOf(%v), %d) has all tasks", table, end-1)
		}
	}
}

func TestP167ShorterLogsAreLessBusy(t *testing.T) {
	for _, r := range records() {
		if len(r.log) == 0 {
			continue
		}
		last := r.log[len(r.log)-1]
		shorter := r.withLog(r.log[:len(r.log)-1]).busy()
		if shorter < 0 || shorter > r.busy() || (shorter < r.busy()) != last.Over {
			t.Errorf("BusyTime(%v) = %d, but without the last event %d", r, r.busy(), shorter)
		}
	}
}

func TestP182OneWorkerDoesOneTaskAtATime(t *testing.T) {
	for _, s := range shops() {
		one := s.withWorkers(1)
		most := impl.MostTogether(s.g, timetable{one, one.plan()}.log())
		if len(s.g) > 0 && most != 1 || len(s.g) == 0 && most != 0 {
			t.Errorf("MostTogether(LogOf(%v)) = %d", one, most)
		}
	}
}
