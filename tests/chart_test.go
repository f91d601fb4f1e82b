package tests

import (
	"strings"
	"testing"

	"loop.example/buildscheduler/impl"
)

// chart calls ChartLines.
func (table timetable) chart() []string {
	return impl.ChartLines(table.g, table.room, table.workers, table.start)
}

// chartByTimes returns the lines of a chart, by looking at each time.
func (table timetable) chartByTimes() []string {
	lines := []string{}
	for at, task := range table.g {
		line := ""
		for now := 0; now < table.start[at]+task.Time; now++ {
			if has(runningByTimes(table.g, table.start, []int{at}, now), at) {
				line += "#"
			} else {
				line += "."
			}
		}
		lines = append(lines, line)
	}
	return lines
}

// sameLines reports whether there are exactly some lines.
func sameLines(lines []string, want ...string) bool {
	if len(lines) != len(want) {
		return false
	}
	for i := range lines {
		if lines[i] != want[i] {
			return false
		}
	}
	return true
}

func TestSampleCharts(t *testing.T) {
	points := strings.Repeat(".", 200)
	signs := strings.Repeat("#", 20)
	for _, x := range []struct {
		g     []impl.Task
		start []int
		want  []string
	}{
		{nil, nil, nil},
		{[]impl.Task{}, []int{}, nil},
		// One task, at 0, and behind it.
		{[]impl.Task{needing(1)}, []int{0}, []string{"#"}},
		{[]impl.Task{needing(1)}, []int{1}, []string{".#"}},
		{[]impl.Task{needing(3)}, []int{2}, []string{"..###"}},
		{[]impl.Task{needing(20)}, []int{0}, []string{signs}},
		// The last time at which a task can begin.
		{[]impl.Task{needing(20)}, []int{200}, []string{points + signs}},
		{[]impl.Task{needing(1), needing(1)}, []int{0, 199}, []string{"#", points[:199] + "#"}},
		// Several tasks, also such that begin before those with smaller numbers.
		{[]impl.Task{needing(2), needing(2)}, []int{0, 0}, []string{"##", "##"}},
		{[]impl.Task{needing(1), needing(4), needing(2)}, []int{5, 1, 0}, []string{".....#", ".####", "##"}},
		{[]impl.Task{needing(3), needing(4, 0), needing(2), needing(5, 1, 2)}, []int{0, 3, 0, 7}, []string{"###", "...####", "##", ".......#####"}},
		{[]impl.Task{needing(2, 1), needing(3)}, []int{4, 0}, []string{"....##", "###"}},
	} {
		table := timetable{shop{x.g, narrowRoom(), 3}, x.start}
		if lines := table.chart(); !sameLines(lines, x.want...) {
			t.Errorf("ChartLines(%v) = %q, not %q", table, lines, x.want)
		}
	}
}

func TestChartsByTimes(t *testing.T) {
	for _, table := range lateTimetables() {
		if lines := table.chart(); !sameLines(lines, table.chartByTimes()...) {
			t.Errorf("ChartLines(%v) = %q, not %q", table, lines, table.chartByTimes())
		}
	}
}

// checkNoChart checks the fixed result for beginnings that are not valid.
func checkNoChart(t *testing.T, s shop, start []int) {
	table := timetable{s, start}
	if lines := table.chart(); len(lines) != 0 {
		t.Errorf("ChartLines(%v) = %q", table, lines)
	}
}

func TestChartsRefuseGraphs(t *testing.T) {
	for _, g := range append(wrongGraphs(), loopedGraphs()...) {
		s := shop{g, wideRoom(), impl.MaxWorkers}
		checkNoChart(t, s, inTurn(g, allNumbers(g)))
		checkNoChart(t, s, make([]int, len(g)))
		checkNoChart(t, s, nil)
	}
}

func TestChartsRefuseRoomsAndWorkers(t *testing.T) {
	const far = 1 << 62
	for _, g := range [][]impl.Task{nil, {needing(1)}, sample(), workshop(), crowd(2, 1)} {
		start := inTurn(g, readyOneByOne(g))
		for _, room := range wrongRooms() {
			checkNoChart(t, shop{g, room, 1}, start)
		}
		for _, workers := range []int{0, -1, impl.MaxWorkers + 1, far, -far} {
			checkNoChart(t, shop{g, wideRoom(), workers}, start)
		}
	}
}

func TestChartsRefuseBeginnings(t *testing.T) {
	const far = 1 << 62
	for _, g := range [][]impl.Task{{needing(1)}, sample(), forked(), workshop()} {
		s := shop{g, narrowRoom(), 2}
		start := s.planByTimes()
		checkNoChart(t, s, nil)
		checkNoChart(t, s, with(start, 0))
		checkNoChart(t, s, start[1:])
		checkNoChart(t, s, make([]int, 5000))
		for at := range start {
			for _, strange := range []int{-1, impl.MaxClock + 1, far, -far, 2*far - 1, -2 * far} {
				wrong := with(start)
				wrong[at] = strange
				checkNoChart(t, s, wrong)
			}
		}
	}
	checkNoChart(t, shop{nil, wideRoom(), 1}, []int{0})
	// A worker less, a need that is not over, and a pool that is too small.
	s := shop{sample(), narrowRoom(), 2}
	checkNoChart(t, s.withWorkers(1), s.planByTimes())
	checkNoChart(t, s, make([]int, len(s.g)))
	checkNoChart(t, shop{crowd(1, 4), narrowRoom(), 4}, make([]int, len(crowd(1, 4))))
	checkNoChart(t, shop{chainOf(2, 3), narrowRoom(), 2}, []int{0, 2})
}

// TestChartsAreNewMemory writes over lines, and behind their end.
func TestChartsAreNewMemory(t *testing.T) {
	for _, table := range timetables() {
		lines := table.chart()
		other := table.chart()
		for at := range lines {
			lines[at] = "over"
		}
		_ = append(lines, "behind")
		if !sameLines(other, table.chartByTimes()...) || !sameLines(table.chart(), other...) {
			t.Errorf("ChartLines(%v) is kept between calls", table)
		}
	}
}

func TestP113ChartsShowTimes(t *testing.T) {
	begins := 0
	for _, table := range lateTimetables() {
		lines := table.chart()
		if len(lines) != len(table.g) {
			t.Fatalf("ChartLines(%v) = %q", table, lines)
		}
		for at, line := range lines {
			points := strings.Count(line, ".")
			signs := strings.Count(line, "#")
			if points != table.start[at] || signs != table.g[at].Time || len(line) != points+signs || strings.Contains(line, "#.") {
				t.Errorf("ChartLines(%v) = %q", table, lines)
			}
			if points == 0 {
				begins++
			}
		}
	}
	if begins == 0 {
		t.Error("no task begins at 0")
	}
}

func TestP178ChartsShowWhatRuns(t *testing.T) {
	for _, table := range timetables() {
		lines := table.chart()
		for now := 0; now <= endByTimes(table.g, table.start); now++ {
			signs := 0
			for _, line := range lines {
				if now < len(line) && line[now] == '#' {
					signs++
				}
			}
			if signs != len(table.running(table.start, now)) {
				t.Errorf("ChartLines(%v) = %q, but at %d %v run", table, lines, now, table.running(table.start, now))
			}
		}
	}
}
