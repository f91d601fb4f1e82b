package tests

import "loop.example/buildscheduler/impl"

// same reports whether a list has exactly some numbers.
func same(list []int, n ...int) bool {
	if len(list) != len(n) {
		return false
	}
	for i := range list {
		if list[i] != n[i] {
			return false
		}
	}
	return true
}

// has reports whether a list has a number.
func has(list []int, n int) bool {
	return placeOf(list, n) >= 0
}

// placeOf returns the first place of a number in a list, -1 if it is not there.
func placeOf(list []int, n int) int {
	for i := range list {
		if list[i] == n {
			return i
		}
	}
	return -1
}

// greatest returns the greatest number of a list, 0 if there is none above it.
func greatest(list []int) int {
	most := 0
	for _, n := range list {
		if n > most {
			most = n
		}
	}
	return most
}

// sumOfTimes returns the sum of the times of the tasks with some numbers.
func sumOfTimes(g []impl.Task, list []int) int {
	sum := 0
	for _, at := range list {
		sum += g[at].Time
	}
	return sum
}

// allNumbers returns the numbers of all tasks.
func allNumbers(g []impl.Task) []int {
	list := []int{}
	for at := range g {
		list = append(list, at)
	}
	return list
}

// sameGraphs reports whether two graphs have the same tasks.
func sameGraphs(g []impl.Task, h []impl.Task) bool {
	if len(g) != len(h) {
		return false
	}
	for i := range g {
		if g[i].Time != h[i].Time || g[i].Pool != h[i].Pool || g[i].Units != h[i].Units || !same(g[i].Needs, h[i].Needs...) {
			return false
		}
	}
	return true
}

// copyOf returns a graph with its own memory.
func copyOf(g []impl.Task) []impl.Task {
	h := []impl.Task{}
	for _, t := range g {
		t.Needs = append([]int{}, t.Needs...)
		h = append(h, t)
	}
	return h
}

// withNeeds returns the graph in which a task has other needs.
func withNeeds(g []impl.Task, at int, needs []int) []impl.Task {
	h := copyOf(g)
	h[at].Needs = needs
	return h
}

// withTime returns the graph in which a task takes another time.
func withTime(g []impl.Task, at int, time int) []impl.Task {
	h := copyOf(g)
	h[at].Time = time
	return h
}

// withoutNeeds returns the graph in which no task needs another one.
func withoutNeeds(g []impl.Task) []impl.Task {
	h := copyOf(g)
	for i := range h {
		h[i].Needs = nil
	}
	return h
}

// needing returns a task with a time and needs.
func needing(time int, needs ...int) impl.Task {
	return impl.Task{Time: time, Needs: needs, Units: 1}
}

// sample returns a graph whose tasks also need tasks behind them.
func sample() []impl.Task {
	return []impl.Task{needing(3, 4), needing(2), needing(5, 0, 1), needing(1, 1), needing(4), needing(6)}
}

// forked returns a graph of two chains that take the same, and a shorter one.
func forked() []impl.Task {
	return []impl.Task{needing(2), needing(3, 0), needing(3, 0), needing(4, 1, 2), needing(1, 0)}
}

// chainOf returns a chain of tasks with the same time.
func chainOf(n int, time int) []impl.Task {
	g := []impl.Task{}
	for i := 0; i < n; i++ {
		t := needing(time)
		if i > 0 {
			t.Needs = []int{i - 1}
		}
		g = append(g, t)
	}
	return g
}

// numberedNeeds returns the graph of n tasks whose needs are the bits of a code,
// n bits for each task, with times that are equal, rise, or fall.
func numberedNeeds(n int, code int, kind int) []impl.Task {
	g := []impl.Task{}
	for i := 0; i < n; i++ {
		t := impl.Task{Time: 2, Pool: i % impl.Pools, Units: i%impl.MaxUnits + 1}
		if kind == 1 {
			t.Time = i + 1
		}
		if kind == 2 {
			t.Time = n - i
		}
		for need := 0; need < n; need++ {
			if code>>(i*n+need)&1 == 1 {
				t.Needs = append(t.Needs, need)
			}
		}
		g = append(g, t)
	}
	return g
}

// smallGraphs returns all graphs of up to 3 tasks, also those with tasks that
// need themselves.
func smallGraphs() [][]impl.Task {
	list := [][]impl.Task{nil}
	for n := 1; n <= 3; n++ {
		for code := 0; code < 1<<(n*n); code++ {
			for kind := 0; kind < 3; kind++ {
				list = append(list, numberedNeeds(n, code, kind))
			}
		}
	}
	return list
}

// orderedGraphs returns valid graphs of 4 tasks: all whose needs stand before
// them, in both directions of counting.
func orderedGraphs() [][]impl.Task {
	list := [][]impl.Task{}
	for code := 0; code < 1<<6; code++ {
		for kind := 0; kind < 3; kind++ {
			// One bit tells what task 1 needs, two what task 2 needs, and three
			// what task 3 needs.
			needs := (code&1)<<4 | (code>>1&3)<<8 | (code>>3&7)<<12
			up := numberedNeeds(4, needs, kind)
			list = append(list, up, renumbered(up, []int{3, 2, 1, 0}), renumbered(up, []int{2, 0, 3, 1}))
		}
	}
	return list
}

// renumbered returns the graph in which each task has the number that a list
// tells for it.
func renumbered(g []impl.Task, list []int) []impl.Task {
	h := make([]impl.Task, len(g))
	for at, t := range g {
		needs := []int{}
		for i := range g {
			if has(t.Needs, placeOf(list, i)) {
				needs = append(needs, i)
			}
		}
		t.Needs = needs
		h[list[at]] = t
	}
	return h
}

// dice makes numbers that are the same in each run.
type dice struct{ state uint32 }

// below returns the next number in 0..n-1.
func (d *dice) below(n int) int {
	d.state = d.state*1664525 + 1013904223
	return int(d.state>>8) % n
}

// drawnGraph returns a valid graph of up to MaxTasks tasks.
func drawnGraph(d *dice) []impl.Task {
	n := d.below(impl.MaxTasks + 1)
	dense := d.below(4) + 1
	g := []impl.Task{}
	numbers := []int{}
	for i := 0; i < n; i++ {
		t := impl.Task{Time: d.below(impl.MaxTime) + 1, Pool: d.below(impl.Pools), Units: d.below(impl.MaxUnits) + 1}
		for need := 0; need < i; need++ {
			if d.below(5) < dense {
				t.Needs = append(t.Needs, need)
			}
		}
		g = append(g, t)
		numbers = append(numbers, i)
	}
	for i := n - 1; i > 0; i-- {
		k := d.below(i + 1)
		swapped := numbers[i]
		numbers[i] = numbers[k]
		numbers[k] = swapped
	}
	return renumbered(g, numbers)
}

// validGraphs returns many valid graphs: what counts as valid is decided here,
// and not by the program.
func validGraphs() [][]impl.Task {
	list := [][]impl.Task{sample(), forked(), chainOf(impl.MaxTasks, impl.MaxTime)}
	for _, g := range smallGraphs() {
		if !anyNeedsItself(g) {
			list = append(list, g)
		}
	}
	list = append(list, orderedGraphs()...)
	d := &dice{state: 7}
	for i := 0; i < 400; i++ {
		list = append(list, drawnGraph(d))
	}
	return list
}

// reaches returns, for each task, which tasks it needs, also by way of others.
func reaches(g []impl.Task) [][]bool {
	r := make([][]bool, len(g))
	for at, t := range g {
		r[at] = make([]bool, len(g))
		for _, need := range t.Needs {
			r[at][need] = true
		}
	}
	for by := range g {
		for from := range g {
			for to := range g {
				if r[from][by] && r[by][to] {
					r[from][to] = true
				}
			}
		}
	}
	return r
}

// anyNeedsItself reports whether a task needs itself, also by way of others.
func anyNeedsItself(g []impl.Task) bool {
	r := reaches(g)
	for at := range g {
		if r[at][at] {
			return true
		}
	}
	return false
}

// wrongGraphs returns graphs that are not valid because of what a task says, not
// because tasks need themselves. The task stands behind two that are valid.
func wrongGraphs() [][]impl.Task {
	const far = 1 << 62
	wrong := []impl.Task{
		{Time: 0, Units: 1}, {Time: -1, Units: 1}, {Time: impl.MaxTime + 1, Units: 1}, {Time: far, Units: 1}, {Time: -far, Units: 1},
		{Time: 1, Units: 0}, {Time: 1, Units: -1}, {Time: 1, Units: impl.MaxUnits + 1}, {Time: 1, Units: far}, {Time: 1, Units: -far},
		{Time: 1, Units: 1, Pool: -1}, {Time: 1, Units: 1, Pool: impl.Pools}, {Time: 1, Units: 1, Pool: far}, {Time: 1, Units: 1, Pool: -far},
		needing(1, -1), needing(1, 3), needing(1, 0, 3), needing(1, -1, 0), needing(1, far), needing(1, -far),
		needing(1, 1, 0), needing(1, 0, 0), needing(1, 0, 1, 1), needing(1, make([]int, 5000)...),
		{},
	}
	list := [][]impl.Task{chainOf(impl.MaxTasks+1, 1), withoutNeeds(chainOf(impl.MaxTasks+1, 1)), chainOf(5000, 1)}
	for _, t := range wrong {
		list = append(list, []impl.Task{needing(1), needing(2), t}, []impl.Task{t, needing(1), needing(2)})
	}
	// Tasks that need themselves besides do not make these valid.
	list = append(list, []impl.Task{needing(1, 0), needing(0)}, []impl.Task{needing(1, 1), needing(1, 0), needing(1, 3)})
	return list
}

// loopedGraphs returns graphs whose tasks need themselves, and are valid besides.
func loopedGraphs() [][]impl.Task {
	list := [][]impl.Task{
		{needing(1, 0)},
		{needing(1), needing(1, 1)},
		{needing(1, 1), needing(1, 0)},
		{needing(1, 1), needing(1, 2), needing(1, 0), needing(1)},
		{needing(1), needing(1, 0, 3), needing(1, 1), needing(1, 2), needing(1, 3)},
	}
	ring := chainOf(impl.MaxTasks, 1)
	ring[0].Needs = []int{impl.MaxTasks - 1}
	list = append(list, ring)
	for _, g := range smallGraphs() {
		if anyNeedsItself(g) {
			list = append(list, g)
		}
	}
	return list
}

// strangeNumbers returns numbers that no graph of n tasks has.
func strangeNumbers(n int) []int {
	const far = 1 << 62
	return []int{-1, n, n + 1, -2, 63, 64, 65, impl.MaxTasks, far, -far, 2*far - 1, -2 * far}
}

// subsets returns all ascending lists of numbers of n tasks.
func subsets(n int) [][]int {
	lists := [][]int{}
	for code := 0; code < 1<<n; code++ {
		list := []int{}
		for at := 0; at < n; at++ {
			if code>>at&1 == 1 {
				list = append(list, at)
			}
		}
		lists = append(lists, list)
	}
	return lists
}

// listsOf returns all lists of up to a number of numbers that are in low..high.
func listsOf(low int, high int, most int) [][]int {
	lists := [][]int{{}}
	longest := lists
	for length := 1; length <= most; length++ {
		longer := [][]int{}
		for _, list := range longest {
			for n := low; n <= high; n++ {
				longer = append(longer, with(list, n))
			}
		}
		lists = append(lists, longer...)
		longest = longer
	}
	return lists
}

// with returns a list with numbers behind it, in its own memory.
func with(list []int, n ...int) []int {
	return append(append([]int{}, list...), n...)
}

// without returns the numbers of a list that are not those of another one.
func without(list []int, others []int) []int {
	rest := []int{}
	for _, n := range list {
		if !has(others, n) {
			rest = append(rest, n)
		}
	}
	return rest
}

// ascendingOf returns a list in order, each number once.
func ascendingOf(list []int) []int {
	sorted := []int{}
	for n := 0; n <= greatest(list); n++ {
		if has(list, n) {
			sorted = append(sorted, n)
		}
	}
	return sorted
}

// wrongNumbers returns lists that are no ascending numbers of n tasks, for n from
// 2 on.
func wrongNumbers(n int) [][]int {
	lists := [][]int{{1, 0}, {0, 0}, {1, 1}, {0, 1, 1}, {0, 1, 0}, {-1, 0}, {0, -1}, {0, n}, {n, 0}, {0, 1, n}, make([]int, 5000)}
	for _, strange := range strangeNumbers(n) {
		lists = append(lists, []int{strange}, []int{0, strange}, []int{strange, 1})
	}
	return lists
}
