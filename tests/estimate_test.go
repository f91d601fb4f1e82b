package tests

import (
	"testing"

	"loop.example/buildscheduler/impl"
)

// earlierLists returns many lists of earlier times: all short ones at the limits and
// in the middle, and drawn ones, up to MaxEarlier times.
func earlierLists() [][]int {
	lists := [][]int{nil}
	for a := 1; a <= impl.MaxTime; a++ {
		lists = append(lists, []int{a})
		for b := 1; b <= impl.MaxTime; b++ {
			lists = append(lists, []int{a, b})
			for c := 1; c <= impl.MaxTime; c += 3 {
				lists = append(lists, []int{a, b, c})
			}
		}
	}
	d := &dice{state: 101}
	for i := 0; i < 3000; i++ {
		list := []int{}
		most := d.below(impl.MaxTime) + 1
		for n := i % (impl.MaxEarlier + 1); n > 0; n-- {
			list = append(list, d.below(most)+1)
		}
		lists = append(lists, list)
	}
	return lists
}

// wrongEarlier returns lists that have no earlier times: too many, and such with a
// wrong time at each place.
func wrongEarlier() [][]int {
	lists := [][]int{timesAlike(impl.MaxEarlier+1, 5), timesAlike(impl.MaxEarlier+2, 5), timesAlike(5000, 5)}
	for _, wrong := range strangeTimes() {
		for n := 1; n <= impl.MaxEarlier; n++ {
			for place := 0; place < n; place++ {
				list := timesAlike(n, 5)
				list[place] = wrong
				lists = append(lists, list)
			}
		}
	}
	return lists
}

// timesAlike returns as many times that are all the same.
func timesAlike(n int, time int) []int {
	list := []int{}
	for len(list) < n {
		list = append(list, time)
	}
	return list
}

// estimateByCounting returns the least time that is, as often as there are times,
// enough for all of them, if each one comes as often as its place tells.
func estimateByCounting(list []int) int {
	if len(list) == 0 {
		return 20
	}
	all := []int{}
	for place, time := range list {
		all = append(all, timesAlike(place+1, time)...)
	}
	sum := 0
	for _, time := range all {
		sum += time
	}
	estimate := 0
	for estimate*len(all) < sum {
		estimate++
	}
	return estimate
}

// leftByChains returns the longest chain of tasks that are not done.
func leftByChains(g []impl.Task, done []int) int {
	tails := []int{}
	for _, at := range without(allNumbers(g), done) {
		tails = append(tails, tailByChains(g, at))
	}
	return greatest(tails)
}

// progressByCounting returns the greatest number of thousandth parts of all times
// that are not more than those of the tasks that are done.
func progressByCounting(g []impl.Task, done []int) int {
	all := sumOfTimes(g, allNumbers(g))
	progress := 0
	for progress < 1000 && (progress+1)*all <= 1000*sumOfTimes(g, done) {
		progress++
	}
	return progress
}

func TestSampleEstimates(t *testing.T) {
	for _, x := range []struct {
		list []int
		want int
	}{
		{nil, 20}, {[]int{}, 20},
		// One time is the estimate, also at the limits.
		{[]int{1}, 1}, {[]int{7}, 7}, {[]int{20}, 20},
		// 24 divided by 3 is whole, and 22, 23 and 25 are rounded up.
		{[]int{4, 10}, 8}, {[]int{2, 10}, 8}, {[]int{3, 10}, 8}, {[]int{5, 10}, 9}, {[]int{10, 4}, 6},
		{[]int{1, 2}, 2}, {[]int{2, 1}, 2}, {[]int{1, 1}, 1},
		// 14 divided by 6, 10 divided by 6, and 12 divided by 6.
		{[]int{1, 2, 3}, 3}, {[]int{3, 2, 1}, 2}, {[]int{4, 1, 2}, 2},
		{[]int{1, 1, 1, 1, 1, 1}, 1}, {[]int{20, 20, 20, 20, 20, 20}, 20},
		// 91 divided by 21, and 56 divided by 21.
		{[]int{1, 2, 3, 4, 5, 6}, 5}, {[]int{6, 5, 4, 3, 2, 1}, 3},
		// 40, 22, 123 and 129 divided by 21, and 63 divided by 21, which is whole.
		{[]int{20, 1, 1, 1, 1, 1}, 2}, {[]int{2, 1, 1, 1, 1, 1}, 2}, {[]int{1, 1, 1, 1, 1, 18}, 6}, {[]int{1, 1, 1, 1, 1, 19}, 7},
		{[]int{2, 2, 3, 2, 2, 5}, 3},
	} {
		if got := impl.EstimateOf(x.list); got != x.want {
			t.Errorf("EstimateOf(%v) = %d, not %d", x.list, got, x.want)
		}
	}
}

func TestSampleAddTime(t *testing.T) {
	for _, x := range []struct {
		list []int
		time int
		want []int
	}{
		{nil, 1, []int{1}}, {[]int{}, 20, []int{20}}, {[]int{3}, 5, []int{3, 5}}, {[]int{20}, 1, []int{20, 1}},
		{[]int{1, 2, 3, 4}, 5, []int{1, 2, 3, 4, 5}},
		{[]int{1, 2, 3, 4, 5}, 6, []int{1, 2, 3, 4, 5, 6}},
		{[]int{1, 2, 3, 4, 5, 6}, 7, []int{2, 3, 4, 5, 6, 7}},
		{[]int{6, 6, 6, 6, 6, 6}, 6, []int{6, 6, 6, 6, 6, 6}},
	} {
		if got, ok := impl.AddTime(x.list, x.time); !ok || !same(got, x.want...) {
			t.Errorf("AddTime(%v, %d) = %v, %v", x.list, x.time, got, ok)
		}
	}
}

func TestEstimatesByCounting(t *testing.T) {
	for _, list := range earlierLists() {
		if got := impl.EstimateOf(list); got != estimateByCounting(list) {
			t.Errorf("EstimateOf(%v) = %d, not %d", list, got, estimateByCounting(list))
		}
	}
}

// checkNoEstimate checks the fixed results for lists that have no earlier times.
func checkNoEstimate(t *testing.T, list []int) {
	if estimate := impl.EstimateOf(list); estimate != -1 {
		t.Errorf("EstimateOf(%v) = %d", list, estimate)
	}
	for _, time := range append(strangeTimes(), 1, 5, impl.MaxTime) {
		checkNoTime(t, list, time)
	}
}

// checkNoTime checks the fixed results for times that are not added.
func checkNoTime(t *testing.T, list []int, time int) {
	if times, ok := impl.AddTime(list, time); ok || len(times) != 0 {
		t.Errorf("AddTime(%v, %d) = %v, %v", list, time, times, ok)
	}
}

func TestEstimatesRefuseTimes(t *testing.T) {
	for _, list := range wrongEarlier() {
		checkNoEstimate(t, list)
	}
	for _, list := range earlierLists() {
		for _, wrong := range strangeTimes() {
			checkNoTime(t, list, wrong)
		}
	}
	for _, wrong := range []int{0, impl.MaxTime + 1} {
		checkNoEstimate(t, []int{wrong})
		checkNoTime(t, nil, wrong)
	}
}

// TestLimitOfEarlierTimes has MaxEarlier times, and one more.
func TestLimitOfEarlierTimes(t *testing.T) {
	for time := 1; time <= impl.MaxTime; time++ {
		most := timesAlike(impl.MaxEarlier, time)
		if got, ok := impl.AddTime(most, 3); impl.EstimateOf(most) != time || !ok || !same(got, with(most[1:], 3)...) {
			t.Errorf("EstimateOf, AddTime(%v) = %d, %v", most, impl.EstimateOf(most), got)
		}
		checkNoEstimate(t, with(most, time))
	}
}

// TestEarlierTimesStay has times behind the end of the list: they are not looked at,
// nothing is written over them, and the answer is other memory.
func TestEarlierTimesStay(t *testing.T) {
	for _, list := range append(earlierLists(), wrongEarlier()...) {
		all := with(list, 9, mark, mark)
		expected := with(all)
		given := all[:len(list)]
		estimate := impl.EstimateOf(given)
		times, _ := impl.AddTime(given, 4)
		wanted, _ := impl.AddTime(with(list), 4)
		if estimate != impl.EstimateOf(with(list)) || !same(times, wanted...) {
			t.Errorf("times behind %v are looked at", list)
		}
		for i := range times {
			times[i] = mark
		}
		_ = append(times, mark)
		if !same(all, expected...) {
			t.Errorf("a function writes into %v, or answers with its memory", list)
		}
		if again, _ := impl.AddTime(given, 4); !same(again, wanted...) {
			t.Errorf("AddTime(%v, 4) is kept between calls", list)
		}
	}
}

func TestSampleProgress(t *testing.T) {
	// The times are 3, 4, 2, 5, and the tails 12, 9, 7, 5.
	g := kitchen()
	for _, x := range []struct {
		done     []int
		left     int
		progress int
	}{
		{nil, 12, 0}, {[]int{}, 12, 0}, {[]int{0}, 9, 214}, {[]int{2}, 12, 142}, {[]int{0, 2}, 9, 357},
		{[]int{0, 1}, 7, 500}, {[]int{0, 1, 2}, 5, 642}, {[]int{0, 1, 2, 3}, 0, 1000},
	} {
		if left, progress := impl.TimeLeft(g, x.done), impl.ProgressOf(g, x.done); left != x.left || progress != x.progress {
			t.Errorf("TimeLeft, ProgressOf(%v) = %d, %d", x.done, left, progress)
		}
	}
	// The ready task with the greatest tail is not the one with the greatest number,
	// nor the one with the greatest time.
	if left := impl.TimeLeft(sample(), []int{4}); left != 8 {
		t.Errorf("TimeLeft = %d", left)
	}
	if left := impl.TimeLeft(sample(), []int{1, 4}); left != 8 {
		t.Errorf("TimeLeft = %d", left)
	}
	if left := impl.TimeLeft(sample(), []int{0, 1, 2, 3, 4}); left != 6 {
		t.Errorf("TimeLeft = %d", left)
	}
}

// TestLimitsOfProgress has the longest times, and parts that are next to nothing and
// to everything.
func TestLimitsOfProgress(t *testing.T) {
	g := chainOf(impl.MaxTasks, impl.MaxTime)
	for n := 0; n <= impl.MaxTasks; n++ {
		if left, progress := impl.TimeLeft(g, allOf(n)), impl.ProgressOf(g, allOf(n)); left != (8-n)*20 || progress != n*125 {
			t.Errorf("TimeLeft, ProgressOf(%d tasks) = %d, %d", n, left, progress)
		}
	}
	// 1 of 141, and 140 of 141.
	g = withTime(withoutNeeds(g), 3, 1)
	if left, progress := impl.TimeLeft(g, []int{3}), impl.ProgressOf(g, []int{3}); left != 20 || progress != 7 {
		t.Errorf("TimeLeft, ProgressOf = %d, %d", left, progress)
	}
	rest := []int{0, 1, 2, 4, 5, 6, 7}
	if left, progress := impl.TimeLeft(g, rest), impl.ProgressOf(g, rest); left != 1 || progress != 992 {
		t.Errorf("TimeLeft, ProgressOf = %d, %d", left, progress)
	}
}

func TestProgressByCounting(t *testing.T) {
	for _, g := range validGraphs() {
		for _, done := range subsets(len(g)) {
			if !needsNothingElse(g, done) {
				checkNothingIsReady(t, g, done)
				continue
			}
			if left := impl.TimeLeft(g, done); left != leftByChains(g, done) {
				t.Errorf("TimeLeft(%v, %v) = %d", g, done, left)
			}
			if progress := impl.ProgressOf(g, done); len(g) > 0 && progress != progressByCounting(g, done) {
				t.Errorf("ProgressOf(%v, %v) = %d", g, done, progress)
			}
		}
	}
}

func TestNoTasksAreAllDone(t *testing.T) {
	for _, g := range [][]impl.Task{nil, {}} {
		for _, done := range [][]int{nil, {}} {
			if left, progress := impl.TimeLeft(g, done), impl.ProgressOf(g, done); left != 0 || progress != 1000 {
				t.Errorf("TimeLeft, ProgressOf no tasks = %d, %d", left, progress)
			}
		}
		checkNothingIsReady(t, g, []int{0})
		checkNothingIsReady(t, g, []int{-1})
	}
}

// TestProgressRefusesWhatIsNotValid has graphs, and done tasks, that are not valid.
func TestProgressRefusesWhatIsNotValid(t *testing.T) {
	for _, g := range append(wrongGraphs(), loopedGraphs()...) {
		checkNothingIsReady(t, g, nil)
		checkNothingIsReady(t, g, []int{0})
	}
	for _, g := range [][]impl.Task{kitchen(), sample(), chainOf(2, 1)} {
		for _, done := range wrongNumbers(len(g)) {
			checkNothingIsReady(t, g, done)
		}
	}
	for _, done := range [][]int{{1}, {3}, {1, 2}, {0, 3}, {0, 1, 3}, {0, 2, 3}, {0, 1, 2, 3, 4}} {
		checkNothingIsReady(t, kitchen(), done)
	}
}

func TestP89EstimatesAreBetween(t *testing.T) {
	for _, list := range earlierLists() {
		estimate := impl.EstimateOf(list)
		if len(list) == 0 {
			if estimate != impl.MaxTime {
				t.Errorf("EstimateOf no times = %d", estimate)
			}
			continue
		}
		if !anyAtMost(list, estimate) || estimate > greatest(list) {
			t.Errorf("EstimateOf(%v) = %d", list, estimate)
		}
	}
}

// anyAtMost reports whether a number of a list is at most another one.
func anyAtMost(list []int, most int) bool {
	for _, n := range list {
		if n <= most {
			return true
		}
	}
	return false
}

func TestP90LaterTimesCountMore(t *testing.T) {
	more := 0
	for a := 1; a <= impl.MaxTime; a++ {
		for b := 1; b <= impl.MaxTime; b++ {
			estimate := impl.EstimateOf([]int{a, b})
			// Three times the estimate is the sum, or at most 2 more.
			above := 3*estimate - (a + b + b)
			if above < 0 || above > 2 {
				t.Errorf("EstimateOf(%d, %d) = %d", a, b, estimate)
			}
			if estimate != impl.EstimateOf([]int{b, a}) {
				more++
			}
		}
	}
	if more == 0 {
		t.Error("the order of times does not matter")
	}
}

func TestP91TimesAreLast(t *testing.T) {
	for _, list := range earlierLists() {
		for time := 1; time <= impl.MaxTime; time++ {
			times, ok := impl.AddTime(list, time)
			kept := len(times) - 1
			if !ok || kept < 0 || len(times) > impl.MaxEarlier || times[kept] != time || impl.EstimateOf(times) < 1 {
				t.Fatalf("AddTime(%v, %d) = %v, %v", list, time, times, ok)
			}
			if !same(times[:kept], list[len(list)-kept:]...) || kept < len(list) && len(list) < impl.MaxEarlier {
				t.Errorf("AddTime(%v, %d) = %v", list, time, times)
			}
		}
	}
}

func TestP92OldTimesAreForgotten(t *testing.T) {
	for _, list := range earlierLists() {
		for _, time := range []int{1, 2, 7, impl.MaxTime} {
			times := list
			for i := 0; i < impl.MaxEarlier; i++ {
				more, ok := impl.AddTime(times, time)
				if !ok {
					t.Errorf("AddTime(%v, %d) fails", times, time)
				}
				times = more
			}
			if !same(times, timesAlike(impl.MaxEarlier, time)...) || impl.EstimateOf(times) != time {
				t.Errorf("AddTime(%v, %d), again and again, = %v", list, time, times)
			}
		}
	}
}

func TestP93TimeThatIsLeftBecomesLess(t *testing.T) {
	less := 0
	for _, g := range validGraphs() {
		if impl.TimeLeft(g, nil) != impl.LongestTime(g) || impl.TimeLeft(g, allNumbers(g)) != 0 {
			t.Errorf("TimeLeft(%v) at first, and at the end = %d, %d", g, impl.TimeLeft(g, nil), impl.TimeLeft(g, allNumbers(g)))
		}
		for _, done := range doneLists(g) {
			left := impl.TimeLeft(g, done)
			for _, at := range impl.ReadyTasks(g, done) {
				more, _ := impl.FinishTask(g, done, at)
				behind := impl.TimeLeft(g, more)
				if behind < 0 || behind > left {
					t.Errorf("TimeLeft(%v, %v) = %d, but with %d %d", g, done, left, at, behind)
				}
				if behind < left {
					less++
				}
			}
		}
	}
	if less == 0 {
		t.Error("TimeLeft never becomes less")
	}
}

func TestP94ProgressEndsAt1000(t *testing.T) {
	for _, g := range validGraphs() {
		for _, done := range doneLists(g) {
			progress := impl.ProgressOf(g, done)
			if progress < 0 || progress > 1000 || (progress == 1000) != (len(done) == len(g)) {
				t.Errorf("ProgressOf(%v, %v) = %d", g, done, progress)
			}
			if len(done) == 0 && len(g) > 0 && progress != 0 {
				t.Errorf("ProgressOf(%v, %v) = %d", g, done, progress)
			}
		}
	}
}

func TestP95ProgressGoesOn(t *testing.T) {
	for _, g := range validGraphs() {
		for _, done := range doneLists(g) {
			before := impl.ProgressOf(g, done)
			for _, at := range impl.ReadyTasks(g, done) {
				more, _ := impl.FinishTask(g, done, at)
				if behind := impl.ProgressOf(g, more); behind <= before {
					t.Errorf("ProgressOf(%v, %v) = %d, but with %d %d", g, done, before, at, behind)
				}
			}
		}
	}
}

func TestP130TheFirstReadyTaskIsTheLongest(t *testing.T) {
	for _, g := range validGraphs() {
		tails := impl.TailTimes(g)
		for _, done := range doneLists(g) {
			order := impl.ReadyOrder(g, done)
			if len(order) > 0 && tails[order[0]] != impl.TimeLeft(g, done) {
				t.Errorf("TimeLeft(%v, %v) = %d, but ReadyOrder = %v", g, done, impl.TimeLeft(g, done), order)
			}
			if (len(order) > 0) != (impl.TimeLeft(g, done) > 0) {
				t.Errorf("TimeLeft(%v, %v) = %d", g, done, impl.TimeLeft(g, done))
			}
		}
	}
}

func TestP168LongerTimesMakeLongerEstimates(t *testing.T) {
	longer := 0
	for _, list := range earlierLists() {
		last := len(list) - 1
		if last < 0 || list[last] == impl.MaxTime {
			continue
		}
		more := with(list[:last], list[last]+1)
		if impl.EstimateOf(more) < impl.EstimateOf(list) {
			t.Errorf("EstimateOf(%v) = %d, but with a longer time %d", list, impl.EstimateOf(list), impl.EstimateOf(more))
		}
		if impl.EstimateOf(more) > impl.EstimateOf(list) {
			longer++
		}
	}
	if longer == 0 {
		t.Error("longer times never make longer estimates")
	}
}

func TestP169AtLeastThisMuchIsLeft(t *testing.T) {
	for _, g := range validGraphs() {
		for _, done := range doneLists(g) {
			rest := sumOfTimes(g, without(allNumbers(g), done))
			if left := impl.TimeLeft(g, done); left < 0 || left > rest {
				t.Errorf("TimeLeft(%v, %v) = %d", g, done, left)
			}
		}
	}
}
