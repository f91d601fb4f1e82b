package tests

import (
	"testing"

	"loop.example/buildscheduler/impl"
)

// byOrder calls OrderStarts.
func (s shop) byOrder(list []int) []int {
	return impl.OrderStarts(s.g, s.room, s.workers, list)
}

// bestOrder calls BestOrder.
func (s shop) bestOrder() []int {
	return impl.BestOrder(s.g, s.room, s.workers)
}

// bestTime calls BestTime.
func (s shop) bestTime() int {
	return impl.BestTime(s.g, s.room, s.workers)
}

// searchGraphs returns valid graphs with at most MaxSearch tasks.
func searchGraphs() [][]impl.Task {
	list := [][]impl.Task{}
	for _, g := range append(validGraphs(), poolGraphs()...) {
		if len(g) <= impl.MaxSearch {
			list = append(list, g)
		}
	}
	return append(list, crowdedGraphs()...)
}

// searchShops returns shops for which orders are looked for, with each number of
// workers.
func searchShops() []shop {
	list := []shop{}
	d := &dice{state: 29}
	for _, g := range fewTasks() {
		room := drawnRoom(d)
		for workers := 1; workers <= impl.MaxWorkers; workers++ {
			list = append(list, shop{g, room, workers})
		}
	}
	return list
}

// fewTasks returns valid graphs with at most MaxSearch tasks, whose tasks are all
// of one pool or of two, and often have to wait for each other.
func fewTasks() [][]impl.Task {
	list := append([][]impl.Task{nil, forked(), chainOf(impl.MaxSearch, impl.MaxTime)}, crowdedGraphs()...)
	d := &dice{state: 31}
	for i := 0; i < 1500; i++ {
		g := drawnGraph(d)
		if len(g) > impl.MaxSearch {
			continue
		}
		pools := d.below(2) + 1
		most := d.below(impl.MaxTime) + 1
		for at := range g {
			g[at].Pool = g[at].Pool % pools
			g[at].Time = g[at].Time%most + 1
		}
		list = append(list, g)
	}
	return list
}

// ordersBehind returns all orders of all tasks that begin with those of a list, by
// the numbers of the tasks.
func ordersBehind(g []impl.Task, list []int) [][]int {
	if len(list) == len(g) {
		return [][]int{list}
	}
	orders := [][]int{}
	for _, at := range readyByNeeds(g, list) {
		orders = append(orders, ordersBehind(g, with(list, at))...)
	}
	return orders
}

// endByOrder returns when the last task is over that begins by an order.
func (s shop) endByOrder(order []int) int {
	return endByTimes(s.g, s.startsByTimes(order, make([]int, len(s.g))))
}

// bestByTimes returns the first one of the orders that are over first, and when
// this is.
func (s shop) bestByTimes() ([]int, int) {
	best := []int{}
	least := -1
	for _, order := range ordersBehind(s.g, nil) {
		end := s.endByOrder(order)
		if least < 0 || end < least {
			best = order
			least = end
		}
	}
	return best, least
}

// orderOfStarts returns the tasks in the order in which they begin, and of their
// numbers.
func orderOfStarts(start []int) []int {
	order := []int{}
	for now := 0; now <= greatest(start); now++ {
		for at := range start {
			if start[at] == now {
				order = append(order, at)
			}
		}
	}
	return order
}

func TestSampleOrders(t *testing.T) {
	g := forked()
	s := shop{g, narrowRoom(), 2}
	if start := s.byOrder([]int{0, 4, 2, 1, 3}); !same(start, 0, 3, 2, 6, 2) {
		t.Errorf("OrderStarts = %v", start)
	}
	if best := s.bestOrder(); !same(best, 0, 1, 2, 3, 4) || s.bestTime() != 9 {
		t.Errorf("BestOrder, BestTime = %v, %d", best, s.bestTime())
	}
	if impl.CountOrders(g) != 8 {
		t.Errorf("CountOrders = %d", impl.CountOrders(g))
	}
}

// TestGaps has tasks that come later in the order, but begin earlier, where they
// fit from their beginning up to their end.
func TestGaps(t *testing.T) {
	// Task 1 takes all of pool 0 when task 0 is over.
	for _, x := range []struct {
		time  int
		begin int
	}{{1, 0}, {2, 0}, {3, 7}, {20, 7}} {
		g := []impl.Task{{Time: 2, Pool: 1, Units: 1}, {Time: 5, Needs: []int{0}, Units: 4}, {Time: x.time, Units: 1}}
		if start := impl.OrderStarts(g, narrowRoom(), 4, []int{0, 1, 2}); !same(start, 0, 2, x.begin) {
			t.Errorf("OrderStarts with a time of %d = %v", x.time, start)
		}
		// A worker that is missing does the same as a unit.
		g[2].Pool = 1
		g[2].Needs = []int{}
		g = append(g, impl.Task{Time: 5, Needs: []int{0}, Pool: 2, Units: 1})
		if start := impl.OrderStarts(g, narrowRoom(), 2, []int{0, 1, 3, 2}); !same(start, 0, 2, x.begin, 2) {
			t.Errorf("OrderStarts with a time of %d for 2 workers = %v", x.time, start)
		}
	}
	// The gap between the tasks 1 and 2 begins at 6 and ends at 9: it takes tasks of
	// up to 3, which need task 0, and begin when this is over or later.
	for _, x := range []struct {
		time  int
		begin int
	}{{2, 6}, {3, 6}, {4, 13}} {
		g := []impl.Task{{Time: 4, Pool: 1, Units: 1}, {Time: 6, Units: 2}, {Time: 4, Needs: []int{3}, Units: 3}, {Time: 9, Pool: 2, Units: 1}, {Time: x.time, Needs: []int{0}, Units: 3}}
		if start := impl.OrderStarts(g, narrowRoom(), 4, []int{0, 1, 3, 2, 4}); !same(start, 0, 0, 9, 0, x.begin) {
			t.Errorf("OrderStarts with a time of %d = %v", x.time, start)
		}
	}
}

// TestEqualOrders has several orders that are over at the same time.
func TestEqualOrders(t *testing.T) {
	for _, x := range []struct {
		g       []impl.Task
		workers int
		order   []int
		end     int
	}{
		// All orders are equal.
		{withoutNeeds(chainOf(5, 3)), 1, []int{0, 1, 2, 3, 4}, 15},
		{withoutNeeds(chainOf(5, 3)), 2, []int{0, 1, 2, 3, 4}, 9},
		{[]impl.Task{needing(3, 2), needing(4), needing(5)}, 1, []int{1, 2, 0}, 12},
		// The longest task must not come last.
		{[]impl.Task{needing(1), needing(1), needing(1), needing(3)}, 2, []int{0, 3, 1, 2}, 3},
		{[]impl.Task{needing(2), needing(2), needing(2), needing(3), needing(3)}, 2, []int{0, 3, 1, 4, 2}, 6},
		{[]impl.Task{needing(2), needing(2), needing(2), needing(2), needing(4)}, 2, []int{0, 1, 2, 4, 3}, 6},
		// Task 1 first, since task 2 needs it: then it is the same who is next.
		{[]impl.Task{{Time: 2, Units: 4}, {Time: 1, Units: 4}, {Time: 4, Needs: []int{1}, Pool: 1, Units: 4}}, 2, []int{1, 0, 2}, 5},
	} {
		s := shop{x.g, narrowRoom(), x.workers}
		if best := s.bestOrder(); !same(best, x.order...) || s.bestTime() != x.end {
			t.Errorf("BestOrder, BestTime(%v) = %v, %d", s, best, s.bestTime())
		}
	}
}

// TestOneWorkerHasEqualOrders has one worker, for whom all orders are over at the
// same time: the first one is TopOrder.
func TestOneWorkerHasEqualOrders(t *testing.T) {
	for _, g := range searchGraphs() {
		s := shop{g, narrowRoom(), 1}
		if best := s.bestOrder(); !same(best, impl.TopOrder(g)...) || s.bestTime() != sumOfTimes(g, allNumbers(g)) {
			t.Errorf("BestOrder, BestTime(%v) = %v, %d", s, best, s.bestTime())
		}
	}
}

func TestOrdersByTimes(t *testing.T) {
	for _, s := range searchShops() {
		for i, order := range ordersBehind(s.g, nil) {
			// Some of many orders are enough.
			if i%7 > 1 {
				continue
			}
			expected := s.startsByTimes(order, make([]int, len(s.g)))
			if start := s.byOrder(order); !same(start, expected...) {
				t.Errorf("OrderStarts(%v, %v) = %v, not %v", s, order, start, expected)
			}
		}
	}
}

func TestBestByTimes(t *testing.T) {
	notFirst := 0
	for _, s := range searchShops() {
		order, end := s.bestByTimes()
		if best := s.bestOrder(); !same(best, order...) || s.bestTime() != end {
			t.Errorf("BestOrder, BestTime(%v) = %v, %d, not %v, %d", s, best, s.bestTime(), order, end)
		}
		if !same(order, readyOneByOne(s.g)...) {
			notFirst++
		}
	}
	if notFirst < 100 {
		t.Errorf("only %d best orders are not the first ones", notFirst)
	}
}

// TestOrdersRefuse has all short lists, also with numbers that no task has, with
// numbers that come twice, and with tasks before their needs.
func TestOrdersRefuse(t *testing.T) {
	for _, g := range crowdedGraphs() {
		s := shop{g, wideRoom(), 2}
		for _, list := range listsOf(-1, len(g), len(g)+1) {
			if len(g) == 0 {
				continue
			}
			if start := s.byOrder(list); (len(start) > 0) != isOrderOf(g, list) {
				t.Errorf("OrderStarts(%v, %v) = %v", s, list, start)
			}
		}
	}
}

// isOrderOf reports whether a list has all tasks, each one behind its needs.
func isOrderOf(g []impl.Task, list []int) bool {
	if len(list) != len(g) || !hasAll(list, allNumbers(g)) {
		return false
	}
	for place, at := range list {
		if !hasAll(list[:place], g[at].Needs) {
			return false
		}
	}
	return true
}

// TestOrdersRefuseChanges changes orders of more tasks.
func TestOrdersRefuseChanges(t *testing.T) {
	for _, s := range searchShops() {
		order := readyOneByOne(s.g)
		for place := range order {
			checkNoOrder(t, s, without(order, order[place:place+1]))
			checkNoOrder(t, s, with(order, order[place]))
			for other := range order {
				wrong := with(order)
				wrong[place] = order[other]
				if place != other {
					checkNoOrder(t, s, wrong)
				}
				wrong[other] = order[place]
				if !isOrderOf(s.g, wrong) {
					checkNoOrder(t, s, wrong)
				}
			}
			for _, strange := range strangeNumbers(len(s.g)) {
				wrong := with(order)
				wrong[place] = strange
				checkNoOrder(t, s, wrong)
				checkNoOrder(t, s, with(order, strange))
			}
		}
		checkNoOrder(t, s, with(order, make([]int, 5000)...))
		checkNoOrder(t, s, with(order, len(s.g)))
	}
}

// checkNoOrder checks the fixed result for orders that are not valid.
func checkNoOrder(t *testing.T, s shop, order []int) {
	if start := s.byOrder(order); len(start) != 0 {
		t.Errorf("OrderStarts(%v, %v) = %v", s, order, start)
	}
}

// checkNoSearch checks the fixed results for graphs, rooms, or workers that are
// not valid, also with an order that would be.
func checkNoSearch(t *testing.T, s shop, order []int) {
	checkNoOrder(t, s, order)
	checkNoOrder(t, s, nil)
	if best := s.bestOrder(); len(best) != 0 {
		t.Errorf("BestOrder(%v) = %v", s, best)
	}
	if time := s.bestTime(); time != -1 {
		t.Errorf("BestTime(%v) = %d", s, time)
	}
}

func TestBestRefusesGraphs(t *testing.T) {
	for _, g := range append(wrongGraphs(), loopedGraphs()...) {
		for workers := 1; workers <= impl.MaxWorkers; workers++ {
			checkNoSearch(t, shop{g, wideRoom(), workers}, allNumbers(g))
		}
		if count := impl.CountOrders(g); count != -1 {
			t.Errorf("CountOrders(%v) = %d", g, count)
		}
	}
}

func TestBestRefusesRooms(t *testing.T) {
	for _, room := range wrongRooms() {
		for _, g := range [][]impl.Task{nil, {}, forked(), crowd(2, 1)[:2]} {
			checkNoSearch(t, shop{g, room, 1}, allNumbers(g))
			checkNoSearch(t, shop{g, room, 4}, allNumbers(g))
		}
	}
}

func TestLimitsOfSearchWorkers(t *testing.T) {
	const far = 1 << 62
	for _, g := range [][]impl.Task{nil, {}, forked(), crowd(2, 1)[:2]} {
		for _, workers := range []int{0, -1, impl.MaxWorkers + 1, far, -far} {
			checkNoSearch(t, shop{g, wideRoom(), workers}, allNumbers(g))
		}
		for _, workers := range []int{1, impl.MaxWorkers} {
			s := shop{g, wideRoom(), workers}
			if len(s.byOrder(allNumbers(g))) != len(g) || len(s.bestOrder()) != len(g) || s.bestTime() < 0 {
				t.Errorf("BestOrder(%v) = %v", s, s.bestOrder())
			}
		}
	}
}

// TestLimitOfSearch has graphs with MaxSearch tasks, and with one more, which are
// valid all the same.
func TestLimitOfSearch(t *testing.T) {
	for _, full := range [][]impl.Task{chainOf(impl.MaxTasks, impl.MaxTime), crowd(0, 1), crowd(1, 4)} {
		for n := 0; n <= impl.MaxTasks; n++ {
			g := full[:n]
			s := shop{g, narrowRoom(), 2}
			if n > impl.MaxSearch {
				checkNoSearch(t, s, allNumbers(g))
				if len(s.plan()) != n || impl.CountOrders(g) != -1 {
					t.Errorf("CountOrders of %d tasks = %d", n, impl.CountOrders(g))
				}
				continue
			}
			if !same(s.bestOrder(), allNumbers(g)...) || s.bestTime() != s.end(s.plan()) || len(s.byOrder(allNumbers(g))) != n || impl.CountOrders(g) < 1 {
				t.Errorf("BestOrder(%v) = %v", s, s.bestOrder())
			}
		}
	}
	// The longest schedules of MaxSearch tasks.
	for _, g := range [][]impl.Task{chainOf(5, 20), withoutNeeds(chainOf(5, 20))} {
		s := shop{g, wideRoom(), 1}
		if !same(s.byOrder([]int{0, 1, 2, 3, 4}), 0, 20, 40, 60, 80) || s.bestTime() != 100 {
			t.Errorf("OrderStarts = %v", s.byOrder([]int{0, 1, 2, 3, 4}))
		}
	}
}

func TestSearchOfNoTasks(t *testing.T) {
	for _, g := range [][]impl.Task{nil, {}} {
		s := shop{g, narrowRoom(), 1}
		for _, order := range [][]int{nil, {}} {
			if len(s.byOrder(order)) != 0 || len(s.bestOrder()) != 0 {
				t.Error("no tasks have no orders")
			}
		}
		if s.bestTime() != 0 || impl.CountOrders(g) != 1 {
			t.Errorf("BestTime, CountOrders of no tasks = %d, %d", s.bestTime(), impl.CountOrders(g))
		}
		checkNoOrder(t, s, []int{0})
	}
}

func TestCountsByOrders(t *testing.T) {
	for _, g := range searchGraphs() {
		if count := impl.CountOrders(g); count != len(ordersBehind(g, nil)) {
			t.Errorf("CountOrders(%v) = %d, not %d", g, count, len(ordersBehind(g, nil)))
		}
	}
}

func TestP42OrdersMakeValidBeginnings(t *testing.T) {
	for _, s := range searchShops() {
		sum := sumOfTimes(s.g, allNumbers(s.g))
		for _, order := range ordersBehind(s.g, nil) {
			start := s.byOrder(order)
			if !s.valid(start) || s.end(start) > sum || !s.validByTimes(start) {
				t.Errorf("OrderStarts(%v, %v) = %v", s, order, start)
			}
		}
	}
}

func TestP43FirstTasksBeginAtOnce(t *testing.T) {
	for _, s := range searchShops() {
		for _, order := range ordersBehind(s.g, nil) {
			start := s.byOrder(order)
			if len(start) != len(order) {
				t.Fatalf("OrderStarts(%v, %v) = %v", s, order, start)
			}
			ends := []int{0}
			for place, at := range order {
				if place == 0 && start[at] != 0 || !has(ends, start[at]) {
					t.Errorf("OrderStarts(%v, %v) = %v", s, order, start)
				}
				ends = append(ends, start[at]+s.g[at].Time)
			}
		}
	}
}

func TestP44BestOrdersAreOrders(t *testing.T) {
	for _, s := range searchShops() {
		best := s.bestOrder()
		if !isOrderOf(s.g, best) || s.end(s.byOrder(best)) != s.bestTime() {
			t.Errorf("BestOrder, BestTime(%v) = %v, %d", s, best, s.bestTime())
		}
	}
}

func TestP45NobodyIsBetterThanTheBest(t *testing.T) {
	better := 0
	more := 0
	for _, s := range searchShops() {
		best := s.bestTime()
		planned := s.end(s.plan())
		if planned < best || best < s.least() {
			t.Errorf("BestTime(%v) = %d, not in %d..%d", s, best, s.least(), planned)
		}
		if best < planned {
			better++
		}
		if best > s.least() {
			more++
		}
	}
	if better == 0 || more == 0 {
		t.Errorf("%d plans are not the best, and %d best times not the least", better, more)
	}
}

func TestP46AllOrdersAreAtLeastAsLong(t *testing.T) {
	longer := 0
	for _, s := range searchShops() {
		best := s.bestTime()
		for _, order := range ordersBehind(s.g, nil) {
			end := s.end(s.byOrder(order))
			if end < best {
				t.Errorf("BestTime(%v) = %d, but %v ends at %d", s, best, order, end)
			}
			if end > best {
				longer++
			}
		}
	}
	if longer == 0 {
		t.Error("all orders are the best")
	}
}

func TestP47MoreWorkersAreNoSlowerAtBest(t *testing.T) {
	faster := 0
	for _, s := range searchShops() {
		best := s.bestTime()
		if s.workers == 1 {
			if best != sumOfTimes(s.g, allNumbers(s.g)) {
				t.Errorf("BestTime(%v) = %d", s, best)
			}
			continue
		}
		fewer := s.withWorkers(s.workers - 1).bestTime()
		if best > fewer {
			t.Errorf("BestTime(%v) = %d, and with a worker less %d", s, best, fewer)
		}
		if best < fewer {
			faster++
		}
	}
	if faster == 0 {
		t.Error("more workers are never faster")
	}
}

func TestP48OrdersAreCounted(t *testing.T) {
	products := []int{1, 1, 2, 6, 24, 120}
	for _, g := range searchGraphs() {
		if impl.CountOrders(g) < 1 {
			t.Errorf("CountOrders(%v) = %d", g, impl.CountOrders(g))
		}
		if count := impl.CountOrders(withoutNeeds(g)); count != products[len(g)] {
			t.Errorf("CountOrders(%v) without needs = %d", g, count)
		}
	}
}

func TestP49ChainsHaveOneOrder(t *testing.T) {
	chains := 0
	for _, g := range searchGraphs() {
		order := impl.TopOrder(g)
		chain := true
		for place := 1; place < len(order); place++ {
			chain = chain && has(g[order[place]].Needs, order[place-1])
		}
		if chain {
			chains++
		}
		if (impl.CountOrders(g) == 1) != chain {
			t.Errorf("CountOrders(%v) = %d", g, impl.CountOrders(g))
		}
	}
	if chains < 20 {
		t.Errorf("only %d chains", chains)
	}
}

func TestP145TopOrderIsAnOrder(t *testing.T) {
	for _, s := range searchShops() {
		start := s.byOrder(impl.TopOrder(s.g))
		if len(start) != len(s.g) || !s.valid(start) {
			t.Errorf("OrderStarts of TopOrder(%v) = %v", s, start)
		}
	}
}

func TestP146PlansAreOrders(t *testing.T) {
	for _, s := range searchShops() {
		plan := s.plan()
		start := s.byOrder(orderOfStarts(plan))
		if len(start) != len(plan) || s.end(start) > s.end(plan) {
			t.Errorf("PlanStarts(%v) = %v, and in this order OrderStarts = %v", s, plan, start)
		}
	}
}

func TestP147BestOrdersAreLeastOfEquals(t *testing.T) {
	d := &dice{state: 37}
	for _, g := range searchGraphs() {
		time := d.below(impl.MaxTime) + 1
		equal := withoutNeeds(g)
		for at := range equal {
			equal[at].Time = time
		}
		if best := impl.BestOrder(equal, drawnRoom(d), 1); !same(best, allNumbers(g)...) {
			t.Errorf("BestOrder(%v) = %v", equal, best)
		}
	}
}

func TestP148FewerTasksAreNoSlower(t *testing.T) {
	fewer := 0
	for _, s := range searchShops() {
		last := len(s.g) - 1
		if last < 0 || len(impl.AllUsers(s.g, last)) > 0 {
			continue
		}
		fewer++
		rest := shop{s.g[:last], s.room, s.workers}
		if rest.bestTime() < 0 || rest.bestTime() > s.bestTime() {
			t.Errorf("BestTime(%v) = %d, and without the last task %d", s, s.bestTime(), rest.bestTime())
		}
	}
	if fewer == 0 {
		t.Error("all last tasks are needed")
	}
}

func TestP149MoreNeedsLeaveFewerOrders(t *testing.T) {
	more := 0
	for _, g := range searchGraphs() {
		if len(g) == 0 {
			continue
		}
		free := impl.CountOrders(withNeeds(g, 0, nil))
		if free < impl.CountOrders(g) {
			t.Errorf("CountOrders(%v) = %d, and without the needs of the first task %d", g, impl.CountOrders(g), free)
		}
		if free > impl.CountOrders(g) {
			more++
		}
	}
	if more == 0 {
		t.Error("needs never leave fewer orders")
	}
}
