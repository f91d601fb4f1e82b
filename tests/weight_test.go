package tests

import (
	"testing"

	"loop.example/buildscheduler/impl"
)

func TestSampleWeights(t *testing.T) {
	g := sample()
	if !same(impl.HeadTimes(g), 4, 0, 7, 2, 0, 0) || !same(impl.TailTimes(g), 8, 7, 5, 1, 12, 6) {
		t.Errorf("HeadTimes, TailTimes = %v, %v", impl.HeadTimes(g), impl.TailTimes(g))
	}
	if impl.LongestTime(g) != 12 || !same(impl.CriticalChain(g), 4, 0, 2) || !same(impl.SlackTimes(g), 0, 5, 0, 9, 0, 6) {
		t.Errorf("CriticalChain, SlackTimes = %v, %v", impl.CriticalChain(g), impl.SlackTimes(g))
	}
}

// TestEqualChains has chains that take the same: the least task comes next.
func TestEqualChains(t *testing.T) {
	if g := forked(); !same(impl.CriticalChain(g), 0, 1, 3) || !same(impl.SlackTimes(g), 0, 0, 0, 0, 6) {
		t.Errorf("CriticalChain = %v", impl.CriticalChain(g))
	}
	// The chain of the tasks 1, 4 takes as long as that of 0, 3, which takes as
	// long as that of 0, 2.
	g := []impl.Task{needing(4), needing(4), needing(5, 0), needing(5, 0), needing(5, 1)}
	if !same(impl.CriticalChain(g), 0, 2) || !same(impl.SlackTimes(g), 0, 0, 0, 0, 0) {
		t.Errorf("CriticalChain = %v", impl.CriticalChain(g))
	}
	// Task 0 stands last in its chain, so that the chain does not begin with it.
	g = []impl.Task{needing(3, 2), needing(7), needing(4)}
	if !same(impl.CriticalChain(g), 1) {
		t.Errorf("CriticalChain = %v", impl.CriticalChain(g))
	}
	// Task 1 has the tail that is looked for, but does not need task 2.
	g = []impl.Task{needing(1), needing(3), needing(4), needing(3, 2)}
	if !same(impl.CriticalChain(g), 2, 3) {
		t.Errorf("CriticalChain = %v", impl.CriticalChain(g))
	}
	// Task 1 needs task 0, but its tail is too short.
	g = []impl.Task{needing(1), needing(2, 0), needing(3, 0)}
	if !same(impl.CriticalChain(g), 0, 2) {
		t.Errorf("CriticalChain = %v", impl.CriticalChain(g))
	}
}

// headByChains returns the longest time of what a task waits for.
func headByChains(g []impl.Task, at int) int {
	head := 0
	for _, need := range g[at].Needs {
		end := headByChains(g, need) + g[need].Time
		if end > head {
			head = end
		}
	}
	return head
}

// tailByChains returns the longest time of a chain that begins with a task.
func tailByChains(g []impl.Task, at int) int {
	rest := 0
	for user := range g {
		if has(g[user].Needs, at) {
			tail := tailByChains(g, user)
			if tail > rest {
				rest = tail
			}
		}
	}
	return g[at].Time + rest
}

// firstLongest returns the first one, of all chains that go on behind a chain, that
// takes a time, by the numbers of the tasks; nil if there is none.
func firstLongest(g []impl.Task, chain []int, time int) []int {
	if len(chain) > 0 && time == 0 {
		return chain
	}
	for at := range g {
		follows := len(chain) == 0 || has(g[at].Needs, chain[len(chain)-1])
		if follows && g[at].Time <= time {
			longer := append(append([]int{}, chain...), at)
			if found := firstLongest(g, longer, time-g[at].Time); len(found) > 0 {
				return found
			}
		}
	}
	return nil
}

func TestWeightsByChains(t *testing.T) {
	for _, g := range validGraphs() {
		heads := []int{}
		tails := []int{}
		for at := range g {
			heads = append(heads, headByChains(g, at))
			tails = append(tails, tailByChains(g, at))
		}
		longest := greatest(tails)
		if !same(impl.HeadTimes(g), heads...) || !same(impl.TailTimes(g), tails...) || impl.LongestTime(g) != longest {
			t.Errorf("HeadTimes, TailTimes, LongestTime(%v) = %v, %v, %d", g, impl.HeadTimes(g), impl.TailTimes(g), impl.LongestTime(g))
		}
		if chain := impl.CriticalChain(g); !same(chain, firstLongest(g, nil, longest)...) {
			t.Errorf("CriticalChain(%v) = %v", g, chain)
		}
		slack := impl.SlackTimes(g)
		for at := range g {
			if len(slack) != len(g) || slack[at] != longest-heads[at]-tails[at] {
				t.Errorf("SlackTimes(%v) = %v", g, slack)
			}
		}
	}
}

func TestP9TasksWaitForTheirNeeds(t *testing.T) {
	for _, g := range validGraphs() {
		heads := impl.HeadTimes(g)
		if len(heads) != len(g) {
			t.Fatalf("HeadTimes(%v) = %v", g, heads)
		}
		for at, task := range g {
			ends := []int{}
			for _, need := range task.Needs {
				ends = append(ends, heads[need]+g[need].Time)
			}
			if heads[at] != greatest(ends) {
				t.Errorf("HeadTimes(%v) = %v", g, heads)
			}
		}
	}
}

func TestP10TailsAreLongerBefore(t *testing.T) {
	for _, g := range validGraphs() {
		tails := impl.TailTimes(g)
		if len(tails) != len(g) {
			t.Fatalf("TailTimes(%v) = %v", g, tails)
		}
		for at, task := range g {
			for _, need := range task.Needs {
				if tails[need] < g[need].Time+tails[at] {
					t.Errorf("TailTimes(%v) = %v", g, tails)
				}
			}
		}
	}
}

func TestP11HeadsAndTailsFit(t *testing.T) {
	for _, g := range validGraphs() {
		heads := impl.HeadTimes(g)
		tails := impl.TailTimes(g)
		longest := impl.LongestTime(g)
		reached := len(g) == 0
		for at := range g {
			reached = reached || heads[at]+tails[at] == longest
			if heads[at]+tails[at] > longest {
				t.Errorf("LongestTime(%v) = %d", g, longest)
			}
		}
		if !reached {
			t.Errorf("LongestTime(%v) = %d", g, longest)
		}
	}
}

func TestP12TheLongestTimeIsAChain(t *testing.T) {
	for _, g := range validGraphs() {
		longest := impl.LongestTime(g)
		if longest > sumOfTimes(g, allNumbers(g)) {
			t.Errorf("LongestTime(%v) = %d", g, longest)
		}
		for _, task := range g {
			if longest < task.Time {
				t.Errorf("LongestTime(%v) = %d", g, longest)
			}
		}
	}
	if impl.LongestTime(chainOf(8, 20)) != 160 || impl.LongestTime(withoutNeeds(chainOf(8, 20))) != 20 {
		t.Error("LongestTime of one chain is the sum, and without needs one time")
	}
}

func TestP13CriticalChainsAreLongest(t *testing.T) {
	for _, g := range validGraphs() {
		chain := impl.CriticalChain(g)
		if sumOfTimes(g, chain) != impl.LongestTime(g) {
			t.Errorf("CriticalChain(%v) = %v", g, chain)
		}
		for i := 1; i < len(chain); i++ {
			if !has(g[chain[i]].Needs, chain[i-1]) {
				t.Errorf("CriticalChain(%v) = %v", g, chain)
			}
		}
	}
}

func TestP14CriticalTasksCannotWait(t *testing.T) {
	for _, g := range validGraphs() {
		slack := impl.SlackTimes(g)
		for _, at := range impl.CriticalChain(g) {
			if slack[at] != 0 {
				t.Errorf("SlackTimes(%v) = %v", g, slack)
			}
		}
	}
}

func TestP15SlackIsTimeThatIsLeft(t *testing.T) {
	used := 0
	for _, g := range validGraphs() {
		for at, slack := range impl.SlackTimes(g) {
			if slack < 0 {
				t.Errorf("SlackTimes(%v) = %v", g, impl.SlackTimes(g))
			}
			time := g[at].Time + slack
			if slack == 0 || time > impl.MaxTime {
				continue
			}
			used++
			if impl.LongestTime(withTime(g, at, time)) != impl.LongestTime(g) {
				t.Errorf("SlackTimes(%v) = %v", g, impl.SlackTimes(g))
			}
		}
	}
	if used == 0 {
		t.Error("no task has slack")
	}
}

func TestP16SlackIsAllOfIt(t *testing.T) {
	used := 0
	for _, g := range validGraphs() {
		for at, slack := range impl.SlackTimes(g) {
			time := g[at].Time + slack + 1
			if time > impl.MaxTime {
				continue
			}
			used++
			if impl.LongestTime(withTime(g, at, time)) != impl.LongestTime(g)+1 {
				t.Errorf("SlackTimes(%v) = %v", g, impl.SlackTimes(g))
			}
		}
	}
	if used == 0 {
		t.Error("no task can take longer")
	}
}

// TestSlackAtItsLimit has slack that takes a task to MaxTime, and beyond it.
func TestSlackAtItsLimit(t *testing.T) {
	g := []impl.Task{needing(20), needing(3)}
	if !same(impl.SlackTimes(g), 0, 17) || impl.LongestTime(withTime(g, 1, 20)) != 20 || impl.LongestTime(withTime(g, 1, 21)) != -1 {
		t.Errorf("SlackTimes = %v", impl.SlackTimes(g))
	}
	// With a chain of 19 the slack and 1 more is still a time.
	g = []impl.Task{needing(19), needing(3)}
	if !same(impl.SlackTimes(g), 0, 16) || impl.LongestTime(withTime(g, 1, 19)) != 19 || impl.LongestTime(withTime(g, 1, 20)) != 20 {
		t.Errorf("SlackTimes = %v", impl.SlackTimes(g))
	}
	g = append(chainOf(7, 20), needing(1))
	if !same(impl.SlackTimes(g), 0, 0, 0, 0, 0, 0, 0, 139) {
		t.Errorf("SlackTimes = %v", impl.SlackTimes(g))
	}
	g = withNeeds(g, 7, []int{0})
	if !same(impl.SlackTimes(g), 0, 0, 0, 0, 0, 0, 0, 119) {
		t.Errorf("SlackTimes = %v", impl.SlackTimes(g))
	}
}

func TestP123LastTasksHaveTheirOwnTimesAsTails(t *testing.T) {
	for _, g := range validGraphs() {
		tails := impl.TailTimes(g)
		if len(tails) != len(g) {
			t.Fatalf("TailTimes(%v) = %v", g, tails)
		}
		for at := range g {
			if len(impl.AllUsers(g, at)) == 0 && tails[at] != g[at].Time {
				t.Errorf("TailTimes(%v) = %v", g, tails)
			}
		}
	}
}

func TestP124LongerTasksMakeLongerChains(t *testing.T) {
	for _, g := range validGraphs() {
		for at := range g {
			if g[at].Time == impl.MaxTime {
				continue
			}
			growth := impl.LongestTime(withTime(g, at, g[at].Time+1)) - impl.LongestTime(g)
			if growth < 0 || growth > 1 {
				t.Errorf("LongestTime(%v) grows by %d if task %d takes 1 longer", g, growth, at)
			}
		}
	}
}

func TestP125CriticalTasksMakeEverythingLonger(t *testing.T) {
	for _, g := range validGraphs() {
		chain := impl.CriticalChain(g)
		if len(g) > 0 && len(chain) == 0 {
			t.Errorf("CriticalChain(%v) is empty", g)
		}
		for _, at := range chain {
			if g[at].Time < impl.MaxTime && impl.LongestTime(withTime(g, at, g[at].Time+1)) != impl.LongestTime(g)+1 {
				t.Errorf("CriticalChain(%v) = %v", g, chain)
			}
		}
	}
}

func TestP126SomeTasksHaveNoSlack(t *testing.T) {
	for _, g := range validGraphs() {
		if len(g) > 0 && !has(impl.SlackTimes(g), 0) {
			t.Errorf("SlackTimes(%v) = %v", g, impl.SlackTimes(g))
		}
	}
}

func TestP181NeedsTakeTimeBefore(t *testing.T) {
	for _, g := range validGraphs() {
		heads := impl.HeadTimes(g)
		for at := range g {
			if sumOfTimes(g, impl.AllNeeds(g, at)) < heads[at] {
				t.Errorf("HeadTimes(%v) = %v", g, heads)
			}
		}
	}
}
