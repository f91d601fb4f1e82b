package impl

// HeadTimes returns the least times at which tasks can begin.
func HeadTimes(g []Task) []int {
	if !ValidGraph(g) {
		return nil
	}
	heads := make([]int, len(g))
	for _, at := range TopOrder(g) {
		for _, need := range g[at].Needs {
			end := heads[need] + g[need].Time
			if heads[at] < end {
				heads[at] = end
			}
		}
	}
	return heads
}

// TailTimes returns the times from the beginnings of tasks to the end.
func TailTimes(g []Task) []int {
	if !ValidGraph(g) {
		return nil
	}
	tails := make([]int, len(g))
	order := TopOrder(g)
	// Users come first here, so that a task finds the greatest of their tails in
	// its place and only adds its own time.
	for i := len(order) - 1; i >= 0; i-- {
		at := order[i]
		tails[at] += g[at].Time
		for _, need := range g[at].Needs {
			if tails[need] < tails[at] {
				tails[need] = tails[at]
			}
		}
	}
	return tails
}

// LongestTime returns the time of the longest chain.
func LongestTime(g []Task) int {
	if !ValidGraph(g) {
		return -1
	}
	longest := 0
	for _, tail := range TailTimes(g) {
		if longest < tail {
			longest = tail
		}
	}
	return longest
}

// firstCritical returns the least task with a tail; -1 if there is none.
func firstCritical(tails []int, tail int) int {
	for at := range tails {
		if tails[at] == tail {
			return at
		}
	}
	return -1
}

// nextCritical returns the least task that needs another one of a valid graph and
// whose tail is what that one leaves; -1 if there is none.
func nextCritical(g []Task, tails []int, before int) int {
	rest := tails[before] - g[before].Time
	for at := range g {
		if tails[at] == rest && hasTask(setOf(g[at].Needs), before) {
			return at
		}
	}
	return -1
}

// CriticalChain returns the tasks of the longest chain.
func CriticalChain(g []Task) []int {
	if !ValidGraph(g) {
		return nil
	}
	tails := TailTimes(g)
	chain := []int{}
	// Tails become less from task to task, since each time is at least 1: the
	// chain ends.
	at := firstCritical(tails, LongestTime(g))
	for at >= 0 {
		chain = append(chain, at)
		at = nextCritical(g, tails, at)
	}
	return chain
}

// SlackTimes returns by how much tasks can be late.
func SlackTimes(g []Task) []int {
	if !ValidGraph(g) {
		return nil
	}
	heads := HeadTimes(g)
	tails := TailTimes(g)
	longest := LongestTime(g)
	slack := make([]int, len(g))
	for at := range g {
		slack[at] = longest - heads[at] - tails[at]
	}
	return slack
}
