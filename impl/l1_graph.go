package impl

// MaxTasks is the largest number of tasks of a graph.
const MaxTasks = 8

// MaxTime is the largest time of a task.
const MaxTime = 20

// Pools is the number of pools.
const Pools = 3

// MaxUnits is the largest number of units of a pool that a task takes.
const MaxUnits = 4

// Task is a task of a graph.
type Task struct {
	Time  int
	Needs []int
	Pool  int
	Units int
}

// taskSet has a bit for each task, so that needs are joined and compared at
// once. Its functions expect numbers in 0..MaxTasks-1: callers check them first,
// since a shift by a negative number would panic.
type taskSet uint

// setOf returns the set of the numbers of a list.
func setOf(list []int) taskSet {
	s := taskSet(0)
	for _, at := range list {
		s |= taskSet(1) << at
	}
	return s
}

// hasTask reports whether a set has a number.
func hasTask(s taskSet, at int) bool {
	return s&(taskSet(1)<<at) != 0
}

// listOf returns the numbers of a set, ascending.
func listOf(s taskSet) []int {
	list := []int{}
	for at := 0; at < MaxTasks; at++ {
		if hasTask(s, at) {
			list = append(list, at)
		}
	}
	return list
}

// isTask reports whether a number is that of a task of a graph.
func isTask(g []Task, at int) bool {
	return at >= 0 && at < len(g)
}

// ascendingTasks reports whether a list has ascending numbers of tasks of a
// graph.
func ascendingTasks(g []Task, list []int) bool {
	last := -1
	for _, at := range list {
		if at <= last || !isTask(g, at) {
			return false
		}
		last = at
	}
	return true
}

// validTask reports whether a task is as in a valid graph, but may need itself.
func validTask(g []Task, t Task) bool {
	if t.Time < 1 || t.Time > MaxTime {
		return false
	}
	if t.Pool < 0 || t.Pool >= Pools {
		return false
	}
	if t.Units < 1 || t.Units > MaxUnits {
		return false
	}
	return ascendingTasks(g, t.Needs)
}

// validTasks reports whether tasks are as in a valid graph, but may need
// themselves.
func validTasks(g []Task) bool {
	if len(g) > MaxTasks {
		return false
	}
	for _, t := range g {
		if !validTask(g, t) {
			return false
		}
	}
	return true
}

// nextTask returns the least task that is not done, but all of whose needs are,
// of tasks for which validTasks holds; -1 if there is none.
func nextTask(g []Task, done taskSet) int {
	for at, t := range g {
		if !hasTask(done, at) && setOf(t.Needs)&^done == 0 {
			return at
		}
	}
	return -1
}

// possibleOrder returns those tasks that can be done, in the order of TopOrder,
// of tasks for which validTasks holds. Tasks that need themselves are left out,
// and so are those that wait for them.
func possibleOrder(g []Task) []int {
	order := []int{}
	done := taskSet(0)
	for len(order) < len(g) {
		at := nextTask(g, done)
		if at < 0 {
			return order
		}
		done |= taskSet(1) << at
		order = append(order, at)
	}
	return order
}

// allNeedSets returns, for each task of a valid graph, the set of all tasks that
// it needs. The order has needs first, so that their sets are complete when they
// are joined.
func allNeedSets(g []Task) []taskSet {
	sets := make([]taskSet, len(g))
	for _, at := range possibleOrder(g) {
		s := setOf(g[at].Needs)
		for _, need := range g[at].Needs {
			s |= sets[need]
		}
		sets[at] = s
	}
	return sets
}

// ValidGraph reports whether a graph of tasks is valid.
func ValidGraph(g []Task) bool {
	return validTasks(g) && len(possibleOrder(g)) == len(g)
}

// TopOrder returns the tasks in an order in which they can be done.
func TopOrder(g []Task) []int {
	if !ValidGraph(g) {
		return nil
	}
	return possibleOrder(g)
}

// StuckTasks returns the tasks that can never be done.
func StuckTasks(g []Task) []int {
	if !validTasks(g) {
		return nil
	}
	possible := setOf(possibleOrder(g))
	stuck := []int{}
	for at := range g {
		if !hasTask(possible, at) {
			stuck = append(stuck, at)
		}
	}
	return stuck
}

// AllNeeds returns all tasks that a task needs.
func AllNeeds(g []Task, at int) []int {
	if !ValidGraph(g) || !isTask(g, at) {
		return nil
	}
	sets := allNeedSets(g)
	return listOf(sets[at])
}

// AllUsers returns all tasks that need a task.
func AllUsers(g []Task, at int) []int {
	if !ValidGraph(g) || !isTask(g, at) {
		return nil
	}
	users := []int{}
	for user, needs := range allNeedSets(g) {
		if hasTask(needs, at) {
			users = append(users, user)
		}
	}
	return users
}
