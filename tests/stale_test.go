package tests

import (
	"testing"

	"loop.example/buildscheduler/impl"
)

// change has valid arguments of StaleTasks.
type change struct {
	g       []impl.Task
	changed []int
}

// stale calls StaleTasks.
func (c change) stale() []int {
	return impl.StaleTasks(c.g, c.changed)
}

// time calls StaleTime.
func (c change) time() int {
	return impl.StaleTime(c.g, c.changed)
}

// staleByReach returns the tasks that have changed, and those that need one of
// them.
func (c change) staleByReach() []int {
	r := reaches(c.g)
	list := []int{}
	for at := range c.g {
		stale := has(c.changed, at)
		for _, need := range c.changed {
			stale = stale || r[at][need]
		}
		if stale {
			list = append(list, at)
		}
	}
	return list
}

// changes returns many changes: all of small graphs, and drawn ones of others.
func changes() []change {
	list := []change{}
	d := &dice{state: 67}
	for _, g := range append(validGraphs(), workshop()) {
		lists := subsets(len(g))
		if len(g) > 4 {
			lists = append(drawnSubsets(d, len(g), 6), []int{d.below(len(g))})
		}
		for _, changed := range lists {
			list = append(list, change{g, changed})
		}
	}
	return list
}

// stock has valid arguments of MissingKeys.
type stock struct {
	g      []impl.Task
	inputs []int
	stored []int
}

// keys calls TaskKeys.
func (s stock) keys() []int {
	return impl.TaskKeys(s.g, s.inputs)
}

// missing calls MissingKeys.
func (s stock) missing() []int {
	return impl.MissingKeys(s.g, s.inputs, s.stored)
}

// withStored returns the stock with other stored keys.
func (s stock) withStored(stored []int) stock {
	s.stored = stored
	return s
}

// keyByPowers returns the key of a task: what it is itself, and the keys of its
// needs, each with as many steps as come behind it.
func (s stock) keyByPowers(at int) int {
	power := 1
	sum := 0
	needs := s.g[at].Needs
	for i := len(needs) - 1; i >= 0; i-- {
		sum += power * (s.keyByPowers(needs[i]) + 1)
		power = power * 131 % 10007
	}
	return (sum + power*(131*(at+1)+s.inputs[at])) % 10007
}

// keysByPowers returns the keys of all tasks.
func (s stock) keysByPowers() []int {
	keys := []int{}
	for at := range s.g {
		keys = append(keys, s.keyByPowers(at))
	}
	return keys
}

// missingByPowers returns the tasks whose keys are not stored.
func (s stock) missingByPowers() []int {
	list := []int{}
	for at, key := range s.keysByPowers() {
		if !has(s.stored, key) {
			list = append(list, at)
		}
	}
	return list
}

// inputLists returns valid inputs for n tasks: at the limits, and drawn ones.
func inputLists(d *dice, n int) [][]int {
	least := make([]int, n)
	most := []int{}
	drawn := []int{}
	for len(most) < n {
		most = append(most, impl.MaxInput)
		drawn = append(drawn, d.below(impl.MaxInput+1))
	}
	return [][]int{least, most, drawn}
}

// strangeKeys returns numbers that are no keys.
func strangeKeys() []int {
	const far = 1 << 62
	return []int{-1, -131, impl.KeyCycle, impl.KeyCycle + 131, far, -far, 2*far - 1, -2 * far}
}

// keyLists returns lists of at most MaxStored keys: none, some of a list, all of
// them, several of them twice, and such that belong to no task.
func keyLists(d *dice, keys []int) [][]int {
	some := []int{}
	for _, key := range keys {
		if d.below(2) == 0 {
			some = append(some, key)
		}
	}
	turned := []int{}
	for i := range keys {
		turned = append(turned, keys[len(keys)-1-i])
	}
	return [][]int{nil, some, keys, turned, with(some, keys...), with(some, some...), with(strangeKeys(), some...), strangeKeys(), others(keys)}
}

// others returns MaxStored numbers, none of which is one of some keys.
func others(keys []int) []int {
	list := []int{}
	for n := 0; len(list) < impl.MaxStored; n++ {
		if !has(keys, n) {
			list = append(list, n)
		}
	}
	return list
}

// stocks returns many stocks.
func stocks() []stock {
	list := []stock{}
	d := &dice{state: 71}
	for _, g := range append(validGraphs(), workshop()) {
		for _, inputs := range inputLists(d, len(g)) {
			s := stock{g: g, inputs: inputs}
			for _, stored := range keyLists(d, s.keysByPowers()) {
				list = append(list, s.withStored(stored))
			}
		}
	}
	return list
}

// freshStocks returns those of the stocks that have no stored keys.
func freshStocks() []stock {
	list := []stock{}
	for _, s := range stocks() {
		if len(s.stored) == 0 {
			list = append(list, s)
		}
	}
	return list
}

func TestSampleStale(t *testing.T) {
	// 0 needs 4, 2 needs 0 and 1, and 3 needs 1.
	g := sample()
	for _, x := range []struct {
		changed []int
		want    []int
		time    int
	}{
		{nil, nil, 0},
		{[]int{0}, []int{0, 2}, 8},
		{[]int{1}, []int{1, 2, 3}, 8},
		{[]int{2}, []int{2}, 5},
		{[]int{3}, []int{3}, 1},
		{[]int{4}, []int{0, 2, 4}, 12},
		{[]int{5}, []int{5}, 6},
		{[]int{2, 4}, []int{0, 2, 4}, 12},
		{[]int{0, 4}, []int{0, 2, 4}, 12},
		{[]int{1, 4}, []int{0, 1, 2, 3, 4}, 15},
		{[]int{3, 5}, []int{3, 5}, 7},
		{[]int{0, 1, 2, 3, 4, 5}, []int{0, 1, 2, 3, 4, 5}, 21},
	} {
		c := change{g, x.changed}
		if !same(c.stale(), x.want...) || c.time() != x.time {
			t.Errorf("StaleTasks, StaleTime of %v = %v, %d", x.changed, c.stale(), c.time())
		}
	}
}

// TestStaleByWayOfOthers has chains, in both directions of counting, whose tasks
// need each other by way of others.
func TestStaleByWayOfOthers(t *testing.T) {
	up := chainOf(impl.MaxTasks, impl.MaxTime)
	down := renumbered(up, []int{7, 6, 5, 4, 3, 2, 1, 0})
	for first := 0; first < impl.MaxTasks; first++ {
		for second := first + 1; second < impl.MaxTasks; second++ {
			changed := []int{first, second}
			behind := impl.MaxTasks - first
			if c := (change{up, changed}); !same(c.stale(), allOf(impl.MaxTasks)[first:]...) || c.time() != behind*20 {
				t.Errorf("StaleTasks, StaleTime of %v = %v, %d", changed, c.stale(), c.time())
			}
			if c := (change{down, changed}); !same(c.stale(), allOf(second+1)...) || c.time() != (second+1)*20 {
				t.Errorf("StaleTasks, StaleTime of %v = %v, %d", changed, c.stale(), c.time())
			}
		}
	}
}

func TestSampleKeys(t *testing.T) {
	chain := chainOf(2, 1)
	for _, x := range []struct {
		g      []impl.Task
		inputs []int
		want   []int
	}{
		{[]impl.Task{needing(1)}, []int{0}, []int{131}},
		{[]impl.Task{needing(1)}, []int{1000}, []int{1131}},
		{withoutNeeds(chainOf(8, 1)), make([]int, 8), []int{131, 262, 393, 524, 655, 786, 917, 1048}},
		{withoutNeeds(chainOf(8, 1)), []int{0, 0, 0, 0, 0, 0, 0, 1000}, []int{131, 262, 393, 524, 655, 786, 917, 2048}},
		// 131 * 262 is 3 times KeyCycle and 4301.
		{chain, []int{0, 0}, []int{131, 4433}},
		{chain, []int{1, 0}, []int{132, 4434}},
		{chain, []int{0, 1}, []int{131, 4564}},
		// The greatest key, and the least one.
		{chain, []int{122, 118}, []int{253, 10006}},
		{chain, []int{123, 118}, []int{254, 0}},
		// The needs are gone through in order: 131 and 262, and not 262 and 131.
		{[]impl.Task{needing(1), needing(1), needing(1, 0, 1)}, []int{0, 0, 0}, []int{131, 262, 7103}},
		{[]impl.Task{needing(1), needing(1), needing(1, 0, 1)}, []int{131, 0, 0}, []int{262, 262, 4250}},
		{[]impl.Task{needing(1), needing(1), needing(1, 0, 1)}, []int{131, 869, 0}, []int{262, 1131, 5119}},
		// A need with a greater number has its key first.
		{[]impl.Task{needing(1, 1), needing(1)}, []int{0, 0}, []int{7417, 262}},
	} {
		s := stock{g: x.g, inputs: x.inputs}
		if !same(s.keys(), x.want...) || !same(s.keysByPowers(), x.want...) {
			t.Errorf("TaskKeys(%v, %v) = %v", x.g, x.inputs, s.keys())
		}
	}
}

func TestSampleMissing(t *testing.T) {
	// The keys are 254 and 0.
	s := stock{g: chainOf(2, 1), inputs: []int{123, 118}}
	for _, x := range []struct {
		stored []int
		want   []int
	}{
		{nil, []int{0, 1}},
		{[]int{}, []int{0, 1}},
		{[]int{254}, []int{1}},
		{[]int{0}, []int{0}},
		{[]int{0, 254}, nil},
		{[]int{254, 0}, nil},
		{[]int{254, 254, 254}, []int{1}},
		{[]int{3, 0, 3, 0}, []int{0}},
		{[]int{1, 2, 253, 255}, []int{0, 1}},
		{strangeKeys(), []int{0, 1}},
		// What a key is modulo KeyCycle does not count.
		{[]int{254 + impl.KeyCycle, 254 - impl.KeyCycle, impl.KeyCycle, -impl.KeyCycle}, []int{0, 1}},
		{make([]int, impl.MaxStored), []int{0}},
		{with(make([]int, impl.MaxStored-1), 254), nil},
		{with([]int{254}, make([]int, impl.MaxStored-1)...), nil},
		// One key more is too many.
		{make([]int, impl.MaxStored+1), nil},
		{others(s.keys()), []int{0, 1}},
		{with(others(s.keys()), 1), nil},
	} {
		if got := s.withStored(x.stored).missing(); !same(got, x.want...) {
			t.Errorf("MissingKeys(%v) = %v", x.stored, got)
		}
	}
	// Two tasks have the same key here, which is stored for both.
	s = stock{g: withoutNeeds(chainOf(3, 1)), inputs: []int{131, 0, 0}, stored: []int{262}}
	if !same(s.keys(), 262, 262, 393) || !same(s.missing(), 2) {
		t.Errorf("TaskKeys, MissingKeys = %v, %v", s.keys(), s.missing())
	}
	if s.stored = []int{393}; !same(s.missing(), 0, 1) {
		t.Errorf("MissingKeys = %v", s.missing())
	}
}

func TestStaleByReach(t *testing.T) {
	for _, c := range changes() {
		expected := c.staleByReach()
		if !same(c.stale(), expected...) || c.time() != sumOfTimes(c.g, expected) {
			t.Errorf("StaleTasks, StaleTime(%v) = %v, %d, not %v", c, c.stale(), c.time(), expected)
		}
	}
}

func TestKeysByPowers(t *testing.T) {
	for _, s := range freshStocks() {
		if expected := s.keysByPowers(); !same(s.keys(), expected...) {
			t.Errorf("TaskKeys(%v) = %v, not %v", s, s.keys(), expected)
		}
	}
}

func TestMissingByPowers(t *testing.T) {
	for _, s := range stocks() {
		if expected := s.missingByPowers(); !same(s.missing(), expected...) {
			t.Errorf("MissingKeys(%v) = %v, not %v", s, s.missing(), expected)
		}
	}
}

// checkNoChange checks the fixed results for arguments that are not valid.
func checkNoChange(t *testing.T, g []impl.Task, changed []int) {
	c := change{g, changed}
	if len(c.stale()) != 0 || c.time() != -1 {
		t.Errorf("StaleTasks, StaleTime(%v) = %v, %d", c, c.stale(), c.time())
	}
}

// checkNoKeys checks the fixed results for arguments that are not valid.
func checkNoKeys(t *testing.T, g []impl.Task, inputs []int) {
	s := stock{g: g, inputs: inputs}
	if len(s.keys()) != 0 {
		t.Errorf("TaskKeys(%v) = %v", s, s.keys())
	}
	for _, stored := range [][]int{nil, {131}, make([]int, impl.MaxStored), make([]int, impl.MaxStored+1)} {
		if missing := s.withStored(stored).missing(); len(missing) != 0 {
			t.Errorf("MissingKeys(%v) = %v", s.withStored(stored), missing)
		}
	}
}

func TestStaleRefusesGraphs(t *testing.T) {
	for _, g := range append(wrongGraphs(), loopedGraphs()...) {
		for _, changed := range [][]int{nil, {0}, {0, 1}} {
			checkNoChange(t, g, changed)
		}
		checkNoKeys(t, g, make([]int, len(g)))
		checkNoKeys(t, g, nil)
	}
}

func TestStaleRefusesTasks(t *testing.T) {
	for _, g := range [][]impl.Task{sample(), forked(), workshop(), chainOf(2, 1)} {
		for _, changed := range wrongNumbers(len(g)) {
			checkNoChange(t, g, changed)
		}
	}
}

// TestStaleOfShortLists has all short lists, also those that are not valid.
func TestStaleOfShortLists(t *testing.T) {
	for _, g := range smallGraphs() {
		if anyNeedsItself(g) {
			continue
		}
		for _, changed := range listsOf(-1, len(g), 3) {
			c := change{g, changed}
			if !same(changed, ascendingOf(changed)...) || !hasAll(allNumbers(g), changed) {
				checkNoChange(t, g, changed)
			} else if !same(c.stale(), c.staleByReach()...) || c.time() < 0 {
				t.Errorf("StaleTasks, StaleTime(%v) = %v, %d", c, c.stale(), c.time())
			}
		}
	}
}

func TestKeysRefuseInputs(t *testing.T) {
	const far = 1 << 62
	for _, g := range [][]impl.Task{sample(), forked(), workshop(), chainOf(1, 1), chainOf(impl.MaxTasks, 1)} {
		valid := make([]int, len(g))
		if len(impl.TaskKeys(g, valid)) != len(g) {
			t.Errorf("TaskKeys(%v, %v) = %v", g, valid, impl.TaskKeys(g, valid))
		}
		checkNoKeys(t, g, nil)
		checkNoKeys(t, g, valid[1:])
		checkNoKeys(t, g, with(valid, 0))
		checkNoKeys(t, g, make([]int, 5000))
		for at := range g {
			for _, strange := range []int{-1, -2, impl.MaxInput + 1, impl.MaxInput + 2, far, -far, 2*far - 1, -2 * far} {
				wrong := with(valid)
				wrong[at] = strange
				checkNoKeys(t, g, wrong)
			}
			for _, limit := range []int{1, impl.MaxInput - 1, impl.MaxInput} {
				right := with(valid)
				right[at] = limit
				if len(impl.TaskKeys(g, right)) != len(g) || len(impl.MissingKeys(g, right, nil)) != len(g) {
					t.Errorf("TaskKeys(%v, %v) = %v", g, right, impl.TaskKeys(g, right))
				}
			}
		}
	}
}

func TestMissingRefusesManyKeys(t *testing.T) {
	for _, s := range freshStocks() {
		most := others(s.keysByPowers())
		if got := s.withStored(most).missing(); !same(got, allNumbers(s.g)...) {
			t.Errorf("MissingKeys(%v) with MaxStored keys = %v", s, got)
		}
		for _, stored := range [][]int{with(most, most[0]), with(most, most...), make([]int, 5000)} {
			if got := s.withStored(stored).missing(); len(got) != 0 {
				t.Errorf("MissingKeys(%v) with %d keys = %v", s, len(stored), got)
			}
		}
	}
}

func TestNoStaleTasksOfNoTasks(t *testing.T) {
	for _, g := range [][]impl.Task{nil, {}} {
		for _, none := range [][]int{nil, {}} {
			c := change{g, none}
			if len(c.stale()) != 0 || c.time() != 0 {
				t.Errorf("StaleTasks, StaleTime of no tasks = %v, %d", c.stale(), c.time())
			}
			checkNoKeys(t, g, none)
		}
		checkNoChange(t, g, []int{0})
		checkNoChange(t, g, []int{-1})
		checkNoKeys(t, g, []int{0})
	}
}

// TestStoredKeysStay has keys behind the end of the list: they are not stored, and
// nothing is written over them.
func TestStoredKeysStay(t *testing.T) {
	for _, s := range stocks() {
		all := with(s.stored, s.keysByPowers()...)
		expected := with(all)
		missing := s.withStored(all[:len(s.stored)]).missing()
		if !same(missing, s.missingByPowers()...) {
			t.Errorf("keys behind those of %v are looked at: %v", s, missing)
		}
		for i := range missing {
			missing[i] = mark
		}
		_ = append(missing, mark)
		if !same(all, expected...) {
			t.Errorf("MissingKeys(%v) writes into the keys, or answers with their memory", s)
		}
	}
}

func TestP72StaleTasksMakeTheirUsersStale(t *testing.T) {
	for _, c := range changes() {
		list := with(c.changed)
		for _, at := range c.changed {
			list = append(list, impl.AllUsers(c.g, at)...)
		}
		if !same(c.stale(), ascendingOf(list)...) {
			t.Errorf("StaleTasks(%v) = %v", c, c.stale())
		}
	}
}

func TestP73StaleTasksAreStaleAlready(t *testing.T) {
	for _, c := range changes() {
		stale := c.stale()
		if again := impl.StaleTasks(c.g, stale); !same(again, stale...) {
			t.Errorf("StaleTasks(%v) = %v, but then %v", c, stale, again)
		}
		if len(c.changed) == 0 && len(stale) != 0 {
			t.Errorf("StaleTasks(%v) = %v", c, stale)
		}
	}
}

func TestP74WhatIsNotStaleCanStayDone(t *testing.T) {
	for _, c := range changes() {
		if rest := without(allNumbers(c.g), c.stale()); !impl.ValidDone(c.g, rest) || !needsNothingElse(c.g, rest) {
			t.Errorf("StaleTasks(%v) = %v", c, c.stale())
		}
	}
}

func TestP75KeysAreNumbers(t *testing.T) {
	for _, s := range freshStocks() {
		keys := s.keys()
		if len(keys) != len(s.g) {
			t.Errorf("TaskKeys(%v) = %v", s, keys)
		}
		for _, key := range keys {
			if key < 0 || key >= impl.KeyCycle {
				t.Errorf("TaskKeys(%v) = %v", s, keys)
			}
		}
	}
}

// withInput returns the stock in which a task has another input.
func (s stock) withInput(d *dice, at int) stock {
	s.inputs = with(s.inputs)
	s.inputs[at] = (s.inputs[at] + 1 + d.below(impl.MaxInput)) % (impl.MaxInput + 1)
	return s
}

func TestP76KeysChangeWithInputs(t *testing.T) {
	d := &dice{state: 73}
	for _, s := range freshStocks() {
		before := s.keys()
		for at := range s.g {
			behind := s.withInput(d, at).keys()
			stale := impl.StaleTasks(s.g, []int{at})
			if len(behind) != len(before) || behind[at] == before[at] {
				t.Fatalf("TaskKeys(%v) with another input of %d = %v", s, at, behind)
			}
			for other := range s.g {
				if !has(stale, other) && behind[other] != before[other] {
					t.Errorf("TaskKeys(%v) with another input of %d = %v", s, at, behind)
				}
			}
		}
	}
}

func TestP77MissingKeysAreNotStored(t *testing.T) {
	for _, s := range stocks() {
		missing := s.missing()
		keys := s.keys()
		for at := range s.g {
			if has(missing, at) == has(s.stored, keys[at]) {
				t.Errorf("MissingKeys(%v) = %v", s, missing)
			}
		}
		if !same(missing, ascendingOf(missing)...) || !hasAll(allNumbers(s.g), missing) {
			t.Errorf("MissingKeys(%v) = %v", s, missing)
		}
		if none := s.withStored(keys).missing(); len(none) != 0 {
			t.Errorf("MissingKeys(%v) with all keys = %v", s, none)
		}
	}
}

func TestP78WithoutStoredKeysAllAreMissing(t *testing.T) {
	for _, s := range freshStocks() {
		for _, none := range [][]int{nil, {}} {
			if missing := s.withStored(none).missing(); !same(missing, allNumbers(s.g)...) {
				t.Errorf("MissingKeys(%v) = %v", s, missing)
			}
		}
	}
}

func TestP79StaleTimeIsTimeOfStaleTasks(t *testing.T) {
	for _, c := range changes() {
		all := sumOfTimes(c.g, allNumbers(c.g))
		if c.time() != sumOfTimes(c.g, c.stale()) || c.time() > all {
			t.Errorf("StaleTime(%v) = %d", c, c.time())
		}
		if time := impl.StaleTime(c.g, allNumbers(c.g)); time != all {
			t.Errorf("StaleTime of all tasks of %v = %d", c.g, time)
		}
	}
}

func TestP162MoreChangesMakeMoreStale(t *testing.T) {
	more := 0
	for _, c := range changes() {
		if len(c.changed) == 0 {
			continue
		}
		first := change{c.g, c.changed[:1]}.stale()
		if len(first) == 0 || !hasAll(c.stale(), first) {
			t.Errorf("StaleTasks(%v) = %v, but of the first change %v", c, c.stale(), first)
		}
		if len(c.stale()) > len(first) {
			more++
		}
	}
	if more == 0 {
		t.Error("more changes never make more stale")
	}
}

func TestP163EqualInputsHaveEqualKeys(t *testing.T) {
	d := &dice{state: 79}
	for _, s := range freshStocks() {
		other := copyOf(s.g)
		for at := range other {
			other[at].Time = d.below(impl.MaxTime) + 1
			other[at].Pool = d.below(impl.Pools)
			other[at].Units = d.below(impl.MaxUnits) + 1
		}
		keys := s.keys()
		for _, g := range [][]impl.Task{s.g, other} {
			if got := impl.TaskKeys(g, with(s.inputs)); len(got) != len(g) || !same(got, keys...) {
				t.Errorf("TaskKeys(%v, %v) = %v, not %v", g, s.inputs, got, keys)
			}
		}
	}
}

func TestP164WhatIsNotStaleIsStored(t *testing.T) {
	d := &dice{state: 83}
	for _, s := range freshStocks() {
		before := s.keys()
		for at := range s.g {
			missing := s.withInput(d, at).withStored(before).missing()
			if !hasAll(impl.StaleTasks(s.g, []int{at}), missing) {
				t.Errorf("MissingKeys(%v) with another input of %d = %v", s, at, missing)
			}
		}
	}
}

func TestP165TwoChangesTakeAtMostBothTimes(t *testing.T) {
	less := 0
	for _, c := range changes() {
		if len(c.changed) == 0 {
			continue
		}
		first := change{c.g, c.changed[:1]}.time()
		rest := change{c.g, c.changed[1:]}.time()
		if first < 1 || rest < 0 || c.time() > first+rest || c.time() < first || c.time() < rest {
			t.Errorf("StaleTime(%v) = %d, but of its parts %d and %d", c, c.time(), first, rest)
		}
		if c.time() < first+rest {
			less++
		}
	}
	if less == 0 {
		t.Error("no two changes make the same tasks stale")
	}
}
