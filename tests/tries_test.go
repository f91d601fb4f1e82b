package tests

import (
	"testing"

	"loop.example/buildscheduler/impl"
)

// valuesOf returns all lists of as many values.
func valuesOf(n int) [][]bool {
	lists := [][]bool{}
	for code := 0; code < 1<<n; code++ {
		list := []bool{}
		for run := 0; run < n; run++ {
			list = append(list, code>>run&1 == 1)
		}
		lists = append(lists, list)
	}
	return lists
}

// runLists returns all valid lists of values.
func runLists() [][]bool {
	lists := [][]bool{}
	for n := 1; n <= impl.MaxTries+1; n++ {
		lists = append(lists, valuesOf(n)...)
	}
	return lists
}

// wrongRuns returns lists with too few values, or too many.
func wrongRuns() [][]bool {
	lists := append([][]bool{nil, {}}, valuesOf(impl.MaxTries+2)...)
	return append(lists, make([]bool, 8), make([]bool, 64), make([]bool, 5000))
}

// strangeTries returns numbers that no further tries, and no tasks as their
// times, have.
func strangeTries() []int {
	const far = 1 << 62
	return []int{-1, -2, -impl.MaxTries, 64, far, -far, 2*far - 1, -2 * far}
}

// runsByValues returns how often a task is run, and whether it succeeds, by
// looking at all values.
func runsByValues(list []bool, tries int) (int, bool) {
	runs := 0
	succeeds := false
	for run, good := range list {
		if run <= tries && !succeeds {
			runs++
			succeeds = good
		}
	}
	return runs, succeeds
}

// timeByRuns returns how long some runs take.
func timeByRuns(runs int, time int) int {
	// No run, and no wait before the first one.
	waits := []int{0, 0, 2, 4, 8, 16, 20}
	sum := 0
	for run := 1; run <= runs; run++ {
		sum += waits[run] + time
	}
	return sum
}

// hasSuccess reports whether one of the first runs of a list succeeds.
func hasSuccess(list []bool, runs int) bool {
	for run, good := range list {
		if run < runs && good {
			return true
		}
	}
	return false
}

func TestDelays(t *testing.T) {
	for try, want := range []int{-1, 2, 4, 8, 16, 20, -1, -1, -1} {
		if delay := impl.DelayOf(try); delay != want {
			t.Errorf("DelayOf(%d) = %d", try, delay)
		}
	}
	for _, try := range strangeTries() {
		if delay := impl.DelayOf(try); delay != -1 {
			t.Errorf("DelayOf(%d) = %d", try, delay)
		}
	}
}

// checkTry checks all that is told of some runs.
func checkTry(t *testing.T, list []bool, tries int, runs int, succeeds bool) {
	if n, ok := impl.TryTask(list, tries); n != runs || ok != succeeds {
		t.Errorf("TryTask(%v, %d) = %d, %v", list, tries, n, ok)
	}
	for time := 1; time <= impl.MaxTime; time++ {
		if got := impl.TryTime(list, tries, time); got != timeByRuns(runs, time) {
			t.Errorf("TryTime(%v, %d, %d) = %d", list, tries, time, got)
		}
	}
	if flaky := impl.IsFlaky(list, tries); flaky != (succeeds && runs > 1) {
		t.Errorf("IsFlaky(%v, %d) = %v", list, tries, flaky)
	}
}

func TestSampleTries(t *testing.T) {
	// No try is left, and one is.
	checkTry(t, []bool{false, true}, 0, 1, false)
	checkTry(t, []bool{false, true}, 1, 2, true)
	checkTry(t, []bool{false, false}, 1, 2, false)
	// The last try, and one beyond it.
	last := []bool{false, false, false, false, false, true}
	checkTry(t, last, 5, 6, true)
	checkTry(t, last, 4, 5, false)
	checkTry(t, make([]bool, 6), 5, 6, false)
	// Values end before the tries do.
	checkTry(t, []bool{false}, 5, 1, false)
	checkTry(t, []bool{false, false, false}, 5, 3, false)
	checkTry(t, []bool{false, false, true}, 5, 3, true)
	// What comes behind a success does not matter.
	checkTry(t, []bool{true, false, false}, 5, 1, true)
	checkTry(t, []bool{false, true, false, true}, 5, 2, true)
	if impl.TryTime(last, 5, 1) != 56 || impl.TryTime(last, 5, 20) != 170 || impl.TryTime(last, 4, 3) != 45 || impl.TryTime(last, 0, 20) != 20 {
		t.Errorf("TryTime = %d", impl.TryTime(last, 5, 1))
	}
}

func TestTriesByValues(t *testing.T) {
	for _, list := range runLists() {
		for tries := 0; tries <= impl.MaxTries; tries++ {
			runs, succeeds := runsByValues(list, tries)
			checkTry(t, list, tries, runs, succeeds)
		}
	}
}

// checkNoTry checks the fixed results for lists or tries that are not valid.
func checkNoTry(t *testing.T, list []bool, tries int) {
	if runs, succeeds := impl.TryTask(list, tries); runs != 0 || succeeds {
		t.Errorf("TryTask(%v, %d) = %d, %v", list, tries, runs, succeeds)
	}
	for _, time := range []int{-1, 0, 1, 2, impl.MaxTime, impl.MaxTime + 1} {
		if sum := impl.TryTime(list, tries, time); sum != -1 {
			t.Errorf("TryTime(%v, %d, %d) = %d", list, tries, time, sum)
		}
	}
	if impl.IsFlaky(list, tries) {
		t.Errorf("IsFlaky(%v, %d) = true", list, tries)
	}
}

func TestTriesRefuseLists(t *testing.T) {
	for _, list := range wrongRuns() {
		for tries := -1; tries <= impl.MaxTries+1; tries++ {
			checkNoTry(t, list, tries)
		}
	}
}

func TestTriesRefuseNumbers(t *testing.T) {
	for _, list := range runLists() {
		checkNoTry(t, list, impl.MaxTries+1)
		for _, tries := range strangeTries() {
			checkNoTry(t, list, tries)
		}
	}
}

func TestTryTimeRefusesTimes(t *testing.T) {
	for _, list := range runLists() {
		for tries := 0; tries <= impl.MaxTries; tries++ {
			for _, time := range with(strangeTries(), 0, impl.MaxTime+1) {
				if sum := impl.TryTime(list, tries, time); sum != -1 {
					t.Errorf("TryTime(%v, %d, %d) = %d", list, tries, time, sum)
				}
			}
		}
	}
}

// TestRunsStay has values behind the end of the list that look like a success, or
// like failures: they are not read, and nothing is written over.
func TestRunsStay(t *testing.T) {
	for _, list := range append(runLists(), wrongRuns()...) {
		for _, behind := range []bool{false, true} {
			all := append(append([]bool{}, list...), behind, behind, behind)
			expected := append([]bool{}, all...)
			given := all[:len(list)]
			for tries := -1; tries <= impl.MaxTries+1; tries++ {
				runs, succeeds := impl.TryTask(given, tries)
				impl.TryTime(given, tries, 3)
				impl.IsFlaky(given, tries)
				if wantRuns, want := impl.TryTask(list, tries); runs != wantRuns || succeeds != want {
					t.Errorf("TryTask(%v, %d) = %d, %v with memory behind the list", list, tries, runs, succeeds)
				}
			}
			for run := range all {
				if all[run] != expected[run] {
					t.Errorf("a function writes into %v", list)
				}
			}
		}
	}
}

func TestP50DelaysDouble(t *testing.T) {
	if impl.DelayOf(1) != impl.FirstDelay {
		t.Errorf("DelayOf(1) = %d", impl.DelayOf(1))
	}
	for try := 2; try <= impl.MaxTries; try++ {
		twice := 2 * impl.DelayOf(try-1)
		if twice > impl.MostDelay {
			twice = impl.MostDelay
		}
		if impl.DelayOf(try) != twice {
			t.Errorf("DelayOf(%d) = %d, not %d", try, impl.DelayOf(try), twice)
		}
	}
}

func TestP51TriesEndWithTheFirstSuccess(t *testing.T) {
	for _, list := range runLists() {
		for tries := 0; tries <= impl.MaxTries; tries++ {
			runs, succeeds := impl.TryTask(list, tries)
			if runs < 1 || runs > len(list) || runs > tries+1 {
				t.Fatalf("TryTask(%v, %d) = %d", list, tries, runs)
			}
			if succeeds != hasSuccess(list, runs) || succeeds != list[runs-1] || hasSuccess(list, runs-1) {
				t.Errorf("TryTask(%v, %d) = %d, %v", list, tries, runs, succeeds)
			}
			// Nobody gives up as long as there is a try, and a value.
			if !succeeds && runs < len(list) && runs <= tries {
				t.Errorf("TryTask(%v, %d) = %d, %v", list, tries, runs, succeeds)
			}
		}
	}
}

func TestP52MoreTriesDoNoHarm(t *testing.T) {
	for _, list := range runLists() {
		for tries := 0; tries < impl.MaxTries; tries++ {
			runs, succeeds := impl.TryTask(list, tries)
			if !succeeds {
				continue
			}
			if more, ok := impl.TryTask(list, tries+1); !ok || more != runs {
				t.Errorf("TryTask(%v, %d) = %d, %v, but with a try less %d, %v", list, tries+1, more, ok, runs, succeeds)
			}
		}
	}
}

func TestP53RunsTakeTime(t *testing.T) {
	for _, list := range runLists() {
		for tries := 0; tries <= impl.MaxTries; tries++ {
			runs, _ := impl.TryTask(list, tries)
			for _, time := range []int{1, 2, 7, impl.MaxTime} {
				sum := runs * time
				for try := 1; try < runs; try++ {
					sum += impl.DelayOf(try)
				}
				if got := impl.TryTime(list, tries, time); got != sum {
					t.Errorf("TryTime(%v, %d, %d) = %d, not %d", list, tries, time, got, sum)
				}
			}
		}
	}
}

func TestP54FlakyTasksSucceedWithTriesAlone(t *testing.T) {
	flaky := 0
	for _, list := range runLists() {
		_, atOnce := impl.TryTask(list, 0)
		for tries := 0; tries <= impl.MaxTries; tries++ {
			_, succeeds := impl.TryTask(list, tries)
			if impl.IsFlaky(list, tries) != (succeeds && !atOnce) {
				t.Errorf("IsFlaky(%v, %d) = %v", list, tries, !(succeeds && !atOnce))
			}
			if impl.IsFlaky(list, tries) {
				flaky++
			}
		}
		if impl.IsFlaky(list, 0) {
			t.Errorf("IsFlaky(%v, 0) = true", list)
		}
	}
	if flaky == 0 {
		t.Error("no task is flaky")
	}
}

func TestP150DelaysAreBounded(t *testing.T) {
	for try := 1; try <= impl.MaxTries; try++ {
		if delay := impl.DelayOf(try); delay < impl.FirstDelay || delay > impl.MostDelay {
			t.Errorf("DelayOf(%d) = %d", try, delay)
		}
	}
}

func TestP151GoodTasksAreRunOnce(t *testing.T) {
	for _, list := range runLists() {
		if runs, succeeds := impl.TryTask(list, 0); runs != 1 || succeeds != list[0] {
			t.Errorf("TryTask(%v, 0) = %d, %v", list, runs, succeeds)
		}
		for tries := 0; tries <= impl.MaxTries && list[0]; tries++ {
			if runs, succeeds := impl.TryTask(list, tries); runs != 1 || !succeeds {
				t.Errorf("TryTask(%v, %d) = %d, %v", list, tries, runs, succeeds)
			}
		}
	}
}

func TestP152MoreTriesTakeNoLessTime(t *testing.T) {
	more := 0
	for _, list := range runLists() {
		for tries := 0; tries < impl.MaxTries; tries++ {
			for _, time := range []int{1, 5, impl.MaxTime} {
				before := impl.TryTime(list, tries, time)
				behind := impl.TryTime(list, tries+1, time)
				if behind < before {
					t.Errorf("TryTime(%v, %d, %d) = %d, but with a try less %d", list, tries+1, time, behind, before)
				}
				if behind > before {
					more++
				}
			}
		}
	}
	if more == 0 {
		t.Error("more tries never take more time")
	}
}
