package tests

import (
	"testing"

	"loop.example/buildscheduler/impl"
)

// user returns a user with a share, an amount that was used, and waiting tasks.
func user(share int, used int, waits int) impl.User {
	return impl.User{Share: share, Used: used, Waits: waits}
}

// usersAtLimits returns users with all values at the limits, next to them, or
// between them.
func usersAtLimits() []impl.User {
	list := []impl.User{}
	for _, share := range []int{1, 2, 3, impl.MaxShare} {
		for _, used := range []int{0, 1, 2, 30, impl.MaxUsed - 1, impl.MaxUsed} {
			for _, waits := range []int{0, 1, impl.MaxWaits} {
				list = append(list, user(share, used, waits))
			}
		}
	}
	return list
}

// drawnUsers returns valid users: with any amounts, with small ones, or with such
// that are equal when they are divided by the shares.
func drawnUsers(d *dice) []impl.User {
	list := []impl.User{}
	n := d.below(impl.MaxUsers) + 1
	kind := d.below(3)
	quotient := d.below(impl.MaxUsed/impl.MaxShare + 1)
	for len(list) < n {
		u := user(d.below(impl.MaxShare)+1, d.below(impl.MaxUsed+1), d.below(impl.MaxWaits+1))
		if kind == 1 {
			u.Used = d.below(12)
		}
		if kind == 2 {
			u.Used = u.Share * quotient
		}
		list = append(list, u)
	}
	return list
}

// userLists returns many valid lists of users.
func userLists() [][]impl.User {
	lists := [][]impl.User{}
	for _, a := range usersAtLimits() {
		lists = append(lists, []impl.User{a})
		for _, b := range usersAtLimits() {
			lists = append(lists, []impl.User{a, b})
		}
	}
	d := &dice{state: 47}
	for i := 0; i < 3000; i++ {
		lists = append(lists, drawnUsers(d))
	}
	return lists
}

// wrongUsers returns users that are not valid because of one value.
func wrongUsers() []impl.User {
	const far = 1 << 62
	list := []impl.User{{}}
	for _, strange := range []int{-1, -2, far, -far, 2*far - 1, -2 * far} {
		list = append(list, user(strange, 5, 2), user(3, strange, 2), user(3, 5, strange))
	}
	return append(list,
		user(0, 0, 0), user(0, 5, 2), user(impl.MaxShare+1, 5, 2),
		user(3, impl.MaxUsed+1, 2), user(3, impl.MaxUsed+20, 2),
		user(3, 5, impl.MaxWaits+1), user(3, 5, impl.MaxWaits+2))
}

// wrongUserLists returns lists of users that are not valid: too few, too many, and
// such with a wrong user at each place.
func wrongUserLists() [][]impl.User {
	lists := [][]impl.User{nil, {}, usersWith(impl.MaxUsers+1, user(1, 0, 1)), usersWith(impl.MaxUsers+2, user(1, 0, 1)), usersWith(5000, user(1, 0, 1))}
	for _, wrong := range wrongUsers() {
		for n := 1; n <= impl.MaxUsers; n++ {
			for at := 0; at < n; at++ {
				list := usersWith(n, user(2, 7, 3))
				list[at] = wrong
				lists = append(lists, list)
			}
		}
	}
	return lists
}

// usersWith returns as many users that are all the same.
func usersWith(n int, u impl.User) []impl.User {
	list := []impl.User{}
	for len(list) < n {
		list = append(list, u)
	}
	return list
}

// sameUsers reports whether two lists have the same users.
func sameUsers(list []impl.User, others []impl.User) bool {
	if len(list) != len(others) {
		return false
	}
	for at := range list {
		if list[at] != others[at] {
			return false
		}
	}
	return true
}

// copyOfUsers returns users in their own memory.
func copyOfUsers(list []impl.User) []impl.User {
	return append([]impl.User{}, list...)
}

// sumOfWaits returns how many tasks of all users wait.
func sumOfWaits(list []impl.User) int {
	sum := 0
	for _, u := range list {
		sum += u.Waits
	}
	return sum
}

// sumOfShares returns the sum of all shares.
func sumOfShares(list []impl.User) int {
	sum := 0
	for _, u := range list {
		sum += u.Share
	}
	return sum
}

// quotientOf returns how much a user has used for the share, 2520 times: each share
// divides this number, so that nothing is rounded.
func quotientOf(u impl.User) int {
	return u.Used * (2520 / u.Share)
}

// nextByQuotients returns who comes next, by looking at all users.
func nextByQuotients(list []impl.User) int {
	next := -1
	for at, u := range list {
		if u.Waits > 0 && (next < 0 || quotientOf(u) < quotientOf(list[next])) {
			next = at
		}
	}
	return next
}

// afterServing returns users after one of them is served.
func afterServing(list []impl.User, at int, time int) []impl.User {
	users := copyOfUsers(list)
	users[at].Waits--
	users[at].Used += time
	if users[at].Used > impl.MaxUsed {
		users[at].Used = impl.MaxUsed
	}
	return users
}

// turnsByQuotients returns who is served, one after the other.
func turnsByQuotients(list []impl.User, time int) []int {
	turns := []int{}
	for sumOfWaits(list) > 0 {
		next := nextByQuotients(list)
		turns = append(turns, next)
		list = afterServing(list, next, time)
	}
	return turns
}

// partsByRounds returns the parts of an amount: in each whole round all get what
// their shares are, and the rest is split by counting.
func partsByRounds(list []impl.User, amount int) []int {
	shares := sumOfShares(list)
	rounds := amount / shares
	rest := amount - rounds*shares
	left := rest
	parts := []int{}
	for _, u := range list {
		more := 0
		for (more+1)*shares <= rest*u.Share {
			more++
		}
		left -= more
		parts = append(parts, rounds*u.Share+more)
	}
	for at := 0; left > 0; at++ {
		parts[at]++
		left--
	}
	return parts
}

// strangeTimes returns times that no task has.
func strangeTimes() []int {
	return with(strangeTries(), 0, impl.MaxTime+1, impl.MaxTime+2)
}

func TestSampleShares(t *testing.T) {
	for _, x := range []struct {
		list []impl.User
		want int
	}{
		{[]impl.User{user(1, 0, 1)}, 0},
		{[]impl.User{user(1, 5, 1), user(1, 4, 1)}, 1},
		{[]impl.User{user(1, 4, 1), user(1, 5, 1)}, 0},
		// Who does not wait is not next, however little was used.
		{[]impl.User{user(1, 0, 0), user(1, 9000, 1)}, 1},
		{[]impl.User{user(1, 0, 0), user(1, 9000, 6), user(10, 0, 0)}, 1},
		{[]impl.User{user(1, 0, 0), user(1, 7, 1), user(1, 7, 1)}, 1},
		// The amounts alone, and the shares alone, do not tell.
		{[]impl.User{user(1, 5, 1), user(10, 40, 1)}, 1},
		{[]impl.User{user(1, 3, 1), user(10, 40, 1)}, 0},
		// Rounded down these are equal.
		{[]impl.User{user(3, 10, 1), user(10, 33, 1)}, 1},
		{[]impl.User{user(10, 33, 1), user(3, 10, 1)}, 0},
		{[]impl.User{user(2, 9999, 1), user(2, 9998, 1)}, 1},
		{[]impl.User{user(9, 9999, 1), user(10, 10000, 1)}, 1},
		{[]impl.User{user(10, 9999, 1), user(9, 8999, 1)}, 1},
		{[]impl.User{user(9, 8999, 1), user(10, 9999, 1)}, 0},
		{[]impl.User{user(10, 9998, 1), user(9, 8999, 1)}, 0},
		{[]impl.User{user(7, 1, 1), user(8, 1, 1), user(9, 1, 1)}, 2},
		{[]impl.User{user(3, 9, 1), user(2, 7, 1), user(1, 2, 1), user(4, 13, 1), user(5, 11, 1)}, 2},
	} {
		if got := impl.NextUser(x.list); got != x.want {
			t.Errorf("NextUser(%v) = %d", x.list, got)
		}
	}
}

// TestEqualQuotients has amounts that differ, but not when they are divided by the
// shares.
func TestEqualQuotients(t *testing.T) {
	for _, list := range [][]impl.User{
		{user(1, 3, 1), user(3, 9, 1)},
		{user(3, 9, 1), user(1, 3, 1)},
		{user(10, 10000, 1), user(1, 1000, 1), user(7, 7000, 1)},
		{user(1, 1000, 1), user(7, 7000, 1), user(10, 10000, 1)},
		{user(6, 4, 1), user(9, 6, 1), user(3, 2, 1)},
		{user(3, 2, 1), user(6, 4, 1), user(9, 6, 1)},
		{user(10, 0, 1), user(1, 0, 1), user(5, 0, 1), user(2, 0, 1), user(10, 0, 1)},
		{user(1, 0, 1), user(10, 0, 1)},
	} {
		if got := impl.NextUser(list); got != 0 {
			t.Errorf("NextUser(%v) = %d", list, got)
		}
		// Without the first one it is the next one's turn, and so on.
		turns := impl.ServeAll(list, impl.MaxTime)
		if len(turns) != len(list) || !same(turns, allOf(len(list))...) {
			t.Errorf("ServeAll(%v) = %v", list, turns)
		}
		for at := 1; at < len(list); at++ {
			waiting := copyOfUsers(list)
			for before := 0; before < at; before++ {
				waiting[before].Waits = 0
			}
			if got := impl.NextUser(waiting); got != at {
				t.Errorf("NextUser(%v) = %d", waiting, got)
			}
		}
	}
}

// allOf returns the numbers from 0 on, as many.
func allOf(n int) []int {
	list := []int{}
	for at := 0; at < n; at++ {
		list = append(list, at)
	}
	return list
}

func TestSampleServing(t *testing.T) {
	for _, x := range []struct {
		list []impl.User
		time int
		want []int
	}{
		{[]impl.User{user(1, 0, 6)}, 20, []int{0, 0, 0, 0, 0, 0}},
		{[]impl.User{user(1, 0, 2), user(2, 0, 4)}, 10, []int{0, 1, 1, 0, 1, 1}},
		{[]impl.User{user(2, 0, 4), user(1, 0, 2)}, 10, []int{0, 1, 0, 0, 1, 0}},
		{[]impl.User{user(3, 0, 3), user(1, 0, 3)}, 6, []int{0, 1, 0, 0, 1, 1}},
		// The second one has 5 to make up for.
		{[]impl.User{user(1, 5, 2), user(1, 0, 4)}, 2, []int{1, 1, 1, 0, 1, 0}},
		{[]impl.User{user(1, 5, 2), user(1, 0, 4)}, 20, []int{1, 0, 1, 0, 1, 1}},
		{[]impl.User{user(1, 0, 1), user(1, 0, 0), user(1, 0, 2), user(1, 1, 1)}, 1, []int{0, 2, 2, 3}},
		{[]impl.User{user(1, 40, 1), user(1, 30, 1), user(1, 20, 1), user(1, 10, 1), user(1, 0, 1)}, 20, []int{4, 3, 2, 1, 0}},
		{[]impl.User{user(1, 4, 2), user(1, 3, 2), user(1, 2, 2), user(1, 1, 2), user(1, 0, 2)}, 1, []int{4, 3, 4, 2, 3, 1, 2, 0, 1, 0}},
	} {
		if got := impl.ServeAll(x.list, x.time); !same(got, x.want...) {
			t.Errorf("ServeAll(%v, %d) = %v", x.list, x.time, got)
		}
	}
	list := []impl.User{user(1, 8, 2), user(4, 9, 3), user(2, 1, 0)}
	if out, at, ok := impl.ServeUser(list, 7); !ok || at != 1 || !sameUsers(out, []impl.User{user(1, 8, 2), user(4, 16, 2), user(2, 1, 0)}) {
		t.Errorf("ServeUser = %v, %d, %v", out, at, ok)
	}
}

// TestAmountsStayInBounds serves users whose amounts would become greater than
// MaxUsed.
func TestAmountsStayInBounds(t *testing.T) {
	for _, x := range []struct{ used, time, want int }{
		{9979, 20, 9999}, {9980, 20, 10000}, {9981, 20, 10000}, {9998, 1, 9999}, {9999, 1, 10000}, {9999, 2, 10000}, {10000, 1, 10000}, {10000, 20, 10000}, {0, 1, 1}, {0, 20, 20},
	} {
		for share := 1; share <= impl.MaxShare; share++ {
			out, at, ok := impl.ServeUser([]impl.User{user(share, x.used, 6)}, x.time)
			if !ok || at != 0 || !sameUsers(out, []impl.User{user(share, x.want, 5)}) || !impl.ValidUsers(out) {
				t.Errorf("ServeUser of %d with %d = %v", x.used, x.time, out)
			}
		}
	}
	// As soon as the first one has used MaxUsed the amounts are equal, and stay so.
	list := []impl.User{user(1, 9995, 3), user(1, 10000, 3)}
	if got := impl.ServeAll(list, 20); !same(got, 0, 0, 0, 1, 1, 1) {
		t.Errorf("ServeAll = %v", got)
	}
	list = []impl.User{user(1, 10000, 3), user(1, 9995, 3)}
	if got := impl.ServeAll(list, 20); !same(got, 1, 0, 0, 0, 1, 1) {
		t.Errorf("ServeAll = %v", got)
	}
	// The greater share stays poorer then.
	list = []impl.User{user(9, 10000, 2), user(10, 9999, 6)}
	if got := impl.ServeAll(list, 20); !same(got, 1, 1, 1, 1, 1, 1, 0, 0) {
		t.Errorf("ServeAll = %v", got)
	}
}

func TestSampleParts(t *testing.T) {
	five := []impl.User{user(1, 0, 0), user(2, 0, 0), user(3, 0, 0), user(4, 0, 0), user(5, 0, 0)}
	for _, x := range []struct {
		list   []impl.User
		amount int
		want   []int
	}{
		{[]impl.User{user(1, 9, 1), user(2, 0, 0)}, 10, []int{4, 6}},
		{[]impl.User{user(2, 9, 1), user(1, 0, 0)}, 10, []int{7, 3}},
		{[]impl.User{user(2, 9, 1), user(1, 0, 0)}, 9, []int{6, 3}},
		{[]impl.User{user(7, 0, 0)}, 0, []int{0}},
		{[]impl.User{user(7, 0, 0)}, 10000, []int{10000}},
		{usersWith(5, user(3, 0, 0)), 0, []int{0, 0, 0, 0, 0}},
		{usersWith(5, user(3, 0, 0)), 1, []int{1, 0, 0, 0, 0}},
		{usersWith(5, user(3, 0, 0)), 4, []int{1, 1, 1, 1, 0}},
		{usersWith(5, user(3, 0, 0)), 5, []int{1, 1, 1, 1, 1}},
		{usersWith(3, user(10, 0, 0)), 10000, []int{3334, 3333, 3333}},
		{usersWith(3, user(10, 0, 0)), 9998, []int{3333, 3333, 3332}},
		{five, 15, []int{1, 2, 3, 4, 5}},
		{five, 14, []int{1, 2, 3, 4, 4}},
		{five, 1, []int{1, 0, 0, 0, 0}},
		{five, 10000, []int{667, 1334, 2000, 2666, 3333}},
		{[]impl.User{user(1, 0, 0), user(10, 0, 0)}, 10000, []int{910, 9090}},
		// The first users get what is left, and not those with the largest shares.
		{[]impl.User{user(1, 0, 0), user(10, 0, 0), user(10, 0, 0)}, 5, []int{1, 2, 2}},
	} {
		if got := impl.FairParts(x.list, x.amount); !same(got, x.want...) {
			t.Errorf("FairParts(%v, %d) = %v", x.list, x.amount, got)
		}
	}
}

func TestUsersByQuotients(t *testing.T) {
	for _, list := range userLists() {
		next := nextByQuotients(list)
		if !impl.ValidUsers(list) || impl.NextUser(list) != next {
			t.Errorf("NextUser(%v) = %d, not %d", list, impl.NextUser(list), next)
		}
		for _, time := range []int{1, 3, impl.MaxTime} {
			turns := turnsByQuotients(list, time)
			if got := impl.ServeAll(list, time); !same(got, turns...) {
				t.Errorf("ServeAll(%v, %d) = %v, not %v", list, time, got, turns)
			}
			if next < 0 {
				continue
			}
			out, at, ok := impl.ServeUser(list, time)
			if !ok || at != next || !sameUsers(out, afterServing(list, next, time)) {
				t.Errorf("ServeUser(%v, %d) = %v, %d, %v", list, time, out, at, ok)
			}
		}
	}
}

func TestPartsByRounds(t *testing.T) {
	d := &dice{state: 53}
	for _, list := range userLists() {
		for _, amount := range []int{0, 1, 2, 3, 7, 20, impl.MaxUsed - 1, impl.MaxUsed, d.below(100), d.below(impl.MaxUsed)} {
			expected := partsByRounds(list, amount)
			if got := impl.FairParts(list, amount); !same(got, expected...) {
				t.Errorf("FairParts(%v, %d) = %v, not %v", list, amount, got, expected)
			}
		}
	}
}

// TestLimitsOfUsers has each limit itself; wrongUserLists has one beyond each.
func TestLimitsOfUsers(t *testing.T) {
	for n := 1; n <= impl.MaxUsers; n++ {
		for _, u := range []impl.User{user(1, 0, 0), user(impl.MaxShare, impl.MaxUsed, impl.MaxWaits), user(1, impl.MaxUsed, 0), user(impl.MaxShare, 0, impl.MaxWaits)} {
			list := usersWith(n, u)
			if !impl.ValidUsers(list) {
				t.Errorf("ValidUsers(%v) = false", list)
			}
			if got := impl.ServeAll(list, impl.MaxTime); len(got) != n*u.Waits {
				t.Errorf("ServeAll(%v) = %v", list, got)
			}
			if got := impl.FairParts(list, impl.MaxUsed); len(got) != n {
				t.Errorf("FairParts(%v) = %v", list, got)
			}
		}
	}
}

// checkNobodyIsServed checks the fixed results of serving.
func checkNobodyIsServed(t *testing.T, list []impl.User, time int) {
	if out, at, ok := impl.ServeUser(list, time); len(out) != 0 || at != -1 || ok {
		t.Errorf("ServeUser(%v, %d) = %v, %d, %v", list, time, out, at, ok)
	}
	if turns := impl.ServeAll(list, time); len(turns) != 0 {
		t.Errorf("ServeAll(%v, %d) = %v", list, time, turns)
	}
}

func TestWrongUsersAreRefused(t *testing.T) {
	for _, list := range wrongUserLists() {
		if impl.ValidUsers(list) || impl.NextUser(list) != -1 {
			t.Errorf("ValidUsers, NextUser(%v) = %v, %d", list, impl.ValidUsers(list), impl.NextUser(list))
		}
		for _, time := range with(strangeTimes(), 1, 2, impl.MaxTime) {
			checkNobodyIsServed(t, list, time)
		}
		for _, amount := range []int{-1, 0, 1, 10, impl.MaxUsed, impl.MaxUsed + 1} {
			if parts := impl.FairParts(list, amount); len(parts) != 0 {
				t.Errorf("FairParts(%v, %d) = %v", list, amount, parts)
			}
		}
	}
}

func TestServingRefusesTimes(t *testing.T) {
	for _, list := range userLists() {
		for _, time := range strangeTimes() {
			checkNobodyIsServed(t, list, time)
		}
	}
	list := usersWith(impl.MaxUsers, user(1, 0, 1))
	for time := 1; time <= impl.MaxTime; time++ {
		out, at, ok := impl.ServeUser(list, time)
		if !ok || at != 0 || !sameUsers(out, afterServing(list, 0, time)) || !same(impl.ServeAll(list, time), 0, 1, 2, 3, 4) {
			t.Errorf("ServeUser with %d = %v, %d, %v", time, out, at, ok)
		}
	}
}

func TestPartsRefuseAmounts(t *testing.T) {
	const far = 1 << 62
	for _, list := range userLists() {
		for _, amount := range []int{-1, -2, -impl.MaxUsed, impl.MaxUsed + 1, impl.MaxUsed + 2, far, -far, 2*far - 1, -2 * far} {
			if parts := impl.FairParts(list, amount); len(parts) != 0 {
				t.Errorf("FairParts(%v, %d) = %v", list, amount, parts)
			}
		}
	}
}

func TestNobodyWaits(t *testing.T) {
	d := &dice{state: 59}
	for i := 0; i < 300; i++ {
		list := drawnUsers(d)
		for at := range list {
			list[at].Waits = 0
		}
		if !impl.ValidUsers(list) || impl.NextUser(list) != -1 {
			t.Errorf("NextUser(%v) = %d", list, impl.NextUser(list))
		}
		for time := 1; time <= impl.MaxTime; time++ {
			checkNobodyIsServed(t, list, time)
		}
		// They have their parts anyway.
		if parts := impl.FairParts(list, 100); len(parts) != len(list) {
			t.Errorf("FairParts(%v) = %v", list, parts)
		}
	}
}

// callUsers calls all functions of users.
func callUsers(list []impl.User, time int, amount int) ([]impl.User, [][]int) {
	impl.ValidUsers(list)
	impl.NextUser(list)
	out, _, _ := impl.ServeUser(list, time)
	return out, [][]int{impl.ServeAll(list, time), impl.FairParts(list, amount)}
}

// TestUsersStay has users behind the end of the list, who would come next: they are
// not looked at, nothing is written over them, and answers are other memory.
func TestUsersStay(t *testing.T) {
	for _, list := range append(userLists(), wrongUserLists()...) {
		all := append(copyOfUsers(list), user(10, 0, 6), user(10, 0, 6), user(10, 0, 6))
		expected := copyOfUsers(all)
		given := all[:len(list)]
		wantUsers, wantLists := callUsers(copyOfUsers(list), 3, 50)
		users, lists := callUsers(given, 3, 50)
		if !sameUsers(users, wantUsers) || !same(lists[0], wantLists[0]...) || !same(lists[1], wantLists[1]...) {
			t.Errorf("users behind %v are looked at", list)
		}
		for at := range users {
			users[at] = user(mark, mark, mark)
		}
		_ = append(users, user(mark, mark, mark))
		for i := range lists {
			for at := range lists[i] {
				lists[i][at] = mark
			}
			_ = append(lists[i], mark)
		}
		if !sameUsers(all, expected) {
			t.Errorf("a function writes into %v, or answers with its memory", list)
		}
		users, lists = callUsers(given, 3, 50)
		if !sameUsers(users, wantUsers) || !same(lists[0], wantLists[0]...) || !same(lists[1], wantLists[1]...) {
			t.Errorf("answers for %v are kept between calls", list)
		}
	}
}

func TestP63UsersCanBeLeftOut(t *testing.T) {
	for _, list := range userLists() {
		if len(list) > 1 && !impl.ValidUsers(list[:len(list)-1]) {
			t.Errorf("ValidUsers(%v) without the last one = false", list)
		}
		if len(list) == 1 && impl.ValidUsers(list[:0]) {
			t.Error("ValidUsers of nobody = true")
		}
	}
}

func TestP64ThePoorestComesNext(t *testing.T) {
	for _, list := range userLists() {
		next := impl.NextUser(list)
		if next == -1 {
			continue
		}
		if list[next].Waits == 0 {
			t.Errorf("NextUser(%v) = %d", list, next)
		}
		for at, u := range list {
			poorer := quotientOf(u) < quotientOf(list[next])
			asPoor := quotientOf(u) == quotientOf(list[next])
			if u.Waits > 0 && (poorer || (asPoor && at < next)) {
				t.Errorf("NextUser(%v) = %d", list, next)
			}
		}
	}
}

func TestP65NobodyIsNextIfNobodyWaits(t *testing.T) {
	nobody := 0
	for _, list := range userLists() {
		next := impl.NextUser(list)
		if (next == -1) != (sumOfWaits(list) == 0) || next < -1 || next >= len(list) {
			t.Errorf("NextUser(%v) = %d", list, next)
		}
		if next == -1 {
			nobody++
		}
	}
	if nobody == 0 {
		t.Error("somebody always waits")
	}
}

func TestP66ServedUsersHaveUsedMore(t *testing.T) {
	full := 0
	for _, list := range userLists() {
		for _, time := range []int{1, 7, impl.MaxTime} {
			out, at, ok := impl.ServeUser(list, time)
			if !ok {
				continue
			}
			if at != impl.NextUser(list) || len(out) != len(list) || !impl.ValidUsers(out) {
				t.Fatalf("ServeUser(%v, %d) = %v, %d", list, time, out, at)
			}
			used := list[at].Used + time
			if used > impl.MaxUsed {
				used = impl.MaxUsed
				full++
			}
			for other := range list {
				want := list[other]
				if other == at {
					want = user(want.Share, used, want.Waits-1)
				}
				if out[other] != want {
					t.Errorf("ServeUser(%v, %d) = %v, %d", list, time, out, at)
				}
			}
		}
	}
	if full == 0 {
		t.Error("no amount becomes greater than MaxUsed")
	}
}

func TestP67AllTasksAreServed(t *testing.T) {
	for _, list := range userLists() {
		for _, time := range []int{1, impl.MaxTime} {
			turns := impl.ServeAll(list, time)
			for at, u := range list {
				times := 0
				for _, turn := range turns {
					if turn == at {
						times++
					}
				}
				if times != u.Waits {
					t.Errorf("ServeAll(%v, %d) = %v", list, time, turns)
				}
			}
			if len(turns) > 0 && turns[0] != impl.NextUser(list) {
				t.Errorf("ServeAll(%v, %d) = %v", list, time, turns)
			}
		}
	}
}

func TestP68ServingGoesStepByStep(t *testing.T) {
	for _, list := range userLists() {
		for _, time := range []int{1, 4, impl.MaxTime} {
			out, at, ok := impl.ServeUser(list, time)
			if !ok {
				continue
			}
			if rest := impl.ServeAll(out, time); !same(impl.ServeAll(list, time), with([]int{at}, rest...)...) {
				t.Errorf("ServeAll(%v, %d) = %v, but then %v", list, time, impl.ServeAll(list, time), rest)
			}
		}
	}
}

func TestP69EqualUsersAreServedInTurns(t *testing.T) {
	lists := listsOf(0, impl.MaxWaits, 3)
	d := &dice{state: 61}
	for i := 0; i < 200; i++ {
		lists = append(lists, []int{d.below(7), d.below(7), d.below(7), d.below(7)}, []int{d.below(7), d.below(7), d.below(7), d.below(7), d.below(7)})
	}
	for _, waits := range lists[1:] {
		turns := []int{}
		for round := 1; round <= impl.MaxWaits; round++ {
			for at := range waits {
				if waits[at] >= round {
					turns = append(turns, at)
				}
			}
		}
		for share := 1; share <= impl.MaxShare; share++ {
			list := usersWith(len(waits), user(share, 0, 0))
			for at := range list {
				list[at].Waits = waits[at]
			}
			for _, time := range []int{1, 11, impl.MaxTime} {
				if got := impl.ServeAll(list, time); !same(got, turns...) {
					t.Errorf("ServeAll(%v, %d) = %v", list, time, got)
				}
			}
		}
	}
}

func TestP70PartsAddUp(t *testing.T) {
	rounded := 0
	for _, list := range userLists() {
		for _, amount := range []int{0, 1, 2, 19, 100, 5003, impl.MaxUsed} {
			parts := impl.FairParts(list, amount)
			if len(parts) != len(list) {
				t.Fatalf("FairParts(%v, %d) = %v", list, amount, parts)
			}
			sum := 0
			for at, u := range list {
				sum += parts[at]
				least := amount * u.Share / sumOfShares(list)
				if parts[at] < least || parts[at] > least+1 {
					t.Errorf("FairParts(%v, %d) = %v", list, amount, parts)
				}
				if parts[at] > least {
					rounded++
				}
			}
			if sum != amount {
				t.Errorf("FairParts(%v, %d) = %v", list, amount, parts)
			}
		}
	}
	if rounded == 0 {
		t.Error("nothing is ever left")
	}
}

func TestP71WhatWasUsedDoesNotMatterForParts(t *testing.T) {
	for _, list := range userLists() {
		fresh := copyOfUsers(list)
		for at := range fresh {
			fresh[at].Used = 0
			fresh[at].Waits = 0
		}
		for _, amount := range []int{0, 1, 33, 9001, impl.MaxUsed} {
			if got := impl.FairParts(fresh, amount); len(got) != len(list) || !same(got, impl.FairParts(list, amount)...) {
				t.Errorf("FairParts(%v, %d) = %v", fresh, amount, got)
			}
		}
	}
}

func TestP158SharesCount(t *testing.T) {
	for _, list := range userLists() {
		for _, used := range []int{1, 2, 9999, impl.MaxUsed} {
			equal := copyOfUsers(list)
			largest := 0
			for at := range equal {
				equal[at].Used = used
				equal[at].Waits = equal[at].Waits%impl.MaxWaits + 1
				if equal[at].Share > equal[largest].Share {
					largest = at
				}
			}
			if next := impl.NextUser(equal); next != largest {
				t.Errorf("NextUser(%v) = %d", equal, next)
			}
		}
	}
}

func TestP159NobodyIsServedIfNobodyWaits(t *testing.T) {
	for _, list := range userLists() {
		somebody := impl.NextUser(list) != -1
		for time := -1; time <= impl.MaxTime+2; time++ {
			valid := time >= 1 && time <= impl.MaxTime
			out, at, ok := impl.ServeUser(list, time)
			if ok != (somebody && valid) || ok != (at >= 0) || ok != (len(out) > 0) {
				t.Errorf("ServeUser(%v, %d) = %v, %d, %v", list, time, out, at, ok)
			}
		}
	}
}

func TestP160AsManyAreServedAsWait(t *testing.T) {
	for _, list := range userLists() {
		for _, time := range []int{1, 9, impl.MaxTime} {
			if turns := impl.ServeAll(list, time); len(turns) != sumOfWaits(list) {
				t.Errorf("ServeAll(%v, %d) = %v", list, time, turns)
			}
		}
	}
}

// TestP161EqualSharesHaveEqualParts also has users with the same share among
// others.
func TestP161EqualSharesHaveEqualParts(t *testing.T) {
	lists := userLists()
	for n := 1; n <= impl.MaxUsers; n++ {
		for share := 1; share <= impl.MaxShare; share++ {
			lists = append(lists, usersWith(n, user(share, 3, 1)))
		}
	}
	for _, list := range lists {
		for _, amount := range []int{0, 1, 4, 28, 9999, impl.MaxUsed} {
			parts := impl.FairParts(list, amount)
			if len(parts) != len(list) {
				t.Fatalf("FairParts(%v, %d) = %v", list, amount, parts)
			}
			for a := range list {
				for b := a + 1; b < len(list); b++ {
					less := parts[a] - parts[b]
					if list[a].Share == list[b].Share && (less < 0 || less > 1) {
						t.Errorf("FairParts(%v, %d) = %v", list, amount, parts)
					}
				}
			}
		}
	}
}
