package tests

import (
	"slices"
	"strings"
	"testing"

	"loop.example/g00614/impl"
)

// five are the waits that most tests begin with: at both ends of the seasons, three that are Ripe in one, with the most and with the least amount.
func five() []impl.Wait {
	return []impl.Wait{
		{Who: "ann", Mill: "mia", Amount: 9, Ripe: 0},
		{Who: "mia", Mill: "bob", Amount: 1000000, Ripe: 3},
		{Who: "ann", Mill: "mia", Amount: 1, Ripe: 3},
		{Who: "bob", Mill: "mia", Amount: 199, Ripe: 3},
		{Who: "ann", Mill: "bob", Amount: 50, Ripe: 1000},
	}
}

// pile are n waits that are all Ripe in one season, each of another one but of two mills in turn.
func pile(n int, amount, ripe int64) []impl.Wait {
	var l []impl.Wait
	for i := range n {
		l = append(l, impl.Wait{Who: letters[25-i : 26-i], Mill: []string{"mia", "bob"}[i%2], Amount: amount, Ripe: ripe})
	}
	return l
}

// stairs are n waits of one in one mill, two Ripe in each season, and one coin more in each.
func stairs(n int) []impl.Wait {
	var l []impl.Wait
	for i := range int64(n) {
		l = append(l, impl.Wait{Who: "ann", Mill: "mia", Amount: i + 1, Ripe: i / 2})
	}
	return l
}

// rightWaits are some that are as the chapter wants them.
func rightWaits() [][]impl.Wait {
	return [][]impl.Wait{
		nil,
		{},
		{{Who: "a", Mill: "a", Amount: 1, Ripe: 0}},
		{{Who: "zzzzzz", Mill: "zzzzzz", Amount: 1000000, Ripe: 1000}},
		{{Who: "b", Mill: "b", Amount: 2, Ripe: 0}, {Who: "a", Mill: "a", Amount: 1, Ripe: 1000}}, // all but Ripe falls
		{{Who: "b", Mill: "b", Amount: 2, Ripe: 7}, {Who: "a", Mill: "a", Amount: 1, Ripe: 7}},
		{{Who: "a", Mill: "a", Amount: 5, Ripe: 7}, {Who: "a", Mill: "a", Amount: 5, Ripe: 7}}, // twice there
		{{Who: "a", Mill: "b", Amount: 5, Ripe: 9}, {Who: "a", Mill: "b", Amount: 5, Ripe: 10}, {Who: "a", Mill: "b", Amount: 5, Ripe: 100}},
		five(),
		pile(19, 1, 0),
		pile(20, 1, 1000),
		pile(20, 1000000, 0),
		pile(20, 999999, 500),
		stairs(19),
		stairs(20),
	}
}

// wrongWait are waits that are not right: each for one reason.
func wrongWait() []impl.Wait {
	l := []impl.Wait{{}}
	for _, name := range []string{"", "Mia", "mia ", " mia", "m1a", "zzzzzzz", "mi\x00", "\xff", "mä", strings.Repeat("m", 1000)} {
		l = append(l, impl.Wait{Who: name, Mill: "mia", Amount: 5, Ripe: 3}, impl.Wait{Who: "mia", Mill: name, Amount: 5, Ripe: 3})
	}
	for _, amount := range []int64{0, -1, -5, -1000000, 1000001, 1 << 32, least, greatest} {
		l = append(l, impl.Wait{Who: "mia", Mill: "mia", Amount: amount, Ripe: 3})
	}
	for _, ripe := range []int64{-1, -1000, 1001, 1 << 32, least, greatest} {
		l = append(l, impl.Wait{Who: "mia", Mill: "mia", Amount: 5, Ripe: ripe})
	}
	return l
}

// wrongWaits are lists that are not right: each for one reason, at the first, a middle or the last place.
func wrongWaits() [][]impl.Wait {
	l := [][]impl.Wait{
		pile(21, 1, 0),
		pile(21, 1000000, 1000),
		pile(22, 1, 0),
		pile(26, 1, 0),
		stairs(21),
		stairs(1000),
		slices.Repeat(pile(1, 1, 0), 21),
		slices.Repeat(five()[:1], 10000),
		{{Who: "a", Mill: "a", Amount: 1, Ripe: 1}, {Who: "a", Mill: "a", Amount: 1, Ripe: 0}}, // Ripe falls
		{{Who: "a", Mill: "a", Amount: 1, Ripe: 1000}, {Who: "b", Mill: "b", Amount: 2, Ripe: 999}},
		{{Who: "a", Mill: "a", Amount: 1, Ripe: 10}, {Who: "b", Mill: "b", Amount: 2, Ripe: 9}},
		{{Who: "a", Mill: "a", Amount: 1, Ripe: 3}, {Who: "a", Mill: "a", Amount: 1, Ripe: 4}, {Who: "a", Mill: "a", Amount: 1, Ripe: 3}},
		{{Who: "a", Mill: "a", Amount: 1, Ripe: 3}, {Who: "a", Mill: "a", Amount: 1, Ripe: 0}, {Who: "a", Mill: "a", Amount: 1, Ripe: 3}},
		{{Who: "a", Mill: "a", Amount: 1, Ripe: 0}, {Who: "a", Mill: "a", Amount: 1, Ripe: 2}, {Who: "a", Mill: "a", Amount: 1, Ripe: 1}, {Who: "a", Mill: "a", Amount: 1, Ripe: 3}}, // a heap, but it falls
		append(pile(19, 1, 5), pile(1, 1, 4)...),
		append(pile(1, 1, 5), pile(19, 1, 4)...),
	}
	turned := stairs(20)
	slices.Reverse(turned)
	l = append(l, turned)
	for _, w := range wrongWait() {
		l = append(l, []impl.Wait{w})
		for at, right := range five() {
			waits := five()
			waits[at] = w
			l = append(l, waits)
			if w.Ripe == 3 { // something else is wrong, and the list still does not fall
				waits = five()
				waits[at] = impl.Wait{Who: w.Who, Mill: w.Mill, Amount: w.Amount, Ripe: right.Ripe}
				l = append(l, waits)
			}
		}
	}
	return l
}

// seasons has each limit of a season, what is beside it or beside what is Ripe, and what is far outside.
var seasons = []int64{least, least + 1, -1000, -1, 0, 1, 2, 3, 4, 7, 8, 9, 10, 499, 500, 501, 999, 1000, 1001, 1 << 32, greatest - 1, greatest}

// waitsOf is what the chapter wants of waits, word by word.
func waitsOf(l []impl.Wait) bool {
	for i, w := range l {
		if !rising([]string{w.Who}) || !rising([]string{w.Mill}) || !isFrom(1, w.Amount, 1000000) || !isFrom(0, w.Ripe, 1000) {
			return false
		}
		if i > 0 && l[i-1].Ripe > w.Ripe {
			return false
		}
	}
	return len(l) <= 20
}

// those are the waits of l of which that is true.
func those(l []impl.Wait, is func(impl.Wait) bool) []impl.Wait {
	var some []impl.Wait
	for _, w := range l {
		if is(w) {
			some = append(some, w)
		}
	}
	return some
}

// split are those of l that are Ripe later than that season, and those that are not.
func split(l []impl.Wait, season int64) (later, ripe []impl.Wait) {
	later = those(l, func(w impl.Wait) bool { return w.Ripe > season })
	ripe = those(l, func(w impl.Wait) bool { return w.Ripe <= season })
	return later, ripe
}

// joined is l with w behind all that are Ripe no later.
func joined(l []impl.Wait, w impl.Wait) []impl.Wait {
	later, ripe := split(l, w.Ripe)
	return slices.Concat(ripe, []impl.Wait{w}, later)
}

func coins(l []impl.Wait) int64 {
	all := int64(0)
	for _, w := range l {
		all += w.Amount
	}
	return all
}

func TestLimitsOfWaits(t *testing.T) {
	if impl.MaxWaits != 20 || impl.MaxSeason != 1000 {
		t.Fatal(impl.MaxWaits, impl.MaxSeason)
	}
}

func TestWaitsOk(t *testing.T) {
	for _, l := range rightWaits() {
		if !impl.WaitsOk(l) {
			t.Errorf("WaitsOk(%v) is false", l)
		}
	}
	for _, l := range wrongWaits() {
		if impl.WaitsOk(l) {
			t.Errorf("WaitsOk(%v) is true", l)
		}
	}
}

func TestWaitsOkOfEachCount(t *testing.T) {
	for n := range 101 {
		if got := impl.WaitsOk(stairs(n)); got != (n <= 20) {
			t.Errorf("WaitsOk of %d waits is %t", n, got)
		}
		same := slices.Repeat(five()[3:4], n)
		if got := impl.WaitsOk(same); got != (n <= 20) {
			t.Errorf("WaitsOk of %d waits that are alike is %t", n, got)
		}
	}
	for n := range 27 {
		for _, ripe := range []int64{0, 500, 1000} {
			if got := impl.WaitsOk(pile(n, 1000000, ripe)); got != (n <= 20) {
				t.Errorf("WaitsOk of %d waits that are Ripe in %d is %t", n, ripe, got)
			}
		}
	}
}

func TestWaitsOkOfNamesAndNumbers(t *testing.T) {
	for _, who := range words {
		for _, mill := range words {
			one := []impl.Wait{{Who: who, Mill: mill, Amount: 5, Ripe: 3}}
			if got := impl.WaitsOk(one); got != waitsOf(one) {
				t.Errorf("WaitsOk(%v) is %t", one, got)
			}
		}
	}
	for _, amount := range edges {
		for _, ripe := range seasons {
			one := []impl.Wait{{Who: "ann", Mill: "mia", Amount: amount, Ripe: ripe}}
			if got := impl.WaitsOk(one); got != waitsOf(one) {
				t.Errorf("WaitsOk(%v) is %t", one, got)
			}
		}
	}
}

func TestWaitsOkOfAllShortLists(t *testing.T) {
	var all []impl.Wait
	for _, who := range []string{"a", "b", "A"} {
		for amount := range int64(3) {
			for _, ripe := range []int64{-1, 0, 9, 10, 1000} {
				all = append(all, impl.Wait{Who: who, Mill: "mia", Amount: amount, Ripe: ripe})
			}
		}
	}
	for _, a := range all {
		for _, b := range all {
			for _, c := range all {
				l := []impl.Wait{a, b, c}
				for n := 2; n <= 3; n++ {
					if got := impl.WaitsOk(l[:n]); got != waitsOf(l[:n]) {
						t.Errorf("WaitsOk(%v) is %t", l[:n], got)
					}
				}
			}
		}
	}
}

func TestWaiting(t *testing.T) {
	for _, c := range []struct {
		ripe int64
		at   int // how many of five are ahead of the new one
	}{{0, 1}, {1, 1}, {2, 1}, {3, 4}, {4, 4}, {10, 4}, {999, 4}, {1000, 5}} {
		for _, amount := range []int64{1, 2, 999999, 1000000} {
			for _, who := range []string{"a", "ann", "bob", "mia", "zzzzzz"} { // whoever it is, Ripe alone tells the place
				w := impl.Wait{Who: who, Mill: "bob", Amount: amount, Ripe: c.ripe}
				want := slices.Insert(five(), c.at, w)
				if got, ok := impl.Waiting(five(), w); !ok || !slices.Equal(got, want) {
					t.Errorf("Waiting(%v, %v) = %v, %t; want %v", five(), w, got, ok, want)
				}
			}
		}
	}
}

func TestWaitingOfNoWaits(t *testing.T) {
	for _, l := range [][]impl.Wait{nil, {}} {
		for _, w := range five() {
			if got, ok := impl.Waiting(l, w); !ok || !slices.Equal(got, []impl.Wait{w}) {
				t.Errorf("Waiting(%v, %v) = %v, %t", l, w, got, ok)
			}
		}
		for _, w := range wrongWait() {
			if got, ok := impl.Waiting(l, w); ok || len(got) != 0 {
				t.Errorf("Waiting(%v, %v) = %v, %t", l, w, got, ok)
			}
		}
	}
}

func TestWaitingRefusesWhatIsNotRight(t *testing.T) {
	for _, l := range rightWaits() {
		for _, w := range wrongWait() {
			if got, ok := impl.Waiting(l, w); ok || !slices.Equal(got, l) {
				t.Errorf("Waiting(%v, %v) = %v, %t", l, w, got, ok)
			}
		}
	}
}

func TestWaitingBehindAllThatAreRipeInOneSeason(t *testing.T) {
	for n := range 20 {
		for _, ripe := range []int64{0, 1, 500, 1000} {
			l := pile(n, 7, ripe)
			for _, who := range []string{"a", "m", "z"} {
				w := impl.Wait{Who: who, Mill: "bob", Amount: 1, Ripe: ripe}
				if got, ok := impl.Waiting(l, w); !ok || !slices.Equal(got, append(pile(n, 7, ripe), w)) {
					t.Errorf("Waiting(%v, %v) = %v, %t", l, w, got, ok)
				}
			}
		}
	}
}

func TestWaitingWhereThereIsRoomForOneOrNone(t *testing.T) {
	for _, ripe := range []int64{0, 4, 5, 9, 10, 500, 1000} {
		w := impl.Wait{Who: "bob", Mill: "bob", Amount: 3, Ripe: ripe}
		for _, l := range [][]impl.Wait{stairs(19), pile(19, 1, 5), pile(19, 1000000, 500)} {
			if got, ok := impl.Waiting(l, w); !ok || !slices.Equal(got, joined(l, w)) {
				t.Errorf("Waiting(%v, %v) = %v, %t", l, w, got, ok)
			}
		}
		for _, l := range [][]impl.Wait{stairs(20), pile(20, 1, 5), pile(20, 1000000, 500)} {
			if got, ok := impl.Waiting(l, w); ok || !slices.Equal(got, l) {
				t.Errorf("Waiting(%v, %v) = %v, %t", l, w, got, ok)
			}
		}
	}
}

func TestWaitingFromNothingOn(t *testing.T) {
	var l, want []impl.Wait
	for i := range int64(20) {
		w := impl.Wait{Who: letters[i : i+1], Mill: "mia", Amount: i + 1, Ripe: i * 7 % 5} // in no order, four in each season
		more, ok := impl.Waiting(l, w)
		want = joined(want, w)
		if !ok || !slices.Equal(more, want) || !waitsOf(more) {
			t.Fatalf("Waiting(%v, %v) = %v, %t; want %v", l, w, more, ok, want)
		}
		l = more
	}
	if got, ok := impl.Waiting(l, five()[0]); ok || !slices.Equal(got, want) {
		t.Fatalf("Waiting(%v, %v) = %v, %t", l, five()[0], got, ok)
	}
}

func TestWaitingOfWrongWaits(t *testing.T) {
	for _, l := range wrongWaits() {
		for _, w := range append(five(), wrongWait()...) {
			if got, ok := impl.Waiting(l, w); ok || len(got) != 0 {
				t.Errorf("Waiting(%v, %v) = %v, %t", l, w, got, ok)
			}
		}
	}
}

func TestRipeAt(t *testing.T) {
	for _, c := range []struct {
		season int64
		ripe   int // how many of five are Ripe by then
	}{
		{least, 0}, {-1000, 0}, {-1, 0}, {0, 1}, {1, 1}, {2, 1}, {3, 4}, {4, 4}, {999, 4}, {1000, 5}, {1001, 5}, {greatest, 5},
	} {
		later, ripe := impl.RipeAt(five(), c.season)
		if !slices.Equal(later, five()[c.ripe:]) || !slices.Equal(ripe, five()[:c.ripe]) {
			t.Errorf("RipeAt(%v, %d) = %v, %v", five(), c.season, later, ripe)
		}
	}
}

func TestRipeAtOfWrongWaits(t *testing.T) {
	for _, l := range wrongWaits() {
		for _, season := range seasons {
			if later, ripe := impl.RipeAt(l, season); len(later) != 0 || len(ripe) != 0 {
				t.Errorf("RipeAt(%v, %d) = %v, %v", l, season, later, ripe)
			}
		}
	}
}

func TestFined(t *testing.T) {
	for _, c := range []struct {
		mill    string
		percent int64
		left    []int64 // of each of five, 0 where it is gone
		lost    int64
	}{
		{"mia", 0, []int64{9, 1000000, 1, 199, 50}, 0},
		{"mia", 1, []int64{9, 1000000, 1, 198, 50}, 1},
		{"mia", 11, []int64{9, 1000000, 1, 178, 50}, 21},
		{"mia", 12, []int64{8, 1000000, 1, 176, 50}, 24},
		{"mia", 50, []int64{5, 1000000, 1, 100, 50}, 103},
		{"mia", 99, []int64{1, 1000000, 1, 2, 50}, 205},
		{"mia", 100, []int64{0, 1000000, 0, 0, 50}, 209},
		{"bob", 0, []int64{9, 1000000, 1, 199, 50}, 0},
		{"bob", 1, []int64{9, 990000, 1, 199, 50}, 10000},
		{"bob", 2, []int64{9, 980000, 1, 199, 49}, 20001},
		{"bob", 50, []int64{9, 500000, 1, 199, 25}, 500025},
		{"bob", 99, []int64{9, 10000, 1, 199, 1}, 990049},
		{"bob", 100, []int64{9, 0, 1, 199, 0}, 1000050},
		{"ann", 50, []int64{9, 1000000, 1, 199, 50}, 0}, // it waits, but is no mill here
		{"zoe", 100, []int64{9, 1000000, 1, 199, 50}, 0},
		{"mi", 100, []int64{9, 1000000, 1, 199, 50}, 0},
		{"miaa", 100, []int64{9, 1000000, 1, 199, 50}, 0},
		{"Mia", 100, []int64{9, 1000000, 1, 199, 50}, 0},
		{"", 100, []int64{9, 1000000, 1, 199, 50}, 0},
		{"\xff", 0, []int64{9, 1000000, 1, 199, 50}, 0},
	} {
		want := five()
		for i, amount := range c.left {
			want[i].Amount = amount
		}
		want = those(want, func(w impl.Wait) bool { return w.Amount > 0 })
		if left, lost := impl.Fined(five(), c.mill, c.percent); lost != c.lost || !slices.Equal(left, want) {
			t.Errorf("Fined(%v, %q, %d) = %v, %d; want %v, %d", five(), c.mill, c.percent, left, lost, want, c.lost)
		}
	}
}

func TestFinedOfNoWaits(t *testing.T) {
	for _, l := range [][]impl.Wait{nil, {}} {
		for _, percent := range []int64{0, 1, 100} {
			if left, lost := impl.Fined(l, "mia", percent); len(left) != 0 || lost != 0 {
				t.Errorf("Fined(%v, mia, %d) = %v, %d", l, percent, left, lost)
			}
		}
	}
}

func TestFinedAtEachLimit(t *testing.T) {
	full := pile(20, 1000000, 3) // each Amount is bounded, not all together
	if left, lost := impl.Fined(full, "mia", 100); lost != 10000000 || len(left) != 10 || coins(left) != 10000000 {
		t.Errorf("Fined(%v, mia, 100) = %v, %d", full, left, lost)
	}
	one := slices.Repeat([]impl.Wait{{Who: "ann", Mill: "mia", Amount: 1000000, Ripe: 3}}, 20)
	if left, lost := impl.Fined(one, "mia", 100); lost != 20000000 || len(left) != 0 {
		t.Errorf("Fined(%v, mia, 100) = %v, %d", one, left, lost)
	}
	if left, lost := impl.Fined(one, "mia", 99); lost != 19800000 || len(left) != 20 {
		t.Errorf("Fined(%v, mia, 99) = %v, %d", one, left, lost)
	}
	single := pile(20, 1, 3) // of one coin nothing less than all of it can be lost
	for percent := range int64(100) {
		if left, lost := impl.Fined(single, "mia", percent); lost != 0 || !slices.Equal(left, single) {
			t.Errorf("Fined(%v, mia, %d) = %v, %d", single, percent, left, lost)
		}
	}
}

func TestFinedRefuses(t *testing.T) {
	for _, mill := range append([]string{"j"}, asked...) {
		for _, l := range rightWaits() {
			for _, percent := range []int64{least, least + 1, -100, -2, -1, 101, 102, 200, 1000000, 1 << 32, greatest - 1, greatest} {
				if left, lost := impl.Fined(l, mill, percent); len(left) != 0 || lost != -1 {
					t.Errorf("Fined(%v, %q, %d) = %v, %d", l, mill, percent, left, lost)
				}
			}
		}
		for _, l := range wrongWaits() {
			for _, percent := range []int64{least, -1, 0, 1, 50, 100, 101, greatest} {
				if left, lost := impl.Fined(l, mill, percent); len(left) != 0 || lost != -1 {
					t.Errorf("Fined(%v, %q, %d) = %v, %d", l, mill, percent, left, lost)
				}
			}
		}
	}
}

// Promise 6, of what is Ripe and what is not: each wait is in one of the two, at its place, and not one coin goes.
func TestRipeOrNotNothingIsLost(t *testing.T) {
	for _, l := range rightWaits() {
		for _, season := range seasons {
			later, ripe := impl.RipeAt(l, season)
			wantLater, wantRipe := split(l, season)
			if !slices.Equal(later, wantLater) || !slices.Equal(ripe, wantRipe) || !slices.Equal(slices.Concat(ripe, later), l) {
				t.Errorf("RipeAt(%v, %d) = %v, %v", l, season, later, ripe)
			}
			if !impl.WaitsOk(later) || !impl.WaitsOk(ripe) || impl.AmountIn(later)+impl.AmountIn(ripe) != impl.AmountIn(l) {
				t.Errorf("RipeAt(%v, %d) = %v, %v", l, season, later, ripe)
			}
		}
	}
}

// Promise 6, of a new one: all others stay in their order, and there is just its amount more.
func TestNothingIsLostByWaiting(t *testing.T) {
	for _, l := range rightWaits() {
		for _, amount := range edges {
			for _, ripe := range seasons {
				w := impl.Wait{Who: "bob", Mill: "bob", Amount: amount, Ripe: ripe}
				more, ok := impl.Waiting(l, w)
				want := l
				if waitsOf([]impl.Wait{w}) && len(l) < 20 {
					want = joined(l, w)
				}
				if ok != (len(want) > len(l)) || !slices.Equal(more, want) || impl.AmountIn(more) != coins(want) {
					t.Errorf("Waiting(%v, %v) = %v, %t; want %v", l, w, more, ok, want)
				}
			}
		}
	}
}

// Promise 6, of a fine: what is left and what is lost are together what was there, nothing is more, and only that mill's is less.
func TestWhatIsFinedIsLess(t *testing.T) {
	for _, l := range rightWaits() {
		for _, mill := range []string{"a", "b", "bob", "mia", "zoe", "zzzzzz", "", "Mia"} {
			before := int64(-1)
			for percent := range int64(101) {
				checkFined(t, l, mill, percent)
				if _, lost := impl.Fined(l, mill, percent); lost < before {
					t.Errorf("Fined(%v, %q, %d) is %d, less than at a smaller percent", l, mill, percent, lost)
				} else {
					before = lost
				}
			}
		}
	}
}

func checkFined(t *testing.T, l []impl.Wait, mill string, percent int64) {
	t.Helper()
	var want []impl.Wait
	for _, w := range l {
		if w.Mill == mill {
			w.Amount -= w.Amount * percent / 100
		}
		if w.Amount != 0 {
			want = append(want, w)
		}
	}
	left, lost := impl.Fined(l, mill, percent)
	if !slices.Equal(left, want) || lost != coins(l)-coins(want) || impl.AmountIn(left)+lost != impl.AmountIn(l) || !impl.WaitsOk(left) {
		t.Errorf("Fined(%v, %q, %d) = %v, %d; want %v", l, mill, percent, left, lost, want)
	}
}

func TestWaitsFor(t *testing.T) {
	l := five()
	for _, c := range []struct {
		who  string
		want []impl.Wait
	}{
		{"ann", []impl.Wait{l[0], l[2], l[4]}}, {"bob", l[3:4]}, {"mia", l[1:2]},
		{"zoe", nil}, {"an", nil}, {"anna", nil}, {"a", nil}, {"Ann", nil}, {"ann ", nil}, {"", nil}, {"\xff", nil}, {strings.Repeat("a", 1000), nil},
	} {
		if got := impl.WaitsFor(five(), c.who); !slices.Equal(got, c.want) {
			t.Errorf("WaitsFor(%v, %q) = %v; want %v", five(), c.who, got, c.want)
		}
	}
}

func TestWaitsForOfAllWaits(t *testing.T) {
	for _, who := range append([]string{"z", "g", "f"}, asked...) {
		for _, l := range rightWaits() {
			want := those(l, func(w impl.Wait) bool { return w.Who == who })
			if got := impl.WaitsFor(l, who); !slices.Equal(got, want) {
				t.Errorf("WaitsFor(%v, %q) = %v; want %v", l, who, got, want)
			}
		}
		for _, l := range wrongWaits() {
			if got := impl.WaitsFor(l, who); len(got) != 0 {
				t.Errorf("WaitsFor(%v, %q) = %v", l, who, got)
			}
		}
	}
}

func TestAmountIn(t *testing.T) {
	for _, c := range []struct {
		l   []impl.Wait
		all int64
	}{
		{nil, 0},
		{[]impl.Wait{}, 0},
		{five()[:1], 9},
		{five()[1:2], 1000000},
		{five(), 1000259}, // more than an amount: only each one is bounded
		{stairs(20), 210},
		{pile(20, 1, 0), 20},
		{pile(20, 1000000, 1000), 20000000},
	} {
		if all := impl.AmountIn(c.l); all != c.all {
			t.Errorf("AmountIn(%v) = %d; want %d", c.l, all, c.all)
		}
	}
	for _, l := range wrongWaits() {
		if all := impl.AmountIn(l); all != -1 {
			t.Errorf("AmountIn(%v) = %d; want -1", l, all)
		}
	}
}

// The waits behind the list are its spare room: nothing is written there, nor read.
func TestWaitsStayAndAnswersAreNewMemory(t *testing.T) {
	spare := []impl.Wait{{Who: "spare", Mill: "mia", Amount: 3, Ripe: 1000}, {Who: "room", Mill: "mia", Amount: 4, Ripe: 0}}
	for _, l := range append(rightWaits(), wrongWaits()...) {
		room := append(slices.Clone(l), spare...)
		given := slices.Clone(room)
		waits := room[:len(l)]
		if got, want := impl.AmountIn(waits), impl.AmountIn(slices.Clone(l)); got != want || impl.WaitsOk(waits) != (got >= 0) {
			t.Errorf("%v with spare room has %d; want %d", l, got, want)
		}
		for _, w := range slices.Concat(five(), spare, wrongWait()) {
			more, _ := impl.Waiting(waits, w)
			scribble(more)
			scribble(impl.WaitsFor(waits, w.Who))
			later, ripe := impl.RipeAt(waits, w.Ripe)
			scribble(later)
			scribble(ripe)
			for _, percent := range []int64{-1, 0, 1, 50, 100, 101} {
				left, _ := impl.Fined(waits, w.Mill, percent)
				scribble(left)
			}
			if !slices.Equal(room, given) {
				t.Fatalf("%v became %v with %v", given, room, w)
			}
		}
	}
}

// Each of the two is written over to the end of its room: the other one stays.
func TestListsOfRipeAtShareNothing(t *testing.T) {
	for _, l := range rightWaits() {
		for _, season := range seasons {
			wantLater, wantRipe := split(l, season)
			later, ripe := impl.RipeAt(l, season)
			scribble(later)
			if !slices.Equal(ripe, wantRipe) {
				t.Errorf("RipeAt(%v, %d): what is Ripe became %v", l, season, ripe)
			}
			later, ripe = impl.RipeAt(l, season)
			scribble(ripe)
			if !slices.Equal(later, wantLater) {
				t.Errorf("RipeAt(%v, %d): what is later became %v", l, season, later)
			}
		}
	}
}

func TestAnswersOfWaitsShareNothingWithEachOther(t *testing.T) {
	l, w := five(), five()[3]
	a, _ := impl.Waiting(l, w)
	b, _ := impl.Waiting(l, w)
	c, _ := impl.Waiting(l, impl.Wait{})
	d, e := impl.WaitsFor(l, "ann"), impl.WaitsFor(l, "ann")
	f, _ := impl.Fined(l, "mia", 0)
	g, _ := impl.Fined(l, "mia", 0)
	for _, list := range [][]impl.Wait{a, d, f} {
		scribble(list)
	}
	if !slices.Equal(b, joined(five(), w)) || !slices.Equal(c, five()) || len(e) != 3 || e[0] != five()[0] || !slices.Equal(g, five()) || !slices.Equal(l, five()) {
		t.Error(l, b, c, e, g)
	}
}
