package tests

import (
	"slices"
	"strings"
	"testing"

	"loop.example/g00614/impl"
)

// millOf is a right mill where stake, shares and cut are right together.
func millOf(stake, shares, cut int64) impl.Mill {
	return impl.Mill{Name: "mia", Stake: stake, Shares: shares, Cut: cut}
}

// row are mills with the first n of a to z as names, each with as much.
func row(n int, stake, shares int64) []impl.Mill {
	var l []impl.Mill
	for i := range n {
		l = append(l, impl.Mill{Name: letters[i : i+1], Stake: stake, Shares: shares, Cut: int64(i)})
	}
	return l
}

// rightMill are mills that are as the chapter wants them, at each limit and beside it.
func rightMill() []impl.Mill {
	l := []impl.Mill{
		{Name: "a"},
		{Name: "zzzzzz", Stake: 1000000, Shares: 1000000000, Cut: 100, Shut: true},
		{Name: "ann", Shut: true},
		{Name: "bob", Stake: 30, Shares: 20, Cut: 5, Shut: true},
	}
	for _, stake := range []int64{0, 1, 2, 3, 7, 30, 31, 499999, 999999, 1000000} {
		for _, shares := range []int64{1, 2, 3, 7, 20, 1000, 30000, 999999, 1000000, 1000001, 999999999, 1000000000} {
			l = append(l, millOf(stake, shares, 5))
		}
	}
	return append(l, millOf(0, 0, 0), millOf(0, 0, 99), millOf(0, 0, 100), millOf(10, 20, 1), millOf(10, 20, 100))
}

// wrongMill are mills that are not: each for one reason.
func wrongMill() []impl.Mill {
	var l []impl.Mill
	for _, name := range []string{"", "Mia", "mia ", " mia", "m1a", "zzzzzzz", "mi\x00", "\xff", "mä", strings.Repeat("a", 1000)} {
		l = append(l, impl.Mill{Name: name}, impl.Mill{Name: name, Stake: 30, Shares: 20, Cut: 5})
	}
	for _, stake := range []int64{-1, -30, 1000001, 1 << 32, least, greatest} {
		l = append(l, millOf(stake, 20, 5), millOf(stake, 1000000000, 5), millOf(stake, 0, 5))
	}
	for _, shares := range []int64{-1, -20, 1000000001, 1 << 32, least, greatest} {
		l = append(l, millOf(30, shares, 5), millOf(0, shares, 5))
	}
	for _, cut := range []int64{-1, -100, 101, 1000000, 1 << 32, least, greatest} {
		l = append(l, millOf(30, 20, cut), millOf(0, 0, cut))
	}
	for _, stake := range []int64{1, 2, 30, 999999, 1000000} { // Stake, but no Shares
		l = append(l, millOf(stake, 0, 5), millOf(stake, 0, 0))
	}
	return append(l, impl.Mill{}, impl.Mill{Shut: true})
}

// four are as many mills as there may be: with what one share is worth, with nothing, with the most, with no Stake.
func four() []impl.Mill {
	return []impl.Mill{
		{Name: "ann", Stake: 30, Shares: 20, Cut: 5},
		{Name: "bob", Cut: 100, Shut: true},
		{Name: "mia", Stake: 1000000, Shares: 1000000000},
		{Name: "zoe", Shares: 7, Cut: 1},
	}
}

func rightMills() [][]impl.Mill {
	l := [][]impl.Mill{
		nil,
		{},
		{{Name: "az"}, {Name: "b"}},
		{{Name: "a"}, {Name: "aa", Stake: 1, Shares: 1}, {Name: "b"}},
		four(),
		four()[1:],
		row(3, 5, 5),
		row(4, 0, 0),
		row(4, 1000000, 1),
		row(4, 1000000, 1000000000),
	}
	for _, m := range rightMill() {
		l = append(l, []impl.Mill{m})
	}
	return l
}

// wrongMills are lists that are not right: each for one reason, at the first, a middle or the last place.
func wrongMills() [][]impl.Mill {
	l := [][]impl.Mill{
		row(5, 0, 0),
		row(5, 1, 1),
		row(6, 1, 1),
		row(26, 1, 1),
		slices.Repeat(four(), 1000),
		{{Name: "b"}, {Name: "a"}},
		{{Name: "a"}, {Name: "a"}},
		{{Name: "a", Stake: 1, Shares: 1}, {Name: "a", Stake: 2, Shares: 1}},
		{{Name: "aa"}, {Name: "a"}},
		{{Name: "mia"}, {Name: "bob"}, {Name: "ann"}},
		{{Name: "a"}, {Name: "b"}, {Name: "a"}},
		{{Name: "a"}, {Name: "c"}, {Name: "b"}, {Name: "d"}},
		{{Name: "ann"}, {Name: ""}},
		{{Name: "ann"}, {Name: "bob"}, {Name: "bob "}},
		{{Name: "Ann"}, {Name: "ann"}},
		{{Name: "ann"}, {Name: "zzzzzzz"}},
		{{Name: "ann"}, {Name: "\xff"}},
	}
	for _, m := range wrongMill() {
		l = append(l, []impl.Mill{m})
		if m.Name != "mia" {
			continue
		}
		for at, name := range []string{"ann", "bob", "mia", "zoe"} {
			mills := four()
			mills[at] = m
			mills[at].Name = name
			l = append(l, mills)
		}
	}
	return l
}

func TestLimitOfMills(t *testing.T) {
	if impl.MaxMills != 4 {
		t.Fatal(impl.MaxMills)
	}
}

func TestMillOk(t *testing.T) {
	for _, m := range rightMill() {
		if !impl.MillOk(m) {
			t.Errorf("MillOk(%+v) is false", m)
		}
	}
	for _, m := range wrongMill() {
		if impl.MillOk(m) {
			t.Errorf("MillOk(%+v) is true", m)
		}
	}
}

func TestMillOkAtEdges(t *testing.T) {
	for _, stake := range edges {
		for _, shares := range edges {
			for _, cut := range edges {
				want := isFrom(0, stake, 1000000) && isFrom(0, shares, 1000000000) && isFrom(0, cut, 100) && (stake == 0 || shares >= 1)
				for _, shut := range []bool{false, true} {
					m := impl.Mill{Name: "mia", Stake: stake, Shares: shares, Cut: cut, Shut: shut}
					if got := impl.MillOk(m); got != want {
						t.Errorf("MillOk(%+v) is %t", m, got)
					}
				}
			}
		}
	}
}

func TestMillOkOfNames(t *testing.T) {
	for _, name := range words {
		want := rising([]string{name})
		for _, m := range []impl.Mill{{Name: name}, {Name: name, Stake: 30, Shares: 20, Cut: 5, Shut: true}} {
			if got := impl.MillOk(m); got != want {
				t.Errorf("MillOk(%+v) is %t", m, got)
			}
			if got := impl.MillsOk([]impl.Mill{m}); got != want {
				t.Errorf("MillsOk of %+v alone is %t", m, got)
			}
		}
		for _, other := range words {
			two := []impl.Mill{{Name: name, Stake: 2, Shares: 2}, {Name: other, Stake: 1, Shares: 1}}
			if got, want := impl.MillsOk(two), rising([]string{name, other}); got != want {
				t.Errorf("MillsOk(%+v) is %t", two, got)
			}
		}
	}
}

func TestMillsOk(t *testing.T) {
	for _, l := range rightMills() {
		if !impl.MillsOk(l) {
			t.Errorf("MillsOk(%+v) is false", l)
		}
	}
	for _, l := range wrongMills() {
		if impl.MillsOk(l) {
			t.Errorf("MillsOk(%+v) is true", l)
		}
	}
}

func TestMillsOkOfEachCount(t *testing.T) {
	for n := range 27 {
		for _, stake := range []int64{0, 5, 1000000} {
			if got := impl.MillsOk(row(n, stake, 5)); got != (n <= 4) {
				t.Errorf("MillsOk of %d mills with %d each is %t", n, stake, got)
			}
		}
	}
}

func TestMillIn(t *testing.T) {
	for _, c := range []struct {
		name string
		at   int
	}{
		{"ann", 0}, {"bob", 1}, {"mia", 2}, {"zoe", 3},
		{"abe", -1}, {"bea", -1}, {"zzz", -1}, {"an", -1}, {"anna", -1}, {"a", -1},
		{"Ann", -1}, {" ann", -1}, {"ann ", -1}, {"", -1}, {"\xff", -1}, {strings.Repeat("a", 1000), -1},
	} {
		want := impl.Mill{}
		if c.at >= 0 {
			want = four()[c.at]
		}
		if m, is := impl.MillIn(four(), c.name); m != want || is != (c.at >= 0) {
			t.Errorf("MillIn(%+v, %q) = %+v, %t; want %+v", four(), c.name, m, is, want)
		}
	}
}

func TestMillInOfAllMills(t *testing.T) {
	for _, l := range rightMills() {
		for _, name := range append([]string{"c", "d", "zoe"}, asked...) {
			want, there := impl.Mill{}, false
			for _, m := range l {
				if m.Name == name {
					want, there = m, true
				}
			}
			if m, is := impl.MillIn(l, name); m != want || is != there {
				t.Errorf("MillIn(%+v, %q) = %+v, %t; want %+v, %t", l, name, m, is, want, there)
			}
		}
	}
	for _, l := range wrongMills() {
		for _, name := range append([]string{"c", "d", "zoe"}, asked...) {
			if m, is := impl.MillIn(l, name); m != (impl.Mill{}) || is {
				t.Errorf("MillIn(%+v, %q) = %+v, %t", l, name, m, is)
			}
		}
	}
}

func TestWorth(t *testing.T) {
	for _, c := range []struct {
		stake, shares int64
		some, worth   int64
	}{
		{30, 20, 0, 0},
		{30, 20, 1, 1},
		{30, 20, 2, 3},
		{30, 20, 7, 10},
		{30, 20, 19, 28},
		{30, 20, 20, 30}, // all Shares
		{30, 20, 21, -1},
		{30, 20, -1, -1},
		{30, 20, least, -1},
		{30, 20, greatest, -1},
		{0, 0, 0, 0}, // no Shares
		{0, 0, 1, -1},
		{0, 0, -1, -1},
		{0, 0, greatest, -1},
		{0, 20, 0, 0}, // no Stake
		{0, 20, 1, 0},
		{0, 20, 20, 0},
		{0, 20, 21, -1},
		{7, 7000, 1, 0},
		{7, 7000, 999, 0},
		{7, 7000, 1000, 1},
		{7, 7000, 6999, 6},
		{7, 7000, 7000, 7},
		{1000000, 1, 1, 1000000},
		{1000000, 1, 2, -1},
		{1, 1000000000, 999999999, 0},
		{1, 1000000000, 1000000000, 1},
		{1000000, 1000000000, 999999999, 999999},
		{1000000, 1000000000, 1000000000, 1000000},
		{1000000, 1000000000, 1000000001, -1},
	} {
		if worth := impl.Worth(millOf(c.stake, c.shares, 5), c.some); worth != c.worth {
			t.Errorf("Worth of %d shares of %d for %d = %d; want %d", c.some, c.shares, c.stake, worth, c.worth)
		}
	}
}

// counts are how many shares of m are asked for: each limit of the chapter and of m, and what is beside it.
func counts(m impl.Mill) []int64 {
	return append([]int64{m.Shares / 2, m.Shares - 1, m.Shares, m.Shares + 1, m.Stake}, edges...)
}

func TestWorthOfAllMills(t *testing.T) {
	for _, m := range rightMill() {
		for _, some := range counts(m) {
			worth := impl.Worth(m, some)
			ok := worth == -1
			switch {
			case isFrom(0, some, m.Shares) && m.Shares == 0:
				ok = worth == 0
			case isFrom(0, some, m.Shares):
				// What is exact is at least worth, and less than 1 more.
				ok = worth >= 0 && worth*m.Shares <= some*m.Stake && some*m.Stake < (worth+1)*m.Shares
			}
			if !ok {
				t.Errorf("Worth(%+v, %d) = %d", m, some, worth)
			}
		}
	}
	for _, m := range wrongMill() {
		for _, some := range counts(m) {
			if worth := impl.Worth(m, some); worth != -1 {
				t.Errorf("Worth(%+v, %d) = %d; want -1", m, some, worth)
			}
		}
	}
}

func TestSharesFor(t *testing.T) {
	for _, c := range []struct {
		stake, shares int64
		n, bought     int64
	}{
		{0, 0, 1, 1000}, // no Shares
		{0, 0, 7, 7000},
		{0, 0, 999999, 999999000},
		{0, 0, 1000000, 1000000000},
		{0, 0, 1000001, -1},
		{0, 0, 0, -1},
		{0, 0, -1, -1},
		{0, 0, least, -1},
		{0, 0, greatest, -1},
		{30, 20, 1, 0},
		{30, 20, 2, 1},
		{30, 20, 3, 2},
		{30, 20, 10, 6},
		{30, 20, 1000000, 666666},
		{30, 20, 1000001, -1},
		{30, 20, 0, -1},
		{30, 20, -1, -1},
		{0, 20, 10, -1}, // Shares, but no Stake
		{0, 20, 1, -1},
		{0, 1, 1000000, -1},
		{0, 1000000000, 1, -1},
		{0, 20, 0, -1},
		{1, 999999999, 1, -1},
		{1, 500000000, 1, 500000000}, // MaxShares are there then
		{1, 500000001, 1, -1},
		{2, 666666667, 1, 333333333},
		{2, 666666668, 1, -1},
		{1, 1000, 999999, 999999000},
		{1, 1000, 1000000, -1},
		{1, 999, 1000000, 999000000},
		{1, 1000000000, 1, -1},
		{1000000, 1000000000, 1, -1},
		{1000000, 999999000, 1, 999},
		{1000000, 999999001, 1, 999},
		{1000000, 999999002, 1, -1}, // one more than MaxShares would be there
		{1000000, 1, 999999, 0},
		{1000000, 1, 1000000, 1},
	} {
		if bought := impl.SharesFor(millOf(c.stake, c.shares, 5), c.n); bought != c.bought {
			t.Errorf("SharesFor %d where there are %d for %d = %d; want %d", c.n, c.shares, c.stake, bought, c.bought)
		}
	}
}

// amounts are what shares of m are bought for: each limit of the chapter and of m, and what is beside it.
func amounts(m impl.Mill) []int64 {
	return append([]int64{m.Stake - 1, m.Stake, m.Stake + 1, 1000000 - m.Stake, m.Shares}, edges...)
}

func TestSharesForOfAllMills(t *testing.T) {
	for _, m := range rightMill() {
		for _, n := range amounts(m) {
			want := int64(-1)
			switch {
			case !isFrom(1, n, 1000000):
			case m.Shares == 0:
				want = 1000 * n
			case m.Stake == 0:
			case m.Shares+n*m.Shares/m.Stake <= 1000000000:
				want = n * m.Shares / m.Stake
			}
			if bought := impl.SharesFor(m, n); bought != want {
				t.Errorf("SharesFor(%+v, %d) = %d; want %d", m, n, bought, want)
			}
		}
	}
	for _, m := range wrongMill() {
		for _, n := range amounts(m) {
			if bought := impl.SharesFor(m, n); bought != -1 {
				t.Errorf("SharesFor(%+v, %d) = %d; want -1", m, n, bought)
			}
		}
	}
}

func TestStakesIn(t *testing.T) {
	for _, c := range []struct {
		l   []impl.Mill
		all int64
	}{
		{nil, 0},
		{[]impl.Mill{}, 0},
		{[]impl.Mill{{Name: "a"}}, 0},
		{[]impl.Mill{{Name: "a", Shares: 9}}, 0},
		{[]impl.Mill{{Name: "a", Stake: 7, Shares: 9, Shut: true}}, 7},
		{row(3, 5, 2), 15},
		{four(), 1000030}, // more than an amount: only each one is bounded
		{row(4, 1000000, 1), 4000000},
	} {
		if all := impl.StakesIn(c.l); all != c.all {
			t.Errorf("StakesIn(%+v) = %d; want %d", c.l, all, c.all)
		}
	}
	for _, l := range wrongMills() {
		if all := impl.StakesIn(l); all != -1 {
			t.Errorf("StakesIn(%+v) = %d; want -1", l, all)
		}
	}
}

func TestCheaper(t *testing.T) {
	for _, c := range []struct {
		a, b    [2]int64 // Stake and Shares
		cheaper bool
	}{
		{[2]int64{30, 20}, [2]int64{31, 20}, true},
		{[2]int64{31, 20}, [2]int64{30, 20}, false},
		{[2]int64{30, 20}, [2]int64{30, 20}, false},
		{[2]int64{30, 20}, [2]int64{30, 19}, true},
		{[2]int64{30, 20}, [2]int64{30, 21}, false},
		{[2]int64{30, 20}, [2]int64{3, 2}, false}, // worth the same
		{[2]int64{3, 2}, [2]int64{30, 20}, false},
		{[2]int64{1, 3}, [2]int64{1, 2}, true}, // less than a coin, both
		{[2]int64{1, 2}, [2]int64{1, 3}, false},
		{[2]int64{0, 5}, [2]int64{1, 1000000000}, true},
		{[2]int64{1, 1000000000}, [2]int64{0, 5}, false},
		{[2]int64{0, 5}, [2]int64{0, 6}, false},
		{[2]int64{999999, 1000000000}, [2]int64{1000000, 1000000000}, true},
		{[2]int64{1000000, 1000000000}, [2]int64{999999, 1000000000}, false},
		{[2]int64{1000000, 1000000000}, [2]int64{1000000, 999999999}, true},
		{[2]int64{1000000, 999999999}, [2]int64{1000000, 1000000000}, false},
		{[2]int64{1, 1000000000}, [2]int64{1000000, 1}, true},
		{[2]int64{1000000, 1}, [2]int64{1, 1000000000}, false},
		{[2]int64{0, 0}, [2]int64{30, 20}, false}, // no Shares
		{[2]int64{30, 20}, [2]int64{0, 0}, false},
		{[2]int64{0, 20}, [2]int64{0, 0}, false},
		{[2]int64{0, 0}, [2]int64{0, 20}, false},
		{[2]int64{0, 0}, [2]int64{0, 0}, false},
	} {
		a, b := millOf(c.a[0], c.a[1], 5), millOf(c.b[0], c.b[1], 100)
		b.Name, b.Shut = "ann", true
		if got := impl.Cheaper(a, b); got != c.cheaper {
			t.Errorf("Cheaper(%+v, %+v) is %t", a, b, got)
		}
	}
}

func TestCheaperOfAllMills(t *testing.T) {
	for _, a := range rightMill() {
		for _, b := range rightMill() {
			want := a.Shares > 0 && b.Shares > 0 && a.Stake*b.Shares < b.Stake*a.Shares
			if got := impl.Cheaper(a, b); got != want {
				t.Errorf("Cheaper(%+v, %+v) is %t", a, b, got)
			}
		}
		for _, b := range wrongMill() {
			if impl.Cheaper(a, b) || impl.Cheaper(b, a) {
				t.Errorf("Cheaper of %+v and %+v is true", a, b)
			}
		}
	}
	for _, a := range wrongMill() {
		for _, b := range wrongMill() {
			if impl.Cheaper(a, b) {
				t.Errorf("Cheaper(%+v, %+v) is true", a, b)
			}
		}
	}
}

// Promise 4, of each mill at each limit, and of small ones in all ways to round.
func TestSharesBoughtAreWorthNoMore(t *testing.T) {
	mills := rightMill()
	for stake := range int64(13) {
		for shares := range int64(13) {
			mills = append(mills, millOf(stake, shares, 5))
		}
	}
	for _, m := range mills {
		for _, n := range append(amounts(m), 4, 5, 6, 8, 9, 10, 11, 12, 13) {
			checkBought(t, m, n)
		}
	}
}

func checkBought(t *testing.T, m impl.Mill, n int64) {
	t.Helper()
	bought := impl.SharesFor(m, n)
	after := m
	after.Stake, after.Shares = m.Stake+n, m.Shares+bought
	if bought < 0 || after.Stake > 1000000 { // none are bought, or no right mill is left
		return
	}
	if !impl.MillOk(after) {
		t.Fatalf("%+v with %d is %+v", m, n, after)
	}
	if worth := impl.Worth(after, bought); !isFrom(0, worth, n) {
		t.Errorf("%d shares of %+v, bought for %d, are worth %d", bought, after, n, worth)
	}
	if impl.Cheaper(after, m) {
		t.Errorf("%+v is cheaper than %+v", after, m)
	}
	for _, some := range []int64{1, m.Shares / 2, m.Shares} {
		if some <= m.Shares && impl.Worth(after, some) < impl.Worth(m, some) {
			t.Errorf("%d shares are worth less in %+v than in %+v", some, after, m)
		}
	}
}

// The mills behind the list are its spare room: nothing is written there, nor read.
func TestMillsStay(t *testing.T) {
	spare := []impl.Mill{{Name: "zzspar", Stake: 3, Shares: 4, Cut: 5}, {Name: "room", Stake: 6, Shares: 7}}
	for _, l := range append(rightMills(), wrongMills()...) {
		room := append(slices.Clone(l), spare...)
		given := slices.Clone(room)
		mills := room[:len(l)]
		all := impl.StakesIn(mills)
		if all != impl.StakesIn(slices.Clone(l)) || impl.MillsOk(mills) != (all >= 0) {
			t.Errorf("%+v with spare room has %d", l, all)
		}
		if m, is := impl.MillIn(mills, "zzspar"); is || m != (impl.Mill{}) {
			t.Errorf("MillIn finds %+v in the spare room", m)
		}
		for _, name := range asked {
			m, _ := impl.MillIn(mills, name)
			impl.Worth(m, 1)
			impl.SharesFor(m, 1)
			impl.Cheaper(m, m)
		}
		if !slices.Equal(room, given) {
			t.Fatalf("%+v became %+v", given, room)
		}
	}
}

func TestMillInIsNewMemory(t *testing.T) {
	l := four()
	m, _ := impl.MillIn(l, "ann")
	m.Name, m.Stake, m.Shares, m.Cut, m.Shut = "ours", -7, -7, -7, true
	if !slices.Equal(l, four()) {
		t.Error(l)
	}
	l[0].Stake = 31
	if again, _ := impl.MillIn(l, "ann"); again != l[0] || m.Stake != -7 {
		t.Error(again, m)
	}
}
