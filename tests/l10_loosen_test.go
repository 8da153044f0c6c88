package tests

import (
	"slices"
	"testing"

	"loop.example/g00614/impl"
)

// release is one of the calls of chapter 10: shares of one in a mill, so many (Loosened) or all that there are (AllOut).
type release struct {
	call   string
	who    string
	mill   string
	shares int64
}

func (r release) of(b impl.Book) (impl.Book, int64) {
	if r.call == "Loosened" {
		return impl.Loosened(b, r.who, r.mill, r.shares)
	}
	return impl.AllOut(b, r.who, r.mill)
}

// told is what the chapter tells of it, word by word.
func (r release) told(b impl.Book) (impl.Book, int64) {
	switch {
	case !bookOf(b):
		return impl.Book{}, impl.MlBad
	case r.call == "Loosened":
		return loosenedOf(copyOf(b), r.who, r.mill, r.shares)
	}
	return allOutOf(copyOf(b), r.who, r.mill)
}

func loosenedOf(b impl.Book, who, mill string, shares int64) (impl.Book, int64) {
	purse, at := purseAt(b, who), millAt(b, mill)
	own := sharesOf(b.Parts, who, mill)
	switch {
	case purse < 0, at < 0:
		return b, impl.MlNone
	case shares < 1:
		return b, impl.MlBad
	case own < shares:
		return b, impl.MlShort
	}
	m := &b.Mills[at]
	worth := shares * m.Stake / m.Shares
	if worth > 0 {
		if len(b.Waits) == 20 || b.Season+3 > 1000 {
			return b, impl.MlFull
		}
		b.Waits = joined(b.Waits, impl.Wait{Who: who, Mill: mill, Amount: worth, Ripe: b.Season + 3})
	}
	b.Parts = having(b.Parts, who, mill, own-shares)
	m.Stake, m.Shares = m.Stake-worth, m.Shares-shares
	if m.Shares == 0 {
		b.Pot, m.Stake = b.Pot+m.Stake, 0
	}
	return b, impl.MlDone
}

func allOutOf(b impl.Book, who, mill string) (impl.Book, int64) {
	own := sharesOf(b.Parts, who, mill)
	if purseAt(b, who) >= 0 && millAt(b, mill) >= 0 && own == 0 {
		return b, impl.MlShort
	}
	return loosenedOf(b, who, mill, own)
}

// releasesFor are both calls for each of these names in each mill of these, with each of these counts of shares.
func releasesFor(names []string, counts []int64) []release {
	var l []release
	for _, who := range names {
		for _, mill := range names {
			l = append(l, release{"AllOut", who, mill, 0})
			for _, n := range counts {
				l = append(l, release{"Loosened", who, mill, n})
			}
		}
	}
	return l
}

// holder is a book in which ann has some shares of the mill mia, and bob the others.
func holder(stake, own, others int64) impl.Book {
	b := lender(0, stake, own+others)
	b.Parts = having(having(nil, "ann", "mia", own), "bob", "mia", others)
	return b
}

// inSeason is that book in another season.
func inSeason(b impl.Book, season int64) impl.Book {
	b.Season = season
	return b
}

// lined is holder of a coin a share, with n coins that wait already, one by one and all Ripe in one season.
func lined(n int, ripe int64) impl.Book {
	b := holder(60, 30, 30)
	b.Supply += int64(n)
	for range n {
		b.Waits = append(b.Waits, impl.Wait{Who: "mia", Mill: "mia", Amount: 1, Ripe: ripe})
	}
	return b
}

// queued is a book in which something waits until before, until, and until after what is loosened now is Ripe.
func queued(season int64) impl.Book {
	b := holder(60, 30, 30)
	b.Season, b.Supply = season, 70
	for i, ripe := range []int64{5, 6, 6, 9} {
		b.Waits = append(b.Waits, impl.Wait{Who: "mia", Mill: "mia", Amount: int64(i + 1), Ripe: ripe})
	}
	return b
}

// potted is holder beside a Pot.
func potted(pot, stake, own, others int64) impl.Book {
	b := holder(stake, own, others)
	b.Pot, b.Supply = pot, b.Supply+pot
	return b
}

// loosenBooks are right books of which some can be loosened from, and some hardly.
func loosenBooks() []impl.Book {
	l := append(lendBooks(),
		holder(30, 13, 7),
		holder(1000000, 999999999, 1),
		holder(1000000, 1000000000, 0),
		holder(0, 7, 5),
		holder(1, 1000, 0),
		lined(19, 500),
		lined(20, 500),
		queued(2), queued(3), queued(6),
		potted(1000000, 0, 7, 0),
		potted(999999, 1, 7, 0),
	)
	for _, b := range []impl.Book{whole(), holder(30, 13, 7), holder(1, 1000, 1)} {
		l = append(l, inSeason(b, 996), inSeason(b, 997), inSeason(b, 998), inSeason(b, 1000))
	}
	return l
}

func TestDelay(t *testing.T) {
	if impl.Delay != 3 {
		t.Fatal(impl.Delay)
	}
}

// checkLoosened holds a release by ann against numbers, with what waits then, where it is anything.
func checkLoosened(t *testing.T, r release, b impl.Book, left impl.Mill, own, worth int64) {
	t.Helper()
	want := copyOf(b)
	want.Mills[0], want.Parts = left, having(want.Parts, "ann", "mia", own)
	if worth > 0 {
		want.Waits = []impl.Wait{{Who: "ann", Mill: "mia", Amount: worth, Ripe: 7}}
	}
	if got, code := r.of(b); code != 0 || !alike(got, want) {
		t.Errorf("%+v of %+v = %+v, %d; want %+v", r, b, got, code, want)
	}
}

func TestLoosened(t *testing.T) {
	for _, c := range []struct{ stake, own, others, shares, worth int64 }{
		{100, 40000, 60000, 10500, 10}, // 10 and a half
		{100, 40000, 60000, 40000, 40}, // all of the part
		{100, 40000, 60000, 39999, 39}, // one less
		{100, 40000, 60000, 1000, 1},   // the least that are worth a coin
		{100, 40000, 60000, 999, 0},    // one less: nothing waits
		{100, 40000, 60000, 1, 0},
		{30, 13, 7, 13, 19}, // 19 and a half
		{30, 13, 7, 12, 18}, // exactly
		{30, 13, 7, 2, 3},
		{30, 13, 7, 1, 1}, // 1 and a half
		{30, 20, 0, 20, 30},
		{30, 20, 0, 19, 28}, // 28 and a half
		{1000, 1, 2, 1, 333},
		{1000, 2, 1, 2, 666},
		{1000, 2, 1, 1, 333},
		{1000, 3, 0, 3, 1000}, // all that there are, for all of Stake
		{7, 7, 0, 7, 7},
		{7, 7, 1, 7, 6}, // 6 and an eighth
		{7, 1, 7, 1, 0}, // seven eighths
		{8, 1, 7, 1, 1},
		{0, 7, 0, 7, 0}, // all that there are, and no Stake
		{0, 7, 0, 6, 0},
		{0, 7, 0, 1, 0},
		{0, 7, 5, 7, 0}, // all of the part, and no Stake
		{0, 1, 1, 1, 0},
		{1, 1000, 0, 999, 0}, // one share for one coin is left
		{1, 1000, 0, 1000, 1},
		{1, 999, 1, 999, 0}, // and here it is left to another one
		{1, 1, 0, 1, 1},
		{1000000, 1000000000, 0, 1000000000, 1000000}, // MaxShares and MaxAmount exactly
		{1000000, 1000000000, 0, 999999999, 999999},
		{1000000, 1000000000, 0, 1000, 1},
		{1000000, 1000000000, 0, 999, 0},
		{999999, 1000000000, 0, 1000, 0},
		{999999, 1000000000, 0, 1000000000, 999999},
		{1000000, 999999999, 1, 999999999, 999999},
		{1000000, 1, 999999999, 1, 0},
		{1000000, 1, 0, 1, 1000000},
		{1000000, 1, 1, 1, 500000},
		{999999, 1, 1, 1, 499999},
	} {
		left := impl.Mill{Name: "mia", Stake: c.stake - c.worth, Shares: c.own + c.others - c.shares, Cut: 10}
		b := holder(c.stake, c.own, c.others)
		checkLoosened(t, release{"Loosened", "ann", "mia", c.shares}, b, left, c.own-c.shares, c.worth)
		if c.shares == c.own {
			checkLoosened(t, release{"AllOut", "ann", "mia", 0}, b, left, 0, c.worth)
		}
		b.Mills[0].Shut, left.Shut = true, true // they are loosened all the same
		checkLoosened(t, release{"Loosened", "ann", "mia", c.shares}, b, left, c.own-c.shares, c.worth)
	}
}

// What has no worth any more and what has, what is Shut and what is not: all else of the book stays.
func TestLoosenedOfWhole(t *testing.T) {
	for _, c := range []struct {
		who    string
		at     int
		shares int64
		own    int64
		left   impl.Mill
		worth  int64
	}{
		{"ann", 0, 13, 0, impl.Mill{Name: "ann", Stake: 11, Shares: 7, Cut: 5}, 19},
		{"ann", 0, 12, 1, impl.Mill{Name: "ann", Stake: 12, Shares: 8, Cut: 5}, 18},
		{"ann", 0, 1, 12, impl.Mill{Name: "ann", Stake: 29, Shares: 19, Cut: 5}, 1},
		{"bob", 0, 7, 0, impl.Mill{Name: "ann", Stake: 20, Shares: 13, Cut: 5}, 10},
		{"ann", 2, 2, 0, impl.Mill{Name: "mia", Stake: 334, Shares: 1}, 666},
		{"ann", 2, 1, 1, impl.Mill{Name: "mia", Stake: 667, Shares: 2}, 333},
		{"bob", 2, 1, 0, impl.Mill{Name: "mia", Stake: 667, Shares: 2}, 333},
		{"bob", 3, 6, 1, impl.Mill{Name: "zoe", Shares: 1, Cut: 1}, 0},
		{"bob", 3, 7, 0, impl.Mill{Name: "zoe", Cut: 1}, 0}, // no share is left
	} {
		want := changed(func(b *impl.Book) {
			b.Mills[c.at] = c.left
			b.Parts = having(b.Parts, c.who, c.left.Name, c.own)
			if c.worth > 0 {
				b.Waits = append(b.Waits, impl.Wait{Who: c.who, Mill: c.left.Name, Amount: c.worth, Ripe: 5})
			}
		})
		if got, code := impl.Loosened(whole(), c.who, c.left.Name, c.shares); code != 0 || !alike(got, want) {
			t.Errorf("Loosened(%s, %s, %d) = %+v, %d; want %+v", c.who, c.left.Name, c.shares, got, code, want)
		}
		got, code := impl.AllOut(whole(), c.who, c.left.Name)
		if c.own == 0 && (code != 0 || !alike(got, want)) {
			t.Errorf("AllOut(%s, %s) = %+v, %d; want %+v", c.who, c.left.Name, got, code, want)
		}
	}
}

// Who loosens waits behind all that are Ripe no later, and ahead of those that are.
func TestLoosenedStandsInOrder(t *testing.T) {
	for season, at := range []int{0, 0, 1, 3, 3, 3, 4, 4, 4} {
		b := queued(int64(season))
		want := copyOf(b)
		want.Mills[0].Stake, want.Mills[0].Shares = 50, 50
		want.Parts = having(want.Parts, "ann", "mia", 20)
		want.Waits = slices.Insert(want.Waits, at, impl.Wait{Who: "ann", Mill: "mia", Amount: 10, Ripe: int64(season) + 3})
		if got, code := impl.Loosened(b, "ann", "mia", 10); code != 0 || !alike(got, want) {
			t.Errorf("Loosened of %+v = %+v, %d; want %+v", b, got, code, want)
		}
	}
}

// Twice the same are two waits, one behind the other.
func TestLoosenedTwice(t *testing.T) {
	b, one := impl.Loosened(holder(60, 30, 30), "ann", "mia", 10)
	b, two := impl.Loosened(b, "ann", "mia", 10)
	b, three := impl.AllOut(b, "bob", "mia")
	w := impl.Wait{Who: "ann", Mill: "mia", Amount: 10, Ripe: 7}
	want := holder(60, 30, 30)
	want.Mills[0].Stake, want.Mills[0].Shares = 10, 10
	want.Parts = []impl.Part{{Who: "ann", Mill: "mia", Shares: 10}}
	want.Waits = []impl.Wait{w, w, {Who: "bob", Mill: "mia", Amount: 30, Ripe: 7}}
	if one != 0 || two != 0 || three != 0 || !alike(b, want) {
		t.Errorf("%+v, %d, %d, %d", b, one, two, three)
	}
}

// What is refused for one reason alone, and for several: then it is the code that is named first.
func TestLoosenedRefuses(t *testing.T) {
	ends := inSeason(whole(), 998)
	checkRefused(t, []refusal{
		{whole(), release{"Loosened", "eve", "ann", 1}, impl.MlNone},
		{whole(), release{"Loosened", "zoe", "ann", 1}, impl.MlNone}, // a mill, but no purse
		{whole(), release{"Loosened", "zoe", "zoe", 1}, impl.MlNone},
		{whole(), release{"Loosened", "ann", "eve", 1}, impl.MlNone},
		{whole(), release{"Loosened", "ann", "tom", 1}, impl.MlNone}, // a purse, but no mill
		{whole(), release{"Loosened", "an", "ann", 1}, impl.MlNone},
		{whole(), release{"Loosened", "anna", "ann", 1}, impl.MlNone},
		{whole(), release{"Loosened", "ann", "an", 1}, impl.MlNone},
		{whole(), release{"Loosened", "", "ann", 1}, impl.MlNone},
		{whole(), release{"Loosened", "ann", "", 1}, impl.MlNone},
		{whole(), release{"Loosened", "", "", 1}, impl.MlNone},
		{whole(), release{"Loosened", "Ann", "ann", 1}, impl.MlNone},
		{whole(), release{"Loosened", "ann", "ann ", 1}, impl.MlNone},
		{impl.Book{}, release{"Loosened", "ann", "ann", 1}, impl.MlNone},
		{whole(), release{"Loosened", "eve", "ann", 0}, impl.MlNone}, // and shares are below 1
		{whole(), release{"Loosened", "ann", "tom", -1}, impl.MlNone},
		{whole(), release{"Loosened", "eve", "tom", least}, impl.MlNone},
		{whole(), release{"Loosened", "eve", "ann", 14}, impl.MlNone}, // nor has it so many
		{whole(), release{"Loosened", "eve", "tom", greatest}, impl.MlNone},
		{crammed(), release{"Loosened", "i", "a", 1}, impl.MlNone},      // nor is there room
		{crammed(), release{"Loosened", "a", "e", 1}, impl.MlNone},      // nor is there room
		{ends, release{"Loosened", "eve", "ann", 1}, impl.MlNone},       // nor is there such a season
		{whole(), release{"Loosened", "ann", "ann", 0}, impl.MlBad},     // one less than the least
		{whole(), release{"Loosened", "ann", "ann", -1}, impl.MlBad},    // as if they were lent
		{whole(), release{"Loosened", "ann", "ann", -13}, impl.MlBad},   // all of the part
		{whole(), release{"Loosened", "ann", "ann", least}, impl.MlBad}, // far below
		{whole(), release{"Loosened", "bob", "zoe", 0}, impl.MlBad},     // worth nothing
		{whole(), release{"Loosened", "tom", "ann", 0}, impl.MlBad},     // and tom has none
		{whole(), release{"Loosened", "mia", "ann", -1}, impl.MlBad},
		{whole(), release{"Loosened", "bob", "bob", 0}, impl.MlBad},     // and nobody has any
		{crammed(), release{"Loosened", "a", "a", 0}, impl.MlBad},       // nor is there room
		{crammed(), release{"Loosened", "h", "d", -1}, impl.MlBad},      // nor is there room
		{ends, release{"Loosened", "ann", "ann", 0}, impl.MlBad},        // nor is there such a season
		{whole(), release{"Loosened", "ann", "ann", 14}, impl.MlShort},  // one more than all of the part
		{whole(), release{"Loosened", "ann", "ann", 20}, impl.MlShort},  // all that there are
		{whole(), release{"Loosened", "ann", "ann", 21}, impl.MlShort},  // and one more
		{whole(), release{"Loosened", "bob", "ann", 8}, impl.MlShort},   // of another part
		{whole(), release{"Loosened", "ann", "mia", 3}, impl.MlShort},   // of another mill
		{whole(), release{"Loosened", "bob", "zoe", 8}, impl.MlShort},   // worth nothing
		{whole(), release{"Loosened", "tom", "ann", 1}, impl.MlShort},   // a purse, but no part
		{whole(), release{"Loosened", "mia", "mia", 1}, impl.MlShort},   // nor of one's own mill
		{whole(), release{"Loosened", "ann", "zoe", 1}, impl.MlShort},   // where others have some
		{whole(), release{"Loosened", "bob", "bob", 1}, impl.MlShort},   // where nobody has any
		{allShut(), release{"Loosened", "mia", "ann", 1}, impl.MlShort}, // whether it is Shut is not asked
		{whole(), release{"Loosened", "ann", "ann", 1000000000}, impl.MlShort},
		{whole(), release{"Loosened", "ann", "ann", 1000000001}, impl.MlShort},
		{whole(), release{"Loosened", "ann", "ann", greatest}, impl.MlShort},
		{shared(), release{"Loosened", "ann", "mia", 1000000000}, impl.MlShort}, // all that there may be
		{shared(), release{"Loosened", "ann", "mia", 1000000001}, impl.MlShort},
		{shared(), release{"Loosened", "bob", "mia", 2}, impl.MlShort},
		{crammed(), release{"Loosened", "a", "a", 2}, impl.MlShort}, // nor is there room
		{crammed(), release{"Loosened", "h", "d", 1}, impl.MlShort}, // nor is there room
		{lined(20, 9), release{"Loosened", "ann", "mia", 31}, 4},    // nor is there room
		{ends, release{"Loosened", "ann", "ann", 14}, impl.MlShort}, // nor is there such a season
		{crammed(), release{"Loosened", "a", "a", 1}, impl.MlFull},  // both
		{lined(20, 0), release{"Loosened", "ann", "mia", 1}, 6},     // no room alone, behind all
		{lined(20, 500), release{"Loosened", "ann", "mia", 1}, 6},   // no room alone, ahead of all
		{lined(20, 500), release{"Loosened", "bob", "mia", 30}, 6},  // nor with all of the part
		{ends, release{"Loosened", "ann", "ann", 1}, impl.MlFull},   // Ripe past MaxSeason by one
		{ends, release{"Loosened", "bob", "mia", 1}, impl.MlFull},   // all of the part
		{inSeason(whole(), 999), release{"Loosened", "ann", "mia", 2}, 6},
		{inSeason(whole(), 1000), release{"Loosened", "ann", "mia", 2}, 6},
		{inSeason(holder(9, 9, 0), 998), release{"Loosened", "ann", "mia", 9}, 6}, // all that there are
	})
}

func TestAllOutRefuses(t *testing.T) {
	ends := inSeason(whole(), 998)
	checkRefused(t, []refusal{
		{whole(), release{"AllOut", "eve", "ann", 0}, impl.MlNone},
		{whole(), release{"AllOut", "zoe", "ann", 0}, impl.MlNone}, // a mill, but no purse
		{whole(), release{"AllOut", "zoe", "zoe", 0}, impl.MlNone},
		{whole(), release{"AllOut", "ann", "eve", 0}, impl.MlNone},
		{whole(), release{"AllOut", "ann", "tom", 0}, impl.MlNone}, // a purse, but no mill
		{whole(), release{"AllOut", "anna", "ann", 0}, impl.MlNone},
		{whole(), release{"AllOut", "ann", "an", 0}, impl.MlNone},
		{whole(), release{"AllOut", "", "ann", 0}, impl.MlNone},
		{whole(), release{"AllOut", "ann", "", 0}, impl.MlNone},
		{whole(), release{"AllOut", "", "", 0}, impl.MlNone},
		{whole(), release{"AllOut", "ann", "Ann", 0}, impl.MlNone},
		{impl.Book{}, release{"AllOut", "ann", "ann", 0}, impl.MlNone},
		{crammed(), release{"AllOut", "i", "a", 0}, impl.MlNone}, // nor is there room
		{crammed(), release{"AllOut", "a", "e", 0}, impl.MlNone},
		{whole(), release{"AllOut", "tom", "ann", 0}, impl.MlShort}, // a purse, but no part
		{whole(), release{"AllOut", "mia", "mia", 0}, impl.MlShort}, // nor of one's own mill
		{whole(), release{"AllOut", "ann", "zoe", 0}, impl.MlShort}, // where others have some
		{whole(), release{"AllOut", "bob", "bob", 0}, impl.MlShort}, // where nobody has any
		{allShut(), release{"AllOut", "tom", "mia", 0}, impl.MlShort},
		{crammed(), release{"AllOut", "h", "d", 0}, impl.MlShort}, // nor is there room
		{ends, release{"AllOut", "tom", "ann", 0}, impl.MlShort},  // nor is there such a season
		{crammed(), release{"AllOut", "a", "a", 0}, impl.MlFull},  // both
		{lined(20, 0), release{"AllOut", "ann", "mia", 0}, impl.MlFull},
		{lined(20, 500), release{"AllOut", "bob", "mia", 0}, impl.MlFull},
		{ends, release{"AllOut", "ann", "ann", 0}, impl.MlFull},
		{ends, release{"AllOut", "ann", "mia", 0}, impl.MlFull},
		{inSeason(whole(), 1000), release{"AllOut", "bob", "mia", 0}, impl.MlFull},
	})
}

// A book that is not right is MlBad ahead of all else that is told.
func TestReleasesOfWrongBooks(t *testing.T) {
	releases := releasesFor([]string{"", "ann", "bob", "zoe", "a"}, []int64{0, 1, 14})
	for _, b := range wrongBooks() {
		for _, r := range releases {
			if got, code := r.of(b); code != 7 || !alike(got, impl.Book{}) {
				t.Errorf("%+v of %+v = %+v, %d", r, b, got, code)
			}
		}
	}
}

var looseCounts = []int64{
	least, least + 1, -1 << 32, -13, -1, 0, 1, 2, 3, 4, 5, 6, 7, 8, 12, 13, 14, 20, 21, 30, 31, 999, 1000, 1001,
	999999998, 999999999, 1000000000, 1000000001, 1 << 32, 1<<32 + 1, greatest - 1, greatest,
}

func TestReleasesOfAllBooks(t *testing.T) {
	seen := map[release]int{}
	releases := releasesFor([]string{"a", "aa", "ann", "b", "bob", "e", "h", "mia", "tom", "zoe", "Ann"}, looseCounts)
	for _, b := range loosenBooks() {
		if !bookOf(b) {
			t.Fatalf("%+v is not right", b)
		}
		for _, r := range releases {
			code := checkDeed(t, r, b)
			seen[release{call: r.call, shares: code}]++
		}
	}
	for call, codes := range map[string][]int64{
		"Loosened": {impl.MlDone, impl.MlNone, impl.MlShort, impl.MlFull, impl.MlBad},
		"AllOut":   {impl.MlDone, impl.MlNone, impl.MlShort, impl.MlFull},
	} {
		for _, code := range codes {
			if n := seen[release{call: call, shares: code}]; n < 10 {
				t.Errorf("%s was %d only %d times", call, code, n)
			}
		}
	}
}

// The last wait has room, and one more has none; but where nothing is to wait, none is needed.
func TestLoosenedToTheLastWait(t *testing.T) {
	b := holder(30, 30, 0)
	for n := range 20 {
		if code := checkDeed(t, release{"Loosened", "ann", "mia", 1}, b); code != 0 {
			t.Fatalf("with %d waits it is %d", n, code)
		}
		b, _ = impl.Loosened(b, "ann", "mia", 1)
	}
	if len(b.Waits) != 20 || coins(b.Waits) != 20 {
		t.Fatalf("there are %+v", b.Waits)
	}
	for _, r := range []release{{"Loosened", "ann", "mia", 1}, {"Loosened", "ann", "mia", 10}, {"AllOut", "ann", "mia", 0}} {
		if code := checkDeed(t, r, b); code != impl.MlFull {
			t.Errorf("%+v with 20 waits is %d", r, code)
		}
	}
	b.Mills[0].Shares, b.Parts[0].Shares = 11, 11 // a share is worth less than a coin
	for _, shares := range []int64{1, 2} {
		if code := checkDeed(t, release{"Loosened", "ann", "mia", shares}, b); code != []int64{0, 0, impl.MlFull}[shares] {
			t.Errorf("%d shares with 20 waits is %d", shares, code)
		}
	}
}

// Ripe comes to MaxSeason exactly; past it there is nothing, but where nothing is to wait.
func TestLoosenedToTheLastSeason(t *testing.T) {
	for season := range int64(1001) {
		wanted, ripe := int64(impl.MlDone), 1
		if season > 997 {
			wanted, ripe = impl.MlFull, 0
		}
		for _, r := range []release{{"Loosened", "ann", "mia", 1}, {"AllOut", "ann", "mia", 0}} {
			b := inSeason(holder(30, 20, 7), season)
			code := checkDeed(t, r, b)
			got, _ := r.of(b)
			if code != wanted || len(got.Waits) != ripe || ripe == 1 && got.Waits[0].Ripe != season+3 {
				t.Errorf("%+v in season %d = %+v, %d", r, season, got, code)
			}
		}
	}
}

// What is worth 0 is loosened wherever it is: nothing waits, so neither room nor a season is asked for.
func TestLoosenedOfNoWorth(t *testing.T) {
	full, late := lined(20, 500), inSeason(holder(1, 1000, 1), 1000)
	full.Mills[0].Stake, full.Pot = 0, 60
	for _, c := range []struct {
		book impl.Book
		r    release
	}{
		{full, release{"Loosened", "ann", "mia", 1}},
		{full, release{"Loosened", "ann", "mia", 30}},
		{full, release{"AllOut", "bob", "mia", 0}},
		{inSeason(full, 1000), release{"AllOut", "ann", "mia", 0}},
		{late, release{"Loosened", "ann", "mia", 999}},
		{late, release{"AllOut", "ann", "mia", 0}},
		{late, release{"AllOut", "bob", "mia", 0}},
		{inSeason(whole(), 998), release{"AllOut", "bob", "zoe", 0}},
		{inSeason(whole(), 1000), release{"Loosened", "bob", "zoe", 6}},
	} {
		got, code := c.r.of(c.book)
		if code != 0 || !slices.Equal(got.Waits, c.book.Waits) || impl.StakesIn(got.Mills) != impl.StakesIn(c.book.Mills) {
			t.Errorf("%+v of %+v = %+v, %d", c.r, c.book, got, code)
		}
		checkDeed(t, c.r, c.book)
	}
}

// The last shares of a mill are worth all of its Stake: nothing is left of it, and the Pot, at its limit too, stays.
func TestLoosenedOfTheLastShares(t *testing.T) {
	for _, c := range []struct{ pot, stake, shares int64 }{
		{0, 0, 1}, {0, 1, 1}, {0, 1, 1000}, {0, 1000, 1}, {0, 7, 3}, {0, 3, 7},
		{5, 0, 7}, {5, 7, 7}, {5, 999995, 999999999}, {5, 999995, 1000000000},
		{0, 1000000, 1000000000}, {0, 999999, 1000000000}, {0, 1000000, 999999999}, {0, 1000000, 3},
		{1000000, 0, 1}, {1000000, 0, 1000000000}, {999999, 1, 1}, {999999, 1, 1000000000}, {999998, 1, 7}, {500000, 500000, 7},
	} {
		b := potted(c.pot, c.stake, c.shares, 0)
		for _, r := range []release{{"Loosened", "ann", "mia", c.shares}, {"AllOut", "ann", "mia", 0}} {
			got, code := r.of(b)
			if code != 0 || got.Pot != c.pot || got.Mills[0] != (impl.Mill{Name: "mia", Cut: 10}) || impl.AmountIn(got.Waits) != c.stake || len(got.Parts) != 0 || !impl.BookOk(got) {
				t.Errorf("%+v of %+v = %+v, %d", r, b, got, code)
			}
			checkDeed(t, r, b)
		}
	}
}

// AllOut is Loosened of all its shares, of whatever book.
func TestAllOutIsLoosenedOfAllShares(t *testing.T) {
	done := 0
	for _, b := range append(loosenBooks(), wrongBooks()[:40]...) {
		for _, who := range []string{"a", "ann", "b", "bob", "mia", "tom", "eve", ""} {
			for _, mill := range []string{"a", "aa", "ann", "b", "bob", "mia", "zoe", "eve", ""} {
				shares := sharesOf(b.Parts, who, mill)
				got, code := impl.AllOut(b, who, mill)
				want, wanted := impl.Loosened(b, who, mill, max(shares, 1))
				if code != wanted || !alike(got, want) {
					t.Errorf("AllOut(%+v, %s, %s) = %+v, %d; want %+v, %d", b, who, mill, got, code, want, wanted)
				}
				if code == 0 {
					done++
				}
			}
		}
	}
	if done < 60 {
		t.Errorf("only %d were done", done)
	}
}

// checkNobodyLoses holds a release that is done against promise 10, and counts it.
func checkNobodyLoses(t *testing.T, r release, b impl.Book) int {
	t.Helper()
	got, code := r.of(b)
	if code != impl.MlDone {
		if !alike(got, b) {
			t.Errorf("%+v of %+v = %+v, %d", r, b, got, code)
		}
		return 0
	}
	if !impl.BookOk(got) || got.Supply != b.Supply || impl.Total(got) != b.Supply {
		t.Errorf("%+v of %+v = %+v", r, b, got)
	}
	for _, p := range b.Folk {
		before, after := impl.WorthIn(b, p.Name), impl.WorthIn(got, p.Name)
		if p.Name == r.who && after > before || p.Name != r.who && after < before {
			t.Errorf("%+v of %+v: %s had %d and has %d", r, b, p.Name, before, after)
		}
	}
	checkWorthOf(t, r, b, got)
	return 1
}

// checkWorthOf asks whether what waits now, and did not, is what the shares were worth, for that one, and Ripe no sooner than it may be.
func checkWorthOf(t *testing.T, r release, b, got impl.Book) {
	t.Helper()
	m := b.Mills[millAt(b, r.mill)]
	shares := sharesOf(b.Parts, r.who, r.mill) - sharesOf(got.Parts, r.who, r.mill)
	worth := impl.AmountIn(got.Waits) - impl.AmountIn(b.Waits)
	if r.call == "Loosened" && shares != r.shares || worth*m.Shares > shares*m.Stake || (worth+1)*m.Shares <= shares*m.Stake || worth != impl.Worth(m, shares) {
		t.Errorf("%+v of %+v: for %d shares %d waits", r, b, shares, worth)
	}
	if impl.AmountIn(impl.WaitsFor(got.Waits, r.who))-impl.AmountIn(impl.WaitsFor(b.Waits, r.who)) != worth {
		t.Errorf("%+v of %+v: it does not wait for that one: %+v", r, b, got)
	}
	wasLater, wasRipe := impl.RipeAt(b.Waits, b.Season+2)
	isLater, isRipe := impl.RipeAt(got.Waits, b.Season+2)
	if !slices.Equal(isRipe, wasRipe) {
		t.Errorf("%+v of %+v: it is Ripe too soon: %+v", r, b, got)
	}
	_, wasRipe = impl.RipeAt(wasLater, b.Season+3)
	_, isRipe = impl.RipeAt(isLater, b.Season+3)
	if impl.AmountIn(isRipe)-impl.AmountIn(wasRipe) != worth {
		t.Errorf("%+v of %+v: it is Ripe too late: %+v", r, b, got)
	}
}

func TestToLoosenCostsNobodyElseAnything(t *testing.T) {
	done := 0
	for _, b := range loosenBooks() {
		for _, r := range releasesFor([]string{"a", "aa", "ann", "b", "bob", "mia", "tom", "zoe"}, []int64{1, 2, 3, 5, 7, 12, 13, 19, 999, 1000, 999999999, 1000000000}) {
			done += checkNobodyLoses(t, r, b)
		}
	}
	if done < 200 {
		t.Errorf("only %d were done", done)
	}
}

// Promise 10 where it could fail by rounding: of all small mills, for all shares that there are.
func TestToLoosenFromSmallMills(t *testing.T) {
	done := 0
	for stake := range int64(12) {
		for own := range int64(9) {
			for others := range int64(9) {
				b := holder(stake, own, others)
				if own+others == 0 && stake > 0 {
					continue
				}
				for shares := int64(1); shares <= own+1; shares++ {
					checkDeed(t, release{"Loosened", "ann", "mia", shares}, b)
					done += checkNobodyLoses(t, release{"Loosened", "ann", "mia", shares}, b)
				}
				done += checkNobodyLoses(t, release{"AllOut", "ann", "mia", 0}, b)
			}
		}
	}
	if done < 4000 {
		t.Errorf("only %d were done", done)
	}
}

// checkLentAndOut lends and has all out again, or as much as was bought, and counts it: that one has no more than before, nobody else less.
func checkLentAndOut(t *testing.T, b impl.Book, who, mill string, amount int64) int {
	t.Helper()
	lent, code := impl.Lent(b, who, mill, amount)
	if code != impl.MlDone {
		return 0
	}
	bought := impl.SharesOf(lent.Parts, who, mill) - impl.SharesOf(b.Parts, who, mill)
	done := 0
	for _, r := range []release{{"AllOut", who, mill, 0}, {"Loosened", who, mill, bought}} {
		got, code := r.of(lent)
		if code != impl.MlDone {
			continue
		}
		done++
		for _, p := range b.Folk {
			before, after := impl.WorthIn(b, p.Name), impl.WorthIn(got, p.Name)
			if p.Name == who && after > before || p.Name != who && after < before {
				t.Errorf("Lent(%+v, %s, %s, %d) and %+v: %s had %d and has %d", b, who, mill, amount, r, p.Name, before, after)
			}
		}
		waits := impl.AmountIn(got.Waits) - impl.AmountIn(b.Waits)
		if r.call == "Loosened" && waits > amount || impl.Total(got) != b.Supply || !impl.BookOk(got) {
			t.Errorf("Lent(%+v, %s, %s, %d) and %+v: %d waits in %+v", b, who, mill, amount, r, waits, got)
		}
	}
	return done
}

func TestWhoLendsAndHasAllOutHasNoMore(t *testing.T) {
	done := 0
	for _, b := range loosenBooks() {
		for _, p := range b.Folk {
			for _, m := range b.Mills {
				for _, n := range []int64{1, 2, 3, 4, 5, 7, 10, 334, 500, 999999, 1000000} {
					done += checkLentAndOut(t, b, p.Name, m.Name, n)
				}
			}
		}
	}
	if done < 200 {
		t.Errorf("only %d were done", done)
	}
}

func TestWhoLendsToSmallMillsAndHasAllOutHasNoMore(t *testing.T) {
	done := 0
	for stake := range int64(9) {
		for shares := range int64(9) {
			for own := range shares + 1 {
				for _, n := range []int64{1, 2, 3, 5, 8, 10} {
					b := lender(10, stake, shares)
					b.Parts = having(having(nil, "ann", "mia", own), "bob", "mia", shares-own)
					if impl.BookOk(b) {
						done += checkLentAndOut(t, b, "ann", "mia", n)
					}
				}
			}
		}
	}
	if done < 2000 {
		t.Errorf("only %d were done", done)
	}
}

// Many loans and releases one after the other, in turns that follow a short rule, while time goes by: the book is what the chapters tell at each step.
func TestManyReleases(t *testing.T) {
	for start, b := range []impl.Book{whole(), village(), lender(900000, 7, 2000), holder(1000000, 999999999, 1), {Supply: 800, Folk: crowd(8, 100), Mills: row(4, 0, 0)}} {
		done, next := 0, uint32(start)
		pick := func(n int) int {
			next = next*1664525 + 1013904223
			return int(next>>8) % n
		}
		for range 400 {
			who, mill := b.Folk[pick(len(b.Folk))], b.Mills[pick(len(b.Mills))].Name
			if pick(3) == 0 {
				l := loan{"Lent", who.Name, mill, int64(pick(int(who.Free/2 + 3)))}
				checkDeed(t, l, b)
				b, _ = l.of(b)
				continue
			}
			if len(b.Parts) > 0 && pick(8) > 0 {
				p := b.Parts[pick(len(b.Parts))]
				who.Name, mill = p.Who, p.Mill
			}
			r := release{"Loosened", who.Name, mill, int64(pick(int(sharesOf(b.Parts, who.Name, mill) + 2)))}
			if pick(4) == 0 {
				r = release{"AllOut", who.Name, mill, 0}
			}
			checkDeed(t, r, b)
			done += checkNobodyLoses(t, r, b)
			b = paidOut(r, b)
		}
		if done < 100 {
			t.Errorf("from start %d only %d were done", start, done)
		}
	}
}

// paidOut is what r makes of b, a season later where many wait, or nobody has shares any more: then the first one has what waits for it.
func paidOut(r release, b impl.Book) impl.Book {
	b, _ = r.of(b)
	if len(b.Waits) == 0 || len(b.Waits) < 18 && len(b.Parts) > 0 {
		return b
	}
	b = copyOf(b)
	b.Season++
	first := b.Waits[0]
	b.Folk = with(b.Folk, first.Who, impl.FreeOf(b.Folk, first.Who)+first.Amount)
	b.Waits = b.Waits[1:]
	return b
}

// What is behind the lists is their spare room: nothing is written there, nor read.
func TestReleasesAreNewMemoryAndBooksStay(t *testing.T) {
	wrong := []impl.Book{changed(func(b *impl.Book) { b.Supply++ }), changed(func(b *impl.Book) { b.Season = 1001 })}
	for _, b := range append(loosenBooks(), wrong...) {
		for _, r := range releasesFor([]string{"a", "ann", "bob", "mia", "tom", "zoe", "spare"}, []int64{0, 1, 3, 13}) {
			checkMemory(t, r, b)
		}
	}
}
