package tests

import (
	"slices"
	"testing"

	"loop.example/g00614/impl"
)

// gain is Earned: so many coins that are new, of a mill.
type gain struct {
	mill   string
	amount int64
}

func (g gain) of(b impl.Book) (impl.Book, int64) {
	return impl.Earned(b, g.mill, g.amount)
}

// told is what the chapter tells of it, word by word.
func (g gain) told(b impl.Book) (impl.Book, int64) {
	if !bookOf(b) {
		return impl.Book{}, impl.MlBad
	}
	b = copyOf(b)
	at, purse := millAt(b, g.mill), purseAt(b, g.mill)
	switch {
	case at < 0:
		return b, impl.MlNone
	case g.amount < 1:
		return b, impl.MlBad
	case b.Mills[at].Shut:
		return b, impl.MlShut
	case purse < 0, g.amount > 1000000-b.Supply:
		return b, impl.MlFull
	}
	cut := g.amount * b.Mills[at].Cut / 100
	b.Supply += g.amount
	b.Folk[purse].Free += cut
	if b.Mills[at].Shares > 0 {
		b.Mills[at].Stake += g.amount - cut
	} else {
		b.Pot += g.amount - cut
	}
	return b, impl.MlDone
}

// cutOf is what the chapter tells of CutOf, word by word.
func cutOf(b impl.Book, mill string, amount int64) int64 {
	if !bookOf(b) || millAt(b, mill) < 0 || !isFrom(1, amount, 1000000) {
		return -1
	}
	return amount * b.Mills[millAt(b, mill)].Cut / 100
}

// gainsFor are the calls for each of these mills, with each of these amounts.
func gainsFor(mills []string, amounts []int64) []gain {
	var l []gain
	for _, mill := range mills {
		for _, amount := range amounts {
			l = append(l, gain{mill, amount})
		}
	}
	return l
}

// grinder is court with that cut of the mill mia; zoe has a mill there, but no purse.
func grinder(cut, stake, shares int64) impl.Book {
	b := court(stake, shares, due(5, -7))
	b.Mills[0].Cut = cut
	return b
}

// nearly are books of the mill mia with that cut, and with so many coins: all of them in one place each.
func nearly(cut, supply int64) []impl.Book {
	book := func(change func(b *impl.Book)) impl.Book {
		b := lender(0, 0, 1000)
		b.Supply, b.Mills[0].Cut = supply, cut
		change(&b)
		return b
	}
	none := func(b *impl.Book) { b.Mills[0].Shares, b.Parts = 0, nil }
	return []impl.Book{
		book(func(b *impl.Book) { b.Folk[0].Free = supply }),
		book(func(b *impl.Book) { b.Folk[2].Free = supply }), // in the purse of that mill
		book(func(b *impl.Book) { b.Mills[0].Stake = supply }),
		book(func(b *impl.Book) { b.Pot = supply }),
		book(func(b *impl.Book) { b.Burnt = supply }),
		book(func(b *impl.Book) { none(b); b.Folk[2].Free = supply }),
		book(func(b *impl.Book) { none(b); b.Pot = supply }), // where what is left goes
		book(func(b *impl.Book) { none(b); b.Burnt = supply }),
	}
}

// earnBooks are right books of which some can earn a lot, and some hardly.
func earnBooks() []impl.Book {
	l := append(fineBooks(),
		grinder(0, 100, 7), grinder(0, 0, 0),
		grinder(33, 100, 7), grinder(33, 0, 7), grinder(33, 0, 0),
		grinder(100, 100, 7), grinder(100, 0, 7), grinder(100, 0, 0),
		shutAt(grinder(10, 100, 7), 0),
		shutAt(grinder(10, 100, 7), 1),
	)
	for _, cut := range []int64{0, 7, 100} {
		l = slices.Concat(l, nearly(cut, 0), nearly(cut, 1), nearly(cut, 999950), nearly(cut, 999999), nearly(cut, 1000000))
	}
	return l
}

// checkEarned holds what mia earns against numbers: so much of it goes to her purse.
func checkEarned(t *testing.T, b impl.Book, amount, cut int64) {
	t.Helper()
	want := copyOf(b)
	want.Supply, want.Folk[2].Free = b.Supply+amount, b.Folk[2].Free+cut
	if b.Mills[0].Shares > 0 {
		want.Mills[0].Stake += amount - cut
	} else {
		want.Pot += amount - cut
	}
	if got, code := impl.Earned(b, "mia", amount); code != 0 || !alike(got, want) || !impl.BookOk(got) {
		t.Errorf("Earned(%+v, mia, %d) = %+v, %d; want %+v", b, amount, got, code, want)
	}
	if got := impl.CutOf(b, "mia", amount); got != cut {
		t.Errorf("CutOf(%+v, mia, %d) = %d; want %d", b, amount, got, cut)
	}
}

func TestEarned(t *testing.T) {
	for _, c := range []struct{ percent, amount, cut int64 }{
		{0, 1, 0}, // all of it is shared
		{0, 99, 0},
		{0, 100, 0},
		{0, 900000, 0},
		{100, 1, 1}, // nothing of it is
		{100, 99, 99},
		{100, 900000, 900000},
		{10, 1, 0},
		{10, 9, 0}, // nine tenths
		{10, 10, 1},
		{10, 19, 1}, // hardly less than 2
		{10, 20, 2},
		{10, 55, 5}, // 5 and a half
		{1, 1, 0},
		{1, 99, 0},
		{1, 100, 1},
		{1, 101, 1},
		{1, 199, 1},
		{1, 200, 2},
		{33, 1, 0},
		{33, 3, 0},
		{33, 4, 1},
		{33, 10, 3},
		{33, 100, 33},
		{33, 900000, 297000},
		{50, 1, 0}, // a half
		{50, 2, 1},
		{50, 99, 49},
		{99, 1, 0}, // hardly less than 1
		{99, 2, 1},
		{99, 99, 98},
		{99, 100, 99},
		{99, 101, 99},
		{99, 900000, 891000},
	} {
		checkEarned(t, grinder(c.percent, 100, 7), c.amount, c.cut)
		checkEarned(t, grinder(c.percent, 1, 7), c.amount, c.cut)
		checkEarned(t, grinder(c.percent, 0, 7), c.amount, c.cut) // Shares and no Stake
		checkEarned(t, grinder(c.percent, 100, 1000000000), c.amount, c.cut)
		checkEarned(t, grinder(c.percent, 0, 1), c.amount, c.cut)
		checkEarned(t, grinder(c.percent, 0, 0), c.amount, c.cut) // no Shares
		checkEarned(t, inSeason(grinder(c.percent, 100, 7), 0), c.amount, c.cut)
		checkEarned(t, inSeason(grinder(c.percent, 100, 7), 1000), c.amount, c.cut)
		checkEarned(t, shutAt(grinder(c.percent, 100, 7), 1), c.amount, c.cut) // another one is Shut
	}
}

// Supply comes to MaxAmount exactly; one more is MlFull, wherever the coins are.
func TestEarnedUpToMaxAmount(t *testing.T) {
	for _, cut := range []int64{0, 1, 7, 50, 99, 100} {
		for _, supply := range []int64{0, 1, 500000, 999900, 999950, 999998, 999999} {
			left := 1000000 - supply
			for _, b := range nearly(cut, supply) {
				checkEarned(t, b, left, left*cut/100)
				for _, more := range []int64{left + 1, left + 2, 1000000 + left, 1000000, 1000001, 2000000, 1 << 32, greatest - supply, greatest - supply + 1, greatest} {
					if more > left {
						checkRefused(t, []refusal{{b, gain{"mia", more}, impl.MlFull}})
					}
				}
			}
		}
		for _, b := range nearly(cut, 1000000) { // there is no room for any
			for _, n := range []int64{1, 2, 100, 1000000, greatest} {
				checkRefused(t, []refusal{{b, gain{"mia", n}, impl.MlFull}})
			}
		}
	}
}

// What one mill earns changes nothing of the others.
func TestEarnedOfWhole(t *testing.T) {
	for _, c := range []struct {
		mill            string
		amount          int64
		at, free, stake int64
		ann, bob        int64 // what they are worth then
		supply, cut     int64
	}{
		{"ann", 1, 0, 10, 31, 10 + 20 + 666, 500 + 10 + 333 + 4 + 1, 1563, 0},
		{"ann", 19, 0, 10, 49, 10 + 31 + 666, 500 + 17 + 333 + 4 + 1, 1581, 0},
		{"ann", 20, 0, 11, 49, 11 + 31 + 666, 500 + 17 + 333 + 4 + 1, 1582, 1},
		{"ann", 100, 0, 15, 125, 15 + 81 + 666, 500 + 43 + 333 + 4 + 1, 1662, 5},
		{"ann", 998438, 0, 49931, 948547, 49931 + 616555 + 666, 500 + 331991 + 333 + 4 + 1, 1000000, 49921},
		{"mia", 1, 2, 0, 1001, 10 + 19 + 667, 500 + 10 + 333 + 4 + 1, 1563, 0},
		{"mia", 2, 2, 0, 1002, 10 + 19 + 668, 500 + 10 + 334 + 4 + 1, 1564, 0},
		{"mia", 998438, 2, 0, 999438, 10 + 19 + 666292, 500 + 10 + 333146 + 4 + 1, 1000000, 0},
	} {
		want := changed(func(b *impl.Book) {
			b.Supply, b.Mills[c.at].Stake = c.supply, c.stake
			b.Folk = with(b.Folk, c.mill, c.free)
		})
		got, code := impl.Earned(whole(), c.mill, c.amount)
		if code != 0 || !alike(got, want) {
			t.Errorf("Earned(%s, %d) = %+v, %d; want %+v", c.mill, c.amount, got, code, want)
		}
		if ann, bob := impl.WorthIn(got, "ann"), impl.WorthIn(got, "bob"); ann != c.ann || bob != c.bob {
			t.Errorf("Earned(%s, %d): ann has %d and bob %d; want %d and %d", c.mill, c.amount, ann, bob, c.ann, c.bob)
		}
		if cut := impl.CutOf(whole(), c.mill, c.amount); cut != c.cut {
			t.Errorf("CutOf(%s, %d) = %d; want %d", c.mill, c.amount, cut, c.cut)
		}
	}
	want := reopened() // a Cut of 100, and no Shares
	want.Supply, want.Folk[1].Free = 1569, 507
	if got, code := impl.Earned(reopened(), "bob", 7); code != 0 || !alike(got, want) {
		t.Errorf("Earned(bob, 7) = %+v, %d; want %+v", got, code, want)
	}
	want = reopened()
	want.Mills[1].Cut = 40
	b := copyOf(want)
	want.Supply, want.Folk[1].Free, want.Pot = 1569, 502, 7
	if got, code := impl.Earned(b, "bob", 7); code != 0 || !alike(got, want) {
		t.Errorf("Earned(bob, 7) = %+v, %d; want %+v", got, code, want)
	}
}

// What is refused for one reason alone, and for several: then it is the code that is named first.
func TestEarnedRefuses(t *testing.T) {
	full := nearly(10, 1000000)[0]
	checkRefused(t, []refusal{
		{whole(), gain{"tom", 5}, impl.MlNone}, // a purse, but no mill
		{whole(), gain{"eve", 5}, impl.MlNone},
		{whole(), gain{"an", 5}, impl.MlNone},
		{whole(), gain{"anna", 5}, impl.MlNone},
		{whole(), gain{"", 5}, impl.MlNone}, // a text that is no name
		{whole(), gain{"Ann", 5}, impl.MlNone},
		{whole(), gain{"ann ", 5}, impl.MlNone},
		{whole(), gain{" ann", 5}, impl.MlNone},
		{whole(), gain{"ann\x00", 5}, impl.MlNone},
		{whole(), gain{"annannann", 5}, impl.MlNone},
		{whole(), gain{"\xff", 5}, impl.MlNone},
		{impl.Book{}, gain{"ann", 5}, impl.MlNone},
		{whole(), gain{"tom", 0}, impl.MlNone}, // and the amount is out of range
		{whole(), gain{"", -1}, impl.MlNone},
		{whole(), gain{"eve", least}, impl.MlNone},
		{whole(), gain{"eve", greatest}, impl.MlNone},
		{allShut(), gain{"tom", 5}, impl.MlNone},
		{full, gain{"ann", 5}, impl.MlNone},
		{full, gain{"", 0}, impl.MlNone},
		{whole(), gain{"ann", 0}, impl.MlBad}, // one less than the least
		{whole(), gain{"ann", -1}, impl.MlBad},
		{whole(), gain{"ann", -20}, impl.MlBad}, // as if it went away
		{whole(), gain{"mia", -1562}, impl.MlBad},
		{whole(), gain{"ann", least}, impl.MlBad},
		{whole(), gain{"ann", least + 1}, impl.MlBad},
		{whole(), gain{"bob", 0}, impl.MlBad}, // and it is Shut
		{whole(), gain{"bob", -1}, impl.MlBad},
		{whole(), gain{"zoe", 0}, impl.MlBad}, // nor is there such a purse
		{whole(), gain{"zoe", -1}, impl.MlBad},
		{allShut(), gain{"zoe", least}, impl.MlBad},
		{full, gain{"mia", 0}, impl.MlBad}, // nor is there room
		{whole(), gain{"bob", 1}, impl.MlShut},
		{whole(), gain{"bob", 1000000}, impl.MlShut}, // nor is there room
		{whole(), gain{"bob", greatest}, impl.MlShut},
		{allShut(), gain{"ann", 5}, impl.MlShut},
		{allShut(), gain{"mia", 1}, impl.MlShut},
		{allShut(), gain{"zoe", 1}, impl.MlShut}, // nor is there such a purse
		{allShut(), gain{"zoe", greatest}, impl.MlShut},
		{shutAt(copyOf(full), 0), gain{"mia", 1}, impl.MlShut}, // nor is there room
		{whole(), gain{"zoe", 1}, impl.MlFull},                 // a mill, but no purse: not even where nothing is cut
		{whole(), gain{"zoe", 100}, impl.MlFull},
		{whole(), gain{"zoe", 1000000}, impl.MlFull},
		{grinder(10, 100, 7), gain{"zoe", 5}, impl.MlFull},
		{changed(func(b *impl.Book) { b.Mills[3].Cut = 0 }), gain{"zoe", 100}, impl.MlFull},
		{changed(func(b *impl.Book) { b.Mills[3].Cut = 100 }), gain{"zoe", 100}, impl.MlFull},
		{impl.Book{Mills: row(3, 0, 0)}, gain{"b", 1}, impl.MlFull}, // nor are there Shares
		{whole(), gain{"ann", 998439}, impl.MlFull},                 // one more than there is room for
		{whole(), gain{"ann", 1000000}, impl.MlFull},
		{whole(), gain{"ann", 1000001}, impl.MlFull},
		{whole(), gain{"mia", greatest}, impl.MlFull},
		{whole(), gain{"mia", greatest - 1562}, impl.MlFull},
		{whole(), gain{"mia", greatest - 1561}, impl.MlFull},
		{full, gain{"mia", 1}, impl.MlFull},
		{crammed(), gain{"a", 1}, impl.MlFull},
		{crammed(), gain{"d", 1000000}, impl.MlFull},
	})
}

func TestCutOf(t *testing.T) {
	cut := func(percent int64) impl.Book { return changed(func(b *impl.Book) { b.Mills[0].Cut = percent }) }
	full := nearly(7, 1000000)[0]
	for _, c := range []struct {
		book   impl.Book
		mill   string
		amount int64
		want   int64
	}{
		{whole(), "ann", 1, 0},
		{whole(), "ann", 19, 0}, // hardly less than 1
		{whole(), "ann", 20, 1},
		{whole(), "ann", 39, 1},
		{whole(), "ann", 99, 4},
		{whole(), "ann", 1000000, 50000}, // more than there is room for
		{whole(), "ann", 999999, 49999},
		{whole(), "bob", 1, 1}, // it is Shut
		{whole(), "bob", 1000000, 1000000},
		{allShut(), "ann", 20, 1},
		{whole(), "mia", 1, 0}, // a Cut of 0
		{whole(), "mia", 1000000, 0},
		{whole(), "zoe", 99, 0}, // there is no such purse
		{whole(), "zoe", 100, 1},
		{whole(), "zoe", 1000000, 10000},
		{allShut(), "zoe", 100, 1},
		{impl.Book{Mills: row(3, 0, 0)}, "b", 5, 0},
		{full, "mia", 15, 1},
		{full, "mia", 1000000, 70000},
		{cut(0), "ann", 99, 0},
		{cut(1), "ann", 99, 0},
		{cut(1), "ann", 100, 1},
		{cut(50), "ann", 99, 49},
		{cut(99), "ann", 1, 0},
		{cut(99), "ann", 99, 98},
		{cut(99), "ann", 1000000, 990000},
		{cut(100), "ann", 1, 1},
		{cut(100), "ann", 99, 99},
		{whole(), "ann", 0, -1}, // below 1
		{whole(), "ann", -1, -1},
		{whole(), "ann", -20, -1},
		{whole(), "ann", least, -1},
		{whole(), "ann", 1000001, -1}, // no amount
		{whole(), "ann", 1 << 32, -1},
		{whole(), "ann", 1<<32 + 20, -1},
		{whole(), "ann", greatest, -1},
		{whole(), "mia", 0, -1}, // of a Cut of 0 too
		{whole(), "mia", -1, -1},
		{whole(), "mia", 1000001, -1},
		{whole(), "bob", 0, -1},
		{whole(), "bob", 1000001, -1},
		{whole(), "zoe", 0, -1},
		{whole(), "tom", 20, -1}, // a purse, but no mill
		{whole(), "eve", 20, -1},
		{whole(), "an", 20, -1},
		{whole(), "anna", 20, -1},
		{whole(), "", 20, -1},
		{whole(), "Ann", 20, -1},
		{whole(), "ann ", 20, -1},
		{whole(), "\xff", 20, -1},
		{impl.Book{}, "ann", 20, -1},
	} {
		if got := impl.CutOf(c.book, c.mill, c.amount); got != c.want {
			t.Errorf("CutOf(%+v, %q, %d) = %d; want %d", c.book, c.mill, c.amount, got, c.want)
		}
	}
}

// A book that is not right is MlBad, and -1, ahead of all else that is told.
func TestEarnOfWrongBooks(t *testing.T) {
	gains := gainsFor([]string{"", "ann", "bob", "mia", "zoe", "tom", "a", "Ann"}, []int64{least, -1, 0, 1, 20, 1000000, 1000001, greatest})
	for _, b := range wrongBooks() {
		for _, g := range gains {
			if got, code := g.of(b); code != 7 || !alike(got, impl.Book{}) {
				t.Errorf("%+v of %+v = %+v, %d", g, b, got, code)
			}
			if got := impl.CutOf(b, g.mill, g.amount); got != -1 {
				t.Errorf("CutOf(%+v, %q, %d) = %d", b, g.mill, g.amount, got)
			}
		}
	}
}

func TestEarnOfAllBooks(t *testing.T) {
	seen := map[int64]int{}
	for _, b := range earnBooks() {
		if !bookOf(b) {
			t.Fatalf("%+v is not right", b)
		}
		_, mills := namesIn(b)
		left := 1000000 - b.Supply
		for _, g := range gainsFor(append(mills, "", "Mia", "mia "), append([]int64{left - 1, left, left + 1, left + 2}, edges...)) {
			seen[checkDeed(t, g, b)]++
			if got, want := impl.CutOf(b, g.mill, g.amount), cutOf(b, g.mill, g.amount); got != want {
				t.Errorf("CutOf(%+v, %q, %d) = %d; want %d", b, g.mill, g.amount, got, want)
			}
		}
	}
	for _, code := range []int64{impl.MlDone, impl.MlNone, impl.MlShut, impl.MlFull, impl.MlBad} {
		if seen[code] < 100 {
			t.Errorf("Earned was %d only %d times", code, seen[code])
		}
		delete(seen, code)
	}
	if len(seen) != 0 {
		t.Error(seen)
	}
}

// checkShared holds what is earned against promise 13, and counts it where it is done.
func checkShared(t *testing.T, g gain, b impl.Book) int {
	t.Helper()
	got, code := g.of(b)
	if code != impl.MlDone {
		if !alike(got, b) {
			t.Errorf("%+v of %+v = %+v, %d", g, b, got, code)
		}
		return 0
	}
	at, purse := millAt(b, g.mill), purseAt(b, g.mill)
	cut := got.Folk[purse].Free - b.Folk[purse].Free
	stake, pot := got.Mills[at].Stake-b.Mills[at].Stake, got.Pot-b.Pot
	if got.Supply-b.Supply != g.amount || cut+stake+pot != g.amount || impl.Total(got) != got.Supply || !impl.BookOk(got) {
		t.Errorf("%+v of %+v: %d, %d and %d are more in %+v", g, b, cut, stake, pot, got)
	}
	exact := g.amount * b.Mills[at].Cut
	if cut != impl.CutOf(b, g.mill, g.amount) || cut < 0 || cut*100 > exact || cut*100 <= exact-100 {
		t.Errorf("%+v of %+v: %d is cut", g, b, cut)
	}
	if hasShares := b.Mills[at].Shares > 0; stake < 0 || pot < 0 || hasShares && pot != 0 || !hasShares && stake != 0 {
		t.Errorf("%+v of %+v: %d to Stake, and %d to the Pot", g, b, stake, pot)
	}
	for _, p := range b.Folk {
		before, after := impl.WorthIn(b, p.Name), impl.WorthIn(got, p.Name)
		own := p.Name == g.mill || sharesOf(b.Parts, p.Name, g.mill) > 0
		if after < before || after > before && !own {
			t.Errorf("%+v of %+v: %s had %d and has %d", g, b, p.Name, before, after)
		}
	}
	back := copyOf(got) // all that may change is put back, and then nothing has
	back.Supply, back.Pot, back.Folk[purse].Free, back.Mills[at].Stake = b.Supply, b.Pot, b.Folk[purse].Free, b.Mills[at].Stake
	if !alike(back, b) {
		t.Errorf("%+v changes more of %+v: %+v", g, b, got)
	}
	return 1
}

func TestWhatIsEarnedIsCutAndShared(t *testing.T) {
	done := 0
	for _, b := range earnBooks() {
		_, mills := namesIn(b)
		left := 1000000 - b.Supply
		for _, g := range gainsFor(mills, []int64{-1, 0, 1, 2, 7, 50, 99, 100, 101, left - 1, left, left + 1}) {
			done += checkShared(t, g, b)
		}
	}
	if done < 500 {
		t.Errorf("only %d were done", done)
	}
}

// Promise 13 where it could fail by rounding: for all cuts that there are, and all small amounts.
func TestWhatIsEarnedIsCutAndSharedByAllCuts(t *testing.T) {
	for cut := int64(0); cut <= 100; cut++ {
		for _, b := range []impl.Book{grinder(cut, 100, 7), grinder(cut, 0, 7), grinder(cut, 0, 0)} {
			for _, n := range []int64{1, 2, 3, 4, 5, 9, 10, 11, 19, 20, 33, 34, 49, 50, 51, 66, 67, 98, 99, 100, 101, 199, 999, 7777, 123457} {
				checkDeed(t, gain{"mia", n}, b)
				if checkShared(t, gain{"mia", n}, b) != 1 {
					t.Errorf("%+v earns no %d", b, n)
				}
			}
		}
	}
}

// CutOf tells ahead what Earned does; the same coins earned one by one are cut one by one, each rounded down.
func TestEarnedOneByOne(t *testing.T) {
	b := grinder(99, 100, 7)
	for range 50 {
		b, _ = impl.Earned(b, "mia", 1)
	}
	want := grinder(99, 150, 7)
	if !alike(b, want) {
		t.Errorf("%+v; want %+v", b, want)
	}
	b, _ = impl.Earned(grinder(99, 100, 7), "mia", 50)
	want = grinder(99, 101, 7)
	want.Supply, want.Folk[2].Free = want.Supply+49, 50
	if !alike(b, want) {
		t.Errorf("%+v; want %+v", b, want)
	}
}

// Shares of a mill that was fined all it had are worth something again when it has earned.
func TestEarnedAfterAFine(t *testing.T) {
	b, _ := impl.Punished(grinder(10, 100, 7), "mia", 100)
	checkRefused(t, []refusal{{b, gain{"mia", 70}, impl.MlShut}})
	if cut := impl.CutOf(b, "mia", 70); cut != 7 {
		t.Errorf("CutOf(%+v, mia, 70) = %d", b, cut)
	}
	b, _ = impl.Mended(b, "mia")
	b, code := impl.Earned(b, "mia", 70)
	if code != 0 || b.Mills[0] != (impl.Mill{Name: "mia", Stake: 63, Shares: 7, Cut: 10}) || impl.WorthIn(b, "bob") != 63+7 {
		t.Errorf("Earned: %+v, %d", b, code)
	}
	if got, code := impl.Lent(b, "ann", "mia", 18); code != 0 || got.Mills[0].Shares != 9 {
		t.Errorf("Lent of %+v = %+v, %d", b, got, code)
	}
}

// Many deeds one after the other, in turns that follow a short rule: the book is what the chapters tell at each step.
func TestManyGains(t *testing.T) {
	for start, b := range []impl.Book{reopened(), packed(), grinder(33, 100, 7), grinder(0, 0, 0), {Supply: 80000, Folk: crowd(8, 10000), Mills: row(4, 0, 0)}} {
		done, next := 0, uint32(start)
		pick := func(n int) int {
			next = next*1664525 + 1013904223
			return int(next>>8) % n
		}
		for range 400 {
			who, mill := b.Folk[pick(len(b.Folk))], b.Mills[pick(len(b.Mills))].Name
			var d deed = gain{mill, int64(pick(4000) - 20)}
			switch pick(8) {
			case 0:
				d = fine{"Punished", mill, int64(pick(12))}
			case 1, 2:
				d = fine{"Mended", mill, 0}
			case 3:
				d = release{"Loosened", who.Name, mill, int64(pick(int(sharesOf(b.Parts, who.Name, mill)/8 + 3)))}
			case 4:
				d = loan{"Lent", who.Name, mill, int64(pick(int(who.Free/4 + 3)))}
			}
			checkDeed(t, d, b)
			if g, is := d.(gain); is {
				done += checkShared(t, g, b)
			}
			b, _ = d.of(b)
		}
		if done < 40 && b.Supply < 990000 {
			t.Errorf("from start %d only %d were done", start, done)
		}
	}
}

// What is behind the lists is their spare room: nothing is written there, nor read.
func TestEarnIsNewMemoryAndBooksStay(t *testing.T) {
	wrong := []impl.Book{changed(func(b *impl.Book) { b.Supply++ }), changed(func(b *impl.Book) { b.Season = 1001 })}
	for _, b := range append(earnBooks(), wrong...) {
		_, mills := namesIn(b)
		for _, g := range gainsFor(append(mills, "spare", ""), []int64{0, 1, 50, 1000000 - b.Supply, 1000001 - b.Supply}) {
			checkMemory(t, g, b)
			tight, full := roomy(b)
			given := copyOf(full)
			if got := impl.CutOf(tight, g.mill, g.amount); got != cutOf(b, g.mill, g.amount) || !alike(full, given) {
				t.Fatalf("CutOf(%+v, %q, %d) = %d, and leaves %+v", b, g.mill, g.amount, got, full)
			}
		}
	}
}
