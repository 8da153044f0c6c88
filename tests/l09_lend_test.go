package tests

import (
	"testing"

	"loop.example/g00614/impl"
)

// loan is one of the calls of chapter 9: coins of one, that go to a mill (Lent) or to another one (Given).
type loan struct {
	call   string
	from   string
	to     string
	amount int64
}

func (l loan) of(b impl.Book) (impl.Book, int64) {
	if l.call == "Lent" {
		return impl.Lent(b, l.from, l.to, l.amount)
	}
	return impl.Given(b, l.from, l.to, l.amount)
}

// told is what the chapter tells of it, word by word.
func (l loan) told(b impl.Book) (impl.Book, int64) {
	switch {
	case !bookOf(b):
		return impl.Book{}, impl.MlBad
	case l.call == "Lent":
		return lentOf(copyOf(b), l.from, l.to, l.amount)
	}
	return givenOf(copyOf(b), l.from, l.to, l.amount)
}

// sharesForOf are the shares that amount, which is one, buys; -1 where the chapter of mills has no answer.
func sharesForOf(m impl.Mill, amount int64) int64 {
	n := 1000 * amount
	if m.Shares > 0 {
		if m.Stake == 0 {
			return -1
		}
		n = amount * m.Shares / m.Stake
	}
	if m.Shares+n > 1000000000 {
		return -1
	}
	return n
}

func lentOf(b impl.Book, who, mill string, amount int64) (impl.Book, int64) {
	purse, at := purseAt(b, who), millAt(b, mill)
	switch {
	case purse < 0, at < 0:
		return b, impl.MlNone
	case amount < 1:
		return b, impl.MlBad
	case b.Mills[at].Shut:
		return b, impl.MlShut
	case b.Folk[purse].Free < amount:
		return b, impl.MlShort
	}
	shares := sharesForOf(b.Mills[at], amount)
	if shares < 1 {
		return b, impl.MlWorthless
	}
	held := having(b.Parts, who, mill, sharesOf(b.Parts, who, mill)+shares)
	if len(held) > 20 {
		return b, impl.MlFull
	}
	b.Folk[purse].Free -= amount
	b.Mills[at].Stake += amount
	b.Mills[at].Shares += shares
	b.Parts = held
	return b, impl.MlDone
}

func givenOf(b impl.Book, from, to string, amount int64) (impl.Book, int64) {
	one, other := purseAt(b, from), purseAt(b, to)
	switch {
	case one < 0, other < 0:
		return b, impl.MlNone
	case amount < 1, from == to:
		return b, impl.MlBad
	case b.Folk[one].Free < amount:
		return b, impl.MlShort
	}
	b.Folk[one].Free -= amount
	b.Folk[other].Free += amount
	return b, impl.MlDone
}

// loansFor are both calls for each two of these names, with each of these amounts.
func loansFor(names []string, amounts []int64) []loan {
	var l []loan
	for _, from := range names {
		for _, to := range names {
			for _, n := range amounts {
				l = append(l, loan{"Lent", from, to, n}, loan{"Given", from, to, n})
			}
		}
	}
	return l
}

// lender is a book in which ann has coins that are free, and bob all shares of the mill mia.
func lender(free, stake, shares int64) impl.Book {
	b := impl.Book{
		Season: 4,
		Supply: free + stake,
		Folk:   []impl.Purse{{Name: "ann", Free: free}, {Name: "bob"}, {Name: "mia"}},
		Mills:  []impl.Mill{{Name: "mia", Stake: stake, Shares: shares, Cut: 10}},
	}
	if shares > 0 {
		b.Parts = []impl.Part{{Who: "bob", Mill: "mia", Shares: shares}}
	}
	return b
}

// nearlyCrammed is crammed with one part less.
func nearlyCrammed() impl.Book {
	b := crammed()
	b.Parts = b.Parts[:19]
	b.Mills[3].Shares--
	return b
}

// crammedAndWorthless is crammed, but no share of c can be bought for 1, nor any of d at all.
func crammedAndWorthless() impl.Book {
	b := crammed()
	b.Mills[2].Stake, b.Mills[3].Stake = 10, 0
	return b
}

// allShut is whole with no mill that is not Shut.
func allShut() impl.Book {
	return changed(func(b *impl.Book) {
		for i := range b.Mills {
			b.Mills[i].Shut = true
		}
	})
}

// lendBooks are right books of which some can be lent from, and some hardly.
func lendBooks() []impl.Book {
	return append(openBooks(),
		lender(5, 0, 0),
		lender(1000000, 0, 0),
		lender(500, 30, 20),
		lender(500, 1000, 3),
		lender(500, 0, 20),
		lender(5, 3, 750000000),
		lender(5, 3, 750000001),
		lender(1, 999999, 1999998),
		nearlyCrammed(),
		crammedAndWorthless(),
		allShut(),
	)
}

func TestLent(t *testing.T) {
	for _, c := range []struct{ free, stake, shares, amount, bought int64 }{
		{500, 0, 0, 40, 40000}, // the first shares
		{500, 0, 0, 1, 1000},
		{1, 0, 0, 1, 1000},                       // all of Free
		{500, 0, 0, 500, 500000},                 // all of Free
		{1000000, 0, 0, 1000000, 1000000000},     // all that there is, and MaxShares exactly
		{1000000, 0, 0, 999999, 999999000},       // one less
		{500, 30, 20, 2, 1},                      // 1 and a third
		{500, 30, 20, 3, 2},                      // exactly
		{500, 30, 20, 10, 6},                     // of the mill as it was: of what it is then they would be 5
		{10, 30, 20, 10, 6},                      // all of Free
		{500, 20, 30, 1, 1},                      // 1 and a half
		{500, 7, 7, 500, 500},                    // a share is a coin
		{500, 1000, 3, 334, 1},                   // the least that buys one
		{500, 1, 1000, 1, 1000},                  // as the first ones
		{5, 3, 750000000, 1, 250000000},          // MaxShares exactly
		{5, 3, 749999999, 1, 249999999},          // a third less is lost
		{5, 2, 1, 5, 2},                          // more than what the others have
		{1, 999999, 1999998, 1, 2},               // Stake comes to MaxAmount exactly
		{500000, 500000, 500000000, 1, 1000},     // many shares
		{500000, 500000, 1, 500000, 1},           // one share for all that is free
		{999999, 1, 1000, 999999, 999999000},     // MaxShares and MaxAmount exactly
		{999999, 1, 1000, 999998, 999998000},     // one less of both
		{400000, 600000, 7, 100000, 1},           // 1 and a sixth
		{400000, 600000, 600000001, 1, 1000},     // a fraction of a share is lost
		{400000, 600000, 599999999, 1, 999},      // and so is nearly a whole one
		{400000, 600000, 600000000, 400000, 4e8}, // MaxShares and MaxAmount exactly
	} {
		b := lender(c.free, c.stake, c.shares)
		want := lender(c.free, c.stake, c.shares)
		want.Folk[0].Free = c.free - c.amount
		want.Mills[0].Stake, want.Mills[0].Shares = c.stake+c.amount, c.shares+c.bought
		want.Parts = append([]impl.Part{{Who: "ann", Mill: "mia", Shares: c.bought}}, want.Parts...)
		if got, code := impl.Lent(b, "ann", "mia", c.amount); code != 0 || !alike(got, want) {
			t.Errorf("Lent(%+v, ann, mia, %d) = %+v, %d; want %+v", b, c.amount, got, code, want)
		}
	}
}

// Who has a part already has more of it; who has none has a part at its place; and all else stays.
func TestLentOfWhole(t *testing.T) {
	for _, c := range []struct {
		who    string
		mill   int
		amount int64
		free   int64
		want   impl.Mill
		part   impl.Part
	}{
		{"ann", 0, 3, 7, impl.Mill{Name: "ann", Stake: 33, Shares: 22, Cut: 5}, impl.Part{Who: "ann", Mill: "ann", Shares: 15}}, // to a mill of one's own
		{"ann", 0, 10, 0, impl.Mill{Name: "ann", Stake: 40, Shares: 26, Cut: 5}, impl.Part{Who: "ann", Mill: "ann", Shares: 19}},
		{"bob", 0, 500, 0, impl.Mill{Name: "ann", Stake: 530, Shares: 353, Cut: 5}, impl.Part{Who: "bob", Mill: "ann", Shares: 340}},
		{"bob", 0, 2, 498, impl.Mill{Name: "ann", Stake: 32, Shares: 21, Cut: 5}, impl.Part{Who: "bob", Mill: "ann", Shares: 8}},
		{"bob", 2, 334, 166, impl.Mill{Name: "mia", Stake: 1334, Shares: 4}, impl.Part{Who: "bob", Mill: "mia", Shares: 2}},
		{"bob", 2, 500, 0, impl.Mill{Name: "mia", Stake: 1500, Shares: 4}, impl.Part{Who: "bob", Mill: "mia", Shares: 2}},
	} {
		want := changed(func(b *impl.Book) {
			b.Folk = with(b.Folk, c.who, c.free)
			b.Mills[c.mill] = c.want
			b.Parts = having(b.Parts, c.part.Who, c.part.Mill, c.part.Shares)
		})
		if got, code := impl.Lent(whole(), c.who, c.want.Name, c.amount); code != 0 || !alike(got, want) {
			t.Errorf("Lent(%s, %s, %d) = %+v, %d", c.who, c.want.Name, c.amount, got, code)
		}
	}
}

func TestGiven(t *testing.T) {
	for _, c := range []struct {
		from, to  string
		amount    int64
		one, then int64
	}{
		{"ann", "bob", 1, 9, 501},
		{"ann", "bob", 9, 1, 509},
		{"ann", "bob", 10, 0, 510}, // all of Free
		{"ann", "tom", 10, 0, 10},  // to one that has nothing at all
		{"ann", "mia", 5, 5, 5},
		{"bob", "ann", 1, 499, 11},
		{"bob", "ann", 500, 0, 510}, // all of Free
		{"bob", "mia", 499, 1, 499},
		{"bob", "tom", 250, 250, 250},
	} {
		want := changed(func(b *impl.Book) { b.Folk = with(with(b.Folk, c.from, c.one), c.to, c.then) })
		if got, code := impl.Given(whole(), c.from, c.to, c.amount); code != 0 || !alike(got, want) {
			t.Errorf("Given(%s, %s, %d) = %+v, %d", c.from, c.to, c.amount, got, code)
		}
	}
}

// A purse comes to MaxAmount exactly; more there is not.
func TestGivenUpToMaxAmount(t *testing.T) {
	for _, c := range []struct{ ann, bob, amount int64 }{
		{1, 999999, 1},
		{1000000, 0, 1000000},
		{999999, 1, 999999},
		{500000, 500000, 500000},
		{500000, 499999, 500000}, // one less
	} {
		b := impl.Book{Supply: c.ann + c.bob, Folk: []impl.Purse{{Name: "ann", Free: c.ann}, {Name: "bob", Free: c.bob}}}
		want := b
		want.Folk = []impl.Purse{{Name: "ann", Free: c.ann - c.amount}, {Name: "bob", Free: c.bob + c.amount}}
		if got, code := impl.Given(b, "ann", "bob", c.amount); code != 0 || !alike(got, want) {
			t.Errorf("Given(%+v, ann, bob, %d) = %+v, %d", b, c.amount, got, code)
		}
		if got, code := impl.Given(b, "ann", "bob", c.ann+1); code != impl.MlShort || !alike(got, b) {
			t.Errorf("Given(%+v, ann, bob, %d) = %+v, %d", b, c.ann+1, got, code)
		}
	}
}

// refusal is a deed that is refused, and how.
type refusal struct {
	book impl.Book
	deed deed
	code int64
}

func checkRefused(t *testing.T, l []refusal) {
	t.Helper()
	for _, c := range l {
		if got, code := c.deed.of(c.book); code != c.code || !alike(got, c.book) {
			t.Errorf("%+v of %+v = %+v, %d; want it as it is, %d", c.deed, c.book, got, code, c.code)
		}
	}
}

// What is refused for one reason alone, and for several: then it is the code that is named first.
func TestLentRefuses(t *testing.T) {
	checkRefused(t, []refusal{
		{whole(), loan{"Lent", "eve", "ann", 1}, impl.MlNone},
		{whole(), loan{"Lent", "zoe", "ann", 1}, impl.MlNone}, // a mill, but no purse
		{whole(), loan{"Lent", "ann", "eve", 1}, impl.MlNone},
		{whole(), loan{"Lent", "ann", "tom", 1}, impl.MlNone}, // a purse, but no mill
		{whole(), loan{"Lent", "an", "ann", 1}, impl.MlNone},
		{whole(), loan{"Lent", "anna", "ann", 1}, impl.MlNone},
		{whole(), loan{"Lent", "ann", "an", 1}, impl.MlNone},
		{whole(), loan{"Lent", "", "ann", 1}, impl.MlNone},
		{whole(), loan{"Lent", "ann", "", 1}, impl.MlNone},
		{whole(), loan{"Lent", "Ann", "ann", 1}, impl.MlNone},
		{whole(), loan{"Lent", "ann", "ann ", 1}, impl.MlNone},
		{impl.Book{}, loan{"Lent", "ann", "ann", 1}, impl.MlNone},
		{whole(), loan{"Lent", "eve", "ann", 0}, impl.MlNone}, // and the amount is below 1
		{whole(), loan{"Lent", "ann", "tom", -1}, impl.MlNone},
		{whole(), loan{"Lent", "eve", "tom", least}, impl.MlNone},
		{whole(), loan{"Lent", "eve", "bob", 1}, impl.MlNone},        // and it is Shut
		{whole(), loan{"Lent", "ann", "tom", 11}, impl.MlNone},       // and ann has not so many
		{whole(), loan{"Lent", "eve", "zoe", 1}, impl.MlNone},        // and no share can be bought
		{crammed(), loan{"Lent", "i", "a", greatest}, impl.MlNone},   // nor is there room
		{crammed(), loan{"Lent", "f", "e", 1}, impl.MlNone},          // nor is there room
		{whole(), loan{"Lent", "ann", "ann", 0}, impl.MlBad},         // one less than the least
		{whole(), loan{"Lent", "ann", "ann", -1}, impl.MlBad},        // as if it were taken back
		{whole(), loan{"Lent", "ann", "ann", -30}, impl.MlBad},       // all of Stake
		{whole(), loan{"Lent", "ann", "ann", least}, impl.MlBad},     // far below
		{whole(), loan{"Lent", "mia", "ann", 0}, impl.MlBad},         // all that mia has
		{whole(), loan{"Lent", "ann", "bob", 0}, impl.MlBad},         // and it is Shut
		{whole(), loan{"Lent", "ann", "zoe", 0}, impl.MlBad},         // and no share can be bought
		{crammed(), loan{"Lent", "f", "a", 0}, impl.MlBad},           // nor is there room
		{whole(), loan{"Lent", "ann", "bob", 1}, impl.MlShut},        // alone
		{whole(), loan{"Lent", "ann", "bob", 10}, impl.MlShut},       // all of Free
		{whole(), loan{"Lent", "bob", "bob", 5}, impl.MlShut},        // one's own
		{whole(), loan{"Lent", "ann", "bob", 11}, impl.MlShut},       // and ann has not so many
		{whole(), loan{"Lent", "mia", "bob", greatest}, impl.MlShut}, // and mia has nothing
		{allShut(), loan{"Lent", "ann", "ann", 3}, impl.MlShut},      // with Stake, and a part there
		{allShut(), loan{"Lent", "ann", "zoe", 1}, impl.MlShut},      // and no share can be bought
		{allShut(), loan{"Lent", "ann", "zoe", 11}, impl.MlShut},     // and both
		{whole(), loan{"Lent", "ann", "ann", 11}, impl.MlShort},      // one more than all of Free
		{whole(), loan{"Lent", "ann", "ann", 1000000}, impl.MlShort}, // MaxAmount
		{whole(), loan{"Lent", "ann", "ann", 1000001}, impl.MlShort}, // and one more
		{whole(), loan{"Lent", "ann", "ann", greatest}, impl.MlShort},
		{whole(), loan{"Lent", "bob", "ann", 501}, impl.MlShort},
		{whole(), loan{"Lent", "mia", "ann", 1}, impl.MlShort}, // has nothing
		{whole(), loan{"Lent", "tom", "ann", 1}, impl.MlShort},
		{whole(), loan{"Lent", "ann", "zoe", 11}, impl.MlShort},         // and no share can be bought
		{whole(), loan{"Lent", "tom", "mia", 333}, impl.MlShort},        // nor for this
		{crammed(), loan{"Lent", "f", "a", 2}, impl.MlShort},            // nor is there room
		{lender(1, 0, 0), loan{"Lent", "ann", "mia", 2}, impl.MlShort},  // for the first shares
		{lender(0, 10, 5), loan{"Lent", "ann", "mia", 1}, impl.MlShort}, // and it buys none
		{lender(1000000, 0, 0), loan{"Lent", "ann", "mia", 1000001}, impl.MlShort},
		{whole(), loan{"Lent", "ann", "zoe", 1}, impl.MlWorthless}, // shares, but no Stake
		{whole(), loan{"Lent", "bob", "zoe", 500}, impl.MlWorthless},
		{whole(), loan{"Lent", "bob", "mia", 1}, impl.MlWorthless},
		{whole(), loan{"Lent", "bob", "mia", 333}, impl.MlWorthless}, // one less than what one share costs
		{whole(), loan{"Lent", "ann", "ann", 1}, impl.MlWorthless},
		{lender(1, 999999, 999998), loan{"Lent", "ann", "mia", 1}, impl.MlWorthless},
		{lender(5, 3, 750000001), loan{"Lent", "ann", "mia", 1}, impl.MlWorthless},                           // MaxShares and one more
		{lender(5, 3, 750000000), loan{"Lent", "ann", "mia", 2}, impl.MlWorthless},                           // far more
		{lender(5, 0, 1000000000), loan{"Lent", "ann", "mia", 5}, impl.MlWorthless},                          // no more shares, and no Stake
		{lender(5, 5, 1000000000), loan{"Lent", "ann", "mia", 1}, impl.MlWorthless},                          // no more shares
		{crammedAndWorthless(), loan{"Lent", "f", "c", 1}, impl.MlWorthless},                                 // nor is there room
		{crammedAndWorthless(), loan{"Lent", "f", "d", 1}, impl.MlWorthless},                                 // nor is there room
		{crammed(), loan{"Lent", "f", "a", 1}, impl.MlFull},                                                  // alone
		{crammed(), loan{"Lent", "h", "d", 1}, impl.MlFull},                                                  // behind the last one
		{crammedAndWorthless(), loan{"Lent", "f", "a", 1}, impl.MlFull},                                      // a share can be bought here
		{changed(func(b *impl.Book) { b.Mills[0].Shut = true }), loan{"Lent", "ann", "ann", 3}, impl.MlShut}, // it alone
	})
}

func TestGivenRefuses(t *testing.T) {
	checkRefused(t, []refusal{
		{whole(), loan{"Given", "eve", "ann", 1}, impl.MlNone},
		{whole(), loan{"Given", "ann", "eve", 1}, impl.MlNone},
		{whole(), loan{"Given", "zoe", "ann", 1}, impl.MlNone}, // a mill, but no purse
		{whole(), loan{"Given", "ann", "zoe", 1}, impl.MlNone},
		{whole(), loan{"Given", "an", "ann", 1}, impl.MlNone},
		{whole(), loan{"Given", "ann", "anna", 1}, impl.MlNone},
		{whole(), loan{"Given", "", "ann", 1}, impl.MlNone},
		{whole(), loan{"Given", "ann", "", 1}, impl.MlNone},
		{whole(), loan{"Given", "ann", "Bob", 1}, impl.MlNone},
		{impl.Book{}, loan{"Given", "ann", "bob", 1}, impl.MlNone},
		{whole(), loan{"Given", "eve", "eve", 1}, impl.MlNone}, // and they are the same one
		{whole(), loan{"Given", "zoe", "zoe", 1}, impl.MlNone},
		{whole(), loan{"Given", "", "", 1}, impl.MlNone},
		{whole(), loan{"Given", "eve", "ann", 0}, impl.MlNone}, // and the amount is below 1
		{whole(), loan{"Given", "ann", "eve", -1}, impl.MlNone},
		{whole(), loan{"Given", "eve", "eve", least}, impl.MlNone},
		{whole(), loan{"Given", "ann", "eve", 11}, impl.MlNone}, // and ann has not so many
		{whole(), loan{"Given", "eve", "ann", greatest}, impl.MlNone},
		{whole(), loan{"Given", "ann", "bob", 0}, impl.MlBad},
		{whole(), loan{"Given", "ann", "bob", -1}, impl.MlBad},
		{whole(), loan{"Given", "ann", "bob", -500}, impl.MlBad}, // as if it were taken
		{whole(), loan{"Given", "ann", "bob", least}, impl.MlBad},
		{whole(), loan{"Given", "mia", "tom", 0}, impl.MlBad},
		{whole(), loan{"Given", "ann", "ann", 1}, impl.MlBad},
		{whole(), loan{"Given", "ann", "ann", 10}, impl.MlBad},
		{whole(), loan{"Given", "ann", "ann", 0}, impl.MlBad},
		{whole(), loan{"Given", "ann", "ann", 11}, impl.MlBad}, // and ann has not so many
		{whole(), loan{"Given", "mia", "mia", 1}, impl.MlBad},
		{whole(), loan{"Given", "tom", "tom", greatest}, impl.MlBad},
		{whole(), loan{"Given", "ann", "bob", 11}, impl.MlShort}, // one more than all of Free
		{whole(), loan{"Given", "bob", "ann", 501}, impl.MlShort},
		{whole(), loan{"Given", "mia", "ann", 1}, impl.MlShort}, // has nothing
		{whole(), loan{"Given", "tom", "mia", 1}, impl.MlShort},
		{whole(), loan{"Given", "ann", "bob", 1000000}, impl.MlShort}, // MaxAmount
		{whole(), loan{"Given", "ann", "bob", 1000001}, impl.MlShort}, // and one more
		{whole(), loan{"Given", "ann", "bob", greatest}, impl.MlShort},
	})
}

// Whether a mill is Shut is nothing to those who give.
func TestGivenWhereAllIsShut(t *testing.T) {
	want := allShut()
	want.Folk = with(with(want.Folk, "ann", 0), "bob", 510)
	if got, code := impl.Given(allShut(), "ann", "bob", 10); code != 0 || !alike(got, want) {
		t.Errorf("Given = %+v, %d", got, code)
	}
}

// A book that is not right is MlBad ahead of all else that is told.
func TestLoansOfWrongBooks(t *testing.T) {
	loans := loansFor([]string{"", "ann", "bob", "zoe", "a"}, []int64{0, 1, 501})
	for _, b := range wrongBooks() {
		for _, l := range loans {
			if got, code := l.of(b); code != 7 || !alike(got, impl.Book{}) {
				t.Errorf("%+v of %+v = %+v, %d", l, b, got, code)
			}
		}
	}
}

var lendAmounts = []int64{
	least, -1 << 32, -1000000, -1, 0, 1, 2, 3, 4, 5, 7, 8, 10, 11, 333, 334, 499, 500, 501,
	999999, 1000000, 1000001, 1 << 32, 1<<32 + 1, greatest,
}

func TestLoansOfAllBooks(t *testing.T) {
	seen := map[loan]int{}
	loans := loansFor([]string{"a", "aa", "ann", "b", "bob", "f", "h", "mia", "tom", "zoe", "Ann"}, lendAmounts)
	for _, b := range lendBooks() {
		if !bookOf(b) {
			t.Fatalf("%+v is not right", b)
		}
		for _, l := range loans {
			code := checkDeed(t, l, b)
			seen[loan{call: l.call, amount: code}]++
		}
	}
	for call, codes := range map[string][]int64{
		"Lent":  {impl.MlDone, impl.MlNone, impl.MlShut, impl.MlShort, impl.MlWorthless, impl.MlFull, impl.MlBad},
		"Given": {impl.MlDone, impl.MlNone, impl.MlShort, impl.MlBad},
	} {
		for _, code := range codes {
			if n := seen[loan{call: call, amount: code}]; n < 5 {
				t.Errorf("%s was %d only %d times", call, code, n)
			}
		}
	}
}

// The last part has room, and one more has none; but more of one that is there has.
func TestLentToTheLastPart(t *testing.T) {
	b := impl.Book{Supply: 80, Folk: crowd(8, 10), Mills: row(4, 0, 0)}
	for at := range 32 {
		l := loan{"Lent", letters[at/4 : at/4+1], letters[at%4 : at%4+1], 1}
		was, wanted := b, int64(impl.MlDone)
		if at >= 20 {
			wanted = impl.MlFull
		}
		if code := checkDeed(t, l, was); code != wanted {
			t.Fatalf("%+v with %d parts is %d", l, len(was.Parts), code)
		}
		b, _ = l.of(was)
	}
	if len(b.Parts) != 20 {
		t.Fatalf("there are %d parts", len(b.Parts))
	}
	for _, p := range b.Parts {
		if code := checkDeed(t, loan{"Lent", p.Who, p.Mill, 2}, b); code != 0 {
			t.Errorf("%s has %s already, but more of it is %d", p.Who, p.Mill, code)
		}
	}
}

// With one part less than there may be: who has some already leaves room for one more, who is new does not.
func TestLentWithNineteenParts(t *testing.T) {
	for _, c := range []struct {
		who   string
		parts int
		next  int64
	}{
		{"e", 19, impl.MlDone},
		{"f", 20, impl.MlFull},
		{"h", 20, impl.MlFull},
	} {
		got, code := impl.Lent(nearlyCrammed(), c.who, "a", 1)
		if code != 0 || len(got.Parts) != c.parts || impl.SharesOf(got.Parts, c.who, "a") < 1 {
			t.Errorf("Lent(%s) = %+v, %d", c.who, got, code)
		}
		if code := checkDeed(t, loan{"Lent", "g", "b", 1}, got); code != c.next {
			t.Errorf("behind %s the next one is %d", c.who, code)
		}
	}
}

// checkNobodyPays holds a loan that is done against promise 9, and counts it.
func checkNobodyPays(t *testing.T, l loan, b impl.Book) int {
	t.Helper()
	got, code := l.of(b)
	if code != impl.MlDone {
		if !alike(got, b) {
			t.Errorf("%+v of %+v = %+v, %d", l, b, got, code)
		}
		return 0
	}
	if !impl.BookOk(got) || got.Supply != b.Supply || impl.Total(got) != b.Supply {
		t.Errorf("%+v of %+v = %+v", l, b, got)
	}
	for _, p := range b.Folk {
		before, after := impl.WorthIn(b, p.Name), impl.WorthIn(got, p.Name)
		if !isFair(l, p.Name, before, after) {
			t.Errorf("%+v of %+v: %s had %d and has %d", l, b, p.Name, before, after)
		}
	}
	checkElse(t, l, b, got)
	return 1
}

// isFair tells whether that one may have after where it had before. Given is for whom it is, to the last coin.
func isFair(l loan, who string, before, after int64) bool {
	switch {
	case l.call == "Lent" && who == l.from:
		return after <= before
	case l.call == "Lent":
		return after >= before
	case who == l.from:
		return after == before-l.amount
	case who == l.to:
		return after == before+l.amount
	}
	return after == before
}

// checkElse puts back what the loan may change, and asks whether all else stayed.
func checkElse(t *testing.T, l loan, b, got impl.Book) {
	t.Helper()
	back := copyOf(got)
	back.Folk = with(back.Folk, l.from, impl.FreeOf(b.Folk, l.from))
	if impl.FreeOf(got.Folk, l.from) != impl.FreeOf(b.Folk, l.from)-l.amount {
		t.Errorf("%+v of %+v takes another amount: %+v", l, b, got)
	}
	if l.call == "Given" {
		back.Folk = with(back.Folk, l.to, impl.FreeOf(b.Folk, l.to))
	} else {
		back.Mills[millAt(b, l.to)] = b.Mills[millAt(b, l.to)]
		back.Parts = having(back.Parts, l.from, l.to, sharesOf(b.Parts, l.from, l.to))
	}
	if !alike(back, b) {
		t.Errorf("%+v changes more of %+v: %+v", l, b, got)
	}
}

func TestToLendCostsNobodyElseAnything(t *testing.T) {
	done := 0
	for _, b := range lendBooks() {
		for _, l := range loansFor([]string{"a", "aa", "ann", "b", "bob", "f", "mia", "tom", "zoe"}, []int64{0, 1, 2, 3, 4, 5, 10, 11, 334, 500, 999999, 1000000}) {
			done += checkNobodyPays(t, l, b)
		}
	}
	if done < 300 {
		t.Errorf("only %d loans were done", done)
	}
}

// Promise 9 where it could fail by rounding: of all small mills, for all shares that who lends may have of it already.
func TestToLendToSmallMills(t *testing.T) {
	done := 0
	for stake := range int64(9) {
		for shares := range int64(9) {
			for own := range shares + 1 {
				for _, n := range []int64{1, 2, 3, 5, 8} {
					b := lender(10, stake, shares)
					b.Parts = having(having(b.Parts, "ann", "mia", own), "bob", "mia", shares-own)
					if impl.BookOk(b) {
						done += checkNobodyPays(t, loan{"Lent", "ann", "mia", n}, b)
					}
				}
			}
		}
	}
	if done < 1000 {
		t.Errorf("only %d loans were done", done)
	}
}

// Many loans one after the other, in turns that follow a short rule: the book is what the chapter tells at each step.
func TestManyLoans(t *testing.T) {
	for start, b := range []impl.Book{whole(), village(), lender(900000, 7, 2000), lender(9999, 0, 0), {Supply: 800, Folk: crowd(8, 100), Mills: row(4, 0, 0)}} {
		done, next := 0, uint32(start)
		pick := func(n int) int {
			next = next*1664525 + 1013904223
			return int(next>>8) % n
		}
		for range 300 {
			from := b.Folk[pick(len(b.Folk))]
			l := loan{"Given", from.Name, b.Folk[pick(len(b.Folk))].Name, int64(pick(int(from.Free/2 + 3)))}
			if pick(2) == 0 {
				l.call, l.to = "Lent", b.Mills[pick(len(b.Mills))].Name
			}
			checkDeed(t, l, b)
			done += checkNobodyPays(t, l, b)
			b, _ = l.of(b)
		}
		if done < 50 {
			t.Errorf("from start %d only %d loans were done", start, done)
		}
	}
}

// What is behind the lists is their spare room: nothing is written there, nor read.
func TestLoansAreNewMemoryAndBooksStay(t *testing.T) {
	wrong := []impl.Book{changed(func(b *impl.Book) { b.Supply++ }), changed(func(b *impl.Book) { b.Season = 1001 })}
	for _, b := range append(lendBooks(), wrong...) {
		for _, l := range loansFor([]string{"a", "ann", "bob", "f", "mia", "zoe", "spare"}, []int64{0, 1, 3, 501}) {
			checkMemory(t, l, b)
		}
	}
}
