package tests

import (
	"slices"
	"testing"

	"loop.example/g00614/impl"
)

// shift is a call of chapter 11: so many shares of one, from the one mill to the other.
type shift struct {
	who    string
	from   string
	to     string
	shares int64
}

func (s shift) of(b impl.Book) (impl.Book, int64) {
	return impl.Shifted(b, s.who, s.from, s.to, s.shares)
}

// told is what the chapter tells of it, word by word.
func (s shift) told(b impl.Book) (impl.Book, int64) {
	if !bookOf(b) {
		return impl.Book{}, impl.MlBad
	}
	return shiftedOf(copyOf(b), s)
}

func shiftedOf(b impl.Book, s shift) (impl.Book, int64) {
	one, other := millAt(b, s.from), millAt(b, s.to)
	own := sharesOf(b.Parts, s.who, s.from)
	switch {
	case purseAt(b, s.who) < 0, one < 0, other < 0:
		return b, impl.MlNone
	case s.shares < 1, one == other:
		return b, impl.MlBad
	case own < s.shares:
		return b, impl.MlShort
	case b.Mills[other].Shut:
		return b, impl.MlShut
	}
	worth := s.shares * b.Mills[one].Stake / b.Mills[one].Shares
	if worth == 0 || sharesForOf(b.Mills[other], worth) < 1 {
		return b, impl.MlWorthless
	}
	bought := sharesForOf(b.Mills[other], worth)
	held := having(b.Parts, s.who, s.from, own-s.shares)
	held = having(held, s.who, s.to, sharesOf(b.Parts, s.who, s.to)+bought)
	if len(held) > 20 {
		return b, impl.MlFull
	}
	b.Parts = held
	b.Mills[one].Stake, b.Mills[one].Shares = b.Mills[one].Stake-worth, b.Mills[one].Shares-s.shares
	b.Mills[other].Stake, b.Mills[other].Shares = b.Mills[other].Stake+worth, b.Mills[other].Shares+bought
	if b.Mills[one].Shares == 0 {
		b.Pot, b.Mills[one].Stake = b.Pot+b.Mills[one].Stake, 0
	}
	return b, impl.MlDone
}

// bestOf is what the chapter tells of BestFor, word by word.
func bestOf(b impl.Book, who string, amount int64) string {
	if !bookOf(b) {
		return ""
	}
	for cut := range int64(101) {
		for _, m := range b.Mills {
			if _, code := lentOf(copyOf(b), who, m.Name, amount); m.Cut == cut && !m.Shut && code == impl.MlDone {
				return m.Name
			}
		}
	}
	return ""
}

// shiftsFor are all shifts of each of these, from each of these mills to each one, with each of these counts of shares.
func shiftsFor(folk, mills []string, counts []int64) []shift {
	var l []shift
	for _, who := range folk {
		for _, from := range mills {
			for _, to := range mills {
				for _, n := range counts {
					l = append(l, shift{who, from, to, n})
				}
			}
		}
	}
	return l
}

// namesIn are the folk and the mills of a book, and among both some that it has not.
func namesIn(b impl.Book) (folk, mills []string) {
	folk, mills = []string{"eve", "zoe"}, []string{"eve", "tom"}
	for _, p := range b.Folk {
		folk = append(folk, p.Name)
	}
	for _, m := range b.Mills {
		mills = append(mills, m.Name)
	}
	return folk, mills
}

// stock is the Stake of a mill, and of its Shares those of ann and those of bob.
type stock struct{ stake, own, others int64 }

// trader is a book of two mills: what of all coins that there may be is not at stake is free.
func trader(mia, zoe stock) impl.Book {
	free := 1000000 - mia.stake - zoe.stake
	b := impl.Book{
		Season: 4,
		Supply: 1000000,
		Folk:   []impl.Purse{{Name: "ann", Free: free / 2}, {Name: "bob", Free: free - free/2}},
		Mills: []impl.Mill{
			{Name: "mia", Stake: mia.stake, Shares: mia.own + mia.others, Cut: 10},
			{Name: "zoe", Stake: zoe.stake, Shares: zoe.own + zoe.others, Cut: 20},
		},
	}
	b.Parts = having(having(b.Parts, "ann", "mia", mia.own), "ann", "zoe", zoe.own)
	b.Parts = having(having(b.Parts, "bob", "mia", mia.others), "bob", "zoe", zoe.others)
	return b
}

// packed is a book of 20 parts, each of 2 shares that are worth 10: a to d have some of each mill, e of all but the last one, f of the first one alone.
func packed() impl.Book {
	b := impl.Book{Season: 7, Supply: 208, Folk: crowd(8, 1), Mills: row(4, 0, 0)}
	for at := range 16 {
		b.Parts = append(b.Parts, impl.Part{Who: letters[at/4 : at/4+1], Mill: letters[at%4 : at%4+1], Shares: 2})
	}
	for _, mill := range []string{"a", "b", "c"} {
		b.Parts = append(b.Parts, impl.Part{Who: "e", Mill: mill, Shares: 2})
	}
	b.Parts = append(b.Parts, impl.Part{Who: "f", Mill: "a", Shares: 2})
	for i := range b.Mills {
		for _, p := range b.Parts {
			if p.Mill == b.Mills[i].Name {
				b.Mills[i].Stake, b.Mills[i].Shares = b.Mills[i].Stake+10, b.Mills[i].Shares+2
			}
		}
	}
	return b
}

// packedBut is packed with one change.
func packedBut(change func(b *impl.Book)) impl.Book {
	b := packed()
	change(&b)
	return b
}

// nearlyPacked is packed without the part of f.
func nearlyPacked() impl.Book {
	return packedBut(func(b *impl.Book) {
		b.Parts, b.Mills[0].Shares = b.Parts[:19], b.Mills[0].Shares-2
	})
}

// dear is packed, but a share of the last mill costs more than one of the others is worth.
func dear() impl.Book {
	return packedBut(func(b *impl.Book) { b.Mills[3].Stake, b.Supply = 80, b.Supply+40 })
}

// reopened is whole with no mill that is Shut.
func reopened() impl.Book {
	return changed(func(b *impl.Book) { b.Mills[1].Shut = false })
}

// shutAt is that book with the mill at this place Shut.
func shutAt(b impl.Book, at int) impl.Book {
	b.Mills[at].Shut = true
	return b
}

// shiftBooks are right books in which some can be shifted, and some hardly.
func shiftBooks() []impl.Book {
	return append(loosenBooks(),
		reopened(),
		shutAt(reopened(), 2),
		packed(),
		nearlyPacked(),
		dear(),
		shutAt(packed(), 0),
		shutAt(packed(), 1),
		packedBut(func(b *impl.Book) { b.Mills[0].Stake, b.Pot = 0, 60 }),
		trader(stock{100, 40000, 60000}, stock{20, 5, 20000}),
		trader(stock{30, 13, 7}, stock{30, 0, 20}),
		trader(stock{30, 20, 0}, stock{}),
		trader(stock{1000000, 1, 0}, stock{}),
		trader(stock{3, 3, 0}, stock{3, 0, 750000000}),
		trader(stock{3, 3, 0}, stock{3, 0, 750000001}),
		trader(stock{500000, 999999999, 1}, stock{500000, 1000000000, 0}),
		trader(stock{0, 7, 5}, stock{7, 5, 0}),
	)
}

// checkShifted holds a shift of ann from mia to zoe against numbers.
func checkShifted(t *testing.T, b impl.Book, shares, worth, bought int64) {
	t.Helper()
	want := copyOf(b)
	want.Mills[0].Stake, want.Mills[0].Shares = b.Mills[0].Stake-worth, b.Mills[0].Shares-shares
	want.Mills[1].Stake, want.Mills[1].Shares = b.Mills[1].Stake+worth, b.Mills[1].Shares+bought
	want.Parts = having(want.Parts, "ann", "mia", sharesOf(b.Parts, "ann", "mia")-shares)
	want.Parts = having(want.Parts, "ann", "zoe", sharesOf(b.Parts, "ann", "zoe")+bought)
	if got, code := impl.Shifted(b, "ann", "mia", "zoe", shares); code != 0 || !alike(got, want) {
		t.Errorf("Shifted(%+v, ann, mia, zoe, %d) = %+v, %d; want %+v", b, shares, got, code, want)
	}
}

func TestShifted(t *testing.T) {
	for _, c := range []struct {
		mia, zoe              stock
		shares, worth, bought int64
	}{
		{stock{100, 40000, 60000}, stock{20, 0, 20000}, 10500, 10, 10000}, // 10 and a half
		{stock{100, 40000, 60000}, stock{20, 0, 20000}, 40000, 40, 40000}, // all of the part
		{stock{100, 40000, 60000}, stock{20, 0, 20000}, 39999, 39, 39000}, // one less
		{stock{100, 40000, 60000}, stock{20, 0, 20000}, 1000, 1, 1000},    // the least that are worth a coin
		{stock{100, 40000, 60000}, stock{}, 1000, 1, 1000},                // the first shares
		{stock{100, 40000, 60000}, stock{}, 40000, 40, 40000},
		{stock{30, 13, 7}, stock{30, 0, 20}, 13, 19, 12}, // 19 and a half, for 12 and two thirds
		{stock{30, 13, 7}, stock{30, 0, 20}, 12, 18, 12}, // exactly
		{stock{30, 13, 7}, stock{30, 0, 20}, 2, 3, 2},
		{stock{30, 13, 7}, stock{30, 5, 15}, 13, 19, 12}, // and ann has some there already
		{stock{30, 13, 7}, stock{30, 20, 0}, 12, 18, 12},
		{stock{30, 13, 7}, stock{7, 0, 7}, 1, 1, 1},   // one share: 1 and a half
		{stock{30, 13, 7}, stock{20, 0, 21}, 1, 1, 1}, // 1 and a twentieth
		{stock{30, 20, 0}, stock{}, 20, 30, 30000},    // all that there are: none are left
		{stock{30, 20, 0}, stock{30, 0, 20}, 20, 30, 20},
		{stock{30, 20, 0}, stock{30, 0, 20}, 19, 28, 18}, // one is left
		{stock{30, 1, 0}, stock{30, 0, 20}, 1, 30, 20},
		{stock{1, 1000, 0}, stock{}, 1000, 1, 1000},
		{stock{1, 1000, 0}, stock{1, 0, 1}, 1000, 1, 1},
		{stock{1, 1, 0}, stock{1, 0, 1}, 1, 1, 1},
		{stock{7, 7, 1}, stock{3, 0, 1}, 7, 6, 2}, // 6 and an eighth
		{stock{7, 7, 1}, stock{6, 0, 1}, 7, 6, 1}, // the least that buys one
		{stock{1000, 2, 1}, stock{7, 7, 7}, 2, 666, 1332},
		{stock{10, 4, 3}, stock{10, 3, 4}, 3, 4, 2},               // 4 and two sevenths, for 2 and four fifths
		{stock{1000000, 1, 0}, stock{}, 1, 1000000, 1000000000},   // MaxAmount and MaxShares exactly
		{stock{999999, 1, 0}, stock{}, 1, 999999, 999999000},      // one less
		{stock{1000000, 1000000000, 0}, stock{}, 1000, 1, 1000},   // of MaxShares
		{stock{1000000, 999999999, 0}, stock{}, 1000, 1, 1000},    // hardly more than a coin
		{stock{999999, 1, 0}, stock{1, 0, 1}, 1, 999999, 999999},  // Stake comes to MaxAmount exactly
		{stock{3, 3, 0}, stock{3, 0, 750000000}, 1, 1, 250000000}, // MaxShares exactly
		{stock{3, 3, 0}, stock{3, 750000000, 0}, 1, 1, 250000000}, // of one part, too
		{stock{3, 3, 0}, stock{3, 0, 749999999}, 1, 1, 249999999}, // two thirds of a share are lost
		{stock{500000, 500000000, 0}, stock{500000, 1, 0}, 5e8, 500000, 1},
		{stock{500000, 1, 0}, stock{500000, 0, 500000000}, 1, 500000, 500000000},
	} {
		checkShifted(t, trader(c.mia, c.zoe), c.shares, c.worth, c.bought)
		checkShifted(t, shutAt(trader(c.mia, c.zoe), 0), c.shares, c.worth, c.bought) // they are shifted all the same
		checkShifted(t, inSeason(trader(c.mia, c.zoe), 1000), c.shares, c.worth, c.bought)
	}
}

// Where a purse, what waits, what was burnt and the Pot are something, all of them stay.
func TestShiftedOfWhole(t *testing.T) {
	ann := func(stake, shares int64) impl.Mill {
		return impl.Mill{Name: "ann", Stake: stake, Shares: shares, Cut: 5}
	}
	bob := func(stake, shares int64) impl.Mill {
		return impl.Mill{Name: "bob", Stake: stake, Shares: shares, Cut: 100}
	}
	mia := func(stake, shares int64) impl.Mill { return impl.Mill{Name: "mia", Stake: stake, Shares: shares} }
	for _, c := range []struct {
		s         shift
		from, to  int
		left      impl.Mill
		other     impl.Mill
		own, then int64
	}{
		{shift{"ann", "mia", "ann", 1}, 2, 0, mia(667, 2), ann(363, 242), 1, 235},
		{shift{"ann", "mia", "ann", 2}, 2, 0, mia(334, 1), ann(696, 464), 0, 457},
		{shift{"bob", "mia", "ann", 1}, 2, 0, mia(667, 2), ann(363, 242), 0, 229},
		{shift{"ann", "mia", "bob", 1}, 2, 1, mia(667, 2), bob(333, 333000), 1, 333000},
		{shift{"bob", "mia", "bob", 1}, 2, 1, mia(667, 2), bob(333, 333000), 0, 333000},
		{shift{"ann", "ann", "bob", 13}, 0, 1, ann(11, 7), bob(19, 19000), 0, 19000},
		{shift{"ann", "ann", "bob", 1}, 0, 1, ann(29, 19), bob(1, 1000), 12, 1000},
		{shift{"bob", "ann", "bob", 7}, 0, 1, ann(20, 13), bob(10, 10000), 0, 10000},
	} {
		want := reopened()
		want.Mills[c.from], want.Mills[c.to] = c.left, c.other
		want.Parts = having(having(want.Parts, c.s.who, c.s.from, c.own), c.s.who, c.s.to, c.then)
		if got, code := c.s.of(reopened()); code != 0 || !alike(got, want) {
			t.Errorf("%+v = %+v, %d; want %+v", c.s, got, code, want)
		}
		want.Mills[c.from].Shut = true // that it is so stays, too
		if got, code := c.s.of(shutAt(reopened(), c.from)); code != 0 || !alike(got, want) {
			t.Errorf("%+v where that mill is Shut = %+v, %d; want %+v", c.s, got, code, want)
		}
	}
}

func TestShiftedIsRefusedForNone(t *testing.T) {
	checkRefused(t, []refusal{
		{whole(), shift{"eve", "mia", "ann", 1}, impl.MlNone},
		{whole(), shift{"zoe", "mia", "ann", 1}, impl.MlNone}, // a mill, but no purse
		{whole(), shift{"ann", "eve", "ann", 1}, impl.MlNone}, // not the one mill
		{whole(), shift{"ann", "mia", "eve", 1}, impl.MlNone}, // not the other one
		{whole(), shift{"ann", "tom", "ann", 1}, impl.MlNone}, // a purse, but no mill
		{whole(), shift{"ann", "mia", "tom", 1}, impl.MlNone},
		{whole(), shift{"an", "mia", "ann", 1}, impl.MlNone},
		{whole(), shift{"ann", "mi", "ann", 1}, impl.MlNone},
		{whole(), shift{"ann", "mia", "anna", 1}, impl.MlNone},
		{whole(), shift{"Ann", "mia", "ann", 1}, impl.MlNone},
		{whole(), shift{"ann", "mia ", "ann", 1}, impl.MlNone},
		{whole(), shift{"", "mia", "ann", 1}, impl.MlNone},
		{whole(), shift{"ann", "", "ann", 1}, impl.MlNone},
		{whole(), shift{"ann", "mia", "", 1}, impl.MlNone},
		{whole(), shift{"", "", "", 1}, impl.MlNone},
		{impl.Book{}, shift{"ann", "mia", "ann", 1}, impl.MlNone},
		{whole(), shift{"eve", "mia", "ann", 0}, impl.MlNone}, // and shares are below 1
		{whole(), shift{"ann", "eve", "ann", -1}, impl.MlNone},
		{whole(), shift{"ann", "mia", "eve", least}, impl.MlNone},
		{whole(), shift{"eve", "ann", "ann", 1}, impl.MlNone}, // and the mills are the same
		{whole(), shift{"ann", "eve", "eve", 1}, impl.MlNone},
		{whole(), shift{"ann", "tom", "tom", 0}, impl.MlNone},
		{whole(), shift{"", "", "", -1}, impl.MlNone},
		{whole(), shift{"eve", "mia", "ann", 3}, impl.MlNone}, // nor are there so many
		{whole(), shift{"ann", "mia", "eve", 3}, impl.MlNone},
		{whole(), shift{"tom", "mia", "eve", 1}, impl.MlNone},
		{whole(), shift{"eve", "mia", "ann", greatest}, impl.MlNone},
		{whole(), shift{"eve", "mia", "bob", 1}, impl.MlNone}, // and the other one is Shut
		{whole(), shift{"ann", "eve", "bob", 1}, impl.MlNone},
		{whole(), shift{"eve", "mia", "zoe", 1}, impl.MlNone}, // nor can a share be bought
		{whole(), shift{"bob", "zoe", "eve", 1}, impl.MlNone}, // nor are they worth anything
		{packed(), shift{"i", "a", "b", 1}, impl.MlNone},      // nor is there room
		{packed(), shift{"f", "a", "e", 1}, impl.MlNone},
	})
}

func TestShiftedIsRefusedForBad(t *testing.T) {
	checkRefused(t, []refusal{
		{whole(), shift{"ann", "mia", "ann", 0}, impl.MlBad},  // one less than the least
		{whole(), shift{"ann", "mia", "ann", -1}, impl.MlBad}, // as if they came back
		{whole(), shift{"ann", "mia", "ann", -2}, impl.MlBad},
		{whole(), shift{"ann", "mia", "ann", least}, impl.MlBad},
		{whole(), shift{"ann", "mia", "mia", 1}, impl.MlBad}, // the same
		{whole(), shift{"ann", "ann", "ann", 13}, impl.MlBad},
		{whole(), shift{"ann", "ann", "ann", 0}, impl.MlBad},  // both
		{whole(), shift{"ann", "ann", "ann", 14}, impl.MlBad}, // nor has ann so many
		{whole(), shift{"ann", "ann", "ann", greatest}, impl.MlBad},
		{whole(), shift{"tom", "mia", "mia", 1}, impl.MlBad}, // nor has tom any
		{whole(), shift{"tom", "mia", "ann", 0}, impl.MlBad},
		{whole(), shift{"bob", "bob", "bob", 1}, impl.MlBad}, // and it is Shut, and nobody has any
		{whole(), shift{"ann", "mia", "bob", 0}, impl.MlBad}, // and it is Shut
		{whole(), shift{"bob", "zoe", "zoe", 1}, impl.MlBad}, // nor are they worth anything
		{whole(), shift{"bob", "zoe", "ann", 0}, impl.MlBad},
		{whole(), shift{"ann", "mia", "zoe", -1}, impl.MlBad}, // nor can a share be bought
		{packed(), shift{"f", "a", "b", 0}, impl.MlBad},       // nor is there room
		{packed(), shift{"f", "a", "a", 1}, impl.MlBad},
		{allShut(), shift{"ann", "mia", "mia", 1}, impl.MlBad},
	})
}

func TestShiftedIsRefusedForShort(t *testing.T) {
	checkRefused(t, []refusal{
		{whole(), shift{"ann", "mia", "ann", 3}, impl.MlShort}, // one more than all of the part, and all that there are
		{whole(), shift{"ann", "mia", "ann", 4}, impl.MlShort}, // one more than that
		{whole(), shift{"bob", "mia", "ann", 2}, impl.MlShort},
		{whole(), shift{"bob", "ann", "mia", 8}, impl.MlShort},
		{whole(), shift{"ann", "mia", "ann", 1000000000}, impl.MlShort},
		{whole(), shift{"ann", "mia", "ann", 1000000001}, impl.MlShort},
		{whole(), shift{"ann", "mia", "ann", greatest}, impl.MlShort},
		{whole(), shift{"tom", "mia", "ann", 1}, impl.MlShort}, // a purse, but no part
		{whole(), shift{"mia", "mia", "ann", 1}, impl.MlShort}, // nor of one's own mill
		{whole(), shift{"ann", "zoe", "ann", 1}, impl.MlShort}, // where others have some
		{whole(), shift{"ann", "bob", "ann", 1}, impl.MlShort}, // where nobody has any
		{whole(), shift{"ann", "mia", "bob", 3}, impl.MlShort}, // and the other one is Shut
		{whole(), shift{"tom", "mia", "bob", 1}, impl.MlShort},
		{allShut(), shift{"ann", "mia", "ann", 3}, impl.MlShort},
		{whole(), shift{"bob", "zoe", "ann", 8}, impl.MlShort},  // nor are they worth anything
		{whole(), shift{"ann", "mia", "zoe", 3}, impl.MlShort},  // nor can a share be bought
		{whole(), shift{"ann", "ann", "mia", 14}, impl.MlShort}, // nor for this
		{packed(), shift{"f", "a", "b", 3}, impl.MlShort},       // nor is there room
		{packed(), shift{"g", "a", "b", 1}, impl.MlShort},
		{shutAt(packed(), 1), shift{"f", "a", "b", 3}, impl.MlShort}, // nor is it open
		{trader(stock{1000000, 999999999, 1}, stock{}), shift{"ann", "mia", "zoe", 1000000000}, impl.MlShort},
	})
}

func TestShiftedIsRefusedForShutAndWorthlessAndFull(t *testing.T) {
	free := packedBut(func(b *impl.Book) { b.Mills[0].Stake, b.Pot = 0, 60 }) // what f has is worth nothing
	checkRefused(t, []refusal{
		{whole(), shift{"ann", "mia", "bob", 1}, impl.MlShut}, // the other one alone
		{whole(), shift{"ann", "mia", "bob", 2}, impl.MlShut},
		{whole(), shift{"ann", "ann", "bob", 13}, impl.MlShut},
		{shutAt(whole(), 0), shift{"ann", "mia", "ann", 1}, impl.MlShut}, // where one has a part, too
		{allShut(), shift{"ann", "mia", "ann", 1}, impl.MlShut},          // both
		{allShut(), shift{"bob", "mia", "ann", 1}, impl.MlShut},
		{whole(), shift{"bob", "zoe", "bob", 7}, impl.MlShut},                 // nor are they worth anything
		{allShut(), shift{"ann", "mia", "zoe", 1}, impl.MlShut},               // nor can a share be bought
		{allShut(), shift{"ann", "ann", "mia", 13}, impl.MlShut},              // nor for this
		{shutAt(packed(), 1), shift{"f", "a", "b", 1}, impl.MlShut},           // nor is there room
		{shutAt(dear(), 3), shift{"f", "a", "d", 1}, impl.MlShut},             // nor both
		{whole(), shift{"bob", "zoe", "ann", 7}, impl.MlWorthless},            // no Stake
		{whole(), shift{"bob", "zoe", "mia", 1}, impl.MlWorthless},            // nor would a coin buy a share
		{reopened(), shift{"bob", "zoe", "bob", 7}, impl.MlWorthless},         // as the first shares
		{whole(), shift{"ann", "mia", "zoe", 1}, impl.MlWorthless},            // the other one has shares, but no Stake
		{whole(), shift{"ann", "ann", "mia", 13}, impl.MlWorthless},           // a share costs more
		{whole(), shift{"bob", "ann", "mia", 7}, impl.MlWorthless},            // where bob has a part already
		{shutAt(whole(), 0), shift{"ann", "ann", "mia", 1}, impl.MlWorthless}, // what is left may be Shut
		{trader(stock{1, 1000, 0}, stock{}), shift{"ann", "mia", "zoe", 999}, impl.MlWorthless},
		{trader(stock{1, 999, 1}, stock{}), shift{"ann", "mia", "zoe", 999}, impl.MlWorthless},
		{trader(stock{0, 7, 0}, stock{}), shift{"ann", "mia", "zoe", 7}, impl.MlWorthless},
		{trader(stock{30, 13, 7}, stock{30, 0, 20}), shift{"ann", "mia", "zoe", 1}, impl.MlWorthless},     // two thirds of a share
		{trader(stock{7, 7, 1}, stock{7, 0, 1}), shift{"ann", "mia", "zoe", 7}, impl.MlWorthless},         // one coin less than one costs
		{trader(stock{3, 3, 0}, stock{3, 0, 750000001}), shift{"ann", "mia", "zoe", 1}, impl.MlWorthless}, // MaxShares and one more
		{trader(stock{3, 3, 0}, stock{3, 0, 750000000}), shift{"ann", "mia", "zoe", 2}, impl.MlWorthless}, // far more
		{dear(), shift{"f", "a", "d", 1}, impl.MlWorthless},                                               // nor is there room
		{free, shift{"f", "a", "b", 1}, impl.MlWorthless},
		{packed(), shift{"f", "a", "b", 1}, impl.MlFull}, // alone
		{packed(), shift{"f", "a", "d", 1}, impl.MlFull},
		{packed(), shift{"e", "b", "d", 1}, impl.MlFull},
		{shutAt(packed(), 0), shift{"f", "a", "c", 1}, impl.MlFull},
		{dear(), shift{"f", "a", "b", 1}, impl.MlFull}, // a share can be bought here
	})
}

// One's last shares of the one mill leave room for the first ones of the other.
func TestShiftedToTheLastPart(t *testing.T) {
	for _, c := range []struct {
		book  impl.Book
		s     shift
		code  int64
		parts int
	}{
		{packed(), shift{"f", "a", "b", 2}, impl.MlDone, 20},
		{packed(), shift{"f", "a", "b", 1}, impl.MlFull, 20},
		{packed(), shift{"e", "c", "d", 2}, impl.MlDone, 20},
		{packed(), shift{"e", "c", "d", 1}, impl.MlFull, 20},
		{packed(), shift{"e", "a", "b", 1}, impl.MlDone, 20}, // there is such a part
		{packed(), shift{"e", "a", "b", 2}, impl.MlDone, 19}, // and one less
		{packed(), shift{"a", "d", "a", 1}, impl.MlDone, 20},
		{nearlyPacked(), shift{"e", "c", "d", 1}, impl.MlDone, 20}, // the last one for which there is room
		{nearlyPacked(), shift{"e", "c", "d", 2}, impl.MlDone, 19},
		{nearlyPacked(), shift{"e", "a", "b", 2}, impl.MlDone, 18},
	} {
		got, code := c.s.of(c.book)
		if code != c.code || len(got.Parts) != c.parts {
			t.Errorf("%+v of %+v = %+v, %d; want %d, and %d parts", c.s, c.book, got, code, c.code, c.parts)
		}
		checkDeed(t, c.s, c.book)
	}
}

// From the mill that is left all shares go, and a part of none is not there; nor has the Pot more, at its limit either.
func TestShiftedOfTheLastShares(t *testing.T) {
	for _, c := range []struct{ stake, shares int64 }{
		{1, 1}, {1, 1000}, {1000, 1}, {7, 3}, {3, 7}, {1000000, 3}, {999999, 7}, {1000000, 1000000000}, {999999, 1000000000}, {1000000, 999999999},
	} {
		b := trader(stock{c.stake, c.shares, 0}, stock{})
		b.Pot, b.Folk[0].Free, b.Folk[1].Free = 1000000-c.stake, 0, 0
		got, code := impl.Shifted(b, "ann", "mia", "zoe", c.shares)
		if code != 0 || got.Pot != b.Pot || got.Mills[0] != (impl.Mill{Name: "mia", Cut: 10}) || got.Mills[1].Stake != c.stake || len(got.Parts) != 1 || !impl.BookOk(got) {
			t.Errorf("Shifted(%+v, ann, mia, zoe, %d) = %+v, %d", b, c.shares, got, code)
		}
		checkDeed(t, shift{"ann", "mia", "zoe", c.shares}, b)
	}
}

// A shift asks neither for room to wait nor for a season to come.
func TestShiftedWaitsForNothing(t *testing.T) {
	for _, b := range []impl.Book{lined(20, 500), inSeason(lined(20, 1000), 1000), inSeason(lined(0, 0), 998)} {
		b, one := impl.Opened(b, "bob", 3)
		if code := checkDeed(t, shift{"ann", "mia", "bob", 7}, b); one != 0 || code != impl.MlDone {
			t.Errorf("%+v: %d, %d", b, one, code)
		}
		if got, _ := impl.Shifted(b, "ann", "mia", "bob", 7); !slices.Equal(got.Waits, b.Waits) || got.Season != b.Season {
			t.Errorf("%+v became %+v", b, got)
		}
	}
}

// A book that is not right is MlBad, and best for nobody, ahead of all else that is told.
func TestShiftsOfWrongBooks(t *testing.T) {
	shifts := shiftsFor([]string{"", "ann", "bob", "zoe"}, []string{"ann", "bob", "mia", "eve"}, []int64{0, 1, 14})
	for _, b := range wrongBooks() {
		for _, s := range shifts {
			if got, code := s.of(b); code != 7 || !alike(got, impl.Book{}) {
				t.Errorf("%+v of %+v = %+v, %d", s, b, got, code)
			}
		}
		for _, who := range []string{"", "ann", "bob", "zoe", "eve", "a"} {
			for _, amount := range []int64{-1, 0, 1, 3, 5, 334, 1000001} {
				if got := impl.BestFor(b, who, amount); got != "" {
					t.Errorf("BestFor(%+v, %s, %d) = %s", b, who, amount, got)
				}
			}
		}
	}
}

var shiftCounts = []int64{
	least, -1, 0, 1, 2, 3, 7, 8, 13, 14, 1000, 40000, 40001, 1000000000, 1<<32 + 1, greatest,
}

func TestShiftsOfAllBooks(t *testing.T) {
	seen := map[int64]int{}
	for _, b := range shiftBooks() {
		if !bookOf(b) {
			t.Fatalf("%+v is not right", b)
		}
		folk, mills := namesIn(b)
		for _, s := range shiftsFor(folk, mills, shiftCounts) {
			seen[checkDeed(t, s, b)]++
		}
	}
	for _, code := range []int64{impl.MlDone, impl.MlNone, impl.MlShut, impl.MlShort, impl.MlWorthless, impl.MlFull, impl.MlBad} {
		if seen[code] < 20 {
			t.Errorf("it was %d only %d times", code, seen[code])
		}
	}
	if seen[impl.MlThere] != 0 {
		t.Error(seen)
	}
}

// checkNothingNew holds a shift against promise 11, and counts it where it is done.
func checkNothingNew(t *testing.T, s shift, b impl.Book) int {
	t.Helper()
	got, code := s.of(b)
	if code != impl.MlDone {
		if !alike(got, b) {
			t.Errorf("%+v of %+v = %+v, %d", s, b, got, code)
		}
		return 0
	}
	if !impl.BookOk(got) || got.Supply != b.Supply || impl.Total(got) != b.Supply || impl.StakesIn(got.Mills) != impl.StakesIn(b.Mills) {
		t.Errorf("%+v of %+v = %+v", s, b, got)
	}
	for _, p := range b.Folk {
		before, after := impl.WorthIn(b, p.Name), impl.WorthIn(got, p.Name)
		if p.Name == s.who && after > before || p.Name != s.who && after < before {
			t.Errorf("%+v of %+v: %s had %d and has %d", s, b, p.Name, before, after)
		}
		if impl.FreeOf(got.Folk, p.Name) != p.Free {
			t.Errorf("%+v of %+v: of %s %d is free", s, b, p.Name, impl.FreeOf(got.Folk, p.Name))
		}
	}
	checkAllElse(t, s, b, got)
	return 1
}

// checkAllElse asks whether what went to the other mill is what the shares were worth, puts back what a shift may change, and asks whether all else stayed.
func checkAllElse(t *testing.T, s shift, b, got impl.Book) {
	t.Helper()
	from, to := millAt(b, s.from), millAt(b, s.to)
	worth := impl.Worth(b.Mills[from], s.shares)
	if got.Mills[to].Stake != b.Mills[to].Stake+worth || got.Mills[from].Stake != b.Mills[from].Stake-worth || worth < 1 {
		t.Errorf("%+v of %+v is worth %d: %+v", s, b, worth, got)
	}
	if bought := got.Mills[to].Shares - b.Mills[to].Shares; bought != impl.SharesFor(b.Mills[to], worth) || impl.Worth(got.Mills[to], bought) > worth {
		t.Errorf("%+v of %+v buys %d for %d: %+v", s, b, bought, worth, got)
	}
	if impl.Cheaper(got.Mills[from], b.Mills[from]) || impl.Cheaper(got.Mills[to], b.Mills[to]) {
		t.Errorf("%+v of %+v makes a share cheaper: %+v", s, b, got)
	}
	back := copyOf(got)
	back.Mills[from], back.Mills[to] = b.Mills[from], b.Mills[to]
	for _, mill := range []string{s.from, s.to} {
		back.Parts = having(back.Parts, s.who, mill, sharesOf(b.Parts, s.who, mill))
	}
	if !alike(back, b) {
		t.Errorf("%+v changes more of %+v: %+v", s, b, got)
	}
}

func TestToShiftBringsNothingNew(t *testing.T) {
	done := 0
	for _, b := range shiftBooks() {
		folk, mills := namesIn(b)
		for _, s := range shiftsFor(folk, mills, []int64{1, 2, 3, 7, 13, 10500, 40000, 999999999}) {
			done += checkNothingNew(t, s, b)
		}
	}
	if done < 200 {
		t.Errorf("only %d were done", done)
	}
}

// Promise 11 where it could fail by rounding: of all small mills, for all shares that there are.
func TestToShiftBetweenSmallMills(t *testing.T) {
	done := 0
	zoes := []stock{{}, {1, 0, 1}, {2, 0, 3}, {3, 2, 0}, {5, 1, 2}, {2, 3, 4}, {7, 3, 10}, {4, 9, 1}, {0, 1, 1}}
	for stake := range int64(10) {
		for own := range int64(7) {
			for others := range int64(7) {
				if own+others == 0 && stake > 0 {
					continue
				}
				for _, zoe := range zoes {
					b := trader(stock{stake, own, others}, zoe)
					for shares := int64(1); shares <= own+1; shares++ {
						checkDeed(t, shift{"ann", "mia", "zoe", shares}, b)
						done += checkNothingNew(t, shift{"ann", "mia", "zoe", shares}, b)
					}
				}
			}
		}
	}
	if done < 3000 {
		t.Errorf("only %d were done", done)
	}
}

// Who shifts has what the shares were worth at once, and not later; it is as if that were lent then.
func TestToShiftIsToLoosenAndToLend(t *testing.T) {
	done := 0
	for _, b := range shiftBooks() {
		folk, mills := namesIn(b)
		for _, s := range shiftsFor(folk, mills, []int64{1, 2, 3, 7, 13, 1000, 40000, 1000000000}) {
			loose, one := impl.Loosened(b, s.who, s.from, s.shares)
			worth := impl.AmountIn(loose.Waits) - impl.AmountIn(b.Waits)
			if one != impl.MlDone || worth == 0 || s.from == s.to {
				continue
			}
			loose.Waits = b.Waits
			loose.Folk = with(loose.Folk, s.who, impl.FreeOf(b.Folk, s.who)+worth)
			want, wanted := impl.Lent(loose, s.who, s.to, worth)
			if wanted != impl.MlDone {
				want = b
			}
			if got, code := s.of(b); code != wanted || !alike(got, want) {
				t.Errorf("%+v of %+v = %+v, %d; want %+v, %d", s, b, got, code, want, wanted)
			}
			done++
		}
	}
	if done < 200 {
		t.Errorf("only %d were done", done)
	}
}

// There and back again: one has no more than before, and nobody else has less.
func TestToShiftThereAndBack(t *testing.T) {
	done := 0
	for _, b := range shiftBooks() {
		folk, mills := namesIn(b)
		for _, s := range shiftsFor(folk, mills, []int64{1, 2, 3, 7, 13, 10500, 40000}) {
			there, one := s.of(b)
			if one != impl.MlDone {
				continue
			}
			bought := sharesOf(there.Parts, s.who, s.to) - sharesOf(b.Parts, s.who, s.to)
			back, two := impl.Shifted(there, s.who, s.to, s.from, bought)
			if two != impl.MlDone {
				continue
			}
			done++
			for _, p := range b.Folk {
				before, after := impl.WorthIn(b, p.Name), impl.WorthIn(back, p.Name)
				if p.Name == s.who && after > before || p.Name != s.who && after < before || impl.Total(back) != b.Supply {
					t.Errorf("%+v of %+v, and back: %s had %d and has %d in %+v", s, b, p.Name, before, after, back)
				}
			}
		}
	}
	if done < 40 {
		t.Errorf("only %d were done", done)
	}
}

// Many loans and shifts one after the other, in turns that follow a short rule: the book is what the chapters tell at each step.
func TestManyShifts(t *testing.T) {
	for start, b := range []impl.Book{reopened(), packed(), trader(stock{7, 500, 1500}, stock{30, 13, 7}), {Supply: 800, Folk: crowd(8, 100), Mills: row(4, 0, 0)}} {
		done, next := 0, uint32(start)
		pick := func(n int) int {
			next = next*1664525 + 1013904223
			return int(next>>8) % n
		}
		for range 300 {
			who, mill := b.Folk[pick(len(b.Folk))], b.Mills[pick(len(b.Mills))].Name
			if pick(4) == 0 || len(b.Parts) == 0 {
				l := loan{"Lent", who.Name, mill, int64(pick(int(who.Free/2 + 3)))}
				checkDeed(t, l, b)
				b, _ = l.of(b)
				continue
			}
			p := b.Parts[pick(len(b.Parts))]
			s := shift{p.Who, p.Mill, mill, int64(pick(int(p.Shares + 2)))}
			checkDeed(t, s, b)
			done += checkNothingNew(t, s, b)
			b, _ = s.of(b)
		}
		if done < 40 {
			t.Errorf("from start %d only %d were done", start, done)
		}
	}
}

// What is behind the lists is their spare room: nothing is written there, nor read.
func TestShiftsAreNewMemoryAndBooksStay(t *testing.T) {
	wrong := []impl.Book{changed(func(b *impl.Book) { b.Supply++ }), changed(func(b *impl.Book) { b.Season = 1001 })}
	for _, b := range append(shiftBooks(), wrong...) {
		folk, mills := namesIn(b)
		for _, s := range shiftsFor(append(folk[1:], "spare"), append(mills[1:], "spare"), []int64{0, 1, 13}) {
			checkMemory(t, s, b)
		}
	}
}

// market is a book in which ann has coins for these mills; bob has all of their shares.
func market(free int64, mills ...impl.Mill) impl.Book {
	b := impl.Book{Supply: free, Folk: []impl.Purse{{Name: "ann", Free: free}, {Name: "bob"}}, Mills: mills}
	for _, m := range mills {
		b.Supply += m.Stake
		b.Parts = having(b.Parts, "bob", m.Name, m.Shares)
	}
	return b
}

func TestBestFor(t *testing.T) {
	cheap := impl.Mill{Name: "a", Stake: 30, Shares: 30, Cut: 7}
	costly := impl.Mill{Name: "b", Stake: 30, Shares: 10, Cut: 2} // a share costs 3
	empty := impl.Mill{Name: "c", Shares: 10, Cut: 1}             // none can be bought
	shut := impl.Mill{Name: "d", Stake: 30, Shares: 30, Shut: true}
	for _, c := range []struct {
		free   int64
		mills  []impl.Mill
		amount int64
		want   string
	}{
		{50, []impl.Mill{cheap}, 1, "a"},
		{50, []impl.Mill{cheap}, 50, "a"}, // all of Free
		{50, []impl.Mill{cheap}, 51, ""},  // one more
		{50, []impl.Mill{cheap}, 0, ""},
		{50, []impl.Mill{cheap}, -1, ""},
		{50, []impl.Mill{cheap}, least, ""},
		{50, []impl.Mill{cheap}, greatest, ""},
		{50, nil, 1, ""},
		{0, []impl.Mill{cheap}, 1, ""},
		{0, []impl.Mill{cheap}, 0, ""},
		{50, []impl.Mill{cheap, costly, empty, shut}, 1, "a"}, // that of a lesser Cut sells none for this
		{50, []impl.Mill{cheap, costly, empty, shut}, 2, "a"},
		{50, []impl.Mill{cheap, costly, empty, shut}, 3, "b"}, // the least that buys one
		{50, []impl.Mill{cheap, costly, empty, shut}, 50, "b"},
		{50, []impl.Mill{cheap, costly, empty, shut}, 51, ""},
		{50, []impl.Mill{cheap, empty}, 50, "a"},
		{50, []impl.Mill{cheap, shut}, 50, "a"},
		{50, []impl.Mill{costly, empty, shut}, 2, ""},
		{50, []impl.Mill{empty}, 50, ""},
		{50, []impl.Mill{shut}, 50, ""},
		{50, []impl.Mill{empty, shut}, 1, ""},
		{50, row(4, 0, 0), 1, "a"},                                                               // Cuts that rise
		{50, []impl.Mill{{Name: "a", Cut: 3}, {Name: "b", Cut: 2}, {Name: "c", Cut: 1}}, 1, "c"}, // that fall
		{50, []impl.Mill{{Name: "a", Cut: 3}, {Name: "b", Cut: 1}, {Name: "c", Cut: 2}}, 1, "b"},
		{50, []impl.Mill{{Name: "a", Cut: 5}, {Name: "b", Cut: 5}}, 1, "a"}, // of the same one the first
		{50, []impl.Mill{{Name: "a", Cut: 6}, {Name: "b", Cut: 5}, {Name: "c", Cut: 5}, {Name: "d", Cut: 5}}, 1, "b"},
		{50, []impl.Mill{{Name: "a", Cut: 5, Shut: true}, {Name: "b", Cut: 5}, {Name: "c", Cut: 5}}, 1, "b"},
		{50, []impl.Mill{{Name: "a", Shares: 1, Cut: 5}, {Name: "b", Cut: 5}}, 1, "b"},
		{50, []impl.Mill{{Name: "a", Cut: 5}, {Name: "b", Stake: 3, Shares: 3, Cut: 5}}, 1, "a"},
		{50, []impl.Mill{{Name: "a"}, {Name: "b"}}, 1, "a"},
		{50, []impl.Mill{{Name: "a", Cut: 100}}, 1, "a"}, // all is cut, but there is no other one
		{50, []impl.Mill{{Name: "a", Cut: 100}, {Name: "b", Cut: 100}}, 1, "a"},
		{50, []impl.Mill{{Name: "a", Cut: 100}, {Name: "b", Cut: 99}}, 1, "b"},
		{50, []impl.Mill{{Name: "a", Cut: 100, Shut: true}, {Name: "b", Cut: 100, Shut: true}}, 1, ""}, // all Shut
		{1000000, []impl.Mill{{Name: "a", Cut: 9}}, 1000000, "a"},                                      // MaxAmount
		{1000000, []impl.Mill{{Name: "a", Cut: 9}}, 1000001, ""},                                       // and one more
		{999999, []impl.Mill{{Name: "a", Cut: 9}}, 1000000, ""},
		{999999, []impl.Mill{{Name: "a", Stake: 1, Shares: 1001}, {Name: "b", Cut: 9}}, 999999, "b"}, // there would be more than MaxShares
		{999999, []impl.Mill{{Name: "a", Stake: 1, Shares: 1000}, {Name: "b", Cut: 9}}, 999999, "a"}, // MaxShares exactly
	} {
		b := market(c.free, c.mills...)
		if got := impl.BestFor(b, "ann", c.amount); got != c.want || !bookOf(b) {
			t.Errorf("BestFor(%+v, ann, %d) = %q; want %q", b, c.amount, got, c.want)
		}
		for _, who := range []string{"bob", "mia", "an", "anna", "Ann", "", "a"} { // has nothing, or is not there
			if got := impl.BestFor(b, who, c.amount); got != "" {
				t.Errorf("BestFor(%+v, %s, %d) = %q", b, who, c.amount, got)
			}
		}
	}
}

// Where there are as many parts as there may be, the best mill is one of which that one has some already.
func TestBestForWithoutRoom(t *testing.T) {
	b := packedBut(func(b *impl.Book) {
		for i := range b.Folk {
			b.Folk[i].Free = 5
		}
		b.Supply = 240
		b.Mills[0].Cut, b.Mills[1].Cut, b.Mills[2].Cut = 9, 8, 7
	})
	for who, want := range map[string]string{"a": "d", "d": "d", "e": "c", "f": "a", "g": "", "h": "", "i": ""} {
		if got := impl.BestFor(b, who, 5); got != want || !bookOf(b) {
			t.Errorf("BestFor(%+v, %s, 5) = %q; want %q", b, who, got, want)
		}
		if got := impl.BestFor(b, who, 4); got != "" {
			t.Errorf("BestFor(%+v, %s, 4) = %q", b, who, got)
		}
	}
	b.Parts, b.Mills[0].Shares = b.Parts[:19], b.Mills[0].Shares-2 // with room for one part again
	if got := impl.BestFor(b, "e", 5); got != "d" || !bookOf(b) {
		t.Errorf("BestFor(%+v, e, 5) = %q", b, got)
	}
}

// checkBest holds BestFor against the chapter, and against what Lent tells of each mill; it counts a mill that is best.
func checkBest(t *testing.T, b impl.Book, who string, amount int64) int {
	t.Helper()
	got := impl.BestFor(b, who, amount)
	if want := bestOf(b, who, amount); got != want {
		t.Errorf("BestFor(%+v, %s, %d) = %q; want %q", b, who, amount, got, want)
	}
	best, is := impl.MillIn(b.Mills, got)
	if _, code := impl.Lent(b, who, got, amount); (code == impl.MlDone) != is || best.Shut {
		t.Errorf("BestFor(%+v, %s, %d) = %q: Lent is %d", b, who, amount, got, code)
	}
	for _, m := range b.Mills {
		_, code := impl.Lent(b, who, m.Name, amount)
		if code == impl.MlDone && (!is || m.Cut < best.Cut || m.Cut == best.Cut && m.Name < best.Name) {
			t.Errorf("BestFor(%+v, %s, %d) = %q: %q is better", b, who, amount, got, m.Name)
		}
	}
	if !is {
		return 0
	}
	return 1
}

func TestBestForOfAllBooks(t *testing.T) {
	seen := [2]int{}
	for _, b := range shiftBooks() {
		folk, _ := namesIn(b)
		for _, who := range append(folk, "") {
			for _, amount := range []int64{least, 0, 1, 2, 3, 10, 11, 334, 500, 999999, 1000000, 1000001, greatest} {
				seen[checkBest(t, b, who, amount)]++
			}
		}
	}
	if seen[0] < 500 || seen[1] < 200 {
		t.Errorf("there was none %d times, and one %d times", seen[0], seen[1])
	}
}

// All ways in which three mills can be of this Cut or that, and Shut, without a Stake, too costly, or none of these.
func TestBestForOfThreeMills(t *testing.T) {
	seen := [2]int{}
	kinds := []impl.Mill{{}, {Shut: true}, {Shares: 5}, {Stake: 9, Shares: 3}, {Stake: 9, Shares: 9}}
	var mills []impl.Mill
	for _, m := range kinds {
		for _, cut := range []int64{0, 1, 100} {
			m.Cut = cut
			mills = append(mills, m)
		}
	}
	for _, a := range mills {
		for _, b := range mills {
			for _, c := range mills {
				a.Name, b.Name, c.Name = "a", "b", "c"
				book := market(3, a, b, c)
				for _, amount := range []int64{0, 1, 3, 4} {
					seen[checkBest(t, book, "ann", amount)]++
				}
			}
		}
	}
	if seen[0] < 2000 || seen[1] < 2000 {
		t.Errorf("there was none %d times, and one %d times", seen[0], seen[1])
	}
}

// Nor does BestFor write anything into a book, or read what is behind its lists.
func TestBestForLetsBooksStay(t *testing.T) {
	for _, b := range append(shiftBooks(), wrongBooks()...) {
		tight, full := roomy(b)
		given := copyOf(full)
		for _, who := range []string{"a", "ann", "bob", "f", "tom", "spare", ""} {
			for _, amount := range []int64{0, 1, 3, 10} {
				if got := impl.BestFor(tight, who, amount); got != impl.BestFor(b, who, amount) || got == "spare" {
					t.Errorf("BestFor(%+v, %s, %d) = %q with spare room", b, who, amount, got)
				}
			}
		}
		if !alike(full, given) {
			t.Fatalf("%+v became %+v", given, full)
		}
	}
}
