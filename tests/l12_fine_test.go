package tests

import (
	"slices"
	"testing"

	"loop.example/g00614/impl"
)

// fine is one of the calls of chapter 12: so many percent of what a mill has (Punished), or none, and it is opened again (Mended).
type fine struct {
	call    string
	mill    string
	percent int64
}

func (f fine) of(b impl.Book) (impl.Book, int64) {
	if f.call == "Punished" {
		return impl.Punished(b, f.mill, f.percent)
	}
	return impl.Mended(b, f.mill)
}

// told is what the chapter tells of it, word by word.
func (f fine) told(b impl.Book) (impl.Book, int64) {
	switch {
	case !bookOf(b):
		return impl.Book{}, impl.MlBad
	case f.call == "Punished":
		return punishedOf(copyOf(b), f.mill, f.percent)
	}
	return mendedOf(copyOf(b), f.mill)
}

func punishedOf(b impl.Book, mill string, percent int64) (impl.Book, int64) {
	at := millAt(b, mill)
	switch {
	case at < 0:
		return b, impl.MlNone
	case !isFrom(1, percent, 100):
		return b, impl.MlBad
	}
	before := coinsOf(b) - b.Burnt
	b.Mills[at].Shut = true
	b.Mills[at].Stake -= b.Mills[at].Stake * percent / 100
	for i, w := range b.Waits {
		if w.Mill == mill {
			b.Waits[i].Amount -= w.Amount * percent / 100
		}
	}
	b.Waits = those(b.Waits, func(w impl.Wait) bool { return w.Amount > 0 })
	b.Burnt += before - (coinsOf(b) - b.Burnt)
	return b, impl.MlDone
}

func mendedOf(b impl.Book, mill string) (impl.Book, int64) {
	at := millAt(b, mill)
	switch {
	case at < 0:
		return b, impl.MlNone
	case !b.Mills[at].Shut:
		return b, impl.MlThere
	}
	b.Mills[at].Shut = false
	return b, impl.MlDone
}

// finesFor are both calls for each of these mills, with each of these percents.
func finesFor(mills []string, percents []int64) []fine {
	var l []fine
	for _, mill := range mills {
		l = append(l, fine{"Mended", mill, 0})
		for _, percent := range percents {
			l = append(l, fine{"Punished", mill, percent})
		}
	}
	return l
}

// due are waits, each of so many coins: those below 0 are of the mill zoe, the others of mia, and 0 is none.
func due(amounts ...int64) []impl.Wait {
	var l []impl.Wait
	for i, n := range amounts {
		w := impl.Wait{Who: []string{"ann", "bob", "mia"}[i%3], Mill: "mia", Amount: n, Ripe: int64(i / 2)}
		if n < 0 {
			w.Mill, w.Amount = "zoe", -n
		}
		l = append(l, w)
	}
	return those(l, func(w impl.Wait) bool { return w.Amount > 0 })
}

// court is a book of the mill mia, of which bob has the shares, beside zoe, of which ann has, with these waits.
func court(stake, shares int64, waits []impl.Wait) impl.Book {
	b := impl.Book{
		Season: 4,
		Burnt:  3,
		Pot:    2,
		Folk:   []impl.Purse{{Name: "ann", Free: 40}, {Name: "bob"}, {Name: "mia", Free: 1}},
		Mills:  []impl.Mill{{Name: "mia", Stake: stake, Shares: shares, Cut: 10}, {Name: "zoe", Stake: 500, Shares: 70, Cut: 20}},
		Parts:  having(having(nil, "ann", "zoe", 70), "bob", "mia", shares),
		Waits:  waits,
	}
	b.Supply = coinsOf(b)
	return b
}

// allIn is a book of which every coin is at stake in the mill mia, waits of it, or is burnt already.
func allIn(burnt, stake int64, waits []impl.Wait) impl.Book {
	b := court(stake, 1000, waits)
	b.Burnt, b.Pot, b.Mills, b.Parts = burnt, 0, b.Mills[:1], having(nil, "bob", "mia", 1000)
	b.Folk[0].Free, b.Folk[2].Free = 0, 0
	b.Supply = coinsOf(b)
	return b
}

// inTurn are 20 waits, of mia and of zoe in turn.
func inTurn() []impl.Wait {
	return due(1, -1, 2, -2, 3, -3, 4, -4, 50, -50, 99, -99, 100, -100, 101, -101, 199, -199, 7, -7)
}

// fineBooks are right books of which some can be fined a lot, and some hardly.
func fineBooks() []impl.Book {
	return append(loosenBooks(),
		allShut(),
		reopened(),
		court(0, 0, nil),
		court(0, 0, due(9)),
		court(0, 7, due(9, -9)),
		court(1, 7, due(1, -1)),
		court(99, 7, due(5, -5, 7)),
		court(199, 7, due(-5, 5, 100, -7)),
		court(1000, 1000000000, due(1, 1, 1)),
		court(100, 1, inTurn()),
		shutAt(court(100, 1, inTurn()), 0),
		shutAt(court(100, 1, inTurn()), 1),
		court(30, 20, slices.Repeat(due(1), 20)),
		court(30, 20, slices.Repeat(due(1000), 20)),
		allIn(0, 1000000, nil),
		allIn(1, 999999, nil),
		allIn(999999, 1, nil),
		allIn(500000, 300000, due(100000, 100000)),
		allIn(0, 0, due(1000000)),
		allIn(0, 999999, due(1)),
	)
}

// checkPunished holds a fine of mia against numbers, where the mill is Shut already, too.
func checkPunished(t *testing.T, b impl.Book, percent, burnt int64, waits []impl.Wait) {
	t.Helper()
	want := copyOf(b)
	want.Mills[0].Stake, want.Mills[0].Shut, want.Burnt, want.Waits = b.Mills[0].Stake-burnt, true, b.Burnt+burnt, waits
	want.Burnt += coins(b.Waits) - coins(waits)
	if got, code := impl.Punished(b, "mia", percent); code != 0 || !alike(got, want) {
		t.Errorf("Punished(%+v, mia, %d) = %+v, %d; want %+v", b, percent, got, code, want)
	}
	b = shutAt(copyOf(b), 0)
	got, code := impl.Punished(b, "mia", percent)
	if code != 0 || !alike(got, want) {
		t.Errorf("Punished(%+v, mia, %d) = %+v, %d; want %+v", b, percent, got, code, want)
	}
	if room := got.Waits[:cap(got.Waits)]; coins(room) != coins(waits) { // what is gone is not behind the list either
		t.Errorf("Punished(%+v, mia, %d) has room with %+v", b, percent, room)
	}
}

func TestPunishedOfStake(t *testing.T) {
	for _, c := range []struct{ stake, shares, percent, burnt int64 }{
		{100, 7, 1, 1},
		{100, 7, 2, 2},
		{100, 7, 99, 99},
		{100, 7, 100, 100}, // the shares stay, and are worth nothing
		{99, 7, 1, 0},      // less than a coin: it is Shut, and nothing is burnt
		{99, 7, 2, 1},      // hardly less than 2
		{99, 7, 99, 98},
		{99, 7, 100, 99},
		{101, 7, 1, 1},
		{101, 7, 99, 99},
		{199, 7, 1, 1}, // hardly less than 2
		{200, 7, 1, 2},
		{199, 7, 50, 99},
		{30, 20, 33, 9}, // 9 and nine tenths
		{30, 20, 50, 15},
		{1, 7, 1, 0},
		{1, 7, 50, 0},
		{1, 7, 99, 0},
		{1, 7, 100, 1},
		{2, 7, 49, 0},
		{2, 7, 50, 1},
		{0, 7, 1, 0}, // a Stake of 0
		{0, 7, 100, 0},
		{0, 0, 1, 0}, // nor are there Shares
		{0, 0, 50, 0},
		{0, 0, 100, 0},
		{100, 1000000000, 1, 1},
		{100, 1000000000, 100, 100},
		{1000000, 7, 1, 10000}, // MaxAmount
		{1000000, 7, 33, 330000},
		{1000000, 7, 99, 990000},
		{1000000, 7, 100, 1000000}, // all that there is
		{1000000, 1000000000, 100, 1000000},
		{999999, 7, 1, 9999},
		{999999, 7, 50, 499999},
		{999999, 7, 99, 989999},
		{999999, 7, 100, 999999},
	} {
		if c.stake < 1000 {
			checkPunished(t, court(c.stake, c.shares, nil), c.percent, c.burnt, nil)
			checkPunished(t, court(c.stake, c.shares, due(-9, -100)), c.percent, c.burnt, due(-9, -100))
		}
		if c.shares > 0 {
			checkPunished(t, holder(c.stake, c.shares, 0), c.percent, c.burnt, nil)
		}
	}
}

func TestPunishedOfWaits(t *testing.T) {
	for _, c := range []struct {
		waits   []impl.Wait
		percent int64
		left    []impl.Wait
	}{
		{due(9), 1, due(9)}, // less than a coin
		{due(9), 11, due(9)},
		{due(9), 12, due(8)},
		{due(9), 50, due(5)}, // 4 and a half
		{due(9), 99, due(1)},
		{due(9), 100, nil},
		{due(1), 99, due(1)},
		{due(1), 100, nil},
		{due(100, 99, 199, 200), 1, due(99, 99, 198, 198)}, // each alone: nearly 6 in all, but it is 4
		{due(100, 99, 199, 200), 50, due(50, 50, 100, 100)},
		{due(100, 99, 199, 200), 99, due(1, 1, 2, 2)},
		{due(5, -5, -7), 100, due(0, -5, -7)}, // gone at the front
		{due(-5, 5, -7), 100, due(-5, 0, -7)}, // in the middle
		{due(-5, -7, 5), 100, due(-5, -7, 0)}, // at the end
		{due(5, 6, -7), 100, due(0, 0, -7)},
		{due(5, -6, 7), 100, due(0, -6, 0)},
		{due(-5, 6, 7), 100, due(-5, 0, 0)},
		{due(5, -5, 7, -7, 5), 100, due(0, -5, 0, -7, 0)},
		{due(-5, 5, -7, 7, -5), 100, due(-5, 0, -7, 0, -5)},
		{due(5, 6, 7), 100, nil}, // all of them
		{due(-5, -6, -7), 100, due(-5, -6, -7)},
		{due(-5, -6, -7), 1, due(-5, -6, -7)},
		{due(-100, 100, -1), 40, due(-100, 60, -1)},
		{inTurn(), 1, due(1, -1, 2, -2, 3, -3, 4, -4, 50, -50, 99, -99, 99, -100, 100, -101, 198, -199, 7, -7)},
		{inTurn(), 50, due(1, -1, 1, -2, 2, -3, 2, -4, 25, -50, 50, -99, 50, -100, 51, -101, 100, -199, 4, -7)},
		{inTurn(), 99, due(1, -1, 1, -2, 1, -3, 1, -4, 1, -50, 1, -99, 1, -100, 2, -101, 2, -199, 1, -7)},
		{inTurn(), 100, due(0, -1, 0, -2, 0, -3, 0, -4, 0, -50, 0, -99, 0, -100, 0, -101, 0, -199, 0, -7)},
		{slices.Repeat(due(1), 20), 99, slices.Repeat(due(1), 20)}, // nearly 20 in all, but nothing of any one
		{slices.Repeat(due(1), 20), 100, nil},
		{slices.Repeat(due(1000), 20), 99, slices.Repeat(due(10), 20)},
		{slices.Repeat(due(1000), 20), 100, nil},
		{slices.Repeat(due(-1000), 20), 100, slices.Repeat(due(-1000), 20)},
	} {
		checkPunished(t, court(0, 0, c.waits), c.percent, 0, c.left)
		checkPunished(t, court(0, 7, c.waits), c.percent, 0, c.left)
		checkPunished(t, court(100, 7, c.waits), c.percent, c.percent, c.left)
		checkPunished(t, inSeason(court(100, 7, c.waits), 1000), c.percent, c.percent, c.left) // all of them are Ripe long since
		checkPunished(t, inSeason(court(100, 7, c.waits), 0), c.percent, c.percent, c.left)
	}
}

func TestPunishedOfWhole(t *testing.T) {
	for _, c := range []struct {
		mill    string
		percent int64
		at      int
		stake   int64
		waits   [3]int64 // of each of those of whole, 0 where it is gone
		burnt   int64
	}{
		{"ann", 1, 0, 30, [3]int64{4, 9, 1}, 6}, // it is Shut, and that is all
		{"ann", 3, 0, 30, [3]int64{4, 9, 1}, 6},
		{"ann", 4, 0, 29, [3]int64{4, 9, 1}, 7},
		{"ann", 24, 0, 23, [3]int64{4, 9, 1}, 13},
		{"ann", 25, 0, 23, [3]int64{3, 9, 1}, 14},
		{"ann", 50, 0, 15, [3]int64{2, 9, 1}, 23},
		{"ann", 99, 0, 1, [3]int64{1, 9, 1}, 38},
		{"ann", 100, 0, 0, [3]int64{0, 9, 1}, 40},
		{"bob", 1, 1, 0, [3]int64{4, 9, 1}, 6}, // it is Shut already, and so nothing changes
		{"bob", 12, 1, 0, [3]int64{4, 8, 1}, 7},
		{"bob", 100, 1, 0, [3]int64{4, 0, 1}, 15},
		{"mia", 1, 2, 990, [3]int64{4, 9, 1}, 16}, // nothing waits of it, but something for mia
		{"mia", 100, 2, 0, [3]int64{4, 9, 1}, 1006},
		{"zoe", 1, 3, 0, [3]int64{4, 9, 1}, 6}, // it has no purse
		{"zoe", 99, 3, 0, [3]int64{4, 9, 1}, 6},
		{"zoe", 100, 3, 0, [3]int64{4, 9, 0}, 7},
	} {
		want := changed(func(b *impl.Book) {
			b.Mills[c.at].Stake, b.Mills[c.at].Shut, b.Burnt = c.stake, true, c.burnt
			for i, amount := range c.waits {
				b.Waits[i].Amount = amount
			}
			b.Waits = those(b.Waits, func(w impl.Wait) bool { return w.Amount > 0 })
		})
		if got, code := impl.Punished(whole(), c.mill, c.percent); code != 0 || !alike(got, want) {
			t.Errorf("Punished(%s, %d) = %+v, %d; want %+v", c.mill, c.percent, got, code, want)
		}
	}
}

// What is burnt comes to Supply exactly: there is no coin left, but all of them are told.
func TestPunishedToTheLastCoin(t *testing.T) {
	for _, b := range []impl.Book{
		allIn(0, 1000000, nil),
		allIn(1, 999999, nil),
		allIn(999999, 1, nil),
		allIn(1000000, 0, nil),
		allIn(500000, 300000, due(100000, 100000)),
		allIn(0, 0, due(1000000)),
		allIn(0, 999999, due(1)),
		allIn(0, 980, slices.Repeat(due(1), 20)),
		allIn(0, 1, nil),
		allIn(0, 0, nil),
	} {
		got, code := impl.Punished(b, "mia", 100)
		want := impl.Book{Season: 4, Supply: b.Supply, Burnt: b.Supply, Folk: b.Folk, Mills: []impl.Mill{{Name: "mia", Shares: 1000, Cut: 10, Shut: true}}, Parts: b.Parts}
		if code != 0 || !alike(got, want) || impl.Total(got) != b.Supply || !impl.BookOk(got) {
			t.Errorf("Punished(%+v, mia, 100) = %+v, %d; want %+v", b, got, code, want)
		}
		again, code := impl.Punished(got, "mia", 100)
		if code != 0 || !alike(again, want) {
			t.Errorf("Punished(%+v, mia, 100) = %+v, %d", got, again, code)
		}
	}
}

func TestMended(t *testing.T) {
	for at, m := range whole().Mills {
		want := allShut()
		want.Mills[at].Shut = false
		if got, code := impl.Mended(allShut(), m.Name); code != 0 || !alike(got, want) {
			t.Errorf("Mended(%s) = %+v, %d; want %+v", m.Name, got, code, want)
		}
	}
	if got, code := impl.Mended(whole(), "bob"); code != 0 || !alike(got, reopened()) {
		t.Errorf("Mended(bob) = %+v, %d", got, code)
	}
}

// What is refused for one reason alone, and for several: then it is the code that is named first.
func TestPunishedRefuses(t *testing.T) {
	checkRefused(t, []refusal{
		{whole(), fine{"Punished", "tom", 50}, impl.MlNone}, // a purse, but no mill
		{whole(), fine{"Punished", "eve", 50}, impl.MlNone},
		{whole(), fine{"Punished", "an", 1}, impl.MlNone},
		{whole(), fine{"Punished", "anna", 100}, impl.MlNone},
		{whole(), fine{"Punished", "", 50}, impl.MlNone}, // a text that is no name
		{whole(), fine{"Punished", "Ann", 50}, impl.MlNone},
		{whole(), fine{"Punished", "ann ", 50}, impl.MlNone},
		{whole(), fine{"Punished", " ann", 50}, impl.MlNone},
		{whole(), fine{"Punished", "ann\x00", 50}, impl.MlNone},
		{whole(), fine{"Punished", "annannann", 50}, impl.MlNone},
		{whole(), fine{"Punished", "\xff", 50}, impl.MlNone},
		{impl.Book{}, fine{"Punished", "ann", 50}, impl.MlNone},
		{allShut(), fine{"Punished", "tom", 50}, impl.MlNone},
		{whole(), fine{"Punished", "tom", 0}, impl.MlNone}, // and the percent is out of range
		{whole(), fine{"Punished", "eve", 101}, impl.MlNone},
		{whole(), fine{"Punished", "", -1}, impl.MlNone},
		{whole(), fine{"Punished", "Ann", least}, impl.MlNone},
		{impl.Book{}, fine{"Punished", "", greatest}, impl.MlNone},
		{whole(), fine{"Punished", "ann", 0}, impl.MlBad},   // one less than the least
		{whole(), fine{"Punished", "ann", 101}, impl.MlBad}, // one more than the most
		{whole(), fine{"Punished", "ann", -1}, impl.MlBad},
		{whole(), fine{"Punished", "ann", -50}, impl.MlBad}, // as if it came back
		{whole(), fine{"Punished", "ann", -100}, impl.MlBad},
		{whole(), fine{"Punished", "ann", 200}, impl.MlBad},
		{whole(), fine{"Punished", "ann", 1<<32 + 50}, impl.MlBad},
		{whole(), fine{"Punished", "ann", least}, impl.MlBad},
		{whole(), fine{"Punished", "ann", least + 50}, impl.MlBad},
		{whole(), fine{"Punished", "ann", greatest}, impl.MlBad},
		{whole(), fine{"Punished", "bob", 0}, impl.MlBad}, // it is Shut
		{whole(), fine{"Punished", "bob", 101}, impl.MlBad},
		{whole(), fine{"Punished", "mia", -1}, impl.MlBad},
		{whole(), fine{"Punished", "zoe", 0}, impl.MlBad}, // of Stake there is nothing
		{court(0, 0, nil), fine{"Punished", "mia", 0}, impl.MlBad},
		{court(0, 0, nil), fine{"Punished", "mia", 101}, impl.MlBad},
		{court(0, 0, nil), fine{"Punished", "zoe", -1}, impl.MlBad},
		{crammed(), fine{"Punished", "d", 0}, impl.MlBad},
		{crammed(), fine{"Punished", "e", 100}, impl.MlNone},
	})
}

func TestMendedRefuses(t *testing.T) {
	checkRefused(t, []refusal{
		{whole(), fine{"Mended", "tom", 0}, impl.MlNone}, // a purse, but no mill
		{whole(), fine{"Mended", "eve", 0}, impl.MlNone},
		{whole(), fine{"Mended", "bo", 0}, impl.MlNone},
		{whole(), fine{"Mended", "bobb", 0}, impl.MlNone},
		{whole(), fine{"Mended", "", 0}, impl.MlNone}, // a text that is no name
		{whole(), fine{"Mended", "Bob", 0}, impl.MlNone},
		{whole(), fine{"Mended", "bob ", 0}, impl.MlNone},
		{whole(), fine{"Mended", "bobbobbob", 0}, impl.MlNone},
		{whole(), fine{"Mended", "\xff", 0}, impl.MlNone},
		{allShut(), fine{"Mended", "tom", 0}, impl.MlNone},
		{impl.Book{}, fine{"Mended", "ann", 0}, impl.MlNone},
		{whole(), fine{"Mended", "ann", 0}, impl.MlThere}, // it is not Shut
		{whole(), fine{"Mended", "mia", 0}, impl.MlThere},
		{whole(), fine{"Mended", "zoe", 0}, impl.MlThere},
		{reopened(), fine{"Mended", "bob", 0}, impl.MlThere},
		{court(0, 0, nil), fine{"Mended", "mia", 0}, impl.MlThere},
		{shutAt(court(0, 0, nil), 1), fine{"Mended", "mia", 0}, impl.MlThere}, // another one is
		{crammed(), fine{"Mended", "a", 0}, impl.MlThere},
	})
}

// A book that is not right is MlBad ahead of all else that is told.
func TestFinesOfWrongBooks(t *testing.T) {
	fines := finesFor([]string{"", "ann", "bob", "mia", "zoe", "tom", "a", "Ann"}, []int64{-1, 0, 1, 100, 101})
	for _, b := range wrongBooks() {
		for _, f := range fines {
			if got, code := f.of(b); code != 7 || !alike(got, impl.Book{}) {
				t.Errorf("%+v of %+v = %+v, %d", f, b, got, code)
			}
		}
	}
}

var percents = []int64{
	least, least + 1, -1 << 32, -101, -100, -50, -2, -1, 0, 1, 2, 3, 11, 12, 24, 25, 33, 49, 50, 51, 98, 99, 100, 101, 102, 200, 255, 256, 257,
	1 << 32, 1<<32 + 1, greatest - 1, greatest,
}

func TestFinesOfAllBooks(t *testing.T) {
	seen := map[fine]int{}
	for _, b := range fineBooks() {
		if !bookOf(b) {
			t.Fatalf("%+v is not right", b)
		}
		_, mills := namesIn(b)
		for _, f := range finesFor(append(mills, "", "Mia", "mia "), percents) {
			code := checkDeed(t, f, b)
			seen[fine{call: f.call, percent: code}]++
		}
	}
	for call, codes := range map[string][]int64{
		"Punished": {impl.MlDone, impl.MlNone, impl.MlBad},
		"Mended":   {impl.MlDone, impl.MlNone, impl.MlThere},
	} {
		for _, code := range codes {
			if n := seen[fine{call: call, percent: code}]; n < 10 {
				t.Errorf("%s was %d only %d times", call, code, n)
			}
			delete(seen, fine{call: call, percent: code})
		}
	}
	if len(seen) != 0 {
		t.Error(seen)
	}
}

// checkBurnt holds a fine against promise 12, and counts it where it is done.
func checkBurnt(t *testing.T, f fine, b impl.Book) int {
	t.Helper()
	got, code := f.of(b)
	if code != impl.MlDone {
		if !alike(got, b) {
			t.Errorf("%+v of %+v = %+v, %d", f, b, got, code)
		}
		return 0
	}
	of := func(l []impl.Wait) []impl.Wait {
		return those(l, func(w impl.Wait) bool { return w.Mill == f.mill })
	}
	before, after := b.Mills[millAt(b, f.mill)], got.Mills[millAt(got, f.mill)]
	stake, waits := before.Stake-after.Stake, coins(of(b.Waits))-coins(of(got.Waits))
	if got.Burnt-b.Burnt != stake+waits || impl.AmountIn(b.Waits)-impl.AmountIn(got.Waits) != waits {
		t.Errorf("%+v of %+v: %d and %d are less in %+v", f, b, stake, waits, got)
	}
	percent := max(f.percent, 0) // of Mended it is none
	if stake < 0 || stake != impl.PartOf(before.Stake, percent) || stake*100 > before.Stake*percent {
		t.Errorf("%+v of %+v: %d of Stake is less", f, b, stake)
	}
	if _, lost := impl.Fined(b.Waits, f.mill, percent); waits < 0 || waits != lost || waits*100 > coins(of(b.Waits))*percent {
		t.Errorf("%+v of %+v: %d of the waits is less", f, b, waits)
	}
	if after.Shut != (f.call == "Punished") {
		t.Errorf("%+v of %+v: %+v", f, b, after)
	}
	checkTheOthers(t, f, b, got)
	return 1
}

// checkTheOthers puts back what a fine may change, and asks whether all else stayed.
func checkTheOthers(t *testing.T, f fine, b, got impl.Book) {
	t.Helper()
	others := func(l []impl.Wait) []impl.Wait {
		return those(l, func(w impl.Wait) bool { return w.Mill != f.mill })
	}
	if !slices.Equal(others(got.Waits), others(b.Waits)) || !impl.BookOk(got) || impl.Total(got) != b.Supply {
		t.Errorf("%+v of %+v = %+v", f, b, got)
	}
	for _, p := range b.Folk {
		own := sharesOf(b.Parts, p.Name, f.mill) > 0 || len(impl.WaitsFor(b.Waits, p.Name)) > len(impl.WaitsFor(others(b.Waits), p.Name))
		before, after := impl.WorthIn(b, p.Name), impl.WorthIn(got, p.Name)
		if after > before || after < before && !own {
			t.Errorf("%+v of %+v: %s had %d and has %d", f, b, p.Name, before, after)
		}
	}
	back := copyOf(got)
	at := millAt(b, f.mill)
	back.Mills[at].Stake, back.Mills[at].Shut = b.Mills[at].Stake, b.Mills[at].Shut
	back.Burnt, back.Waits = b.Burnt, b.Waits
	if !alike(back, b) {
		t.Errorf("%+v changes more of %+v: %+v", f, b, got)
	}
}

func TestWhatIsFinedIsBurnt(t *testing.T) {
	done := 0
	for _, b := range fineBooks() {
		_, mills := namesIn(b)
		for _, f := range finesFor(mills, []int64{0, 1, 2, 12, 33, 50, 99, 100, 101}) {
			done += checkBurnt(t, f, b)
		}
	}
	if done < 500 {
		t.Errorf("only %d were done", done)
	}
}

// Promise 12 where it could fail by rounding: of all small mills and of what waits of them, for all percents that there are.
func TestWhatIsFinedOfSmallMillsIsBurnt(t *testing.T) {
	for percent := int64(1); percent <= 100; percent++ {
		for stake := range int64(12) {
			b := court(stake, 7, due(stake+1, -stake-1, stake+90))
			checkDeed(t, fine{"Punished", "mia", percent}, b)
			if checkBurnt(t, fine{"Punished", "mia", percent}, b) != 1 {
				t.Errorf("%d percent of %+v is refused", percent, b)
			}
			checkDeed(t, fine{"Punished", "mia", percent}, court(stake*17, 7, due(stake*31+1)))
		}
	}
}

// A mill that was fined and is mended is as it was fined, but not Shut.
func TestMendedAfterPunished(t *testing.T) {
	for _, b := range fineBooks() {
		for at, m := range b.Mills {
			for _, percent := range []int64{1, 12, 50, 99, 100} {
				want, one := impl.Punished(b, m.Name, percent)
				got, two := impl.Mended(want, m.Name)
				again, three := impl.Mended(got, m.Name)
				if !want.Mills[at].Shut {
					t.Errorf("Punished(%+v, %s, %d) = %+v", b, m.Name, percent, want)
				}
				want.Mills[at].Shut = false
				if one != impl.MlDone || two != impl.MlDone || three != impl.MlThere || !alike(got, want) || !alike(again, want) {
					t.Errorf("Mended(Punished(%+v, %s, %d)) = %+v, %d; want %+v", b, m.Name, percent, got, two, want)
				}
			}
		}
	}
}

// Where a mill is Shut by a fine nobody lends to it until it is mended, but whoever has shares of it can loosen them.
func TestWhatIsFinedIsShut(t *testing.T) {
	b, _ := impl.Punished(court(100, 7, due(9)), "mia", 30)
	checkRefused(t, []refusal{
		{b, loan{"Lent", "ann", "mia", 20}, impl.MlShut},
		{b, shift{"ann", "zoe", "mia", 70}, impl.MlShut},
	})
	if best := impl.BestFor(b, "ann", 40); best != "zoe" {
		t.Errorf("BestFor(%+v, ann, 40) = %q", b, best)
	}
	if got, code := impl.Loosened(b, "bob", "mia", 7); code != 0 || got.Waits[len(got.Waits)-1].Amount != 70 {
		t.Errorf("Loosened of %+v = %+v, %d", b, got, code)
	}
	b, _ = impl.Mended(b, "mia")
	if got, code := impl.Lent(b, "ann", "mia", 20); code != 0 || got.Mills[0] != (impl.Mill{Name: "mia", Stake: 90, Shares: 9, Cut: 10}) {
		t.Errorf("Lent of %+v = %+v, %d", b, got, code)
	}
	b, _ = impl.Punished(b, "mia", 100)
	b, _ = impl.Mended(b, "mia") // there are shares still, but they are worth nothing
	checkRefused(t, []refusal{{b, loan{"Lent", "ann", "mia", 20}, impl.MlWorthless}})
}

// A fine after a fine is of what the first one left.
func TestPunishedTwice(t *testing.T) {
	b, one := impl.Punished(court(100, 7, due(9, -9, 1)), "mia", 50)
	b, two := impl.Punished(b, "mia", 50)
	want := court(100, 7, due(3, -9, 1))
	want.Mills[0].Stake, want.Mills[0].Shut, want.Burnt, want.Supply = 25, true, 84, want.Supply+6
	if one != 0 || two != 0 || !alike(b, want) {
		t.Errorf("%+v, %d, %d; want %+v", b, one, two, want)
	}
}

// Many loans, releases and fines one after the other, in turns that follow a short rule: the book is what the chapters tell at each step.
func TestManyFines(t *testing.T) {
	for start, b := range []impl.Book{reopened(), packed(), holder(1000000, 500, 500), lender(900000, 7, 2000), {Supply: 800000, Folk: crowd(8, 100000), Mills: row(4, 0, 0)}} {
		done, next := 0, uint32(start)
		pick := func(n int) int {
			next = next*1664525 + 1013904223
			return int(next>>8) % n
		}
		for range 400 {
			who, mill := b.Folk[pick(len(b.Folk))], b.Mills[pick(len(b.Mills))].Name
			var d deed = loan{"Lent", who.Name, mill, int64(pick(int(who.Free/4 + 3)))}
			switch pick(6) {
			case 0:
				d = fine{"Punished", mill, int64(pick(12))}
			case 1, 2:
				d = fine{"Mended", mill, 0}
			case 3:
				d = release{"Loosened", who.Name, mill, int64(pick(int(sharesOf(b.Parts, who.Name, mill)/8 + 3)))}
			}
			checkDeed(t, d, b)
			if f, is := d.(fine); is {
				done += checkBurnt(t, f, b)
			}
			b, _ = d.of(b)
		}
		if done < 40 {
			t.Errorf("from start %d only %d were done", start, done)
		}
	}
}

// What is behind the lists is their spare room: nothing is written there, nor read.
func TestFinesAreNewMemoryAndBooksStay(t *testing.T) {
	wrong := []impl.Book{changed(func(b *impl.Book) { b.Supply++ }), changed(func(b *impl.Book) { b.Season = 1001 })}
	for _, b := range append(fineBooks(), wrong...) {
		_, mills := namesIn(b)
		for _, f := range finesFor(append(mills, "spare", ""), []int64{0, 1, 50, 100, 101}) {
			checkMemory(t, f, b)
		}
	}
}
