package tests

import (
	"slices"
	"testing"

	"loop.example/g00614/impl"
)

// turn is Turned: the next season.
type turn struct{}

func (turn) of(b impl.Book) (impl.Book, int64) {
	return impl.Turned(b)
}

// told is what the chapter tells of it, word by word.
func (turn) told(b impl.Book) (impl.Book, int64) {
	switch {
	case !bookOf(b):
		return impl.Book{}, impl.MlBad
	case b.Season == 1000:
		return copyOf(b), impl.MlFull
	}
	b = copyOf(b)
	b.Season++
	later, ripe := split(b.Waits, b.Season)
	for _, w := range ripe {
		b.Folk[purseAt(b, w.Who)].Free += w.Amount
	}
	b.Waits = later
	return b, impl.MlDone
}

// dueOf is what the chapter tells of DueIn, word by word.
func dueOf(b impl.Book, who string, season int64) int64 {
	if !bookOf(b) || purseAt(b, who) < 0 {
		return -1
	}
	return coins(those(b.Waits, func(w impl.Wait) bool { return w.Who == who && w.Ripe <= season }))
}

// clock is court in that season, with these waits.
func clock(season int64, waits ...impl.Wait) impl.Book {
	return inSeason(court(100, 7, waits), season)
}

// ripening are n waits that are Ripe by season, and behind them some that are Ripe a season later, 20 in all.
func ripening(n int, season int64) []impl.Wait {
	l := inTurn()
	for i := range l {
		if l[i].Ripe = season; i >= n {
			l[i].Ripe++
		}
	}
	return l
}

// seasonBooks are right books in which nothing waits, or little, or as much as there may be, in seasons from the first to the last one.
func seasonBooks() []impl.Book {
	l := append(earnBooks(), inSeason(crammed(), 999), inSeason(crammed(), 998), inSeason(crammed(), 0))
	for _, season := range []int64{0, 1, 2, 8, 997, 998, 999, 1000} {
		for _, n := range []int{0, 1, 10, 19, 20} {
			l = append(l, clock(season, ripening(n, min(season+1, 999))...))
		}
		l = append(l,
			clock(season),
			clock(season, inTurn()...),
			clock(season, ripening(7, max(season-1, 0))...), // some of it is Ripe already
			inSeason(allShut(), season),
			shutAt(clock(season, ripening(10, 3)...), 1),
			inSeason(allIn(0, 0, due(1000000)), season),
			inSeason(allIn(0, 0, due(1, 1, 1, 999997)), season),
		)
	}
	return l
}

func waitOf(who, mill string, amount, ripe int64) impl.Wait {
	return impl.Wait{Who: who, Mill: mill, Amount: amount, Ripe: ripe}
}

// checkTurned holds a season against numbers: what ann, bob and mia have more, and how many, the last ones, wait still.
func checkTurned(t *testing.T, b impl.Book, ann, bob, mia int64, left int) {
	t.Helper()
	want := copyOf(b)
	want.Season, want.Waits = b.Season+1, b.Waits[len(b.Waits)-left:]
	for i, more := range []int64{ann, bob, mia} {
		want.Folk[i].Free += more
		if got := impl.DueIn(b, b.Folk[i].Name, b.Season+1); got != more {
			t.Errorf("DueIn(%+v, %s, %d) = %d; want %d", b, b.Folk[i].Name, b.Season+1, got, more)
		}
	}
	if got, code := impl.Turned(b); code != 0 || !alike(got, want) || !impl.BookOk(got) {
		t.Errorf("Turned(%+v) = %+v, %d; want %+v", b, got, code, want)
	}
}

func TestTurned(t *testing.T) {
	ann := func(ripe int64) impl.Wait { return waitOf("ann", "mia", 9, ripe) }
	bob := func(ripe int64) impl.Wait { return waitOf("bob", "zoe", 7, ripe) }
	mia := func(ripe int64) impl.Wait { return waitOf("mia", "mia", 1, ripe) }
	checkTurned(t, clock(4), 0, 0, 0, 0)                                          // nothing waits
	checkTurned(t, clock(4, ann(5)), 9, 0, 0, 0)                                  // Ripe at the next season exactly
	checkTurned(t, clock(4, ann(6)), 0, 0, 0, 1)                                  // one season later
	checkTurned(t, clock(4, ann(7)), 0, 0, 0, 1)                                  // as what is Loosened now
	checkTurned(t, clock(4, ann(4)), 9, 0, 0, 0)                                  // it is Ripe already
	checkTurned(t, clock(4, ann(0)), 9, 0, 0, 0)                                  // for long
	checkTurned(t, clock(4, ann(1000)), 0, 0, 0, 1)                               // far away
	checkTurned(t, clock(0, bob(0)), 0, 7, 0, 0)                                  // in the first season
	checkTurned(t, clock(0, bob(1)), 0, 7, 0, 0)                                  // Ripe by the second one
	checkTurned(t, clock(0, bob(2)), 0, 0, 0, 1)                                  // and by the third
	checkTurned(t, clock(999, mia(1000)), 0, 0, 1, 0)                             // Ripe in the last one
	checkTurned(t, clock(998, mia(1000)), 0, 0, 0, 1)                             // which is not the next one
	checkTurned(t, clock(999, mia(999), bob(1000)), 0, 7, 1, 0)                   // both
	checkTurned(t, clock(999), 0, 0, 0, 0)                                        // one below MaxSeason, and nothing waits
	checkTurned(t, clock(4, ann(5), ann(6)), 9, 0, 0, 1)                          // one of two
	checkTurned(t, clock(4, ann(5), ann(5)), 18, 0, 0, 0)                         // the same twice
	checkTurned(t, clock(4, ann(5), waitOf("ann", "zoe", 3, 5)), 12, 0, 0, 0)     // of two mills
	checkTurned(t, clock(4, waitOf("ann", "zoe", 3, 3), ann(5)), 12, 0, 0, 0)     // at two seasons
	checkTurned(t, clock(4, ann(3), ann(4), ann(5), ann(6), ann(7)), 27, 0, 0, 2) // at several
	checkTurned(t, clock(4, bob(5), ann(5), ann(6)), 9, 7, 0, 1)                  // of two
	checkTurned(t, clock(4, mia(3), bob(4), ann(5)), 9, 7, 1, 0)                  // of each one
	checkTurned(t, clock(4, bob(6), ann(6), mia(6), ann(6)), 0, 0, 0, 4)          // they stay in their order
	checkTurned(t, clock(4, mia(5), bob(6), ann(6), bob(6), mia(9)), 0, 0, 1, 4)  // behind one that goes, too
	for at := range 2 {                                                           // whether a mill is Shut is not asked
		b := shutAt(clock(4, ann(4), bob(5), ann(6)), at)
		checkTurned(t, b, 9, 7, 0, 1)
		b.Mills[1-at].Shut = true
		checkTurned(t, b, 9, 7, 0, 1)
	}
}

// Of all seasons and of all that a wait may be Ripe at it is paid by that one, and no sooner.
func TestTurnedNoSooner(t *testing.T) {
	for _, from := range []int64{0, 490, 989} {
		for season := from; season <= from+10; season++ {
			for ripe := from; ripe <= from+11; ripe++ {
				w := waitOf("bob", "mia", 9, ripe)
				if ripe <= season+1 {
					checkTurned(t, clock(season, w), 0, 9, 0, 0)
				} else {
					checkTurned(t, clock(season, w), 0, 0, 0, 1)
				}
			}
		}
	}
}

func TestTurnedOfTwentyWaits(t *testing.T) {
	for n := range 21 {
		l := ripening(n, 5)
		more := map[string]int64{}
		for _, w := range l[:n] {
			more[w.Who] += w.Amount
		}
		checkTurned(t, clock(4, l...), more["ann"], more["bob"], more["mia"], 20-n)
		checkTurned(t, clock(5, l...), 265, 413, 454, 0) // a season later it is all of them
	}
}

func TestTurnedOfWhole(t *testing.T) {
	want := whole() // all of it is Ripe by 3
	want.Season, want.Waits = 3, nil
	want.Folk = []impl.Purse{{Name: "ann", Free: 10}, {Name: "bob", Free: 505}, {Name: "mia", Free: 9}, {Name: "tom"}}
	if got, code := impl.Turned(whole()); code != 0 || !alike(got, want) {
		t.Errorf("Turned = %+v, %d; want %+v", got, code, want)
	}
	want = inSeason(whole(), 2)
	want.Waits, want.Folk = want.Waits[1:], with(want.Folk, "bob", 504)
	if got, code := impl.Turned(inSeason(whole(), 1)); code != 0 || !alike(got, want) {
		t.Errorf("Turned from season 1 = %+v, %d; want %+v", got, code, want)
	}
	if got, code := impl.Turned(inSeason(whole(), 0)); code != 0 || !alike(got, inSeason(whole(), 1)) {
		t.Errorf("Turned from season 0 = %+v, %d", got, code)
	}
	if got, code := impl.Turned(impl.Book{}); code != 0 || !alike(got, impl.Book{Season: 1}) {
		t.Errorf("Turned of nothing = %+v, %d", got, code)
	}
}

// One has all the coins that there may be then, and another one none.
func TestTurnedUpToMaxAmount(t *testing.T) {
	for _, c := range []struct {
		book impl.Book
		who  int
	}{
		{allIn(0, 0, due(1000000)), 0},
		{allIn(0, 0, []impl.Wait{waitOf("bob", "mia", 999999, 0), waitOf("bob", "mia", 1, 5)}), 1},
		{allIn(0, 0, slices.Repeat([]impl.Wait{waitOf("mia", "mia", 50000, 5)}, 20)), 2},
		{inSeason(allIn(0, 0, due(1000000)), 999), 0},
	} {
		want := inSeason(copyOf(c.book), c.book.Season+1)
		want.Folk[c.who].Free, want.Waits = 1000000, nil
		if got, code := impl.Turned(c.book); code != 0 || !alike(got, want) {
			t.Errorf("Turned(%+v) = %+v, %d", c.book, got, code)
		}
	}
	b := clock(4, waitOf("bob", "mia", 1, 5)) // one has so much already
	b.Mills, b.Parts, b.Burnt, b.Pot = b.Mills[:1], nil, 0, 0
	b.Mills[0].Stake, b.Mills[0].Shares, b.Supply = 0, 0, 1000000
	b.Folk = []impl.Purse{{Name: "ann"}, {Name: "bob", Free: 999999}, {Name: "mia"}}
	checkTurned(t, b, 0, 1, 0, 0)
}

// Each season has a next one, but the last: MaxSeason is met exactly, and not passed.
func TestTurnedToTheLastSeason(t *testing.T) {
	for _, b := range []impl.Book{{}, inSeason(whole(), 0), clock(0, ripening(10, 999)...)} {
		for season := range int64(1000) {
			if code := checkDeed(t, turn{}, b); code != 0 {
				t.Fatalf("in season %d it is %d", season, code)
			}
			if b, _ = impl.Turned(b); b.Season != season+1 {
				t.Fatalf("season %d is followed by %d", season, b.Season)
			}
		}
		checkRefused(t, []refusal{{b, turn{}, impl.MlFull}})
	}
}

// There is no season behind the last one, whatever waits: it waits on.
func TestTurnedRefuses(t *testing.T) {
	var l []refusal
	for _, b := range seasonBooks() {
		l = append(l, refusal{inSeason(b, 1000), turn{}, impl.MlFull})
	}
	l = append(l,
		refusal{impl.Book{Season: 1000}, turn{}, impl.MlFull},
		refusal{crammed(), turn{}, impl.MlFull},
		refusal{inSeason(whole(), 1000), turn{}, impl.MlFull},            // all of it is Ripe
		refusal{clock(1000, ripening(20, 1000)...), turn{}, impl.MlFull}, // just now
		refusal{clock(1000), turn{}, impl.MlFull},
	)
	checkRefused(t, l)
}

// A book that is not right is MlBad, and -1, ahead of all else that is told: in the last season, too.
func TestSeasonOfWrongBooks(t *testing.T) {
	wrong := wrongBooks()
	for _, b := range slices.Concat(brokenLists(), untold()) {
		wrong = append(wrong, inSeason(b, 1000))
	}
	late := inSeason(whole(), 1000)
	late.Supply++
	for _, b := range append(wrong, late) {
		if got, code := impl.Turned(b); code != 7 || !alike(got, impl.Book{}) {
			t.Errorf("Turned(%+v) = %+v, %d", b, got, code)
		}
		for _, who := range []string{"", "ann", "bob", "mia", "tom", "zoe", "a", "Ann"} {
			for _, season := range seasons {
				if got := impl.DueIn(b, who, season); got != -1 {
					t.Errorf("DueIn(%+v, %q, %d) = %d", b, who, season, got)
				}
			}
		}
	}
}

func TestDueIn(t *testing.T) {
	several := clock(4,
		waitOf("ann", "mia", 1, 0), waitOf("bob", "mia", 2, 4), waitOf("ann", "zoe", 4, 5), waitOf("ann", "mia", 8, 5),
		waitOf("mia", "zoe", 16, 5), waitOf("ann", "zoe", 32, 6), waitOf("ann", "mia", 64, 1000))
	for _, c := range []struct {
		book   impl.Book
		who    string
		season int64
		want   int64
	}{
		{several, "ann", least, 0},
		{several, "ann", -1000, 0},
		{several, "ann", -1, 0}, // below 0
		{several, "ann", 0, 1},  // met exactly
		{several, "ann", 1, 1},
		{several, "ann", 4, 1}, // one less
		{several, "ann", 5, 13},
		{several, "ann", 6, 45},
		{several, "ann", 7, 45},
		{several, "ann", 999, 45},
		{several, "ann", 1000, 109},
		{several, "ann", 1001, 109}, // one more than there are
		{several, "ann", 1<<32 + 4, 109},
		{several, "ann", greatest, 109},
		{several, "bob", 3, 0},
		{several, "bob", 4, 2},
		{several, "bob", greatest, 2},
		{several, "bob", least, 0},
		{several, "mia", 4, 0}, // of whom there is a mill, too
		{several, "mia", 5, 16},
		{several, "zoe", 5, -1}, // a mill, but no purse
		{several, "zoe", -1, -1},
		{several, "zoe", least, -1},
		{several, "zoe", greatest, -1},
		{several, "tom", 5, -1},
		{several, "an", 5, -1},
		{several, "anna", 5, -1},
		{several, "", 5, -1}, // a text that is no name
		{several, "", -1, -1},
		{several, "Ann", 5, -1},
		{several, "ann ", 5, -1},
		{several, " ann", 5, -1},
		{several, "ann\x00", 5, -1},
		{several, "annannann", 5, -1},
		{several, "\xff", 5, -1},
		{clock(4), "ann", 1000, 0}, // nothing waits
		{clock(4), "ann", least, 0},
		{clock(4), "zoe", 1000, -1},
		{whole(), "bob", 1, 0},
		{whole(), "bob", 2, 4},
		{whole(), "bob", 3, 5},
		{whole(), "mia", 2, 0},
		{whole(), "mia", 3, 9},
		{whole(), "tom", 1000, 0}, // a purse for which nothing waits
		{whole(), "ann", 1000, 0},
		{inSeason(whole(), 0), "bob", 2, 4}, // which season it is is not asked
		{inSeason(whole(), 1000), "bob", 2, 4},
		{inSeason(whole(), 1000), "bob", 1, 0},
		{shutAt(whole(), 0), "bob", 2, 4}, // nor whether the mill is Shut
		{allShut(), "mia", 3, 9},
		{crammed(), "h", 999, 0},
		{crammed(), "h", 1000, 999970},
		{crammed(), "h", greatest, 999970},
		{crammed(), "a", 1000, 0},
		{crammed(), "i", 1000, -1},
		{allIn(0, 0, due(1000000)), "ann", 0, 1000000},
		{impl.Book{}, "ann", 5, -1}, // nobody is there
		{impl.Book{}, "", 5, -1},
	} {
		if got := impl.DueIn(c.book, c.who, c.season); got != c.want {
			t.Errorf("DueIn(%+v, %q, %d) = %d; want %d", c.book, c.who, c.season, got, c.want)
		}
	}
}

func TestSeasonOfAllBooks(t *testing.T) {
	seen := map[int64]int{}
	for _, b := range seasonBooks() {
		if !bookOf(b) {
			t.Fatalf("%+v is not right", b)
		}
		seen[checkDeed(t, turn{}, b)]++
		asks := slices.Concat(seasons, []int64{b.Season - 1, b.Season, b.Season + 1, b.Season + 2, b.Season + 3})
		for _, who := range askedOfBooks {
			for _, season := range asks {
				if got, want := impl.DueIn(b, who, season), dueOf(b, who, season); got != want {
					t.Errorf("DueIn(%+v, %q, %d) = %d; want %d", b, who, season, got, want)
				}
			}
		}
	}
	if len(seen) != 2 || seen[impl.MlDone] < 100 || seen[impl.MlFull] < 10 {
		t.Error(seen)
	}
}

// checkRipe holds a season against promise 14, and tells how many were paid.
func checkRipe(t *testing.T, b impl.Book) int {
	t.Helper()
	got, code := impl.Turned(b)
	if code != impl.MlDone {
		if !alike(got, b) || b.Season != 1000 {
			t.Errorf("Turned(%+v) = %+v, %d", b, got, code)
		}
		return 0
	}
	later, ripe := impl.RipeAt(b.Waits, b.Season+1)
	if !slices.Equal(got.Waits, later) || len(got.Folk) != len(b.Folk) {
		t.Errorf("Turned(%+v): %+v waits", b, got.Waits)
	}
	paid := int64(0)
	for i, p := range b.Folk {
		more := got.Folk[i].Free - p.Free
		if more != impl.DueIn(b, p.Name, b.Season+1) || more != impl.AmountIn(impl.WaitsFor(ripe, p.Name)) || impl.DueIn(got, p.Name, got.Season) != 0 {
			t.Errorf("Turned(%+v): %s is paid %d", b, p.Name, more)
		}
		if impl.WorthIn(b, p.Name) != impl.WorthIn(got, p.Name) {
			t.Errorf("Turned(%+v): %s had %d and has %d", b, p.Name, impl.WorthIn(b, p.Name), impl.WorthIn(got, p.Name))
		}
		paid += more
	}
	if paid != impl.AmountIn(ripe) || got.Supply != b.Supply || impl.Total(got) != b.Supply || !impl.BookOk(got) {
		t.Errorf("Turned(%+v) = %+v: %d are paid of %+v", b, got, paid, ripe)
	}
	back := copyOf(got) // all that may change is put back, and then nothing has
	back.Season, back.Waits = b.Season, b.Waits
	for i, p := range b.Folk {
		back.Folk[i].Free = p.Free
	}
	if !alike(back, b) {
		t.Errorf("Turned changes more of %+v: %+v", b, got)
	}
	return len(ripe)
}

func TestWhatIsRipeIsPaid(t *testing.T) {
	paid := 0
	for _, b := range seasonBooks() {
		for range 8 {
			paid += checkRipe(t, b)
			b, _ = impl.Turned(b)
		}
	}
	if paid < 1000 {
		t.Errorf("only %d were paid", paid)
	}
}

// What is Loosened is paid by three calls of Turned, and not by two.
func TestLoosenedIsPaidInThreeSeasons(t *testing.T) {
	for season := range int64(998) {
		b, code := impl.Loosened(inSeason(holder(60, 30, 30), season), "ann", "mia", 10)
		if code != 0 || impl.DueIn(b, "ann", season+2) != 0 || impl.DueIn(b, "ann", season+3) != 10 {
			t.Fatalf("Loosened in season %d: %+v, %d", season, b, code)
		}
		for turns := range int64(3) {
			if b.Folk[0].Free != 0 || len(b.Waits) != 1 {
				t.Errorf("from season %d it is paid by %d: %+v", season, turns, b)
			}
			b, _ = impl.Turned(b)
		}
		want := inSeason(holder(50, 20, 30), season+3)
		want.Supply, want.Folk[0].Free = 60, 10
		if !alike(b, want) {
			t.Errorf("from season %d it is %+v; want %+v", season, b, want)
		}
	}
}

// checkPaidInThree lets all of one in a mill be Loosened, and then three seasons go by, and counts it: that one has it then and not sooner, beside what waited for it already.
func checkPaidInThree(t *testing.T, b impl.Book, who, mill string) int {
	t.Helper()
	got, code := impl.AllOut(b, who, mill)
	if code != impl.MlDone {
		return 0
	}
	worth := impl.AmountIn(got.Waits) - impl.AmountIn(b.Waits)
	for turns := int64(1); turns <= 3; turns++ {
		got, code = impl.Turned(got)
		want := impl.FreeOf(b.Folk, who) + dueOf(b, who, b.Season+turns)
		if turns == 3 {
			want += worth
		}
		if code != impl.MlDone || impl.FreeOf(got.Folk, who) != want {
			t.Errorf("AllOut(%+v, %s, %s) and %d seasons: %+v, %d; want %d", b, who, mill, turns, got, code, want)
		}
	}
	return 1
}

func TestLoosenedOfAllBooksIsPaidInThreeSeasons(t *testing.T) {
	done := 0
	for _, b := range loosenBooks() {
		for _, p := range b.Parts {
			if b.Season <= 997 {
				done += checkPaidInThree(t, b, p.Who, p.Mill)
			}
		}
	}
	if done < 60 {
		t.Errorf("only %d were done", done)
	}
}

// What is fined while it waits is paid without that, and a mill that is Shut by then pays all the same.
func TestTurnedAfterAFine(t *testing.T) {
	b, _ := impl.Loosened(holder(60, 30, 30), "ann", "mia", 10)
	b, _ = impl.Turned(b)
	b, _ = impl.Punished(b, "mia", 25)
	b, _ = impl.Turned(b)
	b, code := impl.Turned(b)
	want := inSeason(holder(38, 20, 30), 7) // 12 of 50, and 2 of 10
	want.Supply, want.Burnt, want.Folk[0].Free, want.Mills[0].Shut = 60, 14, 8, true
	if code != 0 || !alike(b, want) {
		t.Errorf("%+v, %d; want %+v", b, code, want)
	}
	b, _ = impl.Loosened(holder(60, 30, 30), "ann", "mia", 10)
	b, _ = impl.Punished(b, "mia", 100) // nothing waits any more
	if got := impl.DueIn(b, "ann", 7); got != 0 {
		t.Errorf("DueIn(%+v, ann, 7) = %d", b, got)
	}
}

// What is paid makes room for what waits next.
func TestTurnedMakesRoom(t *testing.T) {
	b := inSeason(lined(20, 5), 4)
	r := release{"Loosened", "ann", "mia", 7}
	checkRefused(t, []refusal{{b, r, impl.MlFull}})
	b, _ = impl.Turned(b)
	b, code := r.of(b)
	want := inSeason(holder(53, 23, 30), 5)
	want.Supply, want.Folk[2].Free, want.Waits = 80, 20, []impl.Wait{waitOf("ann", "mia", 7, 8)}
	if code != 0 || !alike(b, want) {
		t.Errorf("%+v, %d; want %+v", b, code, want)
	}
}

// Many deeds one after the other, in turns that follow a short rule: the book is what the chapters tell at each step.
func TestManySeasons(t *testing.T) {
	for start, b := range []impl.Book{reopened(), packed(), holder(1000000, 500, 500), lender(900000, 7, 2000), {Supply: 800000, Folk: crowd(8, 100000), Mills: row(4, 0, 0)}} {
		paid, next := 0, uint32(start)
		pick := func(n int) int {
			next = next*1664525 + 1013904223
			return int(next>>8) % n
		}
		for range 600 {
			who, mill := b.Folk[pick(len(b.Folk))], b.Mills[pick(len(b.Mills))].Name
			var d deed = turn{}
			switch pick(8) {
			case 0:
				d = fine{"Punished", mill, int64(pick(12))}
			case 1:
				d = fine{"Mended", mill, 0}
			case 2, 3:
				d = release{"Loosened", who.Name, mill, int64(pick(int(sharesOf(b.Parts, who.Name, mill)/8 + 3)))}
			case 4, 5:
				d = loan{"Lent", who.Name, mill, int64(pick(int(who.Free/4 + 3)))}
			case 6:
				d = gain{mill, int64(pick(400) - 20)}
			}
			checkDeed(t, d, b)
			paid += checkRipe(t, b)
			b, _ = d.of(b)
		}
		if paid < 40 {
			t.Errorf("from start %d only %d were paid", start, paid)
		}
	}
}

// What is behind the lists is their spare room: nothing is written there, nor read.
func TestSeasonIsNewMemoryAndBooksStay(t *testing.T) {
	wrong := []impl.Book{changed(func(b *impl.Book) { b.Supply++ }), changed(func(b *impl.Book) { b.Season = 1001 })}
	for _, b := range append(seasonBooks(), wrong...) {
		checkMemory(t, turn{}, b)
		tight, full := roomy(b)
		given := copyOf(full)
		folk, _ := namesIn(b)
		for _, who := range append(folk, "spare", "") {
			for _, season := range []int64{least, b.Season, b.Season + 1, greatest} {
				if got := impl.DueIn(tight, who, season); got != dueOf(b, who, season) || !alike(full, given) {
					t.Fatalf("DueIn(%+v, %q, %d) = %d, and leaves %+v", b, who, season, got, full)
				}
			}
		}
	}
}
