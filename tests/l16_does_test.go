package tests

import (
	"slices"
	"strings"
	"testing"

	"loop.example/g00614/impl"
)

// doing is a deed that is done by Does.
type doing struct{ impl.Deed }

func (d doing) of(b impl.Book) (impl.Book, int64) {
	return impl.Does(b, d.Deed)
}

// told is what the chapter tells of it: what is told of the call of its own chapter.
func (d doing) told(b impl.Book) (impl.Book, int64) {
	switch {
	case !bookOf(b):
		return impl.Book{}, impl.MlBad
	case shownOf(d.Deed) == "":
		return copyOf(b), impl.MlBad
	}
	return callOf(d.Deed).told(b)
}

// callOf is the call of the deed's own chapter.
func callOf(d impl.Deed) deed {
	switch d.Kind {
	case impl.DdOpen:
		return ask{"Opened", d.Mill, d.N}
	case impl.DdJoin:
		return ask{"Joined", d.Who, 0}
	case impl.DdCut:
		return ask{"Recut", d.Mill, d.N}
	case impl.DdLend:
		return loan{"Lent", d.Who, d.Mill, d.N}
	case impl.DdLoosen:
		return release{"Loosened", d.Who, d.Mill, d.N}
	case impl.DdShift:
		return shift{d.Who, d.Mill, d.To, d.N}
	case impl.DdFine:
		return fine{"Punished", d.Mill, d.N}
	case impl.DdMend:
		return fine{"Mended", d.Mill, 0}
	case impl.DdEarn:
		return gain{d.Mill, d.N}
	case impl.DdGive:
		return loan{"Given", d.Who, d.To, d.N}
	}
	return turn{}
}

// doesAllOf is what the chapter tells of DoesAll, and of DoneOf, word by word.
func doesAllOf(b impl.Book, l []impl.Deed) (book impl.Book, codes []int64, done []impl.Deed) {
	if !bookOf(b) || len(l) > 300 {
		return impl.Book{}, nil, nil
	}
	for _, d := range l {
		next, code := doing{d}.told(b)
		if b, codes = next, append(codes, code); code == impl.MlDone {
			done = append(done, d)
		}
	}
	return b, codes, done
}

// checkDone holds a deed against what is told, and against the call of its own chapter.
func checkDone(t *testing.T, d impl.Deed, b impl.Book) int64 {
	t.Helper()
	code := checkDeed(t, doing{d}, b)
	if !impl.DeedOk(d) {
		return code
	}
	got, _ := impl.Does(b, d)
	if want, own := callOf(d).of(b); code != own || !alike(got, want) {
		t.Errorf("Does(%+v, %q) = %+v, %d; its own chapter's call is %+v, %d", b, shownOf(d), got, code, want, own)
	}
	return code
}

// checkAll holds many deeds against what is told, and against promise 16. It answers the codes.
func checkAll(t *testing.T, b impl.Book, l []impl.Deed) []int64 {
	t.Helper()
	book, codes := impl.DoesAll(b, l)
	done := impl.DoneOf(b, l)
	wantBook, wantCodes, wantDone := doesAllOf(b, l)
	if !alike(book, wantBook) || !slices.Equal(codes, wantCodes) {
		t.Fatalf("DoesAll(%+v, %d deeds) = %+v, %d; want %+v, %d", b, len(l), book, codes, wantBook, wantCodes)
	}
	if !slices.Equal(done, wantDone) {
		t.Fatalf("DoneOf(%+v, %d deeds) = %+v; want %+v", b, len(l), done, wantDone)
	}
	again, all := impl.DoesAll(b, done) // these alone make the same book
	if bookOf(b) && len(l) <= 300 && (!alike(again, book) || !slices.Equal(all, make([]int64, len(done)))) {
		t.Fatalf("DoesAll(%+v, of %d deeds those %d that were done) = %+v, %d; want %+v", b, len(l), len(done), again, all, book)
	}
	if !slices.Equal(impl.DoneOf(b, done), done) {
		t.Fatalf("DoneOf(%+v, %d deeds that were done) are others", b, len(done))
	}
	return codes
}

// written are the deeds of these texts, with ; between.
func written(t *testing.T, s string) []impl.Deed {
	t.Helper()
	var l []impl.Deed
	for _, text := range strings.Split(s, ";") {
		d, is := readOf(text)
		if !is {
			t.Fatalf("%q is no deed", text)
		}
		l = append(l, d)
	}
	return l
}

// town is a book in which a deed of each kind can be done.
func town() impl.Book {
	return impl.Book{
		Season: 4,
		Supply: 1720,
		Burnt:  3,
		Pot:    1,
		Folk:   []impl.Purse{{Name: "ann", Free: 1000}, {Name: "bob", Free: 500}, {Name: "mia", Free: 100}},
		Mills:  []impl.Mill{{Name: "ann", Stake: 60, Shares: 30, Cut: 50}, {Name: "mia", Stake: 40, Shares: 20, Cut: 10}},
		Parts:  []impl.Part{{Who: "ann", Mill: "mia", Shares: 5}, {Who: "bob", Mill: "ann", Shares: 30}, {Who: "bob", Mill: "mia", Shares: 15}},
		Waits:  []impl.Wait{{Who: "ann", Mill: "mia", Amount: 9, Ripe: 5}, {Who: "bob", Mill: "ann", Amount: 7, Ripe: 6}},
	}
}

func TestDoesOfEachKind(t *testing.T) {
	shut := shutAt(town(), 1)
	seen := map[int64]bool{}
	for _, c := range []struct {
		text   string
		book   impl.Book
		change func(b *impl.Book)
	}{
		{"open bob 20", town(), func(b *impl.Book) { b.Mills = slices.Insert(b.Mills, 1, impl.Mill{Name: "bob", Cut: 20}) }},
		{"open bob 0", town(), func(b *impl.Book) { b.Mills = slices.Insert(b.Mills, 1, impl.Mill{Name: "bob"}) }},
		{"join zed", town(), func(b *impl.Book) { b.Folk = append(b.Folk, impl.Purse{Name: "zed"}) }},
		{"join abe", town(), func(b *impl.Book) { b.Folk = slices.Insert(b.Folk, 0, impl.Purse{Name: "abe"}) }},
		{"cut mia 5", town(), func(b *impl.Book) { b.Mills[1].Cut = 5 }},
		{"cut ann 0", town(), func(b *impl.Book) { b.Mills[0].Cut = 0 }},
		{"cut mia 10", town(), func(*impl.Book) {}}, // it is done, and nothing is another one
		{"lend bob mia 40", town(), func(b *impl.Book) {
			b.Folk[1].Free, b.Mills[1].Stake, b.Mills[1].Shares, b.Parts[2].Shares = 460, 80, 40, 35
		}},
		{"lend mia ann 2", town(), func(b *impl.Book) {
			b.Folk[2].Free, b.Mills[0].Stake, b.Mills[0].Shares = 98, 62, 31
			b.Parts = append(b.Parts, impl.Part{Who: "mia", Mill: "ann", Shares: 1})
		}},
		{"loosen bob mia 5", town(), func(b *impl.Book) {
			b.Mills[1].Stake, b.Mills[1].Shares, b.Parts[2].Shares = 30, 15, 10
			b.Waits = append(b.Waits, waitOf("bob", "mia", 10, 7))
		}},
		{"loosen bob ann 30", shut, func(b *impl.Book) {
			b.Mills[0].Stake, b.Mills[0].Shares = 0, 0
			b.Parts, b.Waits = slices.Delete(b.Parts, 1, 2), append(b.Waits, waitOf("bob", "ann", 60, 7))
		}},
		{"shift bob mia ann 5", shut, func(b *impl.Book) {
			b.Mills[0].Stake, b.Mills[0].Shares, b.Mills[1].Stake, b.Mills[1].Shares = 70, 35, 30, 15
			b.Parts[1].Shares, b.Parts[2].Shares = 35, 10
		}},
		{"shift bob ann mia 30", town(), func(b *impl.Book) {
			b.Mills[0].Stake, b.Mills[0].Shares, b.Mills[1].Stake, b.Mills[1].Shares = 0, 0, 100, 50
			b.Parts = slices.Delete(b.Parts, 1, 2)
			b.Parts[1].Shares = 45
		}},
		{"fine mia 50", town(), func(b *impl.Book) {
			b.Mills[1].Stake, b.Mills[1].Shut, b.Waits[0].Amount, b.Burnt = 20, true, 5, 27
		}},
		{"fine ann 100", town(), func(b *impl.Book) {
			b.Mills[0].Stake, b.Mills[0].Shut, b.Waits, b.Burnt = 0, true, b.Waits[:1], 70
		}},
		{"mend mia", shut, func(b *impl.Book) { b.Mills[1].Shut = false }},
		{"earn mia 99", town(), func(b *impl.Book) { b.Folk[2].Free, b.Mills[1].Stake, b.Supply = 109, 130, 1819 }},
		{"earn ann 998280", town(), func(b *impl.Book) { b.Folk[0].Free, b.Mills[0].Stake, b.Supply = 500140, 499200, 1000000 }},
		{"give ann bob 3", town(), func(b *impl.Book) { b.Folk[0].Free, b.Folk[1].Free = 997, 503 }},
		{"give mia ann 100", town(), func(b *impl.Book) { b.Folk[2].Free, b.Folk[0].Free = 0, 1100 }},
		{"season", town(), func(b *impl.Book) { b.Season, b.Folk[0].Free, b.Waits = 5, 1009, b.Waits[1:] }},
		{"season", inSeason(town(), 999), func(b *impl.Book) { b.Season, b.Folk[0].Free, b.Folk[1].Free, b.Waits = 1000, 1009, 507, nil }},
	} {
		want := copyOf(c.book)
		c.change(&want)
		d := written(t, c.text)[0]
		if got, code := impl.Does(c.book, d); code != 0 || !alike(got, want) || !impl.BookOk(got) {
			t.Errorf("Does(%+v, %q) = %+v, %d; want %+v", c.book, c.text, got, code, want)
		}
		if got, codes := impl.DoesAll(c.book, []impl.Deed{d}); !slices.Equal(codes, []int64{0}) || !alike(got, want) {
			t.Errorf("DoesAll(%+v, %q) = %+v, %d; want %+v", c.book, c.text, got, codes, want)
		}
		if got := impl.DoneOf(c.book, []impl.Deed{d}); !slices.Equal(got, []impl.Deed{d}) {
			t.Errorf("DoneOf(%+v, %q) = %+v", c.book, c.text, got)
		}
		checkDone(t, d, c.book)
		seen[d.Kind] = true
	}
	if len(seen) != 11 {
		t.Errorf("%d kinds are seen", len(seen))
	}
}

func TestDoesRefusesEachKind(t *testing.T) {
	shut := shutAt(town(), 1)
	full := packed()                     // of folk, of mills and of parts
	long := clock(4, ripening(20, 9)...) // of what waits
	seen := map[int64]bool{}
	for _, c := range []struct {
		text string
		book impl.Book
		code int64
	}{
		{"open zed 20", town(), impl.MlNone},
		{"open zed 101", town(), impl.MlBad}, // which is named first
		{"open ann 20", town(), impl.MlThere},
		{"open bob 101", town(), impl.MlBad},
		{"open bob 999999999", town(), impl.MlBad},
		{"open e 20", full, impl.MlFull},
		{"join ann", town(), impl.MlThere},
		{"join zed", full, impl.MlFull},
		{"join h", full, impl.MlThere},
		{"cut bob 0", town(), impl.MlNone},
		{"cut mia 11", town(), impl.MlBad},
		{"cut mia 999999999", town(), impl.MlBad},
		{"lend zed mia 40", town(), impl.MlNone},
		{"lend bob bob 40", town(), impl.MlNone},
		{"lend bob mia 0", town(), impl.MlBad},
		{"lend bob mia 40", shut, impl.MlShut},
		{"lend bob mia 501", town(), impl.MlShort},
		{"lend bob mia 999999999", town(), impl.MlShort},
		{"lend bob mia 1", town(), impl.MlWorthless},
		{"lend h a 1", packedBut(func(b *impl.Book) { b.Mills[0].Stake, b.Pot = 12, 48 }), impl.MlFull},
		{"loosen zed mia 1", town(), impl.MlNone},
		{"loosen bob bob 1", town(), impl.MlNone},
		{"loosen bob mia 0", town(), impl.MlBad},
		{"loosen bob mia 16", town(), impl.MlShort},
		{"loosen mia mia 1", town(), impl.MlShort},
		{"loosen bob mia 999999999", town(), impl.MlShort},
		{"loosen bob mia 1", long, impl.MlFull},
		{"loosen bob mia 15", inSeason(town(), 998), impl.MlFull}, // past MaxSeason
		{"shift zed mia ann 1", town(), impl.MlNone},
		{"shift bob mia bob 1", town(), impl.MlNone},
		{"shift bob bob mia 1", town(), impl.MlNone},
		{"shift bob mia ann 0", town(), impl.MlBad},
		{"shift bob mia mia 5", town(), impl.MlBad},
		{"shift bob mia ann 16", town(), impl.MlShort},
		{"shift bob mia ann 999999999", town(), impl.MlShort},
		{"shift bob ann mia 1", shut, impl.MlShut},
		{"shift ann mia ann 5", packedBut(func(b *impl.Book) { *b = town(); b.Mills[1].Stake, b.Pot = 0, 41 }), impl.MlWorthless},
		{"shift f a b 1", full, impl.MlFull},
		{"fine bob 50", town(), impl.MlNone},
		{"fine mia 0", town(), impl.MlBad},
		{"fine mia 101", town(), impl.MlBad},
		{"fine mia 999999999", town(), impl.MlBad},
		{"mend bob", shut, impl.MlNone},
		{"mend mia", town(), impl.MlThere},
		{"mend ann", shut, impl.MlThere},
		{"earn bob 99", town(), impl.MlNone},
		{"earn mia 0", town(), impl.MlBad},
		{"earn mia 99", shut, impl.MlShut},
		{"earn mia 998281", town(), impl.MlFull}, // 1000001 in all
		{"earn mia 999999999", town(), impl.MlFull},
		{"earn zoe 1", whole(), impl.MlFull}, // no purse
		{"give zed ann 3", town(), impl.MlNone},
		{"give ann zed 3", town(), impl.MlNone},
		{"give ann ann 3", town(), impl.MlBad},
		{"give ann bob 0", town(), impl.MlBad},
		{"give ann bob 1001", town(), impl.MlShort},
		{"give ann bob 999999999", town(), impl.MlShort},
		{"season", inSeason(town(), 1000), impl.MlFull},
	} {
		d := written(t, c.text)[0]
		checkRefused(t, []refusal{{c.book, doing{d}, c.code}, {c.book, callOf(d), c.code}})
		if got, codes := impl.DoesAll(c.book, []impl.Deed{d}); !slices.Equal(codes, []int64{c.code}) || !alike(got, c.book) {
			t.Errorf("DoesAll(%+v, %q) = %+v, %d", c.book, c.text, got, codes)
		}
		if got := impl.DoneOf(c.book, []impl.Deed{d}); len(got) != 0 {
			t.Errorf("DoneOf(%+v, %q) = %+v", c.book, c.text, got)
		}
		checkDone(t, d, c.book)
		seen[d.Kind] = true
	}
	if len(seen) != 11 {
		t.Errorf("%d kinds are seen", len(seen))
	}
}

// wrongDeeds are not right, each for one reason.
func wrongDeeds() []impl.Deed {
	var l []impl.Deed
	for _, kind := range []int64{least, -11, -1, 0, 12, 13, 256, 257, 1<<32 + 2, 1<<32 + 11, greatest} {
		l = append(l, impl.Deed{Kind: kind})
		for _, c := range ordinary {
			c.deed.Kind = kind
			l = append(l, c.deed)
		}
	}
	for kind := int64(1); kind <= 11; kind++ {
		for part, list := range map[string][]string{
			"WHO":  {"", "ann", "Ann", "abcdefg", "ann "},
			"MILL": {"", "mia", "Mia", "abcdefg", " mia"},
			"TO":   {"", "bob", "Bob", "abcdefg", "b b"},
			"N":    {"7", "-1", "1000000000", "4294967303", "-9223372036854775808", "9223372036854775807"},
		} {
			for _, word := range list {
				if d := altered(plain(kind), part, word); shownOf(d) == "" {
					l = append(l, d)
				}
			}
		}
	}
	return l
}

// A deed that is not right is MlBad, whatever else there is to refuse, or could be done.
func TestDoesOfWrongDeeds(t *testing.T) {
	wrong := wrongDeeds()
	if len(wrong) < 400 {
		t.Fatalf("only %d are wrong", len(wrong))
	}
	for _, b := range []impl.Book{{}, town(), whole(), crammed(), packed(), inSeason(town(), 1000), {Folk: crowd(3, 0)}} {
		for _, d := range wrong {
			checkRefused(t, []refusal{{b, doing{d}, 7}})
			if got, codes := impl.DoesAll(b, []impl.Deed{d}); !alike(got, b) || !slices.Equal(codes, []int64{7}) || len(impl.DoneOf(b, []impl.Deed{d})) != 0 {
				t.Errorf("DoesAll(%+v, %+v) = %+v, %d", b, d, got, codes)
			}
		}
	}
}

// Each deed with a Kind of 0, 1, 11 and 12, and each one between.
func TestDoesOfKinds(t *testing.T) {
	for kind := int64(-1); kind <= 13; kind++ {
		for _, c := range ordinary {
			d := c.deed
			d.Kind = kind
			for _, b := range []impl.Book{town(), whole(), shutAt(town(), 1)} {
				checkDone(t, d, b)
			}
		}
	}
}

// A book that is not right is the zero Book and MlBad, and of many deeds nothing, ahead of all else that is told.
func TestDoesOfWrongBooks(t *testing.T) {
	deeds := []impl.Deed{{}, {Kind: 12}, {Kind: impl.DdSeason, N: 1}, {Kind: impl.DdJoin, Who: "Zed"}}
	for _, c := range ordinary {
		deeds = append(deeds, c.deed)
	}
	for _, b := range append(wrongBooks(), inSeason(whole(), 1001), inSeason(whole(), -1)) {
		for _, d := range deeds {
			if got, code := impl.Does(b, d); code != 7 || !alike(got, impl.Book{}) {
				t.Errorf("Does(%+v, %+v) = %+v, %d", b, d, got, code)
			}
		}
		for _, l := range [][]impl.Deed{nil, {}, deeds[:1], deeds[26:], deeds, slices.Repeat(deeds[26:], 300), slices.Repeat(deeds[26:], 301)} {
			if got, codes := impl.DoesAll(b, l); len(codes) != 0 || !alike(got, impl.Book{}) {
				t.Errorf("DoesAll(%+v, %d deeds) = %+v, %d", b, len(l), got, codes)
			}
			if got := impl.DoneOf(b, l); len(got) != 0 {
				t.Errorf("DoneOf(%+v, %d deeds) = %+v", b, len(l), got)
			}
		}
	}
}

func TestDoesAll(t *testing.T) {
	l := written(t, "lend ann mia 40;lend ann mia 961;season;loosen bob mia 15;loosen bob mia 1;fine mia 50;earn mia 9;mend mia;earn mia 9;give bob zed 1;join zed;give bob zed 1;season;season")
	want := impl.Book{
		Season: 7,
		Supply: 1729,
		Burnt:  43, // 40: 25 of 50, 15 of 30
		Pot:    1,
		Folk:   []impl.Purse{{Name: "ann", Free: 969}, {Name: "bob", Free: 506}, {Name: "mia", Free: 100}, {Name: "zed", Free: 1}},
		Mills:  []impl.Mill{{Name: "ann", Stake: 60, Shares: 30, Cut: 50}, {Name: "mia", Stake: 34, Shares: 25, Cut: 10}},
		Parts:  []impl.Part{{Who: "ann", Mill: "mia", Shares: 25}, {Who: "bob", Mill: "ann", Shares: 30}},
		Waits:  []impl.Wait{{Who: "bob", Mill: "mia", Amount: 15, Ripe: 8}},
	}
	wantCodes := []int64{0, impl.MlShort, 0, 0, impl.MlShort, 0, impl.MlShut, 0, 0, impl.MlNone, 0, 0, 0, 0}
	got, codes := impl.DoesAll(town(), l)
	if !alike(got, want) || !slices.Equal(codes, wantCodes) || !impl.BookOk(got) {
		t.Errorf("DoesAll = %+v, %d; want %+v, %d", got, codes, want, wantCodes)
	}
	done := written(t, "lend ann mia 40;season;loosen bob mia 15;fine mia 50;mend mia;earn mia 9;join zed;give bob zed 1;season;season")
	if got := impl.DoneOf(town(), l); !slices.Equal(got, done) {
		t.Errorf("DoneOf = %+v; want %+v", got, done)
	}
	checkAll(t, town(), l)
}

// In another order it is another book.
func TestDoesAllTheOtherWayRound(t *testing.T) {
	l := written(t, "season;season;give bob zed 1;join zed;give bob zed 1;earn mia 9;mend mia;earn mia 9;fine mia 50;loosen bob mia 1;loosen bob mia 15;season;lend ann mia 961;lend ann mia 40")
	want := impl.Book{
		Season: 7,
		Supply: 1738,
		Burnt:  32,
		Pot:    1,
		Folk:   []impl.Purse{{Name: "ann", Free: 1009}, {Name: "bob", Free: 506}, {Name: "mia", Free: 100}, {Name: "zed", Free: 1}},
		Mills:  []impl.Mill{{Name: "ann", Stake: 60, Shares: 30, Cut: 50}, {Name: "mia", Stake: 28, Shares: 19, Cut: 10, Shut: true}},
		Parts:  []impl.Part{{Who: "ann", Mill: "mia", Shares: 5}, {Who: "bob", Mill: "ann", Shares: 30}, {Who: "bob", Mill: "mia", Shares: 14}},
		Waits:  []impl.Wait{{Who: "bob", Mill: "mia", Amount: 1, Ripe: 9}},
	}
	wantCodes := []int64{0, 0, impl.MlNone, 0, 0, 0, impl.MlThere, 0, 0, 0, impl.MlShort, 0, impl.MlShut, impl.MlShut}
	if got, codes := impl.DoesAll(town(), l); !alike(got, want) || !slices.Equal(codes, wantCodes) {
		t.Errorf("DoesAll = %+v, %d; want %+v, %d", got, codes, want, wantCodes)
	}
	checkAll(t, town(), l)
}

// Of no deeds the book is as it is, and there are no codes.
func TestDoesAllOfNoDeeds(t *testing.T) {
	for _, b := range seasonBooks() {
		for _, l := range [][]impl.Deed{nil, {}, make([]impl.Deed, 0, 5)} {
			if got, codes := impl.DoesAll(b, l); !alike(got, b) || len(codes) != 0 {
				t.Errorf("DoesAll(%+v, nothing) = %+v, %d", b, got, codes)
			}
			if got := impl.DoneOf(b, l); len(got) != 0 {
				t.Errorf("DoneOf(%+v, nothing) = %+v", b, got)
			}
		}
	}
}

// 300 deeds are done, and of 301 none is, whatever they are.
func TestDoesAllOfEachCount(t *testing.T) {
	season, none := impl.Deed{Kind: impl.DdSeason}, impl.Deed{}
	for _, n := range []int{0, 1, 2, 20, 21, 255, 256, 257, 298, 299, 300, 301, 302, 512, 600, 1000, 65536, 65836} {
		for _, d := range []impl.Deed{season, none, {Kind: impl.DdEarn, Mill: "mia", N: 1}, {Kind: impl.DdMend, Mill: "mia"}, {Kind: impl.DdJoin, Who: "zed"}} {
			l := slices.Repeat([]impl.Deed{d}, n)
			book, codes := impl.DoesAll(town(), l)
			done := impl.DoneOf(town(), l)
			if n > 300 {
				if !alike(book, impl.Book{}) || len(codes) != 0 || len(done) != 0 {
					t.Errorf("DoesAll of %d times %+v = %+v, %d", n, d, book, codes)
				}
				continue
			}
			if len(codes) != n || !impl.BookOk(book) {
				t.Errorf("DoesAll of %d times %+v = %+v, %d", n, d, book, codes)
			}
			checkAll(t, town(), l)
		}
	}
	for _, n := range []int{299, 300} {
		l := slices.Repeat([]impl.Deed{season}, n)
		if got, _ := impl.DoesAll(town(), l); got.Season != 4+int64(n) || len(impl.DoneOf(town(), l)) != n {
			t.Errorf("of %d seasons it is %+v", n, got)
		}
	}
	b := impl.Book{Season: 900}
	got, codes := impl.DoesAll(b, slices.Repeat([]impl.Deed{season}, 300))
	want := slices.Concat(make([]int64, 100), slices.Repeat([]int64{impl.MlFull}, 200))
	if got.Season != 1000 || !slices.Equal(codes, want) {
		t.Errorf("DoesAll of 300 seasons from 900 on = %+v, %d", got, codes)
	}
}

// Some are not right, at each place: MlBad for each of them while the others are done.
func TestDoesAllWithWrongDeeds(t *testing.T) {
	l := written(t, "season;open bob 5;join zed;lend bob mia 40;give ann zed 7;earn mia 20;fine mia 10;mend mia;shift bob mia ann 5;loosen bob mia 5;cut mia 3;season")
	plainBook, _ := impl.DoesAll(town(), l)
	for at, bad := range slices.Concat(wrongDeeds(), []impl.Deed{{}}) {
		mixed := slices.Insert(slices.Clone(l), at%(len(l)+1), bad)
		book, codes := impl.DoesAll(town(), mixed)
		want := make([]int64, len(mixed))
		want[at%(len(l)+1)] = 7
		if !slices.Equal(codes, want) || !alike(book, plainBook) || !slices.Equal(impl.DoneOf(town(), mixed), l) {
			t.Errorf("DoesAll with %+v at %d = %+v, %d; want %+v", bad, at%(len(l)+1), book, codes, plainBook)
		}
	}
	var mixed []impl.Deed // one ahead of each of them
	for _, d := range l {
		mixed = append(mixed, impl.Deed{Kind: 12}, d)
	}
	book, codes := impl.DoesAll(town(), mixed)
	if !slices.Equal(codes, slices.Repeat([]int64{7, 0}, len(l))) || !alike(book, plainBook) {
		t.Errorf("DoesAll = %+v, %d; want %+v", book, codes, plainBook)
	}
	checkAll(t, town(), mixed)
}

// deedsFor are right deeds of all kinds, of the folk and the mills of a book, and of some that it has not.
func deedsFor(b impl.Book, counts []int64) []impl.Deed {
	folk, mills := namesIn(b)
	l := []impl.Deed{{Kind: impl.DdSeason}}
	for _, who := range folk {
		l = append(l, impl.Deed{Kind: impl.DdJoin, Who: who})
		for _, n := range counts {
			l = append(l, impl.Deed{Kind: impl.DdOpen, Mill: who, N: n})
			for _, to := range folk {
				l = append(l, impl.Deed{Kind: impl.DdGive, Who: who, To: to, N: n})
			}
			for _, mill := range mills {
				l = append(l, impl.Deed{Kind: impl.DdLend, Who: who, Mill: mill, N: n}, impl.Deed{Kind: impl.DdLoosen, Who: who, Mill: mill, N: n})
				for _, to := range mills {
					l = append(l, impl.Deed{Kind: impl.DdShift, Who: who, Mill: mill, To: to, N: n})
				}
			}
		}
	}
	for _, mill := range mills {
		l = append(l, impl.Deed{Kind: impl.DdMend, Mill: mill})
		for _, n := range counts {
			l = append(l, impl.Deed{Kind: impl.DdCut, Mill: mill, N: n}, impl.Deed{Kind: impl.DdFine, Mill: mill, N: n}, impl.Deed{Kind: impl.DdEarn, Mill: mill, N: n})
		}
	}
	return l
}

// doBooks are those of all chapters, with room for none, for one and for more; of the many that are alike every fifth one.
func doBooks() []impl.Book {
	l := []impl.Book{town(), shutAt(town(), 0), inSeason(town(), 999), inSeason(town(), 1000), packed(), crammed()}
	for i, b := range seasonBooks() {
		if i%5 == 0 {
			l = append(l, b)
		}
	}
	return l
}

func TestDoesOfAllBooks(t *testing.T) {
	seen := map[[2]int64]int{}
	for _, b := range doBooks() {
		for _, d := range deedsFor(b, []int64{0, 1, 10, 999999999}) {
			code := checkDone(t, d, b)
			if got, _ := impl.Does(b, d); code != impl.MlDone && !alike(got, b) {
				t.Errorf("Does(%+v, %q) = %+v, %d", b, shownOf(d), got, code)
			}
			seen[[2]int64{d.Kind, code}]++
		}
	}
	for kind, codes := range map[int64][]int64{
		impl.DdOpen:   {impl.MlDone, impl.MlNone, impl.MlThere, impl.MlFull, impl.MlBad},
		impl.DdJoin:   {impl.MlDone, impl.MlThere, impl.MlFull},
		impl.DdCut:    {impl.MlDone, impl.MlNone, impl.MlBad},
		impl.DdLend:   {impl.MlDone, impl.MlNone, impl.MlShut, impl.MlShort, impl.MlWorthless, impl.MlFull, impl.MlBad},
		impl.DdLoosen: {impl.MlDone, impl.MlNone, impl.MlShort, impl.MlFull, impl.MlBad},
		impl.DdShift:  {impl.MlDone, impl.MlNone, impl.MlShut, impl.MlShort, impl.MlWorthless, impl.MlFull, impl.MlBad},
		impl.DdFine:   {impl.MlDone, impl.MlNone, impl.MlBad},
		impl.DdMend:   {impl.MlDone, impl.MlNone, impl.MlThere},
		impl.DdEarn:   {impl.MlDone, impl.MlNone, impl.MlShut, impl.MlFull, impl.MlBad},
		impl.DdGive:   {impl.MlDone, impl.MlNone, impl.MlShort, impl.MlBad},
		impl.DdSeason: {impl.MlDone, impl.MlFull},
	} {
		for _, code := range codes {
			if seen[[2]int64{kind, code}] == 0 {
				t.Errorf("no deed of kind %d was %d", kind, code)
			}
			delete(seen, [2]int64{kind, code})
		}
	}
	if len(seen) != 0 {
		t.Errorf("these are not told: %v", seen)
	}
}

// All of some deeds, one, two and three behind one another.
func TestDoesAllOfFewDeeds(t *testing.T) {
	deeds := append(written(t, "open bob 20;join zed;open zed 1;cut bob 3;lend bob mia 40;lend zed bob 2;loosen bob mia 15;shift bob mia bob 15;shift bob mia ann 5;fine mia 50;mend mia;earn mia 99;earn bob 9;give ann zed 3;give bob ann 500;season"), impl.Deed{}, impl.Deed{Kind: 12, N: 1})
	codes := map[int64]int{}
	for _, a := range deeds {
		checkAll(t, town(), []impl.Deed{a})
		for _, b := range deeds {
			checkAll(t, town(), []impl.Deed{a, b})
			for _, c := range deeds {
				for _, code := range checkAll(t, town(), []impl.Deed{a, b, c}) {
					codes[code]++
				}
			}
		}
	}
	for _, code := range []int64{impl.MlDone, impl.MlNone, impl.MlThere, impl.MlShut, impl.MlShort, impl.MlBad} {
		if codes[code] < 100 {
			t.Errorf("%d was told only %d times", code, codes[code])
		}
	}
}

// chance picks deeds by a short rule: the same ones for the same start.
type chance uint32

func (c *chance) pick(n int) int {
	*c = *c*1664525 + 1013904223
	return int(*c>>8) % n
}

func (c *chance) name() string {
	if c.pick(9) == 0 {
		return []string{"eve", "a", "zoe", "tom", "who", "Ann", ""}[c.pick(7)]
	}
	return []string{"ann", "bob", "mia", "zed"}[c.pick(4)]
}

// deed is of any kind, more often one of those that can be done again and again; few are not right.
func (c *chance) deed() impl.Deed {
	kinds := []int64{1, 2, 3, 4, 4, 4, 4, 5, 5, 5, 6, 6, 6, 6, 6, 6, 7, 8, 8, 9, 9, 9, 10, 10, 11, 11, 11}
	kind := kinds[c.pick(len(kinds))]
	d := plain(kind)
	for _, part := range []string{"WHO", "MILL", "TO"} {
		if tells(kind, part) {
			d = altered(d, part, c.name())
		}
	}
	if tells(kind, "N") {
		high := []int{3, 12, 60, 400, 20000, 900000}
		d.N = int64(c.pick(high[c.pick(len(high))]))
	}
	if c.pick(40) == 0 {
		d.Kind += int64(c.pick(5) - 2)
	}
	return d
}

// deedIn is such a deed of that book: where shares are to leave a mill, half of the time they are some that there are.
func (c *chance) deedIn(b impl.Book) impl.Deed {
	d := c.deed()
	if len(b.Parts) > 0 && (d.Kind == impl.DdLoosen || d.Kind == impl.DdShift) && c.pick(2) == 0 {
		p := b.Parts[c.pick(len(b.Parts))]
		d.Who, d.Mill, d.N = p.Who, p.Mill, int64(c.pick(int(p.Shares)))+1
	}
	return d
}

// newBooks are of folk that have nothing, something, and all that there may be.
func newBooks(t *testing.T) []impl.Book {
	t.Helper()
	var l []impl.Book
	for _, folk := range [][]impl.Purse{
		nil,
		{{Name: "ann", Free: 1000}, {Name: "bob", Free: 500}, {Name: "mia", Free: 100}},
		{{Name: "ann", Free: 1000000}},
		{{Name: "ann"}, {Name: "bob"}, {Name: "mia"}, {Name: "zed"}},
		{{Name: "a", Free: 9}, {Name: "ann", Free: 100000}, {Name: "bob", Free: 100000}, {Name: "eve", Free: 5000}, {Name: "mia", Free: 1}, {Name: "tom"}, {Name: "zed", Free: 777777}, {Name: "zoe", Free: 1}},
	} {
		b, is := impl.NewBook(folk)
		if !is {
			t.Fatalf("%+v are no folk", folk)
		}
		l = append(l, b)
	}
	return l
}

// checkNotOneCoin does a deed and holds it against promise 16: it answers the book that is left, and what was earned.
func checkNotOneCoin(t *testing.T, b impl.Book, d impl.Deed) (impl.Book, int64) {
	t.Helper()
	code := checkDone(t, d, b)
	got, _ := impl.Does(b, d)
	earned := int64(0)
	if code == impl.MlDone && d.Kind == impl.DdEarn {
		earned = d.N
	}
	if !impl.BookOk(got) || !bookOf(got) || impl.Total(got) != got.Supply || coinsOf(got) != got.Supply || got.Supply != b.Supply+earned {
		t.Fatalf("Does(%+v, %+v) = %+v, %d: %d coins", b, d, got, code, coinsOf(got))
	}
	if code != impl.MlDone && !alike(got, b) {
		t.Fatalf("Does(%+v, %+v) = %+v, %d; want it as it is", b, d, got, code)
	}
	return got, earned
}

// Of a new book, whatever is done: step by step, and all at once.
func TestNotOneCoinEver(t *testing.T) {
	kinds, codes := map[int64]int{}, map[int64]int{}
	for start, first := range newBooks(t) {
		for round := range 24 {
			c := chance(start*1000 + round)
			b, all := first, int64(0)
			var l []impl.Deed
			for range 300 {
				d := c.deedIn(b)
				next, earned := checkNotOneCoin(t, b, d)
				b, all, l = next, all+earned, append(l, d)
			}
			for i, code := range checkAll(t, first, l) {
				if codes[code]++; code == impl.MlDone {
					kinds[l[i].Kind]++
				}
			}
			if last, _ := impl.DoesAll(first, l); !alike(last, b) || last.Supply != first.Supply+all {
				t.Fatalf("DoesAll(%+v) = %+v; want %+v", first, last, b)
			}
			done := impl.DoneOf(first, l) // by these it goes on from any place
			half, _ := impl.DoesAll(first, done[:len(done)/2])
			if rest, _ := impl.DoesAll(half, done[len(done)/2:]); !alike(rest, b) {
				t.Fatalf("in two halves it is %+v; want %+v", rest, b)
			}
		}
	}
	for kind := int64(1); kind <= 11; kind++ {
		if kinds[kind] < 100 {
			t.Errorf("of kind %d only %d were done", kind, kinds[kind])
		}
	}
	for code := int64(0); code <= 7; code++ {
		if codes[code] < 20 {
			t.Errorf("%d was told only %d times", code, codes[code])
		}
	}
}

// Books full of folk, of mills, of parts and of what waits stay right, too.
func TestNotOneCoinInFullBooks(t *testing.T) {
	for start, first := range []impl.Book{crammed(), inSeason(crammed(), 990), packed(), nearlyPacked(), dear(), shared(), lined(20, 9), queued(3), whole(), reopened()} {
		folk, mills := namesIn(first)
		for round := range 6 {
			c := chance(start*1000 + round)
			b := first
			var l []impl.Deed
			for range 150 {
				d := c.deed()
				if d.Who != "" {
					d.Who = folk[c.pick(len(folk))]
				}
				if d.Mill != "" {
					d.Mill = mills[c.pick(len(mills))]
				}
				if d.To != "" {
					to := slices.Concat(folk, mills)
					d.To = to[c.pick(len(to))]
				}
				b, _ = checkNotOneCoin(t, b, d)
				l = append(l, d)
			}
			checkAll(t, first, l)
		}
	}
}

// What Does answers is new memory, where the deed is refused, too.
func TestDoesIsNewMemoryAndBooksStay(t *testing.T) {
	wrong := []impl.Book{changed(func(b *impl.Book) { b.Supply++ }), changed(func(b *impl.Book) { b.Season = 1001 })}
	for _, b := range append(doBooks(), wrong...) {
		checkMemory(t, doing{impl.Deed{}}, b)
		checkMemory(t, doing{impl.Deed{Kind: impl.DdSeason, N: 1}}, b)
		for i, d := range deedsFor(b, []int64{0, 1, 10}) {
			if i%7 == int(b.Supply)%7 {
				checkMemory(t, doing{d}, b)
			}
		}
	}
}

// checkAllMemory writes over each answer and over what was given, with the spare room behind each list, to show that none is the other one's.
func checkAllMemory(t *testing.T, b impl.Book, l []impl.Deed) {
	t.Helper()
	tight, full := roomy(b)
	given := copyOf(full)
	room := append(slices.Clone(l), impl.Deed{Kind: impl.DdJoin, Who: "spare"}, impl.Deed{Kind: impl.DdSeason})
	asked := slices.Clone(room)
	wantBook, wantCodes, wantDone := doesAllOf(b, l)
	one, codes := impl.DoesAll(tight, room[:len(l)])
	two, others := impl.DoesAll(tight, room[:len(l)])
	done, same := impl.DoneOf(tight, room[:len(l)]), impl.DoneOf(tight, room[:len(l)])
	scribbleBook(one)
	scribble(codes)
	scribble(done)
	if !alike(full, given) || !slices.Equal(room, asked) {
		t.Fatalf("DoesAll: %+v became %+v, and %+v became %+v", given, full, asked, room)
	}
	if !alike(two, wantBook) || !slices.Equal(others, wantCodes) || !slices.Equal(same, wantDone) {
		t.Fatalf("of %+v and %+v two answers share their lists: %+v, %d, %+v", b, l, two, others, same)
	}
	scribbleBook(full)
	scribble(room)
	if !alike(two, wantBook) || !slices.Equal(others, wantCodes) || !slices.Equal(same, wantDone) {
		t.Fatalf("of %+v and %+v it became %+v, %d, %+v with what was given", b, l, two, others, same)
	}
}

func TestDoesAllIsNewMemoryAndArgumentsStay(t *testing.T) {
	many := slices.Repeat(written(t, "season;lend ann mia 1;give ann bob 1"), 101)
	lists := [][]impl.Deed{
		nil,
		{{}},
		{{Kind: impl.DdSeason}},
		written(t, "mend who"), // refused
		written(t, "join who;open who 1;lend ann mia 5;loosen ann mia 1;fine mia 5;mend mia;earn mia 5;give ann bob 1;season"),
		written(t, "season;season;season;mend who;cut mia 101"),
		many[:300],
		many,
	}
	wrong := []impl.Book{changed(func(b *impl.Book) { b.Supply++ }), changed(func(b *impl.Book) { b.Season = 1001 })}
	for _, b := range append(doBooks(), wrong...) {
		for _, l := range lists {
			checkAllMemory(t, b, l)
		}
	}
}
