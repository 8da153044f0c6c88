package tests

import (
	"slices"
	"testing"

	"loop.example/g00614/impl"
)

// whole is the book that most tests begin with: one that has several parts, one that has nothing, a mill without a share, one without a Stake and one (zoe) that has no purse of its name.
func whole() impl.Book {
	return impl.Book{
		Season: 2,
		Supply: 1562,
		Burnt:  6,
		Pot:    2,
		Folk:   []impl.Purse{{Name: "ann", Free: 10}, {Name: "bob", Free: 500}, {Name: "mia"}, {Name: "tom"}},
		Mills: []impl.Mill{
			{Name: "ann", Stake: 30, Shares: 20, Cut: 5},
			{Name: "bob", Cut: 100, Shut: true},
			{Name: "mia", Stake: 1000, Shares: 3},
			{Name: "zoe", Shares: 7, Cut: 1},
		},
		Parts: []impl.Part{
			{Who: "ann", Mill: "ann", Shares: 13},
			{Who: "ann", Mill: "mia", Shares: 2},
			{Who: "bob", Mill: "ann", Shares: 7},
			{Who: "bob", Mill: "mia", Shares: 1},
			{Who: "bob", Mill: "zoe", Shares: 7},
		},
		Waits: []impl.Wait{
			{Who: "bob", Mill: "ann", Amount: 4, Ripe: 2},
			{Who: "mia", Mill: "bob", Amount: 9, Ripe: 3},
			{Who: "bob", Mill: "zoe", Amount: 1, Ripe: 3},
		},
	}
}

// crammed is a book with as many of everything as there may be.
func crammed() impl.Book {
	b := impl.Book{Season: 1000, Supply: 1000000, Burnt: 1, Pot: 1, Folk: crowd(8, 1), Mills: row(4, 5, 5)}
	for who := range 5 {
		for mill := range 4 {
			b.Parts = append(b.Parts, impl.Part{Who: letters[who : who+1], Mill: letters[mill : mill+1], Shares: 1})
			b.Waits = append(b.Waits, impl.Wait{Who: "h", Mill: "d", Amount: 1, Ripe: 1000})
		}
	}
	b.Waits[19].Amount += 1000000 - 50
	return b
}

// shared is a book of one mill with all the shares that there may be, of two.
func shared() impl.Book {
	return impl.Book{
		Supply: 1000000,
		Folk:   []impl.Purse{{Name: "ann"}, {Name: "bob"}},
		Mills:  []impl.Mill{{Name: "mia", Stake: 1000000, Shares: 1000000000}},
		Parts:  []impl.Part{{Who: "ann", Mill: "mia", Shares: 999999999}, {Who: "bob", Mill: "mia", Shares: 1}},
	}
}

// changed is whole with one change.
func changed(change func(b *impl.Book)) impl.Book {
	b := whole()
	change(&b)
	return b
}

// rightBooks are as the chapter wants them, at each limit and beside it.
func rightBooks() []impl.Book {
	l := []impl.Book{
		{},
		{Folk: []impl.Purse{}, Mills: []impl.Mill{}, Parts: []impl.Part{}, Waits: []impl.Wait{}},
		{Season: 1000},
		{Season: 999},
		{Supply: 1, Burnt: 1},
		{Supply: 1, Pot: 1},
		{Supply: 1000000, Burnt: 1000000},
		{Supply: 1000000, Pot: 1000000},
		{Supply: 999999, Burnt: 500000, Pot: 499999},
		{Supply: 1000000, Burnt: 1, Pot: 999999},
		{Supply: 1000000, Folk: []impl.Purse{{Name: "ann", Free: 1000000}}},
		{Supply: 1000000, Folk: crowd(8, 125000)},
		{Folk: crowd(8, 0), Mills: row(4, 0, 0)},
		{Mills: row(4, 0, 0)}, // mills alone, and nobody who could lend to them
		{Supply: 1000000, Folk: crowd(1, 0), Mills: row(1, 0, 0), Waits: []impl.Wait{{Who: "a", Mill: "a", Amount: 1000000, Ripe: 0}}},
		whole(),
		crammed(),
		shared(),
	}
	for _, season := range []int64{0, 1, 3, 1000} { // what is Ripe already waits, too
		l = append(l, changed(func(b *impl.Book) { b.Season = season }))
	}
	return l
}

// brokenLists are books of which one list alone is not right: in one that is empty, and in one that is whole.
func brokenLists() []impl.Book {
	var l []impl.Book
	for _, b := range []impl.Book{{}, whole()} {
		for _, folk := range wrongFolk() {
			b := b
			b.Folk = folk
			l = append(l, b)
		}
		for _, mills := range wrongMills() {
			b := b
			b.Mills = mills
			l = append(l, b)
		}
		for _, parts := range wrongParts() {
			b := b
			b.Parts = parts
			l = append(l, b)
		}
		for _, waits := range wrongWaits() {
			b := b
			b.Waits = waits
			l = append(l, b)
		}
	}
	return l
}

// brokenNumbers are books of which a number alone is out of range, with all other coins such that they would be Supply, where that can be.
func brokenNumbers() []impl.Book {
	var l []impl.Book
	for _, season := range []int64{-1, -1000, 1001, 1002, 1 << 32, least, greatest} {
		l = append(l, impl.Book{Season: season}, changed(func(b *impl.Book) { b.Season = season }))
	}
	for _, n := range []int64{-1, -2, -1562, 1000001, 1000002, 1 << 32, least, greatest} {
		l = append(l,
			impl.Book{Supply: n}, impl.Book{Burnt: n}, impl.Book{Pot: n},
			impl.Book{Supply: n, Burnt: n}, impl.Book{Supply: n, Pot: n},
			impl.Book{Burnt: n, Pot: -n}, impl.Book{Burnt: -n, Pot: n},
			impl.Book{Supply: 5, Burnt: n, Pot: 5 - n}, impl.Book{Supply: 5, Burnt: 5 - n, Pot: n},
			changed(func(b *impl.Book) { b.Supply = n }),
			changed(func(b *impl.Book) { b.Burnt, b.Supply = n, b.Supply-b.Burnt+n }),
			changed(func(b *impl.Book) { b.Pot, b.Supply = n, b.Supply-b.Pot+n }),
			changed(func(b *impl.Book) { b.Burnt, b.Folk[1].Free = n, b.Folk[1].Free+b.Burnt-n }),
			changed(func(b *impl.Book) { b.Pot, b.Folk[1].Free = n, b.Folk[1].Free+b.Pot-n }),
		)
	}
	// Supply is passed by one where all that there is is an amount.
	l = append(l,
		impl.Book{Supply: 1000001, Burnt: 1000000, Pot: 1},
		impl.Book{Supply: 1000001, Burnt: 1, Folk: []impl.Purse{{Name: "ann", Free: 1000000}}},
		impl.Book{Supply: 1000001, Folk: []impl.Purse{{Name: "ann", Free: 500000}, {Name: "bob", Free: 500001}}},
	)
	return l
}

// untold are books whose lists and numbers are right, but a name is in the wrong list or in none, or shares are.
func untold() []impl.Book {
	l := []impl.Book{
		{Supply: 1, Waits: []impl.Wait{{Who: "ann", Mill: "mia", Amount: 1}}},
		{Supply: 1, Folk: []impl.Purse{{Name: "ann"}}, Waits: []impl.Wait{{Who: "ann", Mill: "ann", Amount: 1}}},
		{Supply: 1, Mills: []impl.Mill{{Name: "ann"}}, Waits: []impl.Wait{{Who: "ann", Mill: "ann", Amount: 1}}},
		{Parts: []impl.Part{{Who: "ann", Mill: "mia", Shares: 1}}},
		{Folk: []impl.Purse{{Name: "ann"}}, Parts: []impl.Part{{Who: "ann", Mill: "ann", Shares: 1}}},
		{Mills: []impl.Mill{{Name: "ann", Shares: 1}}, Parts: []impl.Part{{Who: "ann", Mill: "ann", Shares: 1}}},
		changed(func(b *impl.Book) { b.Folk = slices.Delete(b.Folk, 2, 3) }),                            // for mia, who has nothing else, something waits
		changed(func(b *impl.Book) { b.Mills = slices.Delete(b.Mills, 1, 2) }),                          // so does something of bob, which has nothing else
		changed(func(b *impl.Book) { b.Mills = slices.Delete(b.Mills, 3, 4) }),                          // of zoe there is a part, and what waits
		changed(func(b *impl.Book) { b.Mills = slices.Delete(b.Mills, 3, 4); b.Waits[2].Mill = "mia" }), // a part alone
		changed(func(b *impl.Book) { b.Folk[0].Name = "amy" }),                                          // ann has parts alone
		changed(func(b *impl.Book) {
			b.Parts = append(b.Parts, impl.Part{Who: "zoe", Mill: "zoe", Shares: 1})
			b.Mills[3].Shares++
		}), // zoe is a mill, but no purse
		changed(func(b *impl.Book) { b.Parts = append(b.Parts, impl.Part{Who: "tom", Mill: "tom", Shares: 1}) }), // tom is a purse, but no mill
	}
	for _, name := range []string{"a", "an", "anna", "zoe", "zzzzzz"} { // no purses
		for at := range whole().Waits {
			l = append(l, changed(func(b *impl.Book) { b.Waits[at].Who = name }))
		}
	}
	for _, name := range []string{"a", "an", "anna", "tom", "zzzzzz"} { // no mills
		for at := range whole().Waits {
			l = append(l, changed(func(b *impl.Book) { b.Waits[at].Mill = name }))
		}
	}
	return append(l, lostShares()...)
}

// lostShares are books that have a share too many or too few somewhere.
func lostShares() []impl.Book {
	var l []impl.Book
	for at, m := range whole().Mills {
		for _, shares := range []int64{0, 1, m.Shares - 1, m.Shares + 1, 1000000000} {
			if shares != m.Shares && shares >= 0 && (shares > 0 || m.Stake == 0) {
				l = append(l, changed(func(b *impl.Book) { b.Mills[at].Shares = shares }))
			}
		}
	}
	for at, p := range whole().Parts {
		for _, shares := range []int64{1, p.Shares - 1, p.Shares + 1, 1000000000} {
			if shares != p.Shares && shares >= 1 {
				l = append(l, changed(func(b *impl.Book) { b.Parts[at].Shares = shares }))
			}
		}
		l = append(l, changed(func(b *impl.Book) { b.Parts = slices.Delete(b.Parts, at, at+1) }))
	}
	over := shared()
	over.Parts[1].Shares = 2
	return append(l,
		over, // together they pass MaxShares
		changed(func(b *impl.Book) { b.Parts = nil }),
		changed(func(b *impl.Book) { b.Mills[0].Shares++; b.Mills[2].Shares-- }), // as many in all, but not of each
		changed(func(b *impl.Book) { b.Parts[0].Shares--; b.Parts[1].Shares++ }),
		changed(func(b *impl.Book) { b.Parts[0].Shares, b.Parts[1].Shares = b.Parts[1].Shares, b.Parts[0].Shares }),
		changed(func(b *impl.Book) { b.Parts = append(b.Parts, impl.Part{Who: "mia", Mill: "bob", Shares: 1}) }),
		changed(func(b *impl.Book) { b.Mills[2].Stake--; b.Mills[1].Stake++; b.Mills[1].Shares++ }),
	)
}

// coinPlaces are where a book has coins.
func coinPlaces(b *impl.Book) []*int64 {
	l := []*int64{&b.Burnt, &b.Pot}
	for i := range b.Folk {
		l = append(l, &b.Folk[i].Free)
	}
	for i := range b.Mills {
		l = append(l, &b.Mills[i].Stake)
	}
	for i := range b.Waits {
		l = append(l, &b.Waits[i].Amount)
	}
	return l
}

// coinsOf are all coins of a book, one place after the other.
func coinsOf(b impl.Book) int64 {
	all := int64(0)
	for _, place := range coinPlaces(&b) {
		all += *place
	}
	return all
}

// millsOf is what chapter 4 wants of mills, word by word.
func millsOf(l []impl.Mill) bool {
	var names []string
	for _, m := range l {
		names = append(names, m.Name)
		if !isFrom(0, m.Stake, 1000000) || !isFrom(0, m.Shares, 1000000000) || !isFrom(0, m.Cut, 100) || m.Stake != 0 && m.Shares == 0 {
			return false
		}
	}
	return len(l) <= 4 && rising(names)
}

// folkOf is what chapter 3 wants of folk, word by word.
func folkOf(l []impl.Purse) bool {
	var names []string
	for _, p := range l {
		names = append(names, p.Name)
		if !isFrom(0, p.Free, 1000000) {
			return false
		}
	}
	return len(l) <= 8 && rising(names)
}

// totalOf is what the chapter tells of Total, word by word.
func totalOf(b impl.Book) int64 {
	lists := folkOf(b.Folk) && millsOf(b.Mills) && partsOf(b.Parts) && waitsOf(b.Waits)
	if !lists || !isFrom(0, b.Season, 1000) || !isFrom(0, b.Supply, 1000000) || !isFrom(0, b.Burnt, 1000000) || !isFrom(0, b.Pot, 1000000) {
		return -1
	}
	return coinsOf(b)
}

// bookOf is what the chapter wants of a book, word by word.
func bookOf(b impl.Book) bool {
	folk, shares := map[string]bool{}, map[string]int64{}
	for _, p := range b.Folk {
		folk[p.Name] = true
	}
	for _, m := range b.Mills {
		shares[m.Name] = m.Shares
	}
	for _, p := range b.Parts {
		if _, isMill := shares[p.Mill]; !isMill || !folk[p.Who] {
			return false
		}
		shares[p.Mill] -= p.Shares
	}
	for _, w := range b.Waits {
		if _, isMill := shares[w.Mill]; !isMill || !folk[w.Who] {
			return false
		}
	}
	for _, left := range shares {
		if left != 0 {
			return false
		}
	}
	return totalOf(b) >= 0 && coinsOf(b) == b.Supply
}

// worthOf is what the chapter tells of WorthIn, word by word.
func worthOf(b impl.Book, who string) int64 {
	if !bookOf(b) || !slices.ContainsFunc(b.Folk, func(p impl.Purse) bool { return p.Name == who }) {
		return -1
	}
	worth := int64(0)
	for _, p := range b.Folk {
		if p.Name == who {
			worth += p.Free
		}
	}
	for _, p := range b.Parts {
		for _, m := range b.Mills {
			if p.Who == who && p.Mill == m.Name {
				worth += p.Shares * m.Stake / m.Shares
			}
		}
	}
	return worth + coins(those(b.Waits, func(w impl.Wait) bool { return w.Who == who }))
}

// copyOf has memory of its own.
func copyOf(b impl.Book) impl.Book {
	b.Folk, b.Mills, b.Parts, b.Waits = slices.Clone(b.Folk), slices.Clone(b.Mills), slices.Clone(b.Parts), slices.Clone(b.Waits)
	return b
}

// alike tells whether two books are the same in all; no list and an empty one are.
func alike(a, b impl.Book) bool {
	numbers := a.Season == b.Season && a.Supply == b.Supply && a.Burnt == b.Burnt && a.Pot == b.Pot
	return numbers && slices.Equal(a.Folk, b.Folk) && slices.Equal(a.Mills, b.Mills) && slices.Equal(a.Parts, b.Parts) && slices.Equal(a.Waits, b.Waits)
}

// askedOfBooks are names of some of the folk of these books, and what none of them has; zoe is a mill alone.
var askedOfBooks = append([]string{"tom", "zoe", "to", "tomm", "c", "d", "e", "amy"}, asked...)

func TestBookOk(t *testing.T) {
	for _, b := range rightBooks() {
		if !impl.BookOk(b) {
			t.Errorf("BookOk(%+v) is false", b)
		}
	}
	for _, b := range slices.Concat(brokenLists(), brokenNumbers(), untold()) {
		if impl.BookOk(b) {
			t.Errorf("BookOk(%+v) is true", b)
		}
	}
}

func TestBookOkOfSeasonsAndAmounts(t *testing.T) {
	for _, season := range seasons {
		b := changed(func(b *impl.Book) { b.Season = season })
		if got := impl.BookOk(b); got != isFrom(0, season, 1000) {
			t.Errorf("BookOk in season %d is %t", season, got)
		}
	}
	for _, n := range edges {
		for _, b := range []impl.Book{{Supply: n, Burnt: n}, {Supply: n, Pot: n}} {
			if got := impl.BookOk(b); got != isFrom(0, n, 1000000) {
				t.Errorf("BookOk(%+v) is %t", b, got)
			}
		}
		for _, b := range []impl.Book{{Supply: n}, {Burnt: n}, {Pot: n}} {
			if got := impl.BookOk(b); got != (n == 0) {
				t.Errorf("BookOk(%+v) is %t", b, got)
			}
		}
	}
}

func TestTotal(t *testing.T) {
	for _, c := range []struct {
		book  impl.Book
		total int64
	}{
		{impl.Book{}, 0},
		{impl.Book{Season: 1000}, 0},
		{impl.Book{Supply: 7}, 0}, // Supply alone is no coin
		{impl.Book{Supply: 1000000}, 0},
		{impl.Book{Burnt: 7}, 7},
		{impl.Book{Pot: 7}, 7},
		{impl.Book{Burnt: 1000000, Pot: 1000000}, 2000000}, // more than an amount
		{impl.Book{Folk: crowd(8, 1000000)}, 8000000},
		{impl.Book{Mills: row(4, 1000000, 1)}, 4000000},    // of shares that nobody has
		{impl.Book{Waits: pile(20, 1000000, 0)}, 20000000}, // for those who have no purse
		{impl.Book{Parts: queue(20, 1000000000)}, 0},       // shares are no coins
		{impl.Book{Burnt: 1000000, Pot: 1000000, Folk: crowd(8, 1000000), Mills: row(4, 1000000, 1), Waits: pile(20, 1000000, 0)}, 34000000},
		{whole(), 1562},
		{changed(func(b *impl.Book) { b.Supply = 0 }), 1562},
		{changed(func(b *impl.Book) { b.Supply = 1000000 }), 1562},
		{changed(func(b *impl.Book) { b.Supply = 1000001 }), -1},
		{changed(func(b *impl.Book) { b.Supply = -1 }), -1},
		{changed(func(b *impl.Book) { b.Burnt = 1000000 }), 1001556},
		{changed(func(b *impl.Book) { b.Burnt = 1000001 }), -1},
		{changed(func(b *impl.Book) { b.Burnt = -1 }), -1},
		{changed(func(b *impl.Book) { b.Pot = 1000000 }), 1001560},
		{changed(func(b *impl.Book) { b.Pot = 1000001 }), -1},
		{changed(func(b *impl.Book) { b.Pot = -1 }), -1},
		{changed(func(b *impl.Book) { b.Season = 0 }), 1562},
		{changed(func(b *impl.Book) { b.Season = 1000 }), 1562},
		{changed(func(b *impl.Book) { b.Season = 1001 }), -1},
		{changed(func(b *impl.Book) { b.Season = -1 }), -1},
		{changed(func(b *impl.Book) { b.Parts = nil }), 1562},
		{changed(func(b *impl.Book) { b.Folk = nil }), 1052},
		{changed(func(b *impl.Book) { b.Mills = nil }), 532},
		{changed(func(b *impl.Book) { b.Waits = nil }), 1548},
		{crammed(), 1000000},
		{shared(), 1000000},
	} {
		if got := impl.Total(c.book); got != c.total {
			t.Errorf("Total(%+v) = %d; want %d", c.book, got, c.total)
		}
	}
}

func TestTotalOfWhatIsNotRight(t *testing.T) {
	for _, b := range slices.Concat(brokenLists(), brokenNumbers()) {
		if got := impl.Total(b); got != -1 {
			t.Errorf("Total(%+v) = %d; want -1", b, got)
		}
	}
	for _, b := range untold() { // names and shares are not asked for
		if got := impl.Total(b); got != coinsOf(b) {
			t.Errorf("Total(%+v) = %d; want %d", b, got, coinsOf(b))
		}
	}
}

// A book has its Supply: with a coin too many or too few anywhere it is not right any more.
func TestNotOneCoin(t *testing.T) {
	for _, right := range rightBooks() {
		if got := impl.Total(right); got != right.Supply || coinsOf(right) != right.Supply {
			t.Errorf("Total(%+v) = %d, with %d coins", right, got, coinsOf(right))
		}
		for at := range coinPlaces(&right) {
			for _, n := range []int64{1, -1} {
				b := copyOf(right)
				*coinPlaces(&b)[at] += n
				if impl.BookOk(b) {
					t.Errorf("BookOk(%+v) is true with %d coins", b, coinsOf(b))
				}
				if got, want := impl.Total(b), totalOf(b); got != want || want >= 0 && want != right.Supply+n {
					t.Errorf("Total(%+v) = %d; want %d", b, got, want)
				}
			}
		}
		for _, n := range []int64{1, -1} {
			b := copyOf(right)
			b.Supply += n
			if impl.BookOk(b) {
				t.Errorf("BookOk(%+v) is true with %d coins", b, coinsOf(b))
			}
		}
	}
}

// A coin that goes from one place to another is not lost: where both are still in range, the book is right.
func TestNotOneCoinIsLostFromPlaceToPlace(t *testing.T) {
	moved := 0
	for _, right := range rightBooks() {
		places := len(coinPlaces(&right))
		for from := range places {
			for to := range places {
				b := copyOf(right)
				*coinPlaces(&b)[from]--
				*coinPlaces(&b)[to]++
				if got, want := impl.BookOk(b), totalOf(b) >= 0; got != want {
					t.Errorf("BookOk(%+v) is %t", b, got)
				}
				if got := impl.Total(b); got != totalOf(b) || got >= 0 && got != right.Supply {
					t.Errorf("Total(%+v) = %d", b, got)
				}
				if totalOf(b) >= 0 {
					moved++
				}
			}
		}
	}
	if moved < 500 {
		t.Errorf("only %d coins moved", moved)
	}
}

// smallLists are a few lists of each kind, right and not, of the names a and b alone.
func smallLists() (folk [][]impl.Purse, mills [][]impl.Mill, parts [][]impl.Part, waits [][]impl.Wait) {
	folk = [][]impl.Purse{nil, {{Name: "a", Free: 1}}, {{Name: "b"}}, {{Name: "a", Free: 1}, {Name: "b", Free: 2}}, {{Name: "b"}, {Name: "a"}}}
	mills = [][]impl.Mill{nil}
	for _, shares := range []int64{0, 1, 3} {
		mills = append(mills,
			[]impl.Mill{{Name: "a", Stake: 2, Shares: shares}},
			[]impl.Mill{{Name: "b", Shares: shares}},
			[]impl.Mill{{Name: "a", Stake: 1, Shares: 3}, {Name: "b", Shares: shares}},
		)
	}
	parts = [][]impl.Part{nil}
	for _, who := range []string{"a", "b"} {
		for _, mill := range []string{"a", "b"} {
			for _, n := range []int64{1, 3} {
				parts = append(parts, []impl.Part{{Who: who, Mill: mill, Shares: n}}, []impl.Part{{Who: "a", Mill: "a", Shares: n}, {Who: who, Mill: mill, Shares: 2}})
			}
			waits = append(waits, []impl.Wait{{Who: who, Mill: mill, Amount: 1}}, []impl.Wait{{Who: "b", Mill: "a", Amount: 2}, {Who: who, Mill: mill, Amount: 1, Ripe: 1}})
		}
	}
	return folk, mills, parts, append(waits, nil)
}

func TestAllSmallBooks(t *testing.T) {
	folk, mills, parts, waits := smallLists()
	right := 0
	for _, f := range folk {
		for _, m := range mills {
			for _, p := range parts {
				for _, w := range waits {
					b := impl.Book{Season: 1, Burnt: 1, Pot: 2, Folk: f, Mills: m, Parts: p, Waits: w}
					for _, more := range []int64{-1, 0, 1} {
						b.Supply = coinsOf(b) + more
						right += checkBook(t, b)
					}
				}
			}
		}
	}
	if right < 30 {
		t.Errorf("only %d books are right", right)
	}
}

// checkBook holds a book against the chapter, and counts it where it is right.
func checkBook(t *testing.T, b impl.Book) int {
	t.Helper()
	if got, want := impl.Total(b), totalOf(b); got != want {
		t.Errorf("Total(%+v) = %d; want %d", b, got, want)
	}
	for _, who := range []string{"a", "b", "c"} {
		if got, want := impl.WorthIn(b, who), worthOf(b, who); got != want {
			t.Errorf("WorthIn(%+v, %q) = %d; want %d", b, who, got, want)
		}
	}
	want := bookOf(b)
	if got := impl.BookOk(b); got != want {
		t.Errorf("BookOk(%+v) is %t", b, got)
	}
	if want {
		return 1
	}
	return 0
}

func TestNewBook(t *testing.T) {
	for _, c := range []struct {
		folk   []impl.Purse
		supply int64
	}{
		{nil, 0},
		{[]impl.Purse{}, 0},
		{[]impl.Purse{{Name: "ann"}}, 0},
		{[]impl.Purse{{Name: "ann", Free: 1}}, 1},
		{[]impl.Purse{{Name: "ann", Free: 100}, {Name: "bob", Free: 50}}, 150},
		{[]impl.Purse{{Name: "zzzzzz", Free: 1000000}}, 1000000},
		{[]impl.Purse{{Name: "ann", Free: 999999}, {Name: "bob", Free: 1}}, 1000000},
		{[]impl.Purse{{Name: "ann"}, {Name: "bob", Free: 1000000}, {Name: "mia"}}, 1000000},
		{crowd(8, 0), 0},
		{crowd(8, 1), 8},
		{crowd(8, 124999), 999992},
		{crowd(8, 125000), 1000000},
	} {
		got, ok := impl.NewBook(c.folk)
		if want := (impl.Book{Supply: c.supply, Folk: c.folk}); !ok || !alike(got, want) {
			t.Errorf("NewBook(%v) = %+v, %t", c.folk, got, ok)
		}
		if !impl.BookOk(got) || impl.Total(got) != c.supply {
			t.Errorf("NewBook(%v) is not right: it has %d", c.folk, impl.Total(got))
		}
		for _, p := range c.folk {
			if worth := impl.WorthIn(got, p.Name); worth != p.Free {
				t.Errorf("WorthIn(%+v, %q) = %d", got, p.Name, worth)
			}
		}
	}
}

func TestNewBookRefuses(t *testing.T) {
	tooMuch := [][]impl.Purse{ // each is an amount, but all together are none
		{{Name: "ann", Free: 1000000}, {Name: "bob", Free: 1}},
		{{Name: "ann", Free: 1}, {Name: "bob", Free: 1000000}},
		{{Name: "ann", Free: 500000}, {Name: "bob", Free: 500001}},
		three(),
		crowd(8, 125001),
		crowd(8, 1000000),
	}
	tooMuch = append(tooMuch, with(crowd(8, 125000), "h", 125001))
	for _, l := range append(tooMuch, wrongFolk()...) {
		if got, ok := impl.NewBook(l); ok || !alike(got, impl.Book{}) {
			t.Errorf("NewBook(%v) = %+v, %t", l, got, ok)
		}
	}
}

func TestWorthIn(t *testing.T) {
	for _, c := range []struct {
		book  impl.Book
		who   string
		worth int64
	}{
		{whole(), "ann", 695},  // 10, of 19.5 and of 666.67 each alone
		{whole(), "bob", 848},  // 500, 10.5, 333.33, shares without a Stake, and 4 and 1 that wait
		{whole(), "mia", 9},    // what waits alone
		{whole(), "tom", 0},    // nothing, but it is there
		{whole(), "zoe", -1},   // a mill, but no purse
		{whole(), "to", -1},    // part of a name
		{whole(), "tomm", -1},  // more than a name
		{whole(), "", -1},      // no name
		{whole(), "Ann", -1},   // no name
		{whole(), "ann ", -1},  // no name
		{whole(), "\xff", -1},  // no name
		{impl.Book{}, "a", -1}, // nobody is there
		{impl.Book{}, "", -1},
		{shared(), "ann", 999999},
		{shared(), "bob", 0}, // less than a coin
		{crammed(), "a", 5},
		{crammed(), "e", 5},
		{crammed(), "f", 1},
		{crammed(), "h", 999971},
		{crammed(), "i", -1},
	} {
		if got := impl.WorthIn(c.book, c.who); got != c.worth {
			t.Errorf("WorthIn(%+v, %q) = %d; want %d", c.book, c.who, got, c.worth)
		}
	}
}

// Two halves of a coin in two mills are no coin: each part is rounded alone.
func TestWorthInOfEachPartAlone(t *testing.T) {
	b := impl.Book{Supply: 4, Folk: crowd(2, 0), Mills: row(4, 1, 2)}
	for _, who := range []string{"a", "b"} {
		for _, m := range b.Mills {
			b.Parts = append(b.Parts, impl.Part{Who: who, Mill: m.Name, Shares: 1})
		}
	}
	for _, who := range []string{"a", "b"} {
		if got := impl.WorthIn(b, who); got != 0 {
			t.Errorf("WorthIn(%+v, %q) = %d; want 0", b, who, got)
		}
	}
	for n := range int64(4) { // one mill after the other becomes worth a coin a share
		b.Mills[n].Stake, b.Supply = 2, b.Supply+1
		if got := impl.WorthIn(b, "a"); got != n+1 {
			t.Errorf("WorthIn(%+v, a) = %d; want %d", b, got, n+1)
		}
	}
}

func TestWorthInOfAllBooks(t *testing.T) {
	for _, b := range rightBooks() {
		all := int64(0)
		for _, who := range askedOfBooks {
			if got, want := impl.WorthIn(b, who), worthOf(b, who); got != want {
				t.Errorf("WorthIn(%+v, %q) = %d; want %d", b, who, got, want)
			}
		}
		for _, p := range b.Folk {
			all += impl.WorthIn(b, p.Name)
		}
		if all > b.Supply { // what all are worth is there
			t.Errorf("all of %+v are worth %d", b, all)
		}
	}
	wrong := slices.Concat(brokenLists(), brokenNumbers(), untold())
	for _, more := range []int64{-1, 1} {
		wrong = append(wrong, changed(func(b *impl.Book) { b.Supply += more }), changed(func(b *impl.Book) { b.Folk[1].Free += more }))
	}
	for _, b := range wrong {
		for _, who := range []string{"ann", "bob", "mia", "a", ""} {
			if got := impl.WorthIn(b, who); got != -1 {
				t.Errorf("WorthIn(%+v, %q) = %d; want -1", b, who, got)
			}
		}
	}
}

// roomy is a book whose lists have something in the spare room behind them, and the book with all of that.
func roomy(b impl.Book) (tight, full impl.Book) {
	full = copyOf(b)
	full.Folk = append(full.Folk, impl.Purse{Name: "spare", Free: 3})
	full.Mills = append(full.Mills, impl.Mill{Name: "spare", Stake: 3, Shares: 3})
	full.Parts = append(full.Parts, impl.Part{Who: "spare", Mill: "spare", Shares: 3})
	full.Waits = append(full.Waits, impl.Wait{Who: "spare", Mill: "spare", Amount: 3, Ripe: 1000})
	tight = b
	tight.Folk, tight.Mills = full.Folk[:len(b.Folk)], full.Mills[:len(b.Mills)]
	tight.Parts, tight.Waits = full.Parts[:len(b.Parts)], full.Waits[:len(b.Waits)]
	return tight, full
}

// What is behind the lists is their spare room: nothing is written there, nor read.
func TestBooksStay(t *testing.T) {
	for _, b := range slices.Concat(rightBooks(), brokenLists(), brokenNumbers(), untold()) {
		tight, full := roomy(b)
		given := copyOf(full)
		if impl.BookOk(tight) != impl.BookOk(b) || impl.Total(tight) != impl.Total(b) {
			t.Errorf("%+v is another one with spare room", b)
		}
		for _, who := range []string{"ann", "bob", "a", "spare", ""} {
			if impl.WorthIn(tight, who) != impl.WorthIn(b, who) {
				t.Errorf("%+v is another one for %q with spare room", b, who)
			}
		}
		if !alike(full, given) {
			t.Fatalf("%+v became %+v", given, full)
		}
	}
}

func TestNewBookIsNewMemory(t *testing.T) {
	for _, l := range append(rightFolk(), wrongFolk()...) {
		room := append(slices.Clone(l), impl.Purse{Name: "spare", Free: 3}, impl.Purse{Name: "room", Free: 4})
		given := slices.Clone(room)
		a, ok := impl.NewBook(room[:len(l)])
		b, _ := impl.NewBook(room[:len(l)])
		scribble(a.Folk)
		if !slices.Equal(room, given) {
			t.Fatalf("%v became %v", given, room)
		}
		if ok && !slices.Equal(b.Folk, l) { // no two books share their folk, either
			t.Errorf("NewBook(%v) became %+v", l, b)
		}
		clear(room)
		if ok && !slices.Equal(b.Folk, l) {
			t.Errorf("NewBook(%v) became %+v with what it was given", l, b)
		}
	}
}
