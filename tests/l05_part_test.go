package tests

import (
	"slices"
	"strings"
	"testing"

	"loop.example/g00614/impl"
)

// some are the parts that most tests begin with: of one in two mills, of two in one mill, with the most and with the fewest shares.
func some() []impl.Part {
	return []impl.Part{
		{Who: "ann", Mill: "bob", Shares: 5},
		{Who: "ann", Mill: "mia", Shares: 1000000000},
		{Who: "bob", Mill: "mia", Shares: 1},
		{Who: "mia", Mill: "ann", Shares: 20},
	}
}

// shelf are n parts, five to each of a to z in turn, in the mills b, d, f, h and j.
func shelf(n int, shares int64) []impl.Part {
	var l []impl.Part
	for i := range n {
		who, mill := i/5, i%5*2+1
		l = append(l, impl.Part{Who: letters[who : who+1], Mill: letters[mill : mill+1], Shares: shares})
	}
	return l
}

// queue are n parts of one mill, each of another one.
func queue(n int, shares int64) []impl.Part {
	var l []impl.Part
	for i := range n {
		l = append(l, impl.Part{Who: letters[i : i+1], Mill: "mia", Shares: shares})
	}
	return l
}

// rightParts are some that are as the chapter wants them.
func rightParts() [][]impl.Part {
	return [][]impl.Part{
		nil,
		{},
		{{Who: "a", Mill: "a", Shares: 1}},
		{{Who: "zzzzzz", Mill: "zzzzzz", Shares: 1000000000}},
		{{Who: "a", Mill: "b", Shares: 999999999}, {Who: "a", Mill: "c", Shares: 2}},
		{{Who: "a", Mill: "z", Shares: 1}, {Who: "b", Mill: "a", Shares: 1}}, // Mill falls, but Who rises
		{{Who: "a", Mill: "bb", Shares: 1}, {Who: "ab", Mill: "b", Shares: 1}},
		{{Who: "ab", Mill: "a", Shares: 1}, {Who: "ab", Mill: "aa", Shares: 1}, {Who: "ab", Mill: "b", Shares: 1}, {Who: "b", Mill: "a", Shares: 1}},
		{{Who: "ann", Mill: "mia", Shares: 3}, {Who: "mia", Mill: "ann", Shares: 3}, {Who: "mia", Mill: "mia", Shares: 3}},
		some(),
		shelf(19, 7),
		shelf(20, 1),
		shelf(20, 1000000000),
		queue(19, 1000000000),
		queue(20, 999999999),
		queue(20, 1000000000),
	}
}

// wrongPart are parts that are not right: each for one reason.
func wrongPart() []impl.Part {
	l := []impl.Part{{}}
	for _, name := range []string{"", "Mia", "mia ", " mia", "m1a", "zzzzzzz", "mi\x00", "\xff", "mä", strings.Repeat("m", 1000)} {
		l = append(l, impl.Part{Who: name, Mill: "mia", Shares: 5}, impl.Part{Who: "mia", Mill: name, Shares: 5})
	}
	for _, shares := range []int64{0, -1, -5, -1000000000, 1000000001, 1 << 32, least, greatest} {
		l = append(l, impl.Part{Who: "mia", Mill: "mia", Shares: shares})
	}
	return l
}

// wrongParts are lists that are not right: each for one reason, at the first, a middle or the last place.
func wrongParts() [][]impl.Part {
	l := [][]impl.Part{
		shelf(21, 1),
		shelf(21, 1000000000),
		shelf(22, 1),
		shelf(100, 1),
		queue(21, 1),
		queue(26, 1),
		slices.Repeat(some(), 1000),
		{{Who: "b", Mill: "a", Shares: 1}, {Who: "a", Mill: "a", Shares: 1}}, // Who falls
		{{Who: "b", Mill: "a", Shares: 1}, {Who: "a", Mill: "b", Shares: 1}},
		{{Who: "ab", Mill: "a", Shares: 1}, {Who: "a", Mill: "ba", Shares: 1}},
		{{Who: "a", Mill: "b", Shares: 1}, {Who: "a", Mill: "a", Shares: 1}}, // Mill falls
		{{Who: "a", Mill: "aa", Shares: 1}, {Who: "a", Mill: "a", Shares: 1}},
		{{Who: "a", Mill: "a", Shares: 1}, {Who: "a", Mill: "a", Shares: 1}}, // twice there
		{{Who: "a", Mill: "a", Shares: 1}, {Who: "a", Mill: "a", Shares: 2}},
		{{Who: "a", Mill: "a", Shares: 2}, {Who: "a", Mill: "a", Shares: 1}},
		{{Who: "a", Mill: "b", Shares: 1}, {Who: "b", Mill: "b", Shares: 1}, {Who: "a", Mill: "b", Shares: 1}},
		{{Who: "a", Mill: "b", Shares: 1}, {Who: "a", Mill: "c", Shares: 1}, {Who: "a", Mill: "b", Shares: 1}},
		append(shelf(19, 1), shelf(1, 1)...),
		append(shelf(1, 1), shelf(19, 1)...),
		append(shelf(19, 1), shelf(19, 2)[18]),
	}
	turned, swapped := shelf(20, 1), shelf(20, 1)
	slices.Reverse(turned)
	swapped[18], swapped[19] = swapped[19], swapped[18]
	l = append(l, turned, swapped)
	for _, p := range wrongPart() {
		l = append(l, []impl.Part{p})
		for at, right := range some() {
			parts := some()
			parts[at] = p
			l = append(l, parts)
			if p.Who == "mia" && p.Mill == "mia" { // the shares alone are wrong, and the list still rises
				parts = some()
				parts[at] = impl.Part{Who: right.Who, Mill: right.Mill, Shares: p.Shares}
				l = append(l, parts)
			}
		}
	}
	return l
}

// askedParts are whose shares are asked for, and of which mill: names that some of these parts have, and what none of them has.
func askedParts() [][2]string {
	l := [][2]string{{"ann", "bob"}, {"ann", "mia"}, {"mia", "mia"}, {"zzzzzz", "zzzzzz"}, {"ann", "zoe"}, {"zoe", "mia"}, {"an", "nbob"}, {"annb", "ob"}, {"", "annbob"}, {"bob", "ann"}}
	for _, who := range []string{"a", "ab", "b", "c", "d", "t", "z", "", "A", "a ", "zzzzzzz", "\xff"} {
		for _, mill := range []string{"a", "b", "j", "k", "mia", "", "A", "a ", "zzzzzzz", "\xff"} {
			l = append(l, [2]string{who, mill})
		}
	}
	return l
}

// partsOf is what the chapter wants of parts, word by word.
func partsOf(l []impl.Part) bool {
	for i, p := range l {
		if !rising([]string{p.Who}) || !rising([]string{p.Mill}) || !isFrom(1, p.Shares, 1000000000) {
			return false
		}
		if i > 0 && (l[i-1].Who > p.Who || l[i-1].Who == p.Who && l[i-1].Mill >= p.Mill) {
			return false
		}
	}
	return len(l) <= 20
}

// sharesOf are the shares of that one in that mill.
func sharesOf(l []impl.Part, who, mill string) int64 {
	for _, p := range l {
		if p.Who == who && p.Mill == mill {
			return p.Shares
		}
	}
	return 0
}

// having is l with so many shares for that one in that mill, and without such a part for 0.
func having(l []impl.Part, who, mill string, shares int64) []impl.Part {
	var ahead, behind []impl.Part
	for _, p := range l {
		if p.Who < who || p.Who == who && p.Mill < mill {
			ahead = append(ahead, p)
		} else if p.Who != who || p.Mill != mill {
			behind = append(behind, p)
		}
	}
	if shares != 0 {
		ahead = append(ahead, impl.Part{Who: who, Mill: mill, Shares: shares})
	}
	return append(ahead, behind...)
}

func TestLimitOfParts(t *testing.T) {
	if impl.MaxParts != 20 {
		t.Fatal(impl.MaxParts)
	}
}

func TestPartsOk(t *testing.T) {
	for _, l := range rightParts() {
		if !impl.PartsOk(l) {
			t.Errorf("PartsOk(%v) is false", l)
		}
	}
	for _, l := range wrongParts() {
		if impl.PartsOk(l) {
			t.Errorf("PartsOk(%v) is true", l)
		}
	}
}

func TestPartsOkOfEachCount(t *testing.T) {
	for n := range 101 {
		for _, shares := range []int64{1, 5, 1000000000} {
			if got := impl.PartsOk(shelf(n, shares)); got != (n <= 20) {
				t.Errorf("PartsOk of %d parts with %d each is %t", n, shares, got)
			}
		}
	}
	for n := range 27 {
		if got := impl.PartsOk(queue(n, 5)); got != (n <= 20) {
			t.Errorf("PartsOk of %d parts in one mill is %t", n, got)
		}
	}
}

func TestPartsOkOfNamesAndShares(t *testing.T) {
	for _, who := range words {
		for _, mill := range words {
			for _, shares := range edges {
				one := []impl.Part{{Who: who, Mill: mill, Shares: shares}}
				if got := impl.PartsOk(one); got != partsOf(one) {
					t.Errorf("PartsOk(%v) is %t", one, got)
				}
			}
		}
	}
}

func TestPartsOkOfAllShortLists(t *testing.T) {
	var all []impl.Part
	for _, who := range []string{"a", "ab", "b", "A"} {
		for _, mill := range []string{"a", "b", "bb", ""} {
			for shares := range int64(2) {
				all = append(all, impl.Part{Who: who, Mill: mill, Shares: shares})
			}
		}
	}
	for _, a := range all {
		for _, b := range all {
			for _, c := range all {
				l := []impl.Part{a, b, c}
				for n := 2; n <= 3; n++ {
					if got := impl.PartsOk(l[:n]); got != partsOf(l[:n]) {
						t.Errorf("PartsOk(%v) is %t", l[:n], got)
					}
				}
			}
		}
	}
}

func TestSharesOf(t *testing.T) {
	for _, c := range []struct {
		who, mill string
		shares    int64
	}{
		{"ann", "bob", 5}, {"ann", "mia", 1000000000}, {"bob", "mia", 1}, {"mia", "ann", 20},
		{"ann", "ann", 0}, {"bob", "bob", 0}, {"mia", "mia", 0}, {"bob", "ann", 0}, {"mia", "bob", 0},
		{"ann", "zoe", 0}, {"zoe", "mia", 0}, {"an", "bob", 0}, {"anna", "bob", 0}, {"ann", "bo", 0}, {"ann", "bobb", 0},
		{"an", "nbob", 0}, {"annb", "ob", 0}, {"annbob", "", 0}, {"", "annbob", 0},
		{"", "", 0}, {"ann", "", 0}, {"", "bob", 0}, {"Ann", "bob", 0}, {"ann", "Bob", 0}, {"ann ", "bob", 0}, {"\xff", "mia", 0},
		{strings.Repeat("a", 1000), "mia", 0},
	} {
		if shares := impl.SharesOf(some(), c.who, c.mill); shares != c.shares {
			t.Errorf("SharesOf(%v, %q, %q) = %d; want %d", some(), c.who, c.mill, shares, c.shares)
		}
	}
}

func TestSharesOfAllParts(t *testing.T) {
	for _, who := range askedParts() {
		for _, l := range rightParts() {
			if shares, want := impl.SharesOf(l, who[0], who[1]), sharesOf(l, who[0], who[1]); shares != want {
				t.Errorf("SharesOf(%v, %q) = %d; want %d", l, who, shares, want)
			}
		}
		for _, l := range wrongParts() {
			if shares := impl.SharesOf(l, who[0], who[1]); shares != -1 {
				t.Errorf("SharesOf(%v, %q) = %d; want -1", l, who, shares)
			}
		}
	}
}

// change is one call of Gave or Took, and how many shares are there behind it.
type change struct {
	who, mill string
	n         int64
	shares    int64
	ok        bool
}

func checkChanges(t *testing.T, name string, call func([]impl.Part, string, string, int64) ([]impl.Part, bool), l []impl.Part, changes []change) {
	t.Helper()
	for _, c := range changes {
		got, ok := call(slices.Clone(l), c.who, c.mill, c.n)
		if want := having(l, c.who, c.mill, c.shares); ok != c.ok || !slices.Equal(got, want) {
			t.Errorf("%s(%v, %q, %q, %d) = %v, %t; want %v, %t", name, l, c.who, c.mill, c.n, got, ok, want, c.ok)
		}
	}
}

func TestGave(t *testing.T) {
	checkChanges(t, "Gave", impl.Gave, some(), []change{
		{"ann", "bob", 1, 6, true},
		{"ann", "bob", 999999994, 999999999, true},
		{"ann", "bob", 999999995, 1000000000, true},
		{"ann", "bob", 999999996, 5, false},
		{"ann", "bob", 1000000000, 5, false},
		{"ann", "bob", 1000000001, 5, false},
		{"ann", "bob", 0, 5, false},
		{"ann", "bob", -1, 5, false},
		{"ann", "bob", -4, 5, false},
		{"ann", "bob", -5, 5, false},
		{"ann", "bob", greatest, 5, false},
		{"ann", "bob", greatest - 4, 5, false}, // the sum would wrap around
		{"ann", "bob", least, 5, false},
		{"ann", "mia", 1, 1000000000, false},
		{"ann", "mia", 0, 1000000000, false},
		{"ann", "mia", -1, 1000000000, false},
		{"bob", "mia", 999999999, 1000000000, true},
		{"bob", "mia", 1000000000, 1, false},
		{"bob", "mia", -1, 1, false},
		{"abe", "zoe", 1, 1, true}, // a new part: first, in the middle, last
		{"ann", "ann", 2, 2, true},
		{"ann", "bobb", 3, 3, true},
		{"ann", "zoe", 4, 4, true},
		{"anna", "a", 5, 5, true},
		{"bob", "bob", 6, 6, true},
		{"mia", "mia", 999999999, 999999999, true},
		{"zoe", "a", 1000000000, 1000000000, true},
		{"zoe", "a", 1000000001, 0, false},
		{"zoe", "a", 0, 0, false},
		{"zoe", "a", -1, 0, false},
		{"zoe", "a", greatest, 0, false},
		{"zoe", "a", least, 0, false},
		{"zzzzzz", "zzzzzz", 1, 1, true},
		{"zzzzzzz", "mia", 1, 0, false}, // no names
		{"ann", "zzzzzzz", 1, 0, false},
		{"", "mia", 1, 0, false},
		{"ann", "", 1, 0, false},
		{"", "", 1, 0, false},
		{"Ann", "mia", 1, 0, false},
		{"ann", "Mia", 1, 0, false},
		{"ann ", "mia", 1, 0, false},
		{"ann", "mia ", 1, 0, false},
		{"\xff", "mia", 1, 0, false},
		{"ann", "\xff", 1, 0, false},
	})
}

func TestTook(t *testing.T) {
	checkChanges(t, "Took", impl.Took, some(), []change{
		{"ann", "bob", 1, 4, true},
		{"ann", "bob", 4, 1, true},
		{"ann", "bob", 5, 0, true}, // none are left
		{"ann", "bob", 6, 5, false},
		{"ann", "bob", 1000000000, 5, false},
		{"ann", "bob", 1000000001, 5, false},
		{"ann", "bob", 0, 5, false},
		{"ann", "bob", -1, 5, false},
		{"ann", "bob", -999999995, 5, false},
		{"ann", "bob", greatest, 5, false},
		{"ann", "bob", least, 5, false},
		{"ann", "bob", least + 5, 5, false}, // the difference would wrap around
		{"ann", "mia", 1, 999999999, true},
		{"ann", "mia", 999999999, 1, true},
		{"ann", "mia", 1000000000, 0, true},
		{"ann", "mia", 1000000001, 1000000000, false},
		{"ann", "mia", -1, 1000000000, false},
		{"bob", "mia", 1, 0, true},
		{"bob", "mia", 2, 1, false},
		{"bob", "mia", 0, 1, false},
		{"mia", "ann", 19, 1, true},
		{"mia", "ann", 20, 0, true},
		{"mia", "ann", 21, 20, false},
		{"ann", "ann", 1, 0, false}, // no such part
		{"zoe", "mia", 1, 0, false},
		{"zoe", "mia", 0, 0, false},
		{"zoe", "mia", -1, 0, false},
		{"zoe", "mia", -1000000000, 0, false},
		{"zoe", "mia", least, 0, false},
		{"", "mia", 1, 0, false}, // no names
		{"ann", "", 1, 0, false},
		{"", "", 0, 0, false},
		{"Ann", "mia", 1, 0, false},
		{"ann", "Mia", 1, 0, false},
		{"zzzzzzz", "mia", 1, 0, false},
		{"ann", "\xff", -1, 0, false},
	})
}

func TestGaveAndTookOfNoParts(t *testing.T) {
	for _, l := range [][]impl.Part{nil, {}} {
		checkChanges(t, "Gave", impl.Gave, l, []change{
			{"ann", "mia", 1, 1, true},
			{"ann", "mia", 1000000000, 1000000000, true},
			{"ann", "mia", 1000000001, 0, false},
			{"ann", "mia", 0, 0, false},
			{"ann", "mia", -1, 0, false},
			{"", "mia", 1, 0, false},
			{"ann", "", 1, 0, false},
		})
		checkChanges(t, "Took", impl.Took, l, []change{
			{"ann", "mia", 1, 0, false},
			{"ann", "mia", 0, 0, false},
			{"ann", "mia", -1, 0, false},
			{"", "", 1, 0, false},
		})
	}
}

func TestGaveWhereThereIsRoomForOneOrNone(t *testing.T) {
	for _, c := range []struct {
		who, mill string
	}{{"a", "a"}, {"a", "z"}, {"b", "c"}, {"bb", "a"}, {"d", "k"}, {"z", "z"}} {
		checkChanges(t, "Gave", impl.Gave, shelf(19, 3), []change{{c.who, c.mill, 4, 4, true}})
		checkChanges(t, "Gave", impl.Gave, shelf(20, 3), []change{
			{c.who, c.mill, 1, 0, false},
			{c.who, c.mill, 4, 0, false},
			{c.who, c.mill, 1000000000, 0, false},
		})
		checkChanges(t, "Took", impl.Took, shelf(20, 3), []change{{c.who, c.mill, 1, 0, false}})
	}
	for _, p := range shelf(20, 3) { // those that are there need no room
		checkChanges(t, "Gave", impl.Gave, shelf(20, 3), []change{
			{p.Who, p.Mill, 1, 4, true},
			{p.Who, p.Mill, 999999997, 1000000000, true},
			{p.Who, p.Mill, 999999998, 3, false},
		})
		checkChanges(t, "Took", impl.Took, shelf(20, 3), []change{
			{p.Who, p.Mill, 2, 1, true},
			{p.Who, p.Mill, 3, 0, true},
			{p.Who, p.Mill, 4, 3, false},
		})
	}
}

func TestGaveInOneMillPastMaxShares(t *testing.T) { // each part is bounded, not all of a mill together
	checkChanges(t, "Gave", impl.Gave, queue(19, 1000000000), []change{{"z", "mia", 1000000000, 1000000000, true}})
}

func TestGaveFromNothingOn(t *testing.T) {
	var l []impl.Part
	all := shelf(20, 2)
	for i := range all {
		p := all[i*7%20] // in no order
		more, ok := impl.Gave(l, p.Who, p.Mill, p.Shares)
		if !ok || len(more) != i+1 || !partsOf(more) {
			t.Fatalf("Gave(%v, %q, %q, 2) = %v, %t", l, p.Who, p.Mill, more, ok)
		}
		l = more
	}
	if !slices.Equal(l, all) {
		t.Fatalf("%v; want %v", l, all)
	}
	for i := range all {
		p := all[i*3%20]
		fewer, ok := impl.Took(l, p.Who, p.Mill, p.Shares)
		if !ok || len(fewer) != 19-i || !partsOf(fewer) {
			t.Fatalf("Took(%v, %q, %q, 2) = %v, %t", l, p.Who, p.Mill, fewer, ok)
		}
		l = fewer
	}
}

func TestGaveAndTookOfWrongParts(t *testing.T) {
	for _, l := range wrongParts() {
		for _, who := range askedParts() {
			for _, n := range []int64{least, -1, 0, 1, 2, 5, 1000000000, 1000000001, greatest} {
				if got, ok := impl.Gave(l, who[0], who[1], n); ok || len(got) != 0 {
					t.Errorf("Gave(%v, %q, %d) = %v, %t", l, who, n, got, ok)
				}
				if got, ok := impl.Took(l, who[0], who[1], n); ok || len(got) != 0 {
					t.Errorf("Took(%v, %q, %d) = %v, %t", l, who, n, got, ok)
				}
			}
		}
	}
}

// Promise 5, of each part of each list and of new ones, at each limit: all others stay, and what was done can be undone.
func TestWhatOneGaveCanBeTook(t *testing.T) {
	for _, l := range rightParts() {
		who := askedParts()
		for _, p := range l {
			who = append(who, [2]string{p.Who, p.Mill})
		}
		for _, w := range who {
			shares := sharesOf(l, w[0], w[1])
			for _, n := range append([]int64{shares - 1, shares, shares + 1, 1000000000 - shares, 1000000001 - shares}, edges...) {
				checkGave(t, l, w[0], w[1], n)
				checkTook(t, l, w[0], w[1], n)
			}
		}
	}
}

func checkGave(t *testing.T, l []impl.Part, who, mill string, n int64) {
	t.Helper()
	before := sharesOf(l, who, mill)
	more, ok := impl.Gave(l, who, mill, n)
	want := isFrom(1, n, 1000000000-before) && rising([]string{who}) && rising([]string{mill}) && (before > 0 || len(l) < 20)
	if ok != want {
		t.Errorf("Gave(%v, %q, %q, %d): %t", l, who, mill, n, ok)
	}
	if !ok {
		if !slices.Equal(more, l) {
			t.Errorf("Gave(%v, %q, %q, %d) = %v, false", l, who, mill, n, more)
		}
		return
	}
	if !slices.Equal(more, having(l, who, mill, before+n)) || impl.SharesIn(more, mill) != impl.SharesIn(l, mill)+n || !impl.PartsOk(more) {
		t.Errorf("Gave(%v, %q, %q, %d) = %v", l, who, mill, n, more)
	}
	if back, ok := impl.Took(more, who, mill, n); !ok || !slices.Equal(back, l) {
		t.Errorf("Took(%v, %q, %q, %d) = %v, %t; want %v", more, who, mill, n, back, ok, l)
	}
}

func checkTook(t *testing.T, l []impl.Part, who, mill string, n int64) {
	t.Helper()
	before := sharesOf(l, who, mill)
	fewer, ok := impl.Took(l, who, mill, n)
	if want := isFrom(1, n, before); ok != want {
		t.Errorf("Took(%v, %q, %q, %d): %t", l, who, mill, n, ok)
	}
	if !ok {
		if !slices.Equal(fewer, l) {
			t.Errorf("Took(%v, %q, %q, %d) = %v, false", l, who, mill, n, fewer)
		}
		return
	}
	if !slices.Equal(fewer, having(l, who, mill, before-n)) || impl.SharesIn(fewer, mill) != impl.SharesIn(l, mill)-n || !impl.PartsOk(fewer) {
		t.Errorf("Took(%v, %q, %q, %d) = %v", l, who, mill, n, fewer)
	}
	if back, ok := impl.Gave(fewer, who, mill, n); !ok || !slices.Equal(back, l) {
		t.Errorf("Gave(%v, %q, %q, %d) = %v, %t; want %v", fewer, who, mill, n, back, ok, l)
	}
}

func TestPartsFor(t *testing.T) {
	for _, c := range []struct {
		who  string
		want []impl.Part
	}{
		{"ann", some()[:2]}, {"bob", some()[2:3]}, {"mia", some()[3:]},
		{"zoe", nil}, {"an", nil}, {"anna", nil}, {"a", nil}, {"Ann", nil}, {"ann ", nil}, {"", nil}, {"\xff", nil}, {strings.Repeat("a", 1000), nil},
	} {
		if got := impl.PartsFor(some(), c.who); !slices.Equal(got, c.want) {
			t.Errorf("PartsFor(%v, %q) = %v; want %v", some(), c.who, got, c.want)
		}
	}
}

func TestPartsForOfAllParts(t *testing.T) {
	for _, who := range append([]string{"c", "t", "ab"}, asked...) {
		for _, l := range rightParts() {
			var want []impl.Part
			for _, p := range l {
				if p.Who == who {
					want = append(want, p)
				}
			}
			if got := impl.PartsFor(l, who); !slices.Equal(got, want) {
				t.Errorf("PartsFor(%v, %q) = %v; want %v", l, who, got, want)
			}
		}
		for _, l := range wrongParts() {
			if got := impl.PartsFor(l, who); len(got) != 0 {
				t.Errorf("PartsFor(%v, %q) = %v", l, who, got)
			}
		}
	}
}

func TestSharesIn(t *testing.T) {
	for _, c := range []struct {
		l    []impl.Part
		mill string
		all  int64
	}{
		{nil, "mia", 0},
		{[]impl.Part{}, "", 0},
		{some(), "ann", 20},
		{some(), "bob", 5},
		{some(), "mia", 1000000001}, // more than MaxShares: only each part is bounded
		{some(), "zoe", 0}, {some(), "mi", 0}, {some(), "miaa", 0}, {some(), "Mia", 0}, {some(), "", 0}, {some(), "\xff", 0},
		{shelf(20, 3), "b", 12}, {shelf(20, 3), "j", 12}, {shelf(19, 3), "j", 9}, {shelf(20, 3), "a", 0},
		{queue(20, 1), "mia", 20},
		{queue(20, 1000000000), "mia", 20000000000},
		{queue(20, 1000000000), "a", 0},
	} {
		if all := impl.SharesIn(c.l, c.mill); all != c.all {
			t.Errorf("SharesIn(%v, %q) = %d; want %d", c.l, c.mill, all, c.all)
		}
	}
	for _, l := range wrongParts() {
		for _, mill := range append([]string{"j"}, asked...) {
			if all := impl.SharesIn(l, mill); all != -1 {
				t.Errorf("SharesIn(%v, %q) = %d; want -1", l, mill, all)
			}
		}
	}
}

// The parts behind the list are its spare room: nothing is written there, nor read.
func TestPartsStayAndAnswersAreNewMemory(t *testing.T) {
	spare := []impl.Part{{Who: "zzspar", Mill: "mia", Shares: 3}, {Who: "room", Mill: "mia", Shares: 4}}
	for _, l := range append(rightParts(), wrongParts()...) {
		room := append(slices.Clone(l), spare...)
		given := slices.Clone(room)
		parts := room[:len(l)]
		if got, want := impl.SharesIn(parts, "mia"), impl.SharesIn(slices.Clone(l), "mia"); got != want || impl.PartsOk(parts) != (got >= 0) {
			t.Errorf("%v with spare room has %d; want %d", l, got, want)
		}
		for _, who := range append(askedParts(), [2]string{"zzspar", "mia"}) {
			impl.SharesOf(parts, who[0], who[1])
			scribble(impl.PartsFor(parts, who[0]))
			for _, n := range []int64{-1, 0, 1, 5, 1000000000, 1000000001} {
				more, _ := impl.Gave(parts, who[0], who[1], n)
				scribble(more)
				fewer, _ := impl.Took(parts, who[0], who[1], n)
				scribble(fewer)
			}
			if !slices.Equal(room, given) {
				t.Fatalf("%v became %v with %q", given, room, who)
			}
		}
	}
}

func TestAnswersOfPartsShareNothingWithEachOther(t *testing.T) {
	l := some()
	a, _ := impl.Gave(l, "ann", "bob", 5)
	b, _ := impl.Gave(l, "ann", "bob", 5)
	c, _ := impl.Took(l, "nobody", "bob", 5)
	d, e := impl.PartsFor(l, "ann"), impl.PartsFor(l, "ann")
	scribble(a)
	scribble(d)
	if !slices.Equal(b, having(some(), "ann", "bob", 10)) || !slices.Equal(c, some()) || !slices.Equal(e, some()[:2]) || !slices.Equal(l, some()) {
		t.Error(l, a, b, c, d, e)
	}
}
