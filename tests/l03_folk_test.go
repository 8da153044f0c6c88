package tests

import (
	"slices"
	"strings"
	"testing"

	"loop.example/g00614/impl"
)

// three are the folk that most tests begin with: with something, with all that a purse may have, with nothing.
func three() []impl.Purse {
	return []impl.Purse{{Name: "ann", Free: 10}, {Name: "bob", Free: 1000000}, {Name: "mia"}}
}

// crowd are the first n of a to z, each with as much.
func crowd(n int, free int64) []impl.Purse {
	var l []impl.Purse
	for i := range n {
		l = append(l, impl.Purse{Name: letters[i : i+1], Free: free})
	}
	return l
}

// rightFolk are some that are as the chapter wants them.
func rightFolk() [][]impl.Purse {
	return [][]impl.Purse{
		nil,
		{},
		{{Name: "a"}},
		{{Name: "zzzzzz", Free: 1000000}},
		{{Name: "a", Free: 1}, {Name: "aa", Free: 999999}, {Name: "b", Free: 1}},
		{{Name: "az", Free: 5}, {Name: "b", Free: 4}},
		three(),
		crowd(7, 1),
		crowd(8, 0),
		crowd(8, 1000000),
	}
}

// wrongFolk are some that are not: each for one reason, at the first, a middle or the last place.
func wrongFolk() [][]impl.Purse {
	l := [][]impl.Purse{
		crowd(9, 0),
		crowd(9, 1000000),
		crowd(10, 5),
		crowd(26, 5),
		slices.Repeat(three(), 1000),
		{{Name: "b"}, {Name: "a"}},
		{{Name: "a"}, {Name: "a"}},
		{{Name: "a", Free: 1}, {Name: "a", Free: 2}},
		{{Name: "aa"}, {Name: "a"}},
		{{Name: "mia"}, {Name: "bob"}, {Name: "ann"}},
		{{Name: "a"}, {Name: "b"}, {Name: "a"}},
		{{Name: "a"}, {Name: "c"}, {Name: "b"}, {Name: "d"}},
	}
	for at := range 3 {
		for _, free := range []int64{-1, 1000001, -1000000, 1 << 32, least, greatest} {
			folk := three()
			folk[at].Free = free
			l = append(l, folk)
		}
	}
	return append(l,
		[]impl.Purse{{}},
		[]impl.Purse{{Name: "", Free: 5}, {Name: "ann", Free: 5}, {Name: "bob", Free: 5}},
		[]impl.Purse{{Name: "Ann", Free: 5}, {Name: "ann", Free: 5}, {Name: "bob", Free: 5}},
		[]impl.Purse{{Name: "ann", Free: 5}, {Name: "ann ", Free: 5}, {Name: "bob", Free: 5}},
		[]impl.Purse{{Name: "ann", Free: 5}, {Name: "bob", Free: 5}, {Name: "zzzzzzz", Free: 5}},
		[]impl.Purse{{Name: "ann", Free: 5}, {Name: "bob", Free: 5}, {Name: "\xff", Free: 5}},
	)
}

// asked are names that some of these folk have, and what none of them has.
var asked = []string{"a", "aa", "ann", "az", "b", "bob", "h", "mia", "zzzzzz", "i", "an", "anna", "Ann", "ann ", "", "zzzzzzz", "\xff"}

func TestLimitOfFolk(t *testing.T) {
	if impl.MaxFolk != 8 {
		t.Fatal(impl.MaxFolk)
	}
}

func TestFolkOk(t *testing.T) {
	for _, l := range rightFolk() {
		if !impl.FolkOk(l) {
			t.Errorf("FolkOk(%v) is false", l)
		}
	}
	for _, l := range wrongFolk() {
		if impl.FolkOk(l) {
			t.Errorf("FolkOk(%v) is true", l)
		}
	}
}

func TestFolkOkOfEachCount(t *testing.T) {
	for n := range 27 {
		for _, free := range []int64{0, 5, 1000000} {
			if got := impl.FolkOk(crowd(n, free)); got != (n <= 8) {
				t.Errorf("FolkOk of %d purses with %d each is %t", n, free, got)
			}
		}
	}
}

func TestFolkOkOfNamesAndAmounts(t *testing.T) {
	for _, a := range words {
		for _, free := range edges {
			one := []impl.Purse{{Name: a, Free: free}}
			if got, want := impl.FolkOk(one), rising([]string{a}) && isFrom(0, free, 1000000); got != want {
				t.Errorf("FolkOk(%v) is %t", one, got)
			}
		}
		for _, b := range words {
			two := []impl.Purse{{Name: a, Free: 2}, {Name: b, Free: 1}}
			if got, want := impl.FolkOk(two), rising([]string{a, b}); got != want {
				t.Errorf("FolkOk(%v) is %t", two, got)
			}
		}
	}
}

func TestFreeOf(t *testing.T) {
	for _, c := range []struct {
		name string
		free int64
	}{
		{"ann", 10}, {"bob", 1000000}, {"mia", 0},
		{"abe", -1}, {"bea", -1}, {"zoe", -1}, {"an", -1}, {"anna", -1}, {"a", -1},
		{"Ann", -1}, {" ann", -1}, {"ann ", -1}, {"", -1}, {"\xff", -1}, {strings.Repeat("a", 1000), -1},
	} {
		if free := impl.FreeOf(three(), c.name); free != c.free {
			t.Errorf("FreeOf(%v, %q) = %d; want %d", three(), c.name, free, c.free)
		}
	}
}

func TestFreeOfAllFolk(t *testing.T) {
	for _, l := range rightFolk() {
		for _, name := range asked {
			want := int64(-1)
			for _, p := range l {
				if p.Name == name {
					want = p.Free
				}
			}
			if free := impl.FreeOf(l, name); free != want {
				t.Errorf("FreeOf(%v, %q) = %d; want %d", l, name, free, want)
			}
		}
	}
	for _, l := range wrongFolk() {
		for _, name := range asked {
			if free := impl.FreeOf(l, name); free != -1 {
				t.Errorf("FreeOf(%v, %q) = %d; want -1", l, name, free)
			}
		}
	}
}

func TestFreeIn(t *testing.T) {
	for _, c := range []struct {
		l   []impl.Purse
		all int64
	}{
		{nil, 0},
		{[]impl.Purse{}, 0},
		{[]impl.Purse{{Name: "a"}}, 0},
		{[]impl.Purse{{Name: "a", Free: 7}}, 7},
		{three(), 1000010}, // more than an amount: only each one is bounded
		{crowd(8, 1), 8},
		{crowd(8, 1000000), 8000000},
	} {
		if all := impl.FreeIn(c.l); all != c.all {
			t.Errorf("FreeIn(%v) = %d; want %d", c.l, all, c.all)
		}
	}
	for _, l := range wrongFolk() {
		if all := impl.FreeIn(l); all != -1 {
			t.Errorf("FreeIn(%v) = %d; want -1", l, all)
		}
	}
}

func TestPaid(t *testing.T) {
	for _, c := range []struct {
		name string
		n    int64
		free int64
		ok   bool
	}{
		{"ann", 0, 10, true},
		{"ann", 1, 11, true},
		{"ann", 999989, 999999, true},
		{"ann", 999990, 1000000, true},
		{"ann", 999991, 10, false},
		{"ann", 1000000, 10, false},
		{"ann", 1000001, 10, false},
		{"ann", -1, 10, false},
		{"ann", -10, 10, false},
		{"ann", greatest, 10, false},
		{"ann", greatest - 9, 10, false}, // the sum would wrap around
		{"ann", least, 10, false},
		{"bob", 0, 1000000, true},
		{"bob", 1, 1000000, false},
		{"bob", -1, 1000000, false},
		{"mia", 0, 0, true},
		{"mia", 999999, 999999, true},
		{"mia", 1000000, 1000000, true},
		{"mia", 1000001, 0, false},
		{"mia", -1, 0, false},
	} {
		l, ok := impl.Paid(three(), c.name, c.n)
		if ok != c.ok || !slices.Equal(l, with(three(), c.name, c.free)) {
			t.Errorf("Paid(%v, %q, %d) = %v, %t; want Free %d, %t", three(), c.name, c.n, l, ok, c.free, c.ok)
		}
	}
}

func TestSpent(t *testing.T) {
	for _, c := range []struct {
		name string
		n    int64
		free int64
		ok   bool
	}{
		{"ann", 0, 10, true},
		{"ann", 1, 9, true},
		{"ann", 9, 1, true},
		{"ann", 10, 0, true},
		{"ann", 11, 10, false},
		{"ann", 1000000, 10, false},
		{"ann", 1000001, 10, false},
		{"ann", -1, 10, false},
		{"ann", -999990, 10, false},
		{"ann", greatest, 10, false},
		{"ann", least, 10, false},
		{"ann", least + 10, 10, false}, // the difference would wrap around
		{"bob", 0, 1000000, true},
		{"bob", 999999, 1, true},
		{"bob", 1000000, 0, true},
		{"bob", 1000001, 1000000, false},
		{"bob", -1, 1000000, false},
		{"mia", 0, 0, true},
		{"mia", 1, 0, false},
		{"mia", -1, 0, false},
		{"mia", -1000000, 0, false},
	} {
		l, ok := impl.Spent(three(), c.name, c.n)
		if ok != c.ok || !slices.Equal(l, with(three(), c.name, c.free)) {
			t.Errorf("Spent(%v, %q, %d) = %v, %t; want Free %d, %t", three(), c.name, c.n, l, ok, c.free, c.ok)
		}
	}
}

// with is l with that Free for that one.
func with(l []impl.Purse, name string, free int64) []impl.Purse {
	l = slices.Clone(l)
	for i := range l {
		if l[i].Name == name {
			l[i].Free = free
		}
	}
	return l
}

func TestPaidAndSpentOfNoSuchPurse(t *testing.T) {
	for _, l := range rightFolk() {
		for _, name := range []string{"abe", "bea", "zoe", "an", "anna", "Ann", "ann ", "", "zzzzzzz", "\xff"} {
			for _, n := range edges {
				if got, ok := impl.Paid(l, name, n); ok || !slices.Equal(got, l) {
					t.Errorf("Paid(%v, %q, %d) = %v, %t", l, name, n, got, ok)
				}
				if got, ok := impl.Spent(l, name, n); ok || !slices.Equal(got, l) {
					t.Errorf("Spent(%v, %q, %d) = %v, %t", l, name, n, got, ok)
				}
			}
		}
	}
}

func TestPaidAndSpentOfWrongFolk(t *testing.T) {
	for _, l := range wrongFolk() {
		for _, name := range asked {
			for _, n := range edges {
				if got, ok := impl.Paid(l, name, n); ok || len(got) != 0 {
					t.Errorf("Paid(%v, %q, %d) = %v, %t", l, name, n, got, ok)
				}
				if got, ok := impl.Spent(l, name, n); ok || len(got) != 0 {
					t.Errorf("Spent(%v, %q, %d) = %v, %t", l, name, n, got, ok)
				}
			}
		}
	}
}

// Promise 3, of each purse of each folk, at each limit: all others stay, and what was done can be undone.
func TestWhatWasPaidCanBeSpent(t *testing.T) {
	for _, l := range rightFolk() {
		for _, p := range l {
			for _, n := range append([]int64{p.Free, p.Free + 1, 1000000 - p.Free, 1000001 - p.Free}, edges...) {
				checkPaid(t, l, p, n)
				checkSpent(t, l, p, n)
			}
		}
	}
}

func checkPaid(t *testing.T, l []impl.Purse, p impl.Purse, n int64) {
	t.Helper()
	rich, ok := impl.Paid(l, p.Name, n)
	if want := isFrom(0, n, 1000000-p.Free); ok != want {
		t.Errorf("Paid(%v, %q, %d): %t", l, p.Name, n, ok)
	}
	if !ok {
		if !slices.Equal(rich, l) {
			t.Errorf("Paid(%v, %q, %d) = %v, false", l, p.Name, n, rich)
		}
		return
	}
	if !slices.Equal(rich, with(l, p.Name, p.Free+n)) || impl.FreeIn(rich) != impl.FreeIn(l)+n || !impl.FolkOk(rich) {
		t.Errorf("Paid(%v, %q, %d) = %v", l, p.Name, n, rich)
	}
	if back, ok := impl.Spent(rich, p.Name, n); !ok || !slices.Equal(back, l) {
		t.Errorf("Spent(%v, %q, %d) = %v, %t; want %v", rich, p.Name, n, back, ok, l)
	}
}

func checkSpent(t *testing.T, l []impl.Purse, p impl.Purse, n int64) {
	t.Helper()
	poor, ok := impl.Spent(l, p.Name, n)
	if want := isFrom(0, n, p.Free); ok != want {
		t.Errorf("Spent(%v, %q, %d): %t", l, p.Name, n, ok)
	}
	if !ok {
		if !slices.Equal(poor, l) {
			t.Errorf("Spent(%v, %q, %d) = %v, false", l, p.Name, n, poor)
		}
		return
	}
	if !slices.Equal(poor, with(l, p.Name, p.Free-n)) || impl.FreeIn(poor) != impl.FreeIn(l)-n || !impl.FolkOk(poor) {
		t.Errorf("Spent(%v, %q, %d) = %v", l, p.Name, n, poor)
	}
	if back, ok := impl.Paid(poor, p.Name, n); !ok || !slices.Equal(back, l) {
		t.Errorf("Paid(%v, %q, %d) = %v, %t; want %v", poor, p.Name, n, back, ok, l)
	}
}

// The purses behind the list are its spare room: nothing is written there, nor read.
func TestFolkStayAndAnswersAreNewMemory(t *testing.T) {
	for _, l := range append(rightFolk(), wrongFolk()...) {
		room := append(slices.Clone(l), impl.Purse{Name: "spare", Free: 3}, impl.Purse{Name: "room", Free: 4})
		given := slices.Clone(room)
		folk := room[:len(l)]
		for _, name := range append(asked, "spare") {
			for _, n := range []int64{-1, 0, 1, 10, 999990, 1000000, 1000001} {
				impl.FolkOk(folk)
				impl.FreeOf(folk, name)
				impl.FreeIn(folk)
				paid, _ := impl.Paid(folk, name, n)
				scribble(paid)
				spent, _ := impl.Spent(folk, name, n)
				scribble(spent)
				if !slices.Equal(room, given) {
					t.Fatalf("%v became %v with %q and %d", given, room, name, n)
				}
			}
		}
	}
}

// scribble writes over a list and over the spare room behind it, to show whose memory it is.
func scribble[T any](l []T) {
	clear(l[:cap(l)])
}

func TestAnswersOfFolkShareNothingWithEachOther(t *testing.T) {
	l := three()
	a, _ := impl.Paid(l, "ann", 5)
	b, _ := impl.Paid(l, "ann", 5)
	c, _ := impl.Spent(l, "nobody", 5)
	scribble(a)
	if !slices.Equal(b, with(three(), "ann", 15)) || !slices.Equal(c, three()) || !slices.Equal(l, three()) {
		t.Error(l, a, b, c)
	}
}
