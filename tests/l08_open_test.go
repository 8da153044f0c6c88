package tests

import (
	"cmp"
	"slices"
	"testing"

	"loop.example/g00614/impl"
)

// deed is a call that makes another book of one, and what its chapter tells of that.
type deed interface {
	of(b impl.Book) (impl.Book, int64)
	told(b impl.Book) (impl.Book, int64)
}

// ask is one of the calls of chapter 8, and what it asks for: a purse has no cut.
type ask struct {
	call string
	name string
	cut  int64
}

func (a ask) of(b impl.Book) (impl.Book, int64) {
	switch a.call {
	case "Opened":
		return impl.Opened(b, a.name, a.cut)
	case "Joined":
		return impl.Joined(b, a.name)
	}
	return impl.Recut(b, a.name, a.cut)
}

// told is what the chapter tells of it, word by word.
func (a ask) told(b impl.Book) (impl.Book, int64) {
	if !bookOf(b) {
		return impl.Book{}, impl.MlBad
	}
	switch a.call {
	case "Opened":
		return openedOf(copyOf(b), a.name, a.cut)
	case "Joined":
		return joinedOf(copyOf(b), a.name)
	}
	return recutOf(copyOf(b), a.name, a.cut)
}

func purseAt(b impl.Book, name string) int {
	return slices.IndexFunc(b.Folk, func(p impl.Purse) bool { return p.Name == name })
}

func millAt(b impl.Book, name string) int {
	return slices.IndexFunc(b.Mills, func(m impl.Mill) bool { return m.Name == name })
}

func openedOf(b impl.Book, name string, cut int64) (impl.Book, int64) {
	switch {
	case !isFrom(0, cut, 100), !rising([]string{name}):
		return b, impl.MlBad
	case purseAt(b, name) < 0:
		return b, impl.MlNone
	case millAt(b, name) >= 0:
		return b, impl.MlThere
	case len(b.Mills) == 4:
		return b, impl.MlFull
	}
	b.Mills = append(b.Mills, impl.Mill{Name: name, Cut: cut})
	slices.SortFunc(b.Mills, func(m, o impl.Mill) int { return cmp.Compare(m.Name, o.Name) })
	return b, impl.MlDone
}

func joinedOf(b impl.Book, name string) (impl.Book, int64) {
	switch {
	case !rising([]string{name}):
		return b, impl.MlBad
	case purseAt(b, name) >= 0:
		return b, impl.MlThere
	case len(b.Folk) == 8:
		return b, impl.MlFull
	}
	b.Folk = append(b.Folk, impl.Purse{Name: name})
	slices.SortFunc(b.Folk, func(p, o impl.Purse) int { return cmp.Compare(p.Name, o.Name) })
	return b, impl.MlDone
}

func recutOf(b impl.Book, name string, cut int64) (impl.Book, int64) {
	at := millAt(b, name)
	switch {
	case at < 0:
		return b, impl.MlNone
	case cut < 0, cut > b.Mills[at].Cut:
		return b, impl.MlBad
	}
	b.Mills[at].Cut = cut
	return b, impl.MlDone
}

// asksFor are all three calls for each of these names, with each of these cuts.
func asksFor(names []string, cuts []int64) []ask {
	var l []ask
	for _, name := range names {
		l = append(l, ask{"Joined", name, 0})
		for _, cut := range cuts {
			l = append(l, ask{"Opened", name, cut}, ask{"Recut", name, cut})
		}
	}
	return l
}

// village is whole without its last mill, so that there is room for one more.
func village() impl.Book {
	b := whole()
	b.Mills, b.Parts, b.Waits = b.Mills[:3], b.Parts[:4], b.Waits[:2]
	b.Pot++ // what waited of that mill
	return b
}

// openBooks are right books, with room for none, for one, and for more.
func openBooks() []impl.Book {
	market := impl.Book{ // names of which one is the beginning of another one
		Supply: 24,
		Folk:   []impl.Purse{{Name: "a", Free: 4}, {Name: "aa", Free: 4}, {Name: "az"}, {Name: "b", Free: 8}, {Name: "h"}, {Name: "zzzzzz", Free: 1}},
		Mills:  []impl.Mill{{Name: "aa", Stake: 7, Shares: 2, Cut: 100, Shut: true}, {Name: "b", Cut: 1}},
		Parts:  []impl.Part{{Who: "a", Mill: "aa", Shares: 2}},
	}
	return append(rightBooks(),
		village(),
		market,
		impl.Book{Supply: 1000000, Folk: crowd(7, 0), Pot: 1000000},
		impl.Book{Supply: 8, Folk: crowd(8, 1), Mills: row(3, 0, 0)},
		impl.Book{Supply: 7, Folk: crowd(7, 1), Mills: row(4, 0, 0)},
		impl.Book{Mills: row(3, 0, 0)},
	)
}

var cuts = []int64{least, least + 5, -1 << 32, -101, -100, -5, -2, -1, 0, 1, 2, 4, 5, 6, 50, 99, 100, 101, 102, 255, 256, 1 << 32, 1<<32 + 1, greatest}

func checkDeed(t *testing.T, d deed, b impl.Book) int64 {
	t.Helper()
	got, code := d.of(b)
	if want, wanted := d.told(b); code != wanted || !alike(got, want) {
		t.Errorf("%+v of %+v = %+v, %d; want %+v, %d", d, b, got, code, want, wanted)
	}
	return code
}

func TestCodes(t *testing.T) {
	codes := []int64{impl.MlDone, impl.MlNone, impl.MlThere, impl.MlShut, impl.MlShort, impl.MlWorthless, impl.MlFull, impl.MlBad}
	if !slices.Equal(codes, []int64{0, 1, 2, 3, 4, 5, 6, 7}) {
		t.Fatal(codes)
	}
}

func TestOpened(t *testing.T) {
	folk := []impl.Purse{{Name: "ann", Free: 5}, {Name: "bob", Free: 6}, {Name: "mia"}}
	bob := impl.Mill{Name: "bob", Stake: 30, Shares: 7, Cut: 5, Shut: true}
	held := []impl.Part{{Who: "ann", Mill: "bob", Shares: 7}}
	for _, c := range []struct {
		mills []impl.Mill
		name  string
		cut   int64
		want  []impl.Mill
	}{
		{nil, "ann", 20, []impl.Mill{{Name: "ann", Cut: 20}}},
		{nil, "mia", 0, []impl.Mill{{Name: "mia"}}},
		{nil, "bob", 100, []impl.Mill{{Name: "bob", Cut: 100}}},
		{[]impl.Mill{bob}, "ann", 0, []impl.Mill{{Name: "ann"}, bob}},
		{[]impl.Mill{bob}, "ann", 1, []impl.Mill{{Name: "ann", Cut: 1}, bob}},
		{[]impl.Mill{bob}, "mia", 99, []impl.Mill{bob, {Name: "mia", Cut: 99}}},
		{[]impl.Mill{bob}, "mia", 100, []impl.Mill{bob, {Name: "mia", Cut: 100}}},
		{[]impl.Mill{{Name: "ann", Cut: 9}, bob, {Name: "zoe"}}, "mia", 50, []impl.Mill{{Name: "ann", Cut: 9}, bob, {Name: "mia", Cut: 50}, {Name: "zoe"}}},
	} {
		b := impl.Book{Season: 3, Supply: 11, Folk: folk, Mills: c.mills}
		if slices.Contains(c.mills, bob) {
			b.Supply, b.Parts = 41, held
		}
		want := b
		want.Mills = c.want
		if got, code := impl.Opened(b, c.name, c.cut); code != 0 || !alike(got, want) {
			t.Errorf("Opened(%+v, %q, %d) = %+v, %d", b, c.name, c.cut, got, code)
		}
	}
}

func TestJoined(t *testing.T) {
	for _, c := range []struct {
		folk []string
		name string
		want []string
	}{
		{nil, "a", []string{"a"}},
		{nil, "zzzzzz", []string{"zzzzzz"}},
		{[]string{"bob"}, "ann", []string{"ann", "bob"}},
		{[]string{"bob"}, "mia", []string{"bob", "mia"}},
		{[]string{"ann", "mia"}, "bob", []string{"ann", "bob", "mia"}},
		{[]string{"ann", "mia"}, "an", []string{"an", "ann", "mia"}},
		{[]string{"ann", "mia"}, "anna", []string{"ann", "anna", "mia"}},
		{[]string{"ann", "mia"}, "mib", []string{"ann", "mia", "mib"}},
		{[]string{"b"}, "az", []string{"az", "b"}},
		{[]string{"a", "b", "c", "d", "f", "g", "h"}, "e", []string{"a", "b", "c", "d", "e", "f", "g", "h"}},
	} {
		b := impl.Book{Season: 3, Supply: int64(9 * len(c.folk)), Mills: row(4, 0, 0)}
		want := b
		for _, name := range c.folk {
			b.Folk = append(b.Folk, impl.Purse{Name: name, Free: 9})
		}
		for _, name := range c.want {
			want.Folk = append(want.Folk, impl.Purse{Name: name, Free: 9})
		}
		want.Folk[slices.Index(c.want, c.name)].Free = 0
		if got, code := impl.Joined(b, c.name); code != 0 || !alike(got, want) {
			t.Errorf("Joined(%+v, %q) = %+v, %d", b, c.name, got, code)
		}
	}
}

func TestRecut(t *testing.T) {
	for _, c := range []struct {
		name string
		at   int
		cut  int64
	}{
		{"ann", 0, 5}, // the same one
		{"ann", 0, 4}, // one less
		{"ann", 0, 1},
		{"ann", 0, 0},
		{"bob", 1, 100}, // it is Shut
		{"bob", 1, 99},
		{"bob", 1, 0},
		{"mia", 2, 0},
		{"zoe", 3, 1}, // it has no purse
		{"zoe", 3, 0},
	} {
		want := changed(func(b *impl.Book) { b.Mills[c.at].Cut = c.cut })
		if got, code := impl.Recut(whole(), c.name, c.cut); code != 0 || !alike(got, want) {
			t.Errorf("Recut(%q, %d) = %+v, %d", c.name, c.cut, got, code)
		}
	}
}

// What is refused for one reason alone, and for several: then it is the code that is named first.
func TestOpenRefuses(t *testing.T) {
	full := crammed() // of folk a to h, of mills a to d
	crowded := impl.Book{Supply: 8, Folk: crowd(8, 1), Mills: row(3, 0, 0)}
	for _, c := range []struct {
		book impl.Book
		ask  ask
		code int64
	}{
		{village(), ask{"Opened", "tom", -1}, impl.MlBad},
		{village(), ask{"Opened", "tom", 101}, impl.MlBad},
		{village(), ask{"Opened", "tom", least}, impl.MlBad},
		{village(), ask{"Opened", "tom", greatest}, impl.MlBad},
		{village(), ask{"Opened", "", 5}, impl.MlBad}, // nor has it a purse
		{village(), ask{"Opened", "Tom", 5}, impl.MlBad},
		{village(), ask{"Opened", "tom ", 5}, impl.MlBad},
		{village(), ask{"Opened", "tommmmm", 5}, impl.MlBad},
		{village(), ask{"Opened", "", -1}, impl.MlBad},
		{village(), ask{"Opened", "eve", 101}, impl.MlBad}, // nor is there such a purse
		{village(), ask{"Opened", "ann", 101}, impl.MlBad}, // and it is there
		{full, ask{"Opened", "e", 101}, impl.MlBad},        // and there is no room
		{full, ask{"Opened", "e ", 5}, impl.MlBad},
		{village(), ask{"Opened", "eve", 5}, impl.MlNone},
		{village(), ask{"Opened", "zoe", 5}, impl.MlNone},
		{village(), ask{"Opened", "to", 5}, impl.MlNone},
		{whole(), ask{"Opened", "zoe", 5}, impl.MlNone}, // but the mill is there, and there is no room
		{full, ask{"Opened", "eve", 5}, impl.MlNone},    // nor is there room
		{village(), ask{"Opened", "ann", 5}, impl.MlThere},
		{village(), ask{"Opened", "bob", 0}, impl.MlThere}, // it is Shut
		{village(), ask{"Opened", "mia", 100}, impl.MlThere},
		{full, ask{"Opened", "a", 5}, impl.MlThere}, // nor is there room
		{whole(), ask{"Opened", "tom", 5}, impl.MlFull},
		{full, ask{"Opened", "e", 0}, impl.MlFull},
		{full, ask{"Opened", "h", 100}, impl.MlFull},
		{whole(), ask{"Joined", "", 0}, impl.MlBad},
		{whole(), ask{"Joined", "Ann", 0}, impl.MlBad},
		{whole(), ask{"Joined", "ann ", 0}, impl.MlBad},
		{whole(), ask{"Joined", "zzzzzzz", 0}, impl.MlBad},
		{whole(), ask{"Joined", "\xff", 0}, impl.MlBad},
		{full, ask{"Joined", "", 0}, impl.MlBad}, // nor is there room
		{whole(), ask{"Joined", "ann", 0}, impl.MlThere},
		{whole(), ask{"Joined", "tom", 0}, impl.MlThere},
		{full, ask{"Joined", "a", 0}, impl.MlThere}, // nor is there room
		{full, ask{"Joined", "h", 0}, impl.MlThere},
		{full, ask{"Joined", "i", 0}, impl.MlFull},
		{full, ask{"Joined", "aa", 0}, impl.MlFull},
		{crowded, ask{"Joined", "zoe", 0}, impl.MlFull},
		{whole(), ask{"Recut", "tom", 0}, impl.MlNone}, // a purse, but no mill
		{whole(), ask{"Recut", "eve", 0}, impl.MlNone},
		{whole(), ask{"Recut", "an", 0}, impl.MlNone},
		{whole(), ask{"Recut", "", 0}, impl.MlNone}, // no name, so no mill
		{whole(), ask{"Recut", "Ann", 0}, impl.MlNone},
		{whole(), ask{"Recut", "tom", -1}, impl.MlNone}, // and the cut is out of range
		{whole(), ask{"Recut", "", 101}, impl.MlNone},
		{impl.Book{}, ask{"Recut", "ann", greatest}, impl.MlNone},
		{whole(), ask{"Recut", "ann", 6}, impl.MlBad}, // one more
		{whole(), ask{"Recut", "ann", 100}, impl.MlBad},
		{whole(), ask{"Recut", "ann", 101}, impl.MlBad},
		{whole(), ask{"Recut", "ann", -1}, impl.MlBad},
		{whole(), ask{"Recut", "ann", least}, impl.MlBad},
		{whole(), ask{"Recut", "bob", 101}, impl.MlBad},
		{whole(), ask{"Recut", "mia", 1}, impl.MlBad},
		{whole(), ask{"Recut", "mia", -1}, impl.MlBad},
		{whole(), ask{"Recut", "zoe", 2}, impl.MlBad},
	} {
		if got, code := c.ask.of(c.book); code != c.code || !alike(got, c.book) {
			t.Errorf("%+v of %+v = %+v, %d; want it as it is, %d", c.ask, c.book, got, code, c.code)
		}
	}
}

// wrongBooks are not right, each for one reason.
func wrongBooks() []impl.Book {
	wrong := slices.Concat(brokenLists(), brokenNumbers(), untold())
	for _, n := range []int64{-1, 1} { // a coin too few or too many, and nothing else
		wrong = append(wrong,
			changed(func(b *impl.Book) { b.Supply += n }),
			changed(func(b *impl.Book) { b.Burnt += n }),
			changed(func(b *impl.Book) { b.Pot += n }),
			changed(func(b *impl.Book) { b.Folk[0].Free += n }),
			changed(func(b *impl.Book) { b.Mills[0].Stake += n }),
			changed(func(b *impl.Book) { b.Waits[0].Amount += n }),
		)
	}
	return wrong
}

// A book that is not right is MlBad ahead of all else that is told.
func TestOpenOfWrongBooks(t *testing.T) {
	asks := asksFor([]string{"", "ann", "bob", "tom", "zoe", "eve", "a", "Ann"}, []int64{-1, 0, 5, 101})
	for _, b := range wrongBooks() {
		for _, a := range asks {
			if got, code := a.of(b); code != 7 || !alike(got, impl.Book{}) {
				t.Errorf("%+v of %+v = %+v, %d", a, b, got, code)
			}
		}
	}
}

func TestOpenOfAllBooks(t *testing.T) {
	seen := map[ask]int{}
	for _, b := range openBooks() {
		if !bookOf(b) {
			t.Fatalf("%+v is not right", b)
		}
		for _, a := range asksFor(append([]string{"eve", "aaa", "zz", "m", "bobb"}, askedOfBooks...), cuts) {
			code := checkDeed(t, a, b)
			seen[ask{call: a.call, cut: code}]++
		}
	}
	for call, codes := range map[string][]int64{
		"Opened": {impl.MlDone, impl.MlNone, impl.MlThere, impl.MlFull, impl.MlBad},
		"Joined": {impl.MlDone, impl.MlThere, impl.MlFull, impl.MlBad},
		"Recut":  {impl.MlDone, impl.MlNone, impl.MlBad},
	} {
		for _, code := range codes {
			if n := seen[ask{call: call, cut: code}]; n < 20 {
				t.Errorf("%s was %d only %d times", call, code, n)
			}
		}
	}
}

// In whatever order mills are opened, they rise; the fourth one has room, and one more has none.
func TestOpenedToTheLastMill(t *testing.T) {
	for _, names := range []string{"abcde", "edcba", "cdabe", "badce", "eacbd"} {
		b := impl.Book{Folk: crowd(8, 0)}
		for at := range names {
			was := b
			got, code := impl.Opened(b, names[at:at+1], int64(at))
			if code != 0 {
				if at < 4 || code != impl.MlFull || !alike(got, was) {
					t.Errorf("Opened(%+v, %q) = %+v, %d", was, names[at:at+1], got, code)
				}
				continue
			}
			if at == 4 || !impl.BookOk(got) || len(got.Mills) != at+1 {
				t.Errorf("Opened(%+v, %q) = %+v", was, names[at:at+1], got)
			}
			b = got
		}
	}
}

// In whatever order folk join, they rise; the eighth one has room, and one more has none.
func TestJoinedToTheLastPurse(t *testing.T) {
	for _, names := range []string{"abcdefghi", "ihgfedcba", "eabihgcdf", "badcfehgi"} {
		b := impl.Book{Supply: 1000000, Pot: 1000000}
		for at := range names {
			was := b
			got, code := impl.Joined(b, names[at:at+1])
			if code != 0 {
				if at < 8 || code != impl.MlFull || !alike(got, was) {
					t.Errorf("Joined(%+v, %q) = %+v, %d", was, names[at:at+1], got, code)
				}
				continue
			}
			if at == 8 || !impl.BookOk(got) || len(got.Folk) != at+1 {
				t.Errorf("Joined(%+v, %q) = %+v", was, names[at:at+1], got)
			}
			b = got
		}
	}
}

// othersStay tells whether in both books each one is worth the same, and there is as much in all.
func othersStay(a, b impl.Book, folk []impl.Purse) bool {
	for _, p := range folk {
		if impl.WorthIn(a, p.Name) != impl.WorthIn(b, p.Name) {
			return false
		}
	}
	return impl.Total(a) == impl.Total(b) && a.Supply == b.Supply && impl.BookOk(a) && impl.BookOk(b)
}

func TestANewMillHasNothing(t *testing.T) {
	opened := 0
	for _, b := range openBooks() {
		for _, p := range b.Folk {
			for _, cut := range []int64{0, 1, 99, 100} {
				got, code := impl.Opened(b, p.Name, cut)
				if code != 0 {
					continue
				}
				m, ok := impl.MillIn(got.Mills, p.Name)
				if !ok || m != (impl.Mill{Name: p.Name, Cut: cut}) || impl.SharesIn(got.Parts, p.Name) != 0 {
					t.Errorf("Opened(%+v, %q, %d) has %+v", b, p.Name, cut, m)
				}
				if !othersStay(b, got, b.Folk) || impl.StakesIn(b.Mills) != impl.StakesIn(got.Mills) {
					t.Errorf("Opened(%+v, %q, %d) = %+v", b, p.Name, cut, got)
				}
				opened++
			}
		}
	}
	if opened < 40 {
		t.Errorf("only %d mills were opened", opened)
	}
}

func TestANewPurseHasNothing(t *testing.T) {
	joined := 0
	for _, b := range openBooks() {
		for _, name := range askedOfBooks {
			got, code := impl.Joined(b, name)
			if code != 0 {
				continue
			}
			if impl.FreeOf(got.Folk, name) != 0 || impl.WorthIn(got, name) != 0 {
				t.Errorf("Joined(%+v, %q) has %d", b, name, impl.WorthIn(got, name))
			}
			if !othersStay(b, got, b.Folk) || impl.FreeIn(b.Folk) != impl.FreeIn(got.Folk) {
				t.Errorf("Joined(%+v, %q) = %+v", b, name, got)
			}
			joined++
		}
	}
	if joined < 40 {
		t.Errorf("only %d purses are new", joined)
	}
}

func TestACutBecomesNoGreater(t *testing.T) {
	for was := range int64(101) {
		for cut := int64(-2); cut <= 103; cut++ {
			b := changed(func(b *impl.Book) { b.Mills[0].Cut = was })
			want := changed(func(b *impl.Book) { b.Mills[0].Cut = was })
			wanted := int64(impl.MlBad)
			if isFrom(0, cut, was) {
				want.Mills[0].Cut, wanted = cut, impl.MlDone
			}
			got, code := impl.Recut(b, "ann", cut)
			if code != wanted || !alike(got, want) || !othersStay(b, got, b.Folk) {
				t.Errorf("Recut from %d to %d = %+v, %d", was, cut, got, code)
			}
		}
	}
}

// A cut that went down does not come back, not even by steps.
func TestACutStaysDown(t *testing.T) {
	b := changed(func(b *impl.Book) { b.Mills[0].Cut = 100 })
	low := int64(100)
	for _, cut := range []int64{100, 101, 60, 61, 100, 60, 59, 60, -1, 7, 8, 6, 7, 0, 1, 0, -1, 100} {
		got, code := impl.Recut(b, "ann", cut)
		fits := isFrom(0, cut, low)
		if fits {
			low = cut
		}
		if (code == 0) != fits || got.Mills[0].Cut != low {
			t.Errorf("Recut to %d: %d, and the cut is %d; want %d", cut, code, got.Mills[0].Cut, low)
		}
		b = got
	}
}

func scribbleBook(b impl.Book) {
	scribble(b.Folk)
	scribble(b.Mills)
	scribble(b.Parts)
	scribble(b.Waits)
}

// What is behind the lists is their spare room: nothing is written there, nor read.
func TestOpenIsNewMemoryAndBooksStay(t *testing.T) {
	wrong := []impl.Book{changed(func(b *impl.Book) { b.Supply++ }), changed(func(b *impl.Book) { b.Season = 1001 })}
	for _, b := range append(openBooks(), wrong...) {
		for _, a := range asksFor([]string{"a", "ann", "bob", "tom", "h", "zoe", "eve", "spare", "i", ""}, []int64{-1, 0, 5, 101}) {
			checkMemory(t, a, b)
		}
	}
}

func checkMemory(t *testing.T, d deed, b impl.Book) {
	t.Helper()
	tight, full := roomy(b)
	given := copyOf(full)
	first, _ := d.of(tight)
	second, _ := d.of(tight)
	want, _ := d.told(b)
	if scribbleBook(first); !alike(full, given) {
		t.Fatalf("%+v: %+v became %+v", d, given, full)
	}
	if !alike(second, want) {
		t.Fatalf("%+v of %+v: two answers share their lists: %+v", d, b, second)
	}
	if scribbleBook(full); !alike(second, want) {
		t.Fatalf("%+v of %+v became %+v with what it was given", d, b, second)
	}
}
