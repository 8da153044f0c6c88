package tests

import (
	"slices"
	"strings"
	"testing"

	"loop.example/g00614/impl"
)

// letters are all bytes of which names are made.
const letters = "abcdefghijklmnopqrstuvwxyz"

// words has names, what is no name by one byte, and what is far from one; in no order.
var words = []string{
	"", "a", "b", "z", "aa", "ab", "ba", "az", "za", "aaa", "ann", "bob", "mia", "abcdef", "abcdeg", "zzzzzz",
	"abcdefg", "zzzzzzz", "A", "Z", "`", "{", "aA", "a ", " a", "a1", "ann\x00", "\x00", "\xff", "ä", "ann\n", "a;b",
	strings.Repeat("a", 1000),
}

func TestNameOkOfNames(t *testing.T) {
	for _, s := range []string{"a", "z", "m", "ab", "zz", "ann", "bob", "mia", "aaaa", "miller", "abcdef", "zzzzzz", "azazaz"} {
		if !impl.NameOk(s) {
			t.Errorf("NameOk(%q) is false", s)
		}
	}
}

func TestNameOkRefuses(t *testing.T) {
	for _, s := range []string{
		"", " ", "`", "{", "A", "Z", "0", "-", "\x00", "\n", "\x7f", "\x80", "\xe1", "\xff",
		"Ann", "aNn", "anN", "ann ", " ann", "an n", "ann\n", "ann\x00", "\x00ann", "a`", "`a", "z{", "{z",
		"ann1", "a/b", "a;b", "a:b", "ä", "aä", "ａ", "\xff\xfe", "abcde`", "abcde{", "abcdef ", "abcdef\x00",
	} {
		if impl.NameOk(s) {
			t.Errorf("NameOk(%q) is true", s)
		}
	}
}

func TestNameOkAtEachLength(t *testing.T) {
	for n := 0; n <= 300; n++ {
		for _, letter := range []string{"a", "m", "z"} {
			s := strings.Repeat(letter, n)
			if got, want := impl.NameOk(s), 1 <= n && n <= 6; got != want {
				t.Errorf("NameOk of %d times %s is %t", n, letter, got)
			}
		}
	}
	if impl.NameOk(strings.Repeat("a", 1<<20)) {
		t.Error("NameOk of a very long text is true")
	}
}

func TestNameOkOfEachByteAtEachPlace(t *testing.T) {
	for n := 1; n <= 7; n++ {
		for place := range n {
			for b := range 256 {
				text := []byte(strings.Repeat("k", n))
				text[place] = byte(b)
				want := n <= 6 && strings.IndexByte(letters, byte(b)) >= 0
				if got := impl.NameOk(string(text)); got != want {
					t.Errorf("NameOk(%q) is %t", text, got)
				}
			}
		}
	}
}

func TestRises(t *testing.T) {
	for _, l := range [][]string{
		nil,
		{},
		{"a"},
		{"zzzzzz"},
		{"a", "b"},
		{"a", "aa"},
		{"a", "aa", "ab", "b"},
		{"ann", "bob", "mia"},
		{"ann", "anna", "annb", "bob"},
		{"aaaaaz", "aaaaba"},
		{"abcdef", "abcdeg"},
		{"y", "z", "zz", "zzz", "zzzz", "zzzzz", "zzzzzz"},
		{"az", "b"}, // the greater byte counts, not the greater length
	} {
		if !impl.Rises(l) {
			t.Errorf("Rises(%q) is false", l)
		}
	}
}

func TestRisesRefuses(t *testing.T) {
	for _, l := range [][]string{
		{"b", "a"},
		{"aa", "a"},
		{"b", "aa"},
		{"mia", "bob", "ann"},
		{"ann", "mia", "bob"},
		{"bob", "ann", "mia"},
		{"a", "a"},
		{"abcdef", "abcdef"},
		{"a", "a", "b"},
		{"a", "b", "b"},
		{"a", "b", "c", "c"},
		{"a", "b", "a"}, // twice, but not one behind the other
		{"a", "c", "b", "d"},
		{""},
		{"", "a"},
		{"", ""},
		{"a", ""},
		{"A"},
		{"A", "a"},
		{"A", "B"},
		{"`", "a"},
		{"z", "{"},
		{"a", "b", "{"},
		{"a", "b1", "c"},
		{"abcdefg"},
		{"a", "abcdefg", "b"},
		{"a", "b", "zzzzzzz"},
		{"ann", "ann "},
		{"a", "ä"},
		{"\xff"},
	} {
		if impl.Rises(l) {
			t.Errorf("Rises(%q) is true", l)
		}
	}
}

// rising is what the chapter tells, asked of every pair and not only of neighbours.
func rising(l []string) bool {
	for i, s := range l {
		if len(s) < 1 || len(s) > 6 || strings.Trim(s, letters) != "" {
			return false
		}
		for _, ahead := range l[:i] {
			if strings.Compare(ahead, s) >= 0 {
				return false
			}
		}
	}
	return true
}

func TestRisesOfAllShortLists(t *testing.T) {
	for _, a := range words {
		checkRises(t, []string{a})
		for _, b := range words {
			checkRises(t, []string{a, b})
			for _, c := range words {
				checkRises(t, []string{a, b, c})
			}
		}
	}
}

// checkRises holds Rises against the chapter, and a list that rises against promise 2.
func checkRises(t *testing.T, l []string) {
	t.Helper()
	got := impl.Rises(l)
	if got != rising(l) {
		t.Errorf("Rises(%q) is %t", l, got)
	}
	if !got {
		return
	}
	for i, name := range l {
		if !impl.NameOk(name) {
			t.Errorf("%q rises, but has %q, which is no name", l, name)
		}
		if slices.Contains(l[:i], name) || slices.Contains(l[i+1:], name) {
			t.Errorf("%q rises, but has %q twice", l, name)
		}
		if place := impl.PlaceIn(l, name); place != int64(i) {
			t.Errorf("PlaceIn(%q, %q) = %d; want %d", l, name, place, i)
		}
	}
}

// pairs are all names of two letters, in order: 676 of them.
func pairs() []string {
	var l []string
	for _, first := range letters {
		for _, second := range letters {
			l = append(l, string(first)+string(second))
		}
	}
	return l
}

func TestNamesThatRiseHaveNoneTwice(t *testing.T) {
	l := pairs()
	checkRises(t, l)
	if !impl.Rises(l) {
		t.Fatal("all pairs do not rise")
	}
	for i := range l {
		for _, other := range []int{0, i - 1, i + 1, len(l) / 2, len(l) - 1} {
			if other < 0 || other >= len(l) || other == i {
				continue
			}
			twice := slices.Clone(l)
			twice[i] = l[other]
			if impl.Rises(twice) {
				t.Errorf("all pairs rise with %q at %d, too", l[other], i)
			}
			swapped := slices.Clone(l)
			swapped[i], swapped[other] = l[other], l[i]
			if impl.Rises(swapped) {
				t.Errorf("all pairs rise with %d and %d swapped", i, other)
			}
		}
	}
}

func TestPlaceIn(t *testing.T) {
	for _, c := range []struct {
		l     []string
		name  string
		place int64
	}{
		{[]string{"ann", "bob", "mia"}, "ann", 0},
		{[]string{"ann", "bob", "mia"}, "bob", 1},
		{[]string{"ann", "bob", "mia"}, "mia", 2},
		{[]string{"ann", "bob", "mia"}, "abe", -1},
		{[]string{"ann", "bob", "mia"}, "bea", -1},
		{[]string{"ann", "bob", "mia"}, "zoe", -1},
		{[]string{"ann", "bob", "mia"}, "an", -1},
		{[]string{"ann", "bob", "mia"}, "anna", -1},
		{[]string{"ann", "bob", "mia"}, "Ann", -1},
		{[]string{"ann", "bob", "mia"}, "", -1},
		{[]string{"abcdef"}, "abcdef", 0},
		{[]string{"abcdef"}, "abcdefg", -1},
		{[]string{"a"}, "b", -1},
		{nil, "a", -1},
		{nil, "", -1},
		{[]string{}, "a", -1},
		{[]string{}, "", -1},
		// Lists that do not rise: the chapter asks no more than where it is.
		{[]string{"mia", "bob", "ann"}, "ann", 2},
		{[]string{"mia", "bob", "ann"}, "mia", 0},
		{[]string{"b", "a", "b", "a"}, "a", 1},
		{[]string{"b", "b"}, "b", 0},
		{[]string{"", "Ann", "b"}, "b", 2},
		{[]string{"", "Ann", "b"}, "Ann", 1},
		{[]string{"b", ""}, "", 1},
	} {
		if place := impl.PlaceIn(c.l, c.name); place != c.place {
			t.Errorf("PlaceIn(%q, %q) = %d; want %d", c.l, c.name, place, c.place)
		}
	}
}

func TestPlaceInOfAllPairs(t *testing.T) {
	l := pairs()
	for i, name := range l {
		if place := impl.PlaceIn(l, name); place != int64(i) {
			t.Errorf("PlaceIn of all pairs and %q = %d; want %d", name, place, i)
		}
		rest := slices.Delete(slices.Clone(l), i, i+1)
		if place := impl.PlaceIn(rest, name); place != -1 {
			t.Errorf("PlaceIn of all pairs but %q = %d; want -1", name, place)
		}
	}
}

func TestNamesLeaveListsAsTheyAre(t *testing.T) {
	for _, given := range [][]string{
		{"ann", "bob", "mia", "spare", "room"},
		{"mia", "bob", "ann", "spare", "room"},
		{"a", "a", "", "spare", "room"},
		{"Ann", "abcdefg", "\xff", "spare", "room"},
	} {
		l := slices.Clone(given)
		impl.Rises(l[:3])
		impl.PlaceIn(l[:3], "bob")
		impl.PlaceIn(l[:3], "spare")
		if !slices.Equal(l, given) {
			t.Errorf("%q became %q", given, l)
		}
		if place := impl.PlaceIn(l[:3], "spare"); place != -1 {
			t.Errorf("PlaceIn(%q, spare) = %d; want -1", l[:3], place)
		}
	}
}
