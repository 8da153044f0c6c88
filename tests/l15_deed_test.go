package tests

import (
	"regexp"
	"slices"
	"strconv"
	"strings"
	"testing"

	"loop.example/g00614/impl"
)

// forms are the words of the deeds as the chapter tells them, by their Kind.
var forms = []string{
	impl.DdOpen:   "open MILL N",
	impl.DdJoin:   "join WHO",
	impl.DdCut:    "cut MILL N",
	impl.DdLend:   "lend WHO MILL N",
	impl.DdLoosen: "loosen WHO MILL N",
	impl.DdShift:  "shift WHO MILL TO N",
	impl.DdFine:   "fine MILL N",
	impl.DdMend:   "mend MILL",
	impl.DdEarn:   "earn MILL N",
	impl.DdGive:   "give WHO TO N",
	impl.DdSeason: "season",
}

var (
	nameForm  = regexp.MustCompile(`\A[a-z]{1,6}\z`)
	countForm = regexp.MustCompile(`\A(0|[1-9][0-9]{0,8})\z`)
)

// deedParts are the fields of a deed but its Kind, by what the forms call them, as words.
func deedParts(d impl.Deed) map[string]string {
	return map[string]string{"WHO": d.Who, "MILL": d.Mill, "TO": d.To, "N": strconv.FormatInt(d.N, 10)}
}

// saying is the deed of that Kind with these words in its fields.
func saying(kind int64, parts map[string]string) impl.Deed {
	n, _ := strconv.ParseInt(parts["N"], 10, 64)
	return impl.Deed{Kind: kind, Who: parts["WHO"], Mill: parts["MILL"], To: parts["TO"], N: n}
}

// shownOf is what the chapter tells of ShowDeed, word by word.
func shownOf(d impl.Deed) string {
	if d.Kind < 1 || d.Kind > 11 {
		return ""
	}
	parts := deedParts(d)
	said := strings.Fields(forms[d.Kind])
	for i, part := range said[1:] {
		form := nameForm
		if part == "N" {
			form = countForm
		}
		if !form.MatchString(parts[part]) {
			return ""
		}
		said[i+1] = parts[part]
		delete(parts, part)
	}
	for part, word := range parts {
		if part == "N" && word != "0" || part != "N" && word != "" {
			return ""
		}
	}
	return strings.Join(said, " ")
}

// readOf is what the chapter tells of ReadDeed, word by word.
func readOf(s string) (impl.Deed, bool) {
	for kind, form := range forms {
		told := strings.Fields(form)
		said := strings.Split(s, " ")
		if kind == 0 || len(said) != len(told) || said[0] != told[0] {
			continue
		}
		parts := map[string]string{}
		for i := 1; i < len(told); i++ {
			parts[told[i]] = said[i]
		}
		if d := saying(int64(kind), parts); shownOf(d) == s {
			return d, true
		}
	}
	return impl.Deed{}, false
}

// checkDeedOk holds DeedOk and ShowDeed against the chapter, and with them promise 15. It tells whether the deed is right.
func checkDeedOk(t *testing.T, d impl.Deed) bool {
	t.Helper()
	want := shownOf(d)
	if got := impl.DeedOk(d); got != (want != "") {
		t.Fatalf("DeedOk(%+v) is %t", d, got)
	}
	if got := impl.ShowDeed(d); got != want {
		t.Fatalf("ShowDeed(%+v) = %.80q; want %q", d, got, want)
	}
	got, is := impl.ReadDeed(want)
	if want == "" {
		d = impl.Deed{}
	}
	if got != d || is != (want != "") {
		t.Fatalf("ReadDeed(%q) = %+v, %t; want %+v", want, got, is, d)
	}
	return is
}

// checkRead holds ReadDeed against the chapter, and ReadDeeds of that one text; and what was read is shown as that text. It tells whether it is a deed.
func checkRead(t *testing.T, s string) bool {
	t.Helper()
	want, right := readOf(s)
	got, is := impl.ReadDeed(s)
	if got != want || is != right {
		t.Fatalf("ReadDeed(%.80q) = %+v, %t; want %+v, %t", s, got, is, want, right)
	}
	if is && (impl.ShowDeed(got) != s || !impl.DeedOk(got)) {
		t.Fatalf("ReadDeed(%.80q) = %+v, which is shown as %q", s, got, impl.ShowDeed(got))
	}
	checkReadAll(t, s)
	return is
}

// checkReadAll holds ReadDeeds against what ReadDeed is to tell of each of the texts.
func checkReadAll(t *testing.T, texts ...string) bool {
	t.Helper()
	s := strings.Join(texts, ";")
	want, right := []impl.Deed{}, true
	if s != "" {
		for _, text := range strings.Split(s, ";") {
			d, is := readOf(text)
			want, right = append(want, d), right && is
		}
	}
	if right = right && len(want) <= 20; !right {
		want = nil
	}
	got, is := impl.ReadDeeds(s)
	if is != right || !slices.Equal(got, want) {
		t.Fatalf("ReadDeeds(%.80q) = %+v, %t; want %+v, %t", s, got, is, want, right)
	}
	return is
}

// ordinary are deeds of each Kind, and what they are in words.
var ordinary = []struct {
	deed impl.Deed
	text string
}{
	{impl.Deed{Kind: 1, Mill: "mia", N: 10}, "open mia 10"},
	{impl.Deed{Kind: 1, Mill: "zzzzzz"}, "open zzzzzz 0"},
	{impl.Deed{Kind: 1, Mill: "open", N: 101}, "open open 101"},
	{impl.Deed{Kind: 2, Who: "zed"}, "join zed"},
	{impl.Deed{Kind: 2, Who: "join"}, "join join"},
	{impl.Deed{Kind: 3, Mill: "mia", N: 5}, "cut mia 5"},
	{impl.Deed{Kind: 3, Mill: "m", N: 999999999}, "cut m 999999999"},
	{impl.Deed{Kind: 4, Who: "bob", Mill: "mia", N: 40}, "lend bob mia 40"},
	{impl.Deed{Kind: 4, Who: "mia", Mill: "mia", N: 1}, "lend mia mia 1"},
	{impl.Deed{Kind: 5, Who: "bob", Mill: "mia", N: 1}, "loosen bob mia 1"},
	{impl.Deed{Kind: 5, Who: "abcdef", Mill: "a"}, "loosen abcdef a 0"},
	{impl.Deed{Kind: 6, Who: "bob", Mill: "mia", To: "ann", N: 9}, "shift bob mia ann 9"},
	{impl.Deed{Kind: 6, Who: "bob", Mill: "mia", To: "mia", N: 9}, "shift bob mia mia 9"},
	{impl.Deed{Kind: 6, Who: "bob", Mill: "bob", To: "bob", N: 123456789}, "shift bob bob bob 123456789"},
	{impl.Deed{Kind: 7, Mill: "mia", N: 50}, "fine mia 50"},
	{impl.Deed{Kind: 7, Mill: "fine", N: 100}, "fine fine 100"},
	{impl.Deed{Kind: 8, Mill: "mia"}, "mend mia"},
	{impl.Deed{Kind: 8, Mill: "season"}, "mend season"},
	{impl.Deed{Kind: 9, Mill: "mia", N: 7}, "earn mia 7"},
	{impl.Deed{Kind: 9, Mill: "n", N: 1000000}, "earn n 1000000"},
	{impl.Deed{Kind: 10, Who: "ann", To: "bob", N: 3}, "give ann bob 3"},
	{impl.Deed{Kind: 10, Who: "ann", To: "ann"}, "give ann ann 0"},
	{impl.Deed{Kind: 11}, "season"},
}

func TestDeedsOfEachKind(t *testing.T) {
	seen := map[int64]bool{}
	for _, c := range ordinary {
		if got := impl.ShowDeed(c.deed); got != c.text || !impl.DeedOk(c.deed) {
			t.Errorf("ShowDeed(%+v) = %q, DeedOk %t; want %q", c.deed, got, impl.DeedOk(c.deed), c.text)
		}
		if got, is := impl.ReadDeed(c.text); got != c.deed || !is {
			t.Errorf("ReadDeed(%q) = %+v, %t; want %+v", c.text, got, is, c.deed)
		}
		if got, is := impl.ReadDeeds(c.text); !slices.Equal(got, []impl.Deed{c.deed}) || !is {
			t.Errorf("ReadDeeds(%q) = %+v, %t; want %+v", c.text, got, is, c.deed)
		}
		checkDeedOk(t, c.deed)
		checkRead(t, c.text)
		seen[c.deed.Kind] = true
	}
	if len(seen) != 11 {
		t.Errorf("%d kinds are seen", len(seen))
	}
}

func TestKindsOfDeeds(t *testing.T) {
	kinds := []int64{impl.DdOpen, impl.DdJoin, impl.DdCut, impl.DdLend, impl.DdLoosen, impl.DdShift, impl.DdFine, impl.DdMend, impl.DdEarn, impl.DdGive, impl.DdSeason}
	for i, kind := range kinds {
		if kind != int64(i)+1 {
			t.Errorf("the kind %d is %d", i+1, kind)
		}
	}
	for _, kind := range []int64{least, least + 1, -11, -1, 0, 12, 13, 255, 256, 257, 1 << 32, 1<<32 + 1, 1<<32 + 11, greatest - 1, greatest} {
		for _, c := range ordinary {
			d := c.deed
			d.Kind = kind
			if impl.DeedOk(d) || impl.ShowDeed(d) != "" {
				t.Errorf("%+v is shown as %q", d, impl.ShowDeed(d))
			}
		}
		if d := (impl.Deed{Kind: kind}); impl.DeedOk(d) || impl.ShowDeed(d) != "" {
			t.Errorf("%+v is shown as %q", d, impl.ShowDeed(d))
		}
	}
}

// Each deed is right as one Kind alone, or as those of the same form.
func TestDeedsOfAnotherKind(t *testing.T) {
	for _, c := range ordinary {
		_, form, _ := strings.Cut(forms[c.deed.Kind], " ")
		for kind := int64(1); kind <= 11; kind++ {
			d := c.deed
			d.Kind = kind
			_, other, _ := strings.Cut(forms[kind], " ")
			if form == other && !impl.DeedOk(d) {
				t.Errorf("DeedOk(%+v) is false", d)
			}
			checkDeedOk(t, d)
		}
	}
}

// plain is a deed of that Kind that tells all that it has to.
func plain(kind int64) impl.Deed {
	all := map[string]string{"WHO": "ann", "MILL": "mia", "TO": "bob", "N": "7"}
	parts := map[string]string{}
	for _, part := range strings.Fields(forms[kind])[1:] {
		parts[part] = all[part]
	}
	return saying(kind, parts)
}

// tells says whether a deed of that Kind tells that part.
func tells(kind int64, part string) bool {
	return slices.Contains(strings.Fields(forms[kind])[1:], part)
}

// altered is the deed with another word in that part alone.
func altered(d impl.Deed, part, word string) impl.Deed {
	parts := deedParts(d)
	parts[part] = word
	return saying(d.Kind, parts)
}

// rightIn are those of these words that are right in that part of a plain deed of that Kind.
func rightIn(t *testing.T, kind int64, part string, list []string) []string {
	t.Helper()
	var right []string
	for _, word := range list {
		if checkDeedOk(t, altered(plain(kind), part, word)) {
			right = append(right, word)
		}
	}
	return right
}

// Each name of each kind is of the least or of the greatest length, one beyond, missing, or none for another reason; what is not told has none.
func TestNamesOfDeeds(t *testing.T) {
	names := []string{"a", "zz", "abcdef", "zzzzzz", "season", "who", "abcdefg", "zzzzzzz", "", " ", "A", "Ann", "anN", "ann ", " ann", "a b", "a;b", "a1", "7", "-", "ann\n", "ann\x00", "\xff", "ä", "{", "`", strings.Repeat("a", 100000)}
	for kind := int64(1); kind <= 11; kind++ {
		for _, part := range []string{"WHO", "MILL", "TO"} {
			want := names[8:9] // the empty one
			if tells(kind, part) {
				want = names[:6]
			}
			if got := rightIn(t, kind, part, names); !slices.Equal(got, want) {
				t.Errorf("as %s of kind %d these are right: %q", part, kind, got)
			}
			for _, word := range words {
				checkDeedOk(t, altered(plain(kind), part, word))
			}
		}
	}
}

// Each N of each kind is at a limit, or beyond; what is not told has none.
func TestNumbersOfDeeds(t *testing.T) {
	numbers := []string{
		"0", "1", "9", "10", "100", "101", "99999999", "100000000", "999999998", "999999999",
		"1000000000", "1000000001", "4294967296", "4294967297", "9223372036854775806", "9223372036854775807",
		"-1", "-2", "-999999999", "-1000000000", "-4294967295", "-9223372036854775807", "-9223372036854775808",
	}
	for kind := int64(1); kind <= 11; kind++ {
		want := numbers[:1]
		if tells(kind, "N") {
			want = numbers[:10]
		}
		if got := rightIn(t, kind, "N", numbers); !slices.Equal(got, want) {
			t.Errorf("as N of kind %d these are right: %q", kind, got)
		}
		for _, n := range edges {
			d := plain(kind)
			d.N = n
			checkDeedOk(t, d)
		}
	}
}

// What a kind does not tell is zero: a name alone, a number alone, whatever they are.
func TestDeedsTellNothingElse(t *testing.T) {
	for kind := int64(1); kind <= 11; kind++ {
		if d := plain(kind); !impl.DeedOk(d) {
			t.Errorf("DeedOk(%+v) is false", d)
		}
		for part, list := range map[string][]string{"WHO": {"ann", "a", " ", "A"}, "MILL": {"mia", "a", " ", "A"}, "TO": {"bob", "a", " ", "A"}, "N": {"1", "7", "-1", "9223372036854775807", "-9223372036854775808"}} {
			for _, word := range list {
				if d := altered(plain(kind), part, word); !tells(kind, part) && (impl.DeedOk(d) || impl.ShowDeed(d) != "") {
					t.Errorf("%+v is shown as %q", d, impl.ShowDeed(d))
				}
			}
		}
	}
}

// Promise 15, of all deeds of these fields, right ones and others.
func TestReadDeedOfShowDeed(t *testing.T) {
	names := []string{"", "a", "mia", "zzzzzz", "abcdefg", "Mia", "m a", "a;"}
	right := map[int64]int{}
	for kind := int64(-1); kind <= 13; kind++ {
		for _, who := range names {
			for _, mill := range names {
				for _, to := range names {
					for _, n := range []int64{least, -1, 0, 1, 10, 999999999, 1000000000, greatest} {
						if checkDeedOk(t, impl.Deed{Kind: kind, Who: who, Mill: mill, To: to, N: n}) {
							right[kind]++
						}
					}
				}
			}
		}
	}
	for kind, form := range forms {
		want := min(kind, 1)
		for _, part := range strings.Fields(form)[min(kind, 1):] {
			if want *= 3; part == "N" {
				want = want / 3 * 4
			}
		}
		if right[int64(kind)] != want {
			t.Errorf("%d of kind %d are right; want %d", right[int64(kind)], kind, want)
		}
	}
}

func TestReadDeedRefuses(t *testing.T) {
	for _, s := range []string{
		"", " ", "  ", ";", "-", "0", "7", "ann", "\x00", "\n", "\xff", "ä",
		"what", "what mia", "free ann", "book", "save", "deed", "opened mia 10", "ope mia 10", "turn", "seasons", "seaso", "eason", "o", "s",
		"open", "open mia", "open 10", "open 10 mia", "open mia 10 10", "open ann mia 10", "open mia ten",
		"join", "join ann bob", "join ann 1", "join 1", "cut", "cut mia", "cut 5", "cut mia 5 5",
		"lend", "lend bob", "lend bob mia", "lend bob 40", "lend mia bob ann 40", "lend bob mia 40 40", "lend 40 bob mia", "lend bob 40 mia",
		"loosen bob mia", "loosen mia 1", "loosen bob mia 1 1", "loose bob mia 1",
		"shift bob mia ann", "shift bob mia 9", "shift bob mia ann zoe 9", "shift bob mia ann 9 9", "shift bob mia 9 ann",
		"fine mia", "fine 50", "fine ann mia 50", "mend", "mend mia 0", "mend mia mia", "mend 1",
		"earn mia", "earn 7", "earn ann mia 7", "give ann bob", "give ann 3", "give ann bob mia 3", "give", "season 1", "season 0", "season ann", "season season",
		" season", "season ", " open mia 10", "open mia 10 ", "open  mia 10", "open mia  10", "join  ann", "join ann ", " join ann", "join ",
		"season\n", "season\x00", "\xefseason", "season;", ";season", "season;season",
		"open\tmia\t10", "open\nmia\n10", "open,mia,10", "open-mia-10", "open mia\t10", "open\u00a0mia 10", "open\u3000mia\u300010", "openmia10", "open mia10", "open mia 10\n", "open mia 10\r\n",
		"Open mia 10", "OPEN mia 10", "oPen mia 10", "open Mia 10", "open MIA 10", "open miA 10", "Season", "SEASON", "join Zed", "give ann Bob 3", "shift bob mia Ann 9",
		"open mill 01 ", "open mia 00", "open mia 01", "open mia 010", "open mia 0000000010", "open mia 000",
		"open mia +10", "open mia -10", "open mia -0", "open mia +0", "open mia -", "open mia +", "open mia --1", "lend bob mia -1", "earn mia -999999999",
		"open mia 1000000000", "open mia 1000000001", "open mia 4294967296", "open mia 4294967306", "open mia 9223372036854775807", "open mia 9223372036854775808", "open mia 18446744073709551626", "open mia 0999999999", "open mia 99999999999999999999999999",
		"open mia ", "open  10", "open mia 1a", "open mia a1", "open mia 0x1", "open mia 1e3", "open mia 1.0", "open mia 1_0", "open mia 1,0", "open mia '1'", "open mia 1:", "open mia /", "open mia 1/", "open mia \u0661", "open mia \uff11", "open mia 1\x00", "open mia \x001", "open mia 1\xff", "open mia N",
		"open abcdefg 10", "join abcdefg", "shift abcdefg mia ann 9", "shift bob abcdefg ann 9", "shift bob mia abcdefg 9", "join a1", "join a-b", "join \xff", "join ä", "join `", "join {", "mend m\x00",
		"open MILL N", "join WHO", "give WHO TO N",
	} {
		if got, is := impl.ReadDeed(s); is || got != (impl.Deed{}) {
			t.Errorf("ReadDeed(%q) = %+v, %t", s, got, is)
		}
		if got, is := impl.ReadDeeds(s); s != "" && s != "season;season" && (is || len(got) > 0) {
			t.Errorf("ReadDeeds(%q) = %+v, %t", s, got, is)
		}
		checkRead(t, s)
	}
}

func TestReadDeedOfVeryLongTexts(t *testing.T) {
	const long = 1 << 20
	for _, c := range []string{"a", " ", "0", "1", "9", "-", "+", "\x00", "\n", "\xff", "season ", " season", "ann ", "season", ";", "season;", ";season"} {
		all := strings.Repeat(c, long/len(c))
		for _, s := range []string{
			all, "season" + all, "season " + all, all + "season", all + " season", "season;" + all, all + ";season",
			"join " + all, "join ann" + all, "join ann " + all, "mend " + all, "open mia " + all, "open mia 1" + all, "open mia 1 " + all, "open " + all + " 1",
			"give ann bob " + all, "shift " + all + " mia ann 9", "shift bob mia ann " + all, "shift bob mia ann 9 " + all, "lend bob" + all + "mia 1",
		} {
			if got, is := impl.ReadDeed(s); is || got != (impl.Deed{}) {
				t.Errorf("ReadDeed(%.40q) = %+v, %t", s, got, is)
			}
			if got, is := impl.ReadDeeds(s); is || len(got) > 0 {
				t.Errorf("ReadDeeds(%.40q) = %+v, %t", s, got, is)
			}
		}
		for kind := int64(1); kind <= 11; kind++ {
			for _, part := range []string{"WHO", "MILL", "TO"} {
				if d := altered(plain(kind), part, all); impl.DeedOk(d) || impl.ShowDeed(d) != "" {
					t.Errorf("a deed of kind %d with a very long %s is right", kind, part)
				}
			}
		}
	}
}

// Each byte of a text of each form is left out, doubled, or another one, and each byte is put in at each place.
func TestReadDeedOfOneByteElse(t *testing.T) {
	right := 0
	for kind := int64(1); kind <= 11; kind++ {
		s := shownOf(plain(kind))
		for at := range len(s) + 1 {
			for b := range 256 {
				if checkRead(t, s[:at]+string([]byte{byte(b)})+s[at:]) {
					right++
				}
				if at < len(s) && checkRead(t, s[:at]+string([]byte{byte(b)})+s[at+1:]) {
					right++
				}
			}
			checkRead(t, s[:at])
			checkRead(t, s[at:])
			if at < len(s) {
				checkRead(t, s[:at]+s[at+1:])
			}
		}
	}
	if right < 2000 {
		t.Errorf("only %d are deeds", right)
	}
}

// All texts of a known word, or another one, and up to five words behind it.
func TestReadDeedOfAllFewWords(t *testing.T) {
	tails := []string{""}
	for from, left := 0, 5; left > 0; left-- {
		upTo := len(tails)
		for _, tail := range tails[from:upTo] {
			for _, word := range []string{"ann", "mia", "7", "07", ""} {
				tails = append(tails, tail+" "+word)
			}
		}
		from = upTo
	}
	right := map[string]int{}
	for _, form := range append(forms, "what", "Open") {
		head, _, _ := strings.Cut(form, " ")
		for _, tail := range tails {
			if checkRead(t, head+tail) {
				right[head]++
			}
		}
	}
	for head, want := range map[string]int{"": 0, "what": 0, "Open": 0, "open": 2, "join": 2, "cut": 2, "lend": 4, "loosen": 4, "shift": 8, "fine": 2, "mend": 2, "earn": 2, "give": 4, "season": 1} {
		if right[head] != want {
			t.Errorf("%d of %q are deeds; want %d", right[head], head, want)
		}
	}
}

func TestReadDeeds(t *testing.T) {
	if got, is := impl.ReadDeeds(""); len(got) != 0 || !is {
		t.Errorf("ReadDeeds of the empty text = %+v, %t", got, is)
	}
	var deeds []impl.Deed
	var texts []string
	for _, c := range ordinary[:20] {
		deeds, texts = append(deeds, c.deed), append(texts, c.text)
		if got, is := impl.ReadDeeds(strings.Join(texts, ";")); !slices.Equal(got, deeds) || !is {
			t.Errorf("ReadDeeds of %d texts = %+v, %t", len(texts), got, is)
		}
	}
	for _, c := range ordinary {
		l := append(slices.Clone(texts), c.text) // 21
		if got, is := impl.ReadDeeds(strings.Join(l, ";")); len(got) != 0 || is {
			t.Errorf("ReadDeeds of 21 texts = %+v, %t", got, is)
		}
		if got, is := impl.ReadDeeds(strings.Join(l[1:], ";")); !slices.Equal(got, append(slices.Clone(deeds[1:]), c.deed)) || !is {
			t.Errorf("ReadDeeds of 20 texts = %+v, %t", got, is)
		}
	}
	slices.Reverse(deeds)
	slices.Reverse(texts)
	if got, is := impl.ReadDeeds(strings.Join(texts, ";")); !slices.Equal(got, deeds) || !is {
		t.Errorf("ReadDeeds of 20 texts, the last one first = %+v, %t", got, is)
	}
}

func TestReadDeedsOfEachCount(t *testing.T) {
	for n := range 70 {
		l := slices.Repeat([]string{"season"}, n)
		if is := checkReadAll(t, l...); is != (n <= 20) {
			t.Errorf("of %d it is %t", n, is)
		}
		checkReadAll(t, append(l, "what")...)
		checkReadAll(t, append([]string{"what"}, l...)...)
		for at := range l { // one is none
			for _, s := range []string{"", "what", " season", "open mia", "Season"} {
				bad := slices.Clone(l)
				bad[at] = s
				if checkReadAll(t, bad...) != (n == 1 && s == "") {
					t.Errorf("of %d with %q at %d it is true", n, s, at)
				}
			}
			other := slices.Clone(l)
			other[at] = "lend bob mia 40"
			checkReadAll(t, other...)
		}
	}
}

func TestReadDeedsRefuses(t *testing.T) {
	for _, s := range []string{
		";", ";;", "; ", " ;", " ", "season;", ";season", ";season;", "season;;season", "season;;", ";;season", "season;season;", "season; season", "season ;season",
		"season;what", "what;season", "season;what;season", "season,season", "season:season", "season season", "season\nseason", "season\x3b\x00", "season；season",
		"open mia;10", "open;mia;10", "join;ann", "join ann;bob", "open mia 10;", "open mia 10;1", "lend bob mia 4;0",
	} {
		if got, is := impl.ReadDeeds(s); len(got) != 0 || is {
			t.Errorf("ReadDeeds(%q) = %+v, %t", s, got, is)
		}
		checkReadAll(t, s)
	}
}

// Of all of some texts, deeds and others, one, two and three behind one another.
func TestReadDeedsOfPairs(t *testing.T) {
	texts := []string{"", " ", "what", "season", "join ann", "join Ann", "open mia 10", "open mia 010", "shift bob mia ann 9", "season "}
	for _, c := range ordinary {
		texts = append(texts, c.text)
	}
	right := 0
	for _, a := range texts {
		checkReadAll(t, a)
		for _, b := range texts {
			checkReadAll(t, a, b)
			for _, c := range texts {
				if checkReadAll(t, a, b, c) {
					right++
				}
			}
		}
	}
	if right != 27*27*27 {
		t.Errorf("%d of three are deeds", right)
	}
}

// What ReadDeeds answers is new memory, spare room and all.
func TestDeedsAreNewMemory(t *testing.T) {
	texts := make([]string, 0, 20)
	for _, c := range ordinary[:20] {
		texts = append(texts, c.text)
		s := strings.Join(texts, ";")
		given := strings.Clone(s)
		a, _ := impl.ReadDeeds(s)
		b, _ := impl.ReadDeeds(s)
		want := slices.Clone(b)
		_ = append(a, impl.Deed{Kind: 12})
		scribble(a)
		if c, _ := impl.ReadDeeds(s); !slices.Equal(b, want) || !slices.Equal(c, want) || s != given {
			t.Errorf("of %d texts they share memory", len(texts))
		}
		d, _ := impl.ReadDeed(c.text)
		d.Who, d.N = "else", 1
		if e, _ := impl.ReadDeed(c.text); e != c.deed {
			t.Errorf("%q is read as %+v", c.text, e)
		}
	}
	for _, s := range []string{"", ";", "season;"} {
		a, _ := impl.ReadDeeds(s)
		scribble(append(a, impl.Deed{Kind: 1}))
		if b, _ := impl.ReadDeeds(s); len(b) != 0 {
			t.Errorf("ReadDeeds(%q) = %+v", s, b)
		}
	}
}
