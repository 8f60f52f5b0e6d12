package tests

import (
	"fmt"
	"math"
	"slices"
	"strings"
	"testing"

	"loop.example/g01395/impl"
)

// The signatures of chapter 3 are those that the document declares.
var (
	_ func(impl.Scheme) bool                        = impl.IsScheme
	_ func(impl.Scheme, string) (bool, bool)        = impl.IsPlate
	_ func(impl.Scheme) (int, bool)                 = impl.CountPlates
	_ func(impl.Scheme) (string, bool)              = impl.FirstPlate
	_ func(impl.Scheme, string) (int, bool)         = impl.RankOfPlate
	_ func(impl.Scheme, int) (string, bool)         = impl.PlateOfRank
	_ func(impl.Scheme, string) (string, bool)      = impl.NextPlate
	_ func(impl.Scheme, string) (string, bool)      = impl.LastPlate
	_ func(impl.Scheme, string, int) (string, bool) = impl.PlateBehind
	_ func(impl.Scheme, string, string) (int, bool) = impl.PlatesBetween
	_ func(impl.Scheme, string) (int, bool)         = impl.CountBeginning
	_ func(impl.Scheme, string) (int, bool)         = impl.CountWithSign
	_ func(impl.Scheme) (int, bool)                 = impl.CountSpoiled
	_ func(impl.Scheme, string) ([]int, bool)       = impl.WordsIn
	_ func(impl.Scheme, string) (impl.Scheme, bool) = impl.BarSign
	_ func(impl.Scheme, string) (impl.Scheme, bool) = impl.AddWord
	_ func(string) (string, bool)                   = impl.PatternOf
	_ func(impl.Scheme) (string, bool)              = impl.SchemeText
	_ func(string) (impl.Scheme, bool)              = impl.ParseScheme
)

const (
	maxPattern  = 8
	maxWords    = 3
	maxWord     = 4
	allDigits   = "0123456789"
	allLetters  = "ABCDEFGHIJKLMNOPQRSTUVWXYZ"
	plateSigns  = allDigits + allLetters
	justAB      = allDigits + "CDEFGHIJKLMNOPQRSTUVWXYZ"
	just01AB    = "23456789CDEFGHIJKLMNOPQRSTUVWXYZ"
	just012ABCD = "3456789EFGHIJKLMNOPQRSTUVWXYZ"
)

func schemeOf(pattern string, barred string, words ...string) impl.Scheme {
	return impl.Scheme{Pattern: pattern, Barred: barred, Words: words}
}

// smallSchemes are schemes whose plates can be listed.
var smallSchemes = []impl.Scheme{
	// without words
	schemeOf("D", ""), schemeOf("L", ""), schemeOf("LD", ""), schemeOf("DL", ""), schemeOf("LL", ""), schemeOf("DDD", ""),
	schemeOf("D", "05"), schemeOf("L", "AZ"), schemeOf("LDL", just012ABCD), schemeOf("LLLLLLLL", justAB), schemeOf("DLDLDLDL", just01AB),
	{Pattern: "DD", Words: []string{}}, schemeOf("DD", allLetters), schemeOf("LL", allDigits), schemeOf("D", "012345678"),
	// with one word
	schemeOf("DDD", "", "11"), schemeOf("LL", "", "AB"), schemeOf("LLL", just012ABCD, "A"), schemeOf("DDDD", "", "1212"), schemeOf("LLLLLLLL", justAB, "ABAB"),
	schemeOf("LDLD", just012ABCD, "A1"), schemeOf("DLDL", just012ABCD, "1A1"), schemeOf("LLLLLLLL", justAB, "AAAA"), schemeOf("LLLLLLLL", justAB, "AA"),
	// words that overlap themselves or each other
	schemeOf("DDD", "", "121", "212"), schemeOf("DDDD", "", "11", "12", "21"), schemeOf("LLLLLLLL", justAB, "AAB", "ABA", "BAA"),
	schemeOf("LLLLLLLL", justAB, "ABB", "BBA"), schemeOf("LLLLLLLL", justAB, "AABA", "ABAB", "BABB"), schemeOf("LLLLLL", just012ABCD, "ABCD", "CDA", "BC"),
	schemeOf("LLLLLL", just012ABCD, "ABCD", "BCA", "CC"), schemeOf("LDLDLDLD", just01AB, "A0B1", "0B0", "B1A0"),
	// words in words, and words that are there twice
	schemeOf("DDD", "", "1", "11", "111"), schemeOf("DDDD", "", "1234", "23", "3"), schemeOf("LLLL", just012ABCD, "ABCA", "BC", "ABC"),
	schemeOf("LL", "", "AB", "AB"), schemeOf("DDD", "", "00", "00", "00"), schemeOf("DDD", "", "9", "99", "9"), schemeOf("LLLLLLLL", justAB, "BABA", "AB", "AB"),
	// words that stand in no plate: too long, barred, or with letters where digits are
	schemeOf("D", "", "11"), schemeOf("LL", "", "AAA", "AAAA"), schemeOf("DDD", "1", "11", "21"), schemeOf("LD", "", "1A"), schemeOf("DDD", "", "AB", "1A"),
	schemeOf("LDLD", just012ABCD, "AB", "12", "1A"), schemeOf("LLL", just012ABCD, "AXA", "0"),
	// without plates
	schemeOf("D", allDigits), schemeOf("L", allLetters), schemeOf("LD", plateSigns), schemeOf("LLD", allDigits), schemeOf("D", "3456789", "0", "1", "2"),
	schemeOf("LL", justAB, "A", "B"), schemeOf("LLLL", justAB, "AA", "AB", "BB"), schemeOf("LLLLLLLL", justAB, "AA", "B"), schemeOf("DDDDDDDD", allDigits, "1"),
	// with just one plate
	schemeOf("DDDDDDDD", "123456789"), schemeOf("LLL", justAB, "AA", "AB"), schemeOf("LLLLLLLL", justAB, "A"),
}

// bigSchemes are schemes with too many plates to list.
var bigSchemes = []impl.Scheme{
	schemeOf("LLLLLLLL", ""), schemeOf("DDDDDDDD", ""), schemeOf("LDLDLDLD", "07AZ"), schemeOf("LLLLLLLL", "", "A"),
	schemeOf("LLLLLLLL", "", "AAAA", "ZZZZ", "ABAB"), schemeOf("LLLLLLLL", "0AEIOU", "BCB", "CBC", "BBB"), schemeOf("DDDDDDDD", "", "00", "99", "0123"),
	schemeOf("DDDLLLDD", "", "7A", "ZZ", "A000"), schemeOf("LLDDDDLL", "Q", "A11", "11A", "1"), schemeOf("LLLLDDDD", "", "ZZZZ", "9999", "Z0"),
}

// noSchemes are no schemes, each by one thing alone.
var noSchemes = []impl.Scheme{
	{}, schemeOf("", "A"), schemeOf("", "", "AB"), schemeOf("LLLLLLLLL", ""), schemeOf(strings.Repeat("D", 1000), ""),
	schemeOf("X", ""), schemeOf("LX", ""), schemeOf("XD", ""), schemeOf("LXD", ""), schemeOf("l", ""), schemeOf("Ld", ""), schemeOf("L D", ""),
	schemeOf("L1", ""), schemeOf("D\x00", ""), schemeOf("é", ""), schemeOf("L\xff", ""),
	// barred signs that are not increasing, or no signs
	schemeOf("L", "AA"), schemeOf("L", "BA"), schemeOf("L", "A0"), schemeOf("D", "10"), schemeOf("D", "00"), schemeOf("L", "ABCA"), schemeOf("L", plateSigns+"Z"),
	schemeOf("L", "a"), schemeOf("L", "Aa"), schemeOf("L", "/"), schemeOf("L", ":"), schemeOf("L", "9:A"), schemeOf("L", "@"), schemeOf("L", "["), schemeOf("L", " A"),
	schemeOf("L", "A~"), schemeOf("L", "!A"), schemeOf("L", "\x00"), schemeOf("L", "\xff"), schemeOf("L", "É"), schemeOf("L", strings.Repeat("A", 1000)),
	// words that are too short, too long, or no signs
	schemeOf("L", "", ""), schemeOf("L", "", "A", ""), schemeOf("L", "", "", "A", "B"), schemeOf("L", "", "ABCDE"), schemeOf("L", "", "A", "B", "12345"),
	schemeOf("L", "", "a"), schemeOf("L", "", "A B"), schemeOf("L", "", "A~"), schemeOf("L", "", "A!"), schemeOf("L", "", "/"), schemeOf("L", "", ":"),
	schemeOf("L", "", "@"), schemeOf("L", "", "["), schemeOf("L", "", "\x00"), schemeOf("L", "", "A\xff"), schemeOf("L", "", "É"), schemeOf("L", "", strings.Repeat("A", 1000)),
	// too many words
	schemeOf("L", "", "A", "B", "C", "D"), schemeOf("L", "", "A", "A", "A", "A"), schemeOf("L", "", make([]string, 1000)...),
}

// noSigns are texts that are not one sign.
var noSigns = []string{"", "a", "z", "/", ":", "@", "[", " ", "~", "!", "\x00", "\x7f", "\xff", "é", "٣", "AB", "A ", " A", "AA", "00", "A\n", strings.Repeat("A", 100)}

// someNumbers are numbers in and out of bounds.
var someNumbers = []int{math.MinInt, math.MinInt + 1, -1000, -1, 0, 1, 2, 1000, math.MaxInt - 1, math.MaxInt}

// unspoiled lists what would be plates without words, in order.
func unspoiled(s impl.Scheme) []string {
	texts := []string{""}
	for _, letter := range s.Pattern {
		signs := map[rune]string{'L': allLetters, 'D': allDigits}[letter]
		var longer []string
		for _, text := range texts {
			for _, sign := range signs {
				if !strings.ContainsRune(s.Barred, sign) {
					longer = append(longer, text+string(sign))
				}
			}
		}
		texts = longer
	}
	return texts
}

func hasWord(s impl.Scheme, text string) bool {
	return slices.ContainsFunc(s.Words, func(word string) bool { return strings.Contains(text, word) })
}

func platesOf(s impl.Scheme) []string {
	return slices.DeleteFunc(unspoiled(s), func(text string) bool { return hasWord(s, text) })
}

func wantScheme(t *testing.T, what string, got impl.Scheme, ok bool, want impl.Scheme, wantOk bool) {
	t.Helper()
	if got.Pattern != want.Pattern || got.Barred != want.Barred || !slices.Equal(got.Words, want.Words) || ok != wantOk {
		t.Errorf("%s: %q %v, want %q %v", what, got, ok, want, wantOk)
	}
}

func wantTruth(t *testing.T, what string, got bool, ok bool, want bool, wantOk bool) {
	t.Helper()
	if got != want || ok != wantOk {
		t.Errorf("%s: %v %v, want %v %v", what, got, ok, want, wantOk)
	}
}

// every returns about so many of the texts: the first and the last ones, and some between.
func every(texts []string, many int) []int {
	var places []int
	for i := range texts {
		if i < 3 || i >= len(texts)-3 || i%(len(texts)/many+1) == 0 {
			places = append(places, i)
		}
	}
	return places
}

// wantPlates checks what is told of a scheme as a whole against the list of its plates.
func wantPlates(t *testing.T, s impl.Scheme, plates []string) {
	t.Helper()
	what := fmt.Sprintf(" %q", s)
	if !impl.IsScheme(s) {
		t.Error("IsScheme" + what)
	}
	n, ok := impl.CountPlates(s)
	wantNumber(t, "CountPlates"+what, n, ok, len(plates), true)
	n, ok = impl.CountSpoiled(s)
	wantNumber(t, "CountSpoiled"+what, n, ok, len(unspoiled(s))-len(plates), true)
	first, ok := impl.FirstPlate(s)
	wantText(t, "FirstPlate"+what, first, ok, firstOf(plates), len(plates) > 0)
	for _, rank := range []int{math.MinInt, -1, len(plates), len(plates) + 1, math.MaxInt} {
		got, ok := impl.PlateOfRank(s, rank)
		wantText(t, fmt.Sprint("PlateOfRank", what, " ", rank), got, ok, "", false)
	}
	for _, sign := range plateSigns {
		want := 0
		for _, plate := range plates {
			want += min(1, strings.Count(plate, string(sign)))
		}
		n, ok := impl.CountWithSign(s, string(sign))
		wantNumber(t, fmt.Sprintf("CountWithSign%s %c", what, sign), n, ok, want, true)
	}
}

// wantPlate checks what is told of the plate at a place in the list.
func wantPlate(t *testing.T, s impl.Scheme, plates []string, rank int) {
	t.Helper()
	what := fmt.Sprintf(" %q %s", s, plates[rank])
	is, ok := impl.IsPlate(s, plates[rank])
	wantTruth(t, "IsPlate"+what, is, ok, true, true)
	n, ok := impl.RankOfPlate(s, plates[rank])
	wantNumber(t, "RankOfPlate"+what, n, ok, rank, true)
	got, ok := impl.PlateOfRank(s, rank)
	wantText(t, fmt.Sprint("PlateOfRank", what, " ", rank), got, ok, plates[rank], true)
	at := func(place int) (string, bool) {
		if place < 0 || place >= len(plates) {
			return "", false
		}
		return plates[place], true
	}
	want, wantOk := at(rank + 1)
	got, ok = impl.NextPlate(s, plates[rank])
	wantText(t, "NextPlate"+what, got, ok, want, wantOk)
	want, wantOk = at(rank - 1)
	got, ok = impl.LastPlate(s, plates[rank])
	wantText(t, "LastPlate"+what, got, ok, want, wantOk)
	for _, many := range []int{0, 1, 2, 7, 25, len(plates) - 1 - rank, len(plates) - rank, len(plates)} {
		want, wantOk = at(rank + many)
		got, ok = impl.PlateBehind(s, plates[rank], many)
		wantText(t, fmt.Sprint("PlateBehind", what, " ", many), got, ok, want, wantOk)
	}
	for _, many := range []int{-1, -2, -rank, math.MinInt, math.MaxInt, math.MaxInt - 1, math.MaxInt - rank, math.MaxInt - rank + 1} {
		if many == 0 {
			continue
		}
		got, ok = impl.PlateBehind(s, plates[rank], many)
		wantText(t, fmt.Sprint("PlateBehind", what, " ", many), got, ok, "", false)
	}
}

func wantBetween(t *testing.T, s impl.Scheme, plates []string) {
	t.Helper()
	places := every(plates, 6)
	for _, a := range places {
		for _, b := range places {
			got, ok := impl.PlatesBetween(s, plates[a], plates[b])
			want := 0
			if a < b {
				want = b - a - 1
			}
			wantNumber(t, fmt.Sprintf("PlatesBetween %q %s %s", s, plates[a], plates[b]), got, ok, want, a <= b)
		}
	}
}

// wantBeginnings checks the counts of all beginnings of some plates, of what comes near to them, and of other texts of signs.
func wantBeginnings(t *testing.T, s impl.Scheme, plates []string) {
	t.Helper()
	begins := []string{"", "A", "0", "9Z", "AB", "11", "AAAAAAAA", "00000000", "A0A0A0A0", "ZZZZZZZ"}
	texts := unspoiled(s)
	for _, place := range every(texts, 12) {
		text := texts[place]
		for size := range len(text) + 1 {
			begins = append(begins, text[:size])
			if size < maxPattern {
				begins = append(begins, text[:size]+"A", text[:size]+"7")
			}
		}
	}
	for _, begin := range begins {
		want := 0
		for _, plate := range plates {
			if strings.HasPrefix(plate, begin) {
				want++
			}
		}
		got, ok := impl.CountBeginning(s, begin)
		wantNumber(t, fmt.Sprintf("CountBeginning %q %q", s, begin), got, ok, want, true)
	}
}

// wantNoPlate checks that a text is no plate, and that all fails that needs one.
func wantNoPlate(t *testing.T, s impl.Scheme, text string, plate string) {
	t.Helper()
	what := fmt.Sprintf(" %q %q", s, text)
	is, ok := impl.IsPlate(s, text)
	wantTruth(t, "IsPlate"+what, is, ok, false, true)
	wantNothingOfPlate(t, s, text, plate)
}

func wantNothingOfPlate(t *testing.T, s impl.Scheme, text string, plate string) {
	t.Helper()
	what := fmt.Sprintf(" %q %q", s, text)
	n, ok := impl.RankOfPlate(s, text)
	wantNumber(t, "RankOfPlate"+what, n, ok, 0, false)
	got, ok := impl.NextPlate(s, text)
	wantText(t, "NextPlate"+what, got, ok, "", false)
	got, ok = impl.LastPlate(s, text)
	wantText(t, "LastPlate"+what, got, ok, "", false)
	for _, many := range someNumbers {
		got, ok = impl.PlateBehind(s, text, many)
		wantText(t, fmt.Sprint("PlateBehind", what, " ", many), got, ok, "", false)
	}
	for _, pair := range [][2]string{{text, text}, {text, plate}, {plate, text}} {
		n, ok = impl.PlatesBetween(s, pair[0], pair[1])
		wantNumber(t, fmt.Sprintf("PlatesBetween %q %q", s, pair), n, ok, 0, false)
	}
}

func wantWords(t *testing.T, s impl.Scheme, text string) {
	t.Helper()
	var want []int
	for i, word := range s.Words {
		if strings.Contains(text, word) {
			want = append(want, i)
		}
	}
	got, ok := impl.WordsIn(s, text)
	wantList(t, fmt.Sprintf("WordsIn %q %q", s, text), got, ok, want, true)
}

func TestPlatesAgainstTheirList(t *testing.T) {
	for _, s := range smallSchemes {
		plates := platesOf(s)
		wantPlates(t, s, plates)
		wantBetween(t, s, plates)
		wantBeginnings(t, s, plates)
		for _, rank := range every(plates, 120) {
			wantPlate(t, s, plates, rank)
		}
		texts := unspoiled(s)
		for _, place := range every(texts, 60) {
			wantWords(t, s, texts[place])
			if hasWord(s, texts[place]) {
				wantNoPlate(t, s, texts[place], firstOf(plates))
			}
		}
	}
}

// textsOfAB lists all texts of 1..most letters A and B.
func textsOfAB(most int) []string {
	texts := []string{""}
	for from := 0; len(texts[from]) < most; from++ {
		texts = append(texts, texts[from]+"A", texts[from]+"B")
	}
	return texts[1:]
}

// TestAllWordsOfTwoSigns counts with each pair of words that two signs make, and with a third one.
func TestAllWordsOfTwoSigns(t *testing.T) {
	words := textsOfAB(maxWord)
	all := unspoiled(schemeOf("LLLLLL", justAB))
	for i, a := range words {
		for j, b := range words {
			s := schemeOf("LLLLLL", justAB, a, b, words[(7*i+11*j)%len(words)])
			plates := slices.DeleteFunc(slices.Clone(all), func(text string) bool { return hasWord(s, text) })
			n, ok := impl.CountPlates(s)
			wantNumber(t, fmt.Sprintf("CountPlates %q", s), n, ok, len(plates), true)
			n, ok = impl.CountSpoiled(s)
			wantNumber(t, fmt.Sprintf("CountSpoiled %q", s), n, ok, len(all)-len(plates), true)
			for _, rank := range every(plates, 1) {
				got, ok := impl.PlateOfRank(s, rank)
				wantText(t, fmt.Sprintf("PlateOfRank %q %d", s, rank), got, ok, plates[rank], true)
				n, ok = impl.RankOfPlate(s, plates[rank])
				wantNumber(t, fmt.Sprintf("RankOfPlate %q %s", s, plates[rank]), n, ok, rank, true)
			}
		}
	}
}

// countByEnds counts the plates of a scheme by the last signs that can matter for a word, all of them kept.
func countByEnds(s impl.Scheme) int {
	ends := map[string]int{"": 1}
	for _, letter := range s.Pattern {
		signs := map[rune]string{'L': allLetters, 'D': allDigits}[letter]
		longer := map[string]int{}
		for end, count := range ends {
			for _, sign := range signs {
				text := end + string(sign)
				if !strings.ContainsRune(s.Barred, sign) && !hasWord(s, text) {
					longer[text[max(0, len(text)-maxWord+1):]] += count
				}
			}
		}
		ends = longer
	}
	all := 0
	for _, count := range ends {
		all += count
	}
	return all
}

// TestPlatesThatAreManyInOrder is promise 3 for plates that are too many to list.
func TestPlatesThatAreManyInOrder(t *testing.T) {
	for _, s := range bigSchemes {
		count, ok := impl.CountPlates(s)
		wantNumber(t, fmt.Sprintf("CountPlates %q", s), count, ok, countByEnds(s), true)
		spoiled, ok := impl.CountSpoiled(s)
		without := countByEnds(schemeOf(s.Pattern, s.Barred))
		wantNumber(t, fmt.Sprintf("CountSpoiled %q", s), spoiled, ok, without-count, true)
		first, ok := impl.FirstPlate(s)
		start, _ := impl.PlateOfRank(s, 0)
		wantText(t, fmt.Sprintf("FirstPlate %q", s), first, ok, start, true)
		last, ok := impl.PlateBehind(s, first, count-1)
		end, _ := impl.PlateOfRank(s, count-1)
		wantText(t, fmt.Sprintf("PlateBehind %q", s), last, ok, end, end != "")
		between, ok := impl.PlatesBetween(s, first, last)
		wantNumber(t, fmt.Sprintf("PlatesBetween %q", s), between, ok, count-2, true)
		for _, start := range []int{0, count / 7, count / 3, count / 2, count - 12} {
			for rank := start; rank < start+11; rank++ {
				wantNeighbours(t, s, rank)
			}
		}
	}
}

// wantNeighbours checks the plate of a rank against the next one.
func wantNeighbours(t *testing.T, s impl.Scheme, rank int) {
	t.Helper()
	a, okA := impl.PlateOfRank(s, rank)
	b, okB := impl.PlateOfRank(s, rank+1)
	isA, _ := impl.IsPlate(s, a)
	isB, _ := impl.IsPlate(s, b)
	if !okA || !okB || !isA || !isB || a >= b || hasWord(s, a) || hasWord(s, b) {
		t.Errorf("ranks %d of %q: %q %q", rank, s, a, b)
	}
	told, ok := impl.RankOfPlate(s, a)
	wantNumber(t, "RankOfPlate "+a, told, ok, rank, true)
	next, ok := impl.NextPlate(s, a)
	wantText(t, "NextPlate "+a, next, ok, b, true)
	last, ok := impl.LastPlate(s, b)
	wantText(t, "LastPlate "+b, last, ok, a, true)
	between, ok := impl.PlatesBetween(s, a, b)
	wantNumber(t, "PlatesBetween "+a+" "+b, between, ok, 0, true)
	behind, ok := impl.PlateBehind(s, a, 1)
	wantText(t, "PlateBehind "+a, behind, ok, b, true)
}

func TestFirstAndLastPlate(t *testing.T) {
	for _, c := range []struct {
		scheme      impl.Scheme
		first, last string
		count       int
	}{
		{schemeOf("LLLLLLLL", ""), "AAAAAAAA", "ZZZZZZZZ", 208827064576},
		{schemeOf("DDDDDDDD", ""), "00000000", "99999999", 100000000},
		{schemeOf("LDLDLDLD", "0AZ"), "B1B1B1B1", "Y9Y9Y9Y9", 24 * 24 * 24 * 24 * 9 * 9 * 9 * 9},
		{schemeOf("LL", "", "AA", "ZZ"), "AB", "ZY", 674},
		{schemeOf("D", "", "0", "9"), "1", "8", 8},
		{schemeOf("D", "012346789"), "5", "5", 1},
		{schemeOf("LLLL", justAB, "AA", "BB"), "ABAB", "BABA", 2},
	} {
		count, ok := impl.CountPlates(c.scheme)
		wantNumber(t, fmt.Sprintf("CountPlates %q", c.scheme), count, ok, c.count, true)
		got, ok := impl.FirstPlate(c.scheme)
		wantText(t, fmt.Sprintf("FirstPlate %q", c.scheme), got, ok, c.first, true)
		got, ok = impl.PlateOfRank(c.scheme, c.count-1)
		wantText(t, fmt.Sprintf("PlateOfRank %q", c.scheme), got, ok, c.last, true)
		got, ok = impl.LastPlate(c.scheme, c.first)
		wantText(t, fmt.Sprintf("LastPlate %q of the first", c.scheme), got, ok, "", false)
		got, ok = impl.NextPlate(c.scheme, c.last)
		wantText(t, fmt.Sprintf("NextPlate %q of the last", c.scheme), got, ok, "", false)
		got, ok = impl.PlateBehind(c.scheme, c.last, 0)
		wantText(t, fmt.Sprintf("PlateBehind %q of the last by 0", c.scheme), got, ok, c.last, true)
		got, ok = impl.PlateBehind(c.scheme, c.last, 1)
		wantText(t, fmt.Sprintf("PlateBehind %q of the last by 1", c.scheme), got, ok, "", false)
		got, ok = impl.PlateBehind(c.scheme, c.first, c.count)
		wantText(t, fmt.Sprintf("PlateBehind %q of the first by all", c.scheme), got, ok, "", false)
		between, ok := impl.PlatesBetween(c.scheme, c.first, c.last)
		wantNumber(t, fmt.Sprintf("PlatesBetween %q", c.scheme), between, ok, max(0, c.count-2), true)
	}
}

func TestSchemesWithoutPlates(t *testing.T) {
	found := 0
	for _, s := range smallSchemes {
		if len(platesOf(s)) > 0 {
			continue
		}
		found++
		if n, ok := impl.CountPlates(s); n != 0 || !ok {
			t.Errorf("CountPlates %q: %d %v", s, n, ok)
		}
		for _, rank := range someNumbers {
			got, ok := impl.PlateOfRank(s, rank)
			wantText(t, fmt.Sprintf("PlateOfRank %q %d", s, rank), got, ok, "", false)
		}
		for _, text := range []string{"A", "0", "AA", "A0", "AAAA", "00000000", strings.Repeat("B", len(s.Pattern))} {
			wantNoPlate(t, s, text, text)
		}
		n, ok := impl.CountBeginning(s, "")
		wantNumber(t, fmt.Sprintf("CountBeginning %q", s), n, ok, 0, true)
	}
	if found < 5 {
		t.Error("too few schemes without plates:", found)
	}
}

func TestTextsThatAreNoPlates(t *testing.T) {
	for _, c := range []struct {
		scheme impl.Scheme
		plate  string
		texts  []string
	}{
		{schemeOf("LD", "5Q", "A1", "B"), "A0", []string{
			"", "A", "0", "A00", "A0A", "AA", "00", "0A", "Q0", "A5", "A1", "B0", "B9", "a0", "A ", " 0", "A0 ", "A/", "A:", "@0", "[0", "A\x00", "É", "É0", "A\xff", "A٣", "A0A0A0A0", "A0A0A0A0A", strings.Repeat("A0", 1000),
		}},
		{schemeOf("LLLLLLLL", "", "ABCD", "YZ"), "AAAAAAAA", []string{
			"", "AAAAAAA", "AAAAAAAAA", "ABCDAAAA", "AABCDAAA", "AAAAABCD", "ABCABCDA", "YZAAAAAA", "AAAAAAYZ", "YZYZYZYZ", "YYYYYYYZ", "AAAAAAA0", "0AAAAAAA", "AAAAAAAa",
		}},
	} {
		is, ok := impl.IsPlate(c.scheme, c.plate)
		wantTruth(t, "IsPlate "+c.plate, is, ok, true, true)
		for _, text := range c.texts {
			wantNoPlate(t, c.scheme, text, c.plate)
		}
	}
}

func TestBeginningsOutOfBounds(t *testing.T) {
	s := schemeOf("LD", "5Q", "A1", "B")
	for _, begin := range []string{"a", "A ", " ", "A/", ":", "@", "[", "~", "\x00", "A\xff", "É", "٣", "AAAAAAAAA", "A0A0A0A0A", "000000000", strings.Repeat("A", 1000)} {
		n, ok := impl.CountBeginning(s, begin)
		wantNumber(t, fmt.Sprintf("CountBeginning %q", begin), n, ok, 0, false)
	}
	for begin, want := range map[string]int{"": 24*9 - 1, "A": 8, "C": 9, "Q": 0, "B": 0, "0": 0, "A0": 1, "A1": 0, "A5": 0, "A00": 0, "A0A0A0A0": 0, "ZZZZZZZZ": 0} {
		n, ok := impl.CountBeginning(s, begin)
		wantNumber(t, fmt.Sprintf("CountBeginning %q", begin), n, ok, want, true)
	}
	full := schemeOf("LLLLLLLL", "", "AAAA")
	for begin, want := range map[string]int{"AAAAAAAA": 0, "BBBBBBBB": 1, "AAABAAAB": 1, "BBBBAAA": 25, "AAAB": 26*26*26*26 - 1} {
		n, ok := impl.CountBeginning(full, begin)
		wantNumber(t, fmt.Sprintf("CountBeginning %q", begin), n, ok, want, true)
	}
}

func TestTextsThatAreNoSigns(t *testing.T) {
	s := schemeOf("LD", "5Q", "A1", "B")
	for _, sign := range noSigns {
		n, ok := impl.CountWithSign(s, sign)
		wantNumber(t, fmt.Sprintf("CountWithSign %q", sign), n, ok, 0, false)
		got, ok := impl.BarSign(s, sign)
		wantScheme(t, fmt.Sprintf("BarSign %q", sign), got, ok, impl.Scheme{}, false)
	}
	for b := range 256 {
		sign := string([]byte{byte(b)})
		_, ok := impl.CountWithSign(s, sign)
		if want := strings.Contains(plateSigns, sign); ok != want {
			t.Errorf("CountWithSign %q: %v", sign, ok)
		}
		if _, ok = impl.PatternOf(sign); ok != strings.Contains(plateSigns, sign) {
			t.Errorf("PatternOf %q: %v", sign, ok)
		}
		if is := impl.IsScheme(schemeOf("L", sign)); is != strings.Contains(plateSigns, sign) {
			t.Errorf("IsScheme with barred %q: %v", sign, is)
		}
		if is := impl.IsScheme(schemeOf("L", "", sign)); is != strings.Contains(plateSigns, sign) {
			t.Errorf("IsScheme with word %q: %v", sign, is)
		}
		if is := impl.IsScheme(schemeOf(sign, "")); is != strings.Contains("LD", sign) {
			t.Errorf("IsScheme with pattern %q: %v", sign, is)
		}
	}
}

func TestWordsInTexts(t *testing.T) {
	s := schemeOf("LLD", "Q", "AB", "B", "AB")
	for text, want := range map[string][]int{
		"AB1": {0, 1, 2}, "BA1": {1}, "CC1": nil, "QQ1": nil, "1AB": {0, 1, 2}, "QAB": {0, 1, 2}, "111": nil, "B11": {1}, "ZZZ": nil, "00B": {1},
	} {
		got, ok := impl.WordsIn(s, text)
		wantList(t, "WordsIn "+text, got, ok, want, true)
	}
	for _, text := range []string{"", "A", "AB", "AB12", "ab1", "AB ", "AB/", "AB~", "A\x00B", "AB\xff", "ÉB", "AB1AB1AB", strings.Repeat("AB", 500)} {
		got, ok := impl.WordsIn(s, text)
		wantList(t, fmt.Sprintf("WordsIn %q", text), got, ok, nil, false)
	}
	got, ok := impl.WordsIn(schemeOf("LLD", ""), "AB1")
	wantList(t, "WordsIn without words", got, ok, nil, true)
	got, ok = impl.WordsIn(schemeOf("DDDD", "", "1111", "12", "111"), "1111")
	wantList(t, "WordsIn 1111", got, ok, []int{0, 2}, true)
	got, ok = impl.WordsIn(schemeOf("DDDDDDDD", "", "7890", "1234", "34"), "12345678")
	wantList(t, "WordsIn 12345678", got, ok, []int{1, 2}, true)
}

func TestBarSign(t *testing.T) {
	for _, s := range append(slices.Clone(smallSchemes), bigSchemes...) {
		for _, sign := range plateSigns {
			want, isFree := impl.Scheme{}, !strings.ContainsRune(s.Barred, sign)
			if isFree {
				signs := strings.Split(s.Barred+string(sign), "")
				slices.Sort(signs)
				want = schemeOf(s.Pattern, strings.Join(signs, ""), s.Words...)
			}
			got, ok := impl.BarSign(s, string(sign))
			wantScheme(t, fmt.Sprintf("BarSign %q %c", s, sign), got, ok, want, isFree)
			if ok && !impl.IsScheme(got) {
				t.Errorf("BarSign %q %c is no scheme", s, sign)
			}
		}
	}
	s := schemeOf("LD", "")
	for i := range plateSigns {
		next, ok := impl.BarSign(s, plateSigns[len(plateSigns)-1-i:len(plateSigns)-i])
		wantScheme(t, "BarSign of all signs", next, ok, schemeOf("LD", plateSigns[len(plateSigns)-1-i:]), true)
		s = next
	}
}

func TestAddWord(t *testing.T) {
	for _, s := range append(slices.Clone(smallSchemes), bigSchemes...) {
		for _, word := range []string{"A", "0", "AB", "A1B", "ZZZZ", "0000"} {
			want, isFree := impl.Scheme{}, len(s.Words) < maxWords
			if isFree {
				want = schemeOf(s.Pattern, s.Barred, append(slices.Clone(s.Words), word)...)
			}
			got, ok := impl.AddWord(s, word)
			wantScheme(t, fmt.Sprintf("AddWord %q %s", s, word), got, ok, want, isFree)
		}
	}
	for _, word := range []string{"", "ABCDE", "12345", "a", "A ", " A", "A~", "!", "/", ":", "@", "[", "\x00", "\xff", "É", "٣", strings.Repeat("A", 1000)} {
		got, ok := impl.AddWord(schemeOf("LD", "5"), word)
		wantScheme(t, fmt.Sprintf("AddWord %q", word), got, ok, impl.Scheme{}, false)
	}
	again, ok := impl.AddWord(schemeOf("LD", "5", "AB"), "AB")
	wantScheme(t, "AddWord twice", again, ok, schemeOf("LD", "5", "AB", "AB"), true)
}

func TestPatternOf(t *testing.T) {
	for text, want := range map[string]string{
		"A": "L", "Z": "L", "0": "D", "9": "D", "A0": "LD", "0A": "DL", "LD": "LL", "AB12CD34": "LLDDLLDD", "00000000": "DDDDDDDD", "ZZZZZZZZ": "LLLLLLLL",
	} {
		got, ok := impl.PatternOf(text)
		wantText(t, "PatternOf "+text, got, ok, want, true)
	}
	for _, text := range []string{"", "000000000", "AAAAAAAAA", "a", "Aa", "A ", " A", "A-1", "/", ":", "@", "[", "A\x00", "A\xff", "É", "٣", strings.Repeat("1", 1000)} {
		got, ok := impl.PatternOf(text)
		wantText(t, fmt.Sprintf("PatternOf %q", text), got, ok, "", false)
	}
	for _, s := range append(slices.Clone(smallSchemes), bigSchemes...) {
		if plate, ok := impl.FirstPlate(s); ok {
			got, ok := impl.PatternOf(plate)
			wantText(t, "PatternOf "+plate, got, ok, s.Pattern, true)
		}
	}
}

func TestSchemeTexts(t *testing.T) {
	for text, s := range map[string]impl.Scheme{
		"L": schemeOf("L", ""), "DDD~11": schemeOf("DDD", "", "11"), "LL~AB": schemeOf("LL", "", "AB"), "LL!A~AB~ZZ": schemeOf("LL", "A", "AB", "ZZ"),
		"LD!23456789BCDEFGHIJKLMNOPQRSTUVWXYZ": schemeOf("LD", "23456789BCDEFGHIJKLMNOPQRSTUVWXYZ"), "D!" + plateSigns: schemeOf("D", plateSigns),
		"LLLLDDDD!09AZ~A~12~1234": schemeOf("LLLLDDDD", "09AZ", "A", "12", "1234"), "L~L~D~LD": schemeOf("L", "", "L", "D", "LD"), "D~1~1~1": schemeOf("D", "", "1", "1", "1"),
	} {
		got, ok := impl.SchemeText(s)
		wantText(t, fmt.Sprintf("SchemeText %q", s), got, ok, text, true)
		read, ok := impl.ParseScheme(text)
		wantScheme(t, "ParseScheme "+text, read, ok, s, true)
	}
	for _, s := range append(slices.Clone(smallSchemes), bigSchemes...) {
		text, ok := impl.SchemeText(s)
		read, fine := impl.ParseScheme(text)
		wantScheme(t, "ParseScheme "+text, read, ok && fine, s, true)
	}
	for _, text := range []string{
		"", "!", "~", "!~", "!A", "~A", "!A~A", "A", "1", "X", "LX", "l", "LLLLLLLLL", "LL!", "LL~", "LL!~A", "LL!A~", "LL~A~", "LL~~A", "LL!!A", "LL!A!", "LL!A!B", "LL~A!B", "LL~!A", "LL!BA", "LL!AA", "LL!A0",
		"LL!a", "LL~a", "LL ~A", " LL", "LL ", "LL\n", "LL~A ", "LL~ABCDE", "LL~A~B~C~D", "LL~A~B~C~", "L!A~B!C", "LL,A", "LL!A,B", "LL!A B", "L\x00", "\xff", "L!\xff", "L~\xff", "É", "L~É", "L!" + plateSigns + "Z",
		strings.Repeat("L", 1000), strings.Repeat("~", 1000), strings.Repeat("!", 1000), "L" + strings.Repeat("~A", 1000), "L!" + strings.Repeat("A", 1000),
	} {
		read, ok := impl.ParseScheme(text)
		wantScheme(t, fmt.Sprintf("ParseScheme %q", text), read, ok, impl.Scheme{}, false)
	}
}

// TestShortSchemeTexts reads all short texts of a few bytes, and holds each one against the text of what comes of it.
func TestShortSchemeTexts(t *testing.T) {
	texts, read := []string{""}, 0
	for from := 0; from < len(texts); from++ {
		text := texts[from]
		if s, ok := impl.ParseScheme(text); ok {
			read++
			told, fine := impl.SchemeText(s)
			wantText(t, "SchemeText of "+text, told, fine, text, true)
		}
		if len(text) < 6 {
			for _, c := range "L1B!~" {
				texts = append(texts, text+string(c))
			}
		}
	}
	// L and up to 6 of them, with one or two barred signs, with words, or with both.
	if want := countShortSchemes(); read != want {
		t.Errorf("%d texts are schemes, not %d", read, want)
	}
}

// countShortSchemes counts the texts of at most 6 bytes of schemes with the pattern letter L and the signs 1, B and L.
func countShortSchemes() int {
	barred := []string{"", "!1", "!B", "!L", "!1B", "!1L", "!BL", "!1BL"}
	words := []int{1} // how many lists of words take so many bytes
	for size := 1; size < 6; size++ {
		words = append(words, 0)
	}
	lists := slices.Clone(words)
	for range maxWords {
		longer := make([]int, 6)
		for size, count := range lists {
			for signs, ways := 1, 3; signs <= maxWord && size+1+signs < 6; signs, ways = signs+1, ways*3 {
				longer[size+1+signs] += count * ways
			}
		}
		lists = longer
		for size, count := range lists {
			words[size] += count
		}
	}
	count := 0
	for pattern := 1; pattern <= 6; pattern++ {
		for _, signs := range barred {
			for size, ways := range words {
				if pattern+len(signs)+size <= 6 {
					count += ways
				}
			}
		}
	}
	return count
}

// TestNoSchemes is promise 11 for schemes: nothing panics for what is no scheme, and each call fails with zero values.
func TestNoSchemes(t *testing.T) {
	for _, s := range noSchemes {
		what := fmt.Sprintf(" %.60q", s)
		if impl.IsScheme(s) {
			t.Error("IsScheme" + what)
		}
		for name, ask := range map[string]func(impl.Scheme) (int, bool){"CountPlates": impl.CountPlates, "CountSpoiled": impl.CountSpoiled} {
			n, ok := ask(s)
			wantNumber(t, name+what, n, ok, 0, false)
		}
		for name, ask := range map[string]func(impl.Scheme) (string, bool){"FirstPlate": impl.FirstPlate, "SchemeText": impl.SchemeText} {
			got, ok := ask(s)
			wantText(t, name+what, got, ok, "", false)
		}
		for _, rank := range someNumbers {
			got, ok := impl.PlateOfRank(s, rank)
			wantText(t, "PlateOfRank"+what, got, ok, "", false)
		}
		for _, text := range []string{"", "A", "0", "L", strings.Repeat("A", len(s.Pattern)), strings.Repeat("0", len(s.Pattern)), "A0", "\xff"} {
			is, ok := impl.IsPlate(s, text)
			wantTruth(t, "IsPlate"+what, is, ok, false, false)
			wantNothingOfPlate(t, s, text, text)
			for name, ask := range map[string]func(impl.Scheme, string) (int, bool){"CountBeginning": impl.CountBeginning, "CountWithSign": impl.CountWithSign} {
				n, ok := ask(s, text)
				wantNumber(t, name+what, n, ok, 0, false)
			}
			for name, ask := range map[string]func(impl.Scheme, string) (impl.Scheme, bool){"BarSign": impl.BarSign, "AddWord": impl.AddWord} {
				got, ok := ask(s, text)
				wantScheme(t, name+what, got, ok, impl.Scheme{}, false)
			}
			list, ok := impl.WordsIn(s, text)
			wantList(t, "WordsIn"+what, list, ok, nil, false)
		}
	}
}

// askAll calls all that takes a scheme.
func askAll(s impl.Scheme, text string, n int) {
	impl.IsScheme(s)
	impl.IsPlate(s, text)
	impl.CountPlates(s)
	impl.FirstPlate(s)
	impl.RankOfPlate(s, text)
	impl.PlateOfRank(s, n)
	impl.NextPlate(s, text)
	impl.LastPlate(s, text)
	impl.PlateBehind(s, text, n)
	impl.PlatesBetween(s, text, text)
	impl.CountBeginning(s, text)
	impl.CountWithSign(s, text)
	impl.CountSpoiled(s)
	impl.WordsIn(s, text)
	impl.BarSign(s, text)
	impl.AddWord(s, text)
	impl.SchemeText(s)
}

// TestSchemesAreLeftAlone: nothing is written into the words of a scheme, nor behind them.
func TestSchemesAreLeftAlone(t *testing.T) {
	for _, s := range slices.Concat(smallSchemes, bigSchemes, noSchemes) {
		room := append(slices.Clone(s.Words), "ONE", "TWO")
		kept := slices.Clone(room)
		lent := impl.Scheme{Pattern: s.Pattern, Barred: s.Barred, Words: room[:len(s.Words)]}
		for _, text := range []string{"", "A", "0", "B", "AB", "11", strings.Repeat("A", len(s.Pattern)), strings.Repeat("1", len(s.Pattern)), "~"} {
			askAll(lent, text, len(text))
		}
		if plate, ok := impl.FirstPlate(lent); ok {
			askAll(lent, plate, 1)
		}
		if !slices.Equal(room, kept) {
			t.Fatalf("words of %.60q are %.60q now", s, room)
		}
	}
}

// TestSchemesOfResultsAreNew: what a caller does to the words of a result is seen neither in the argument nor in the next result.
func TestSchemesOfResultsAreNew(t *testing.T) {
	room := []string{"AB", "11", "ONE", "TWO"}
	s := impl.Scheme{Pattern: "LD", Words: room[:2]}
	for name, ask := range map[string]func() (impl.Scheme, bool){
		"BarSign":     func() (impl.Scheme, bool) { return impl.BarSign(s, "5") },
		"AddWord":     func() (impl.Scheme, bool) { return impl.AddWord(s, "ZZ") },
		"ParseScheme": func() (impl.Scheme, bool) { return impl.ParseScheme("LD!5~AB~11") },
	} {
		first, ok := ask()
		want := schemeOf(first.Pattern, first.Barred, slices.Clone(first.Words)...)
		for i := range first.Words[:cap(first.Words)] {
			first.Words[:cap(first.Words)][i] = "MINE"
		}
		again, fine := ask()
		wantScheme(t, name+" again", again, ok && fine, want, true)
		if !slices.Equal(room, []string{"AB", "11", "ONE", "TWO"}) {
			t.Errorf("%s shares the words of its argument: %q", name, room)
		}
	}
	room[0] = "ZZ"
	list, _ := impl.WordsIn(schemeOf("LL", "", "A", "B"), "AB")
	list[0] = 9
	list, ok := impl.WordsIn(schemeOf("LL", "", "A", "B"), "AB")
	wantList(t, "WordsIn again", list, ok, []int{0, 1}, true)
}

// TestSameAnswersAgain: no answer depends on the order in which a map gives its words.
func TestSameAnswersAgain(t *testing.T) {
	s := schemeOf("LLLLLLLL", just012ABCD, "ABCD", "BC", "CABC")
	plates := platesOf(schemeOf("LLLLLLLL", just012ABCD, "BC"))
	for range 200 {
		count, ok := impl.CountPlates(s)
		wantNumber(t, "CountPlates", count, ok, len(plates), true)
		rank, ok := impl.RankOfPlate(s, plates[len(plates)/2])
		wantNumber(t, "RankOfPlate", rank, ok, len(plates)/2, true)
	}
}

func TestExampleOfPlates(t *testing.T) {
	s, ok := impl.ParseScheme("LD!23456789BCDEFGHIJKLMNOPQRSTUVWXYZ")
	n, fine := impl.CountPlates(s)
	wantNumber(t, "CountPlates", n, ok && fine, 2, true)
	for rank, want := range []string{"A0", "A1"} {
		got, ok := impl.PlateOfRank(s, rank)
		wantText(t, "PlateOfRank", got, ok, want, true)
	}
	s, _ = impl.ParseScheme("LL~AB")
	n, ok = impl.CountPlates(s)
	wantNumber(t, "CountPlates", n, ok, 675, true)
	got, ok := impl.NextPlate(s, "AA")
	wantText(t, "NextPlate", got, ok, "AC", true)
	n, ok = impl.RankOfPlate(s, "AC")
	wantNumber(t, "RankOfPlate", n, ok, 1, true)
	got, ok = impl.PlateBehind(s, "AA", 25)
	wantText(t, "PlateBehind", got, ok, "BA", true)
	s, _ = impl.ParseScheme("DDD~11")
	n, ok = impl.CountSpoiled(s)
	wantNumber(t, "CountSpoiled", n, ok, 19, true)
	n, ok = impl.CountPlates(s)
	wantNumber(t, "CountPlates", n, ok, 981, true)
	s, _ = impl.ParseScheme("DD")
	n, ok = impl.CountWithSign(s, "1")
	wantNumber(t, "CountWithSign", n, ok, 19, true)
	n, ok = impl.CountBeginning(s, "1")
	wantNumber(t, "CountBeginning", n, ok, 10, true)
}

func TestLimitsOfPlates(t *testing.T) {
	if impl.MaxPattern != maxPattern || impl.MaxWords != maxWords || impl.MaxWord != maxWord {
		t.Error(impl.MaxPattern, impl.MaxWords, impl.MaxWord)
	}
}
