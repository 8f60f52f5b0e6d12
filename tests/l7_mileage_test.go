package tests

import (
	"fmt"
	"math"
	"math/bits"
	"runtime"
	"slices"
	"sort"
	"strings"
	"sync"
	"testing"
	"unsafe"

	"loop.example/g01395/impl"
)

// The signatures of chapter 7 are those that the document declares.
var (
	_ func(string) bool                   = impl.IsReading
	_ func(string, int) (string, bool)    = impl.AddMiles
	_ func(string, string) (int, bool)    = impl.MilesTo
	_ func(string) (string, bool)         = impl.KindsOfReading
	_ func(string, string) (string, bool) = impl.NextOfKind
	_ func(string, string) (int, bool)    = impl.MilesToKind
	_ func(int, string) (int, bool)       = impl.CountOfKind
	_ func(int, string) (string, bool)    = impl.FirstOfKind
	_ func(int, string) (string, bool)    = impl.LastOfKind
	_ func(int, int) (string, bool)       = impl.MirroredOfRank
	_ func(string) (int, bool)            = impl.RankOfMirrored
	_ func(string) (string, bool)         = impl.UpsideOf
	_ func(string, string) (int, bool)    = impl.BothMirrored
	_ func(string) (int, bool)            = impl.DifferentDigits
	_ func(string, int) (int, bool)       = impl.MilesToDigits
	_ func(int) (string, int, bool)       = impl.GreatestGapMirrored
	_ func(string) (string, bool)         = impl.TurnReading
)

const (
	maxDial     = 9
	maxTogether = 1000000
	maxMiles    = 1000000000
)

// kindLetters are those of the six kinds, in the order of the document.
var kindLetters = []string{"a", "m", "u", "r", "f", "d"}

// noReadings are texts that are no readings: wrong lengths, and bytes that are no digits, at either end of the digits too.
var noReadings = []string{
	"", "0000000000", "1234567890", "00000000000", strings.Repeat("9", 1000),
	"a", "a1", "1a", "/", "/0", "0/", ":", ":0", "0:", "+1", "-1", "1 ", " 1", "1.5", "12\n", "1,2", "?", "1?", "x0", "0x1", "1_0", "1e3",
	"\x00", "0\x00", "\xff", "0\xff", "é", "1é", "٣", "１", "ABC",
}

// noKinds are texts that are the letter of no kind: other letters, and more or less than one.
var noKinds = []string{"", "b", "e", "x", "A", "M", "U", "R", "F", "D", "am", "aa", "mu", "amurfd", "a ", " a", "a\n", "a,m", "0", "1", "?", "-", "\x00", "a\x00", "\xff", "é", "á", "ａ", strings.Repeat("m", 1000)}

var noDialSizes = []int{math.MinInt, math.MinInt + 1, -9, -2, -1, 0, 10, 11, 12, 100, 1 << 32, 1<<32 + 1, math.MaxInt - 1, math.MaxInt}

func readingText(n int, digits int) string { return fmt.Sprintf("%0*d", digits, n) }

func readingNumber(text string) int {
	n := 0
	for _, r := range text {
		n = n*10 + int(r-'0')
	}
	return n
}

func turnedText(text string) string {
	signs := []byte(text)
	slices.Reverse(signs)
	return string(signs)
}

// upsideText has blanks for digits that cannot be read upside down.
func upsideText(text string) string {
	return turnedText(strings.NewReplacer("6", "9", "9", "6", "2", " ", "3", " ", "4", " ", "5", " ", "7", " ").Replace(text))
}

func isOrdered(text string, isBefore func(a byte, b byte) bool) bool {
	for i := 1; i < len(text); i++ {
		if !isBefore(text[i-1], text[i]) {
			return false
		}
	}
	return true
}

func differentIn(text string) int {
	different := 0
	for digit := range 10 {
		if strings.Contains(text, textOf(digit)) {
			different++
		}
	}
	return different
}

// isOfKind tells a kind by the words of the document.
func isOfKind(text string, kind string) bool {
	switch kind {
	case "a":
		return strings.Count(text, text[:1]) == len(text)
	case "m":
		return turnedText(text) == text
	case "u":
		return strings.Trim(text, "01689") == "" && upsideText(text) == text
	case "r":
		return isOrdered(text, func(a byte, b byte) bool { return a < b })
	case "f":
		return isOrdered(text, func(a byte, b byte) bool { return a > b })
	case "d":
		return differentIn(text) == len(text)
	}
	panic("no kind " + kind)
}

func kindsOf(text string) string {
	kinds := ""
	for _, kind := range kindLetters {
		if isOfKind(text, kind) {
			kinds += kind
		}
	}
	return kinds
}

// nextNumber returns the first of increasing numbers that comes behind n, as the dial goes round, and how many miles later.
func nextNumber(numbers []int, n int, digits int) (int, int) {
	at := sort.SearchInts(numbers, n+1)
	if at < len(numbers) {
		return numbers[at], numbers[at] - n
	}
	return numbers[0], numbers[0] + powerOf(10, digits) - n
}

func wantNextOfKind(t *testing.T, digits int, kind string, numbers []int, n int) {
	t.Helper()
	text := readingText(n, digits)
	next, miles := nextNumber(numbers, n, digits)
	got, ok := impl.NextOfKind(text, kind)
	wantText(t, "NextOfKind "+text+" "+kind, got, ok, readingText(next, digits), true)
	count, ok := impl.MilesToKind(text, kind)
	wantNumber(t, "MilesToKind "+text+" "+kind, count, ok, miles, true)
}

func wantKind(t *testing.T, digits int, kind string, numbers []int) {
	t.Helper()
	what := fmt.Sprint(" ", digits, " ", kind)
	count, ok := impl.CountOfKind(digits, kind)
	wantNumber(t, "CountOfKind"+what, count, ok, len(numbers), true)
	first, ok := impl.FirstOfKind(digits, kind)
	wantText(t, "FirstOfKind"+what, first, ok, readingText(numbers[0], digits), true)
	last, ok := impl.LastOfKind(digits, kind)
	wantText(t, "LastOfKind"+what, last, ok, readingText(numbers[len(numbers)-1], digits), true)
}

// numbersOfKind looks at each number of a dial.
func numbersOfKind(digits int, is func(text string) bool) []int {
	var numbers []int
	for n := range powerOf(10, digits) {
		if is(readingText(n, digits)) {
			numbers = append(numbers, n)
		}
	}
	return numbers
}

// TestKindsAgainstWholeDials is promise 7: all readings of short dials and some of one that has five digits, with all kinds.
func TestKindsAgainstWholeDials(t *testing.T) {
	for digits := 1; digits <= 5; digits++ {
		step := 1
		if digits == 5 {
			step = 37
		}
		for _, kind := range kindLetters {
			numbers := numbersOfKind(digits, func(text string) bool { return isOfKind(text, kind) })
			wantKind(t, digits, kind, numbers)
			for n := 0; n < powerOf(10, digits); n += step {
				wantNextOfKind(t, digits, kind, numbers, n)
			}
			for _, n := range numbers {
				wantNextOfKind(t, digits, kind, numbers, n)
			}
		}
	}
}

func wantReading(t *testing.T, text string) {
	t.Helper()
	if !impl.IsReading(text) {
		t.Error("IsReading", text)
	}
	kinds, ok := impl.KindsOfReading(text)
	wantText(t, "KindsOfReading "+text, kinds, ok, kindsOf(text), true)
	different, ok := impl.DifferentDigits(text)
	wantNumber(t, "DifferentDigits "+text, different, ok, differentIn(text), true)
	turned, ok := impl.TurnReading(text)
	wantText(t, "TurnReading "+text, turned, ok, turnedText(text), true)
	want := upsideText(text)
	isUpside := !strings.Contains(want, " ")
	if !isUpside {
		want = ""
	}
	upside, ok := impl.UpsideOf(text)
	wantText(t, "UpsideOf "+text, upside, ok, want, isUpside)
}

// TestReadingsAgainstTheirTexts goes along whole dials, and over their ends, and looks at some readings of long ones.
func TestReadingsAgainstTheirTexts(t *testing.T) {
	for digits := 1; digits <= 4; digits++ {
		for n := range powerOf(10, digits) {
			wantReading(t, readingText(n, digits))
		}
	}
	for digits := 5; digits <= maxDial; digits++ {
		for _, n := range someOnDial(digits) {
			wantReading(t, readingText(n, digits))
		}
	}
	for text, kinds := range map[string]string{"6889": "u", "101": "mu", "7": "amrfd", "0": "amurfd", "8": "amurfd", "6": "amrfd", "69": "urd", "96": "ufd", "99": "am", "00": "amu", "112": "", "1213": "", "123456789": "rd", "987654321": "fd", "012345678": "rd", "102345678": "d", "000000000": "amu", "999999999": "am", "189010681": "u"} {
		got, ok := impl.KindsOfReading(text)
		wantText(t, "KindsOfReading "+text, got, ok, kinds, true)
	}
}

// someOnDial are readings at both ends of a dial, beside rounded ones, beside ones whose digits are alike, and between these.
func someOnDial(digits int) []int {
	round := powerOf(10, digits)
	var numbers []int
	add := func(n int) {
		for away := -2; away <= 2; away++ {
			numbers = append(numbers, (n+away+round)%round)
		}
	}
	add(0)
	for times := range digits {
		for digit := 1; digit <= 9; digit++ {
			add(digit * powerOf(10, times))
			add(round - digit*powerOf(10, times))
			add(digit * (powerOf(10, times+1) / 9))
		}
	}
	for n := 3; n < round; n = n*4/3 + 7 {
		numbers = append(numbers, n, n*7919%round, n*104729%round)
	}
	for _, n := range []int{123456789, 987654321, 98765432, 12345678, 102030405, 908070605, 189010681, 689010689, 999989999, 999890000} {
		add(n % round)
	}
	return numbers
}

func mirroredNumbers(digits int) []int {
	var numbers []int
	half := (digits + 1) / 2
	for n := range powerOf(10, half) {
		text := readingText(n, half)
		numbers = append(numbers, readingNumber(text+turnedText(text)[half-digits/2:]))
	}
	return numbers
}

// upsideNumbers takes those of all texts of the five digits that are read alike.
func upsideNumbers(digits int) []int {
	texts := []string{""}
	for range digits {
		var longer []string
		for _, text := range texts {
			for _, digit := range []string{"0", "1", "6", "8", "9"} {
				longer = append(longer, text+digit)
			}
		}
		texts = longer
	}
	var numbers []int
	for _, text := range texts {
		if upsideText(text) == text {
			numbers = append(numbers, readingNumber(text))
		}
	}
	return numbers
}

// orderedNumbers takes each set of so many digits in one order.
func orderedNumbers(digits int, isFalling bool) []int {
	var numbers []int
	for set := range 1 << 10 {
		if bits.OnesCount(uint(set)) != digits {
			continue
		}
		text := ""
		for digit := range 10 {
			if set>>digit&1 == 1 {
				text += textOf(digit)
			}
		}
		if isFalling {
			text = turnedText(text)
		}
		numbers = append(numbers, readingNumber(text))
	}
	slices.Sort(numbers)
	return numbers
}

// differentNumbers has for each number of digits all numbers none of whose digits is there twice. They are millions, and so made once.
var differentNumbers = sync.OnceValue(func() [][]int {
	type begun struct{ number, met int }
	texts := []begun{{}}
	var lists [][]int
	for range maxDial + 1 {
		var numbers []int
		var longer []begun
		for _, text := range texts {
			numbers = append(numbers, text.number)
			for digit := range 10 {
				if text.met>>digit&1 == 0 {
					longer = append(longer, begun{text.number*10 + digit, text.met | 1<<digit})
				}
			}
		}
		lists = append(lists, numbers)
		texts = longer
	}
	return lists
})

func alikeNumbers(digits int) []int {
	var numbers []int
	for digit := range 10 {
		numbers = append(numbers, digit*(powerOf(10, digits)/9))
	}
	return numbers
}

// TestKindsOfLongDials: readings of each kind are made from their digits, as the dials are too long to look at all.
func TestKindsOfLongDials(t *testing.T) {
	different := differentNumbers()
	for digits := 1; digits <= maxDial; digits++ {
		for kind, numbers := range map[string][]int{
			"a": alikeNumbers(digits), "m": mirroredNumbers(digits), "u": upsideNumbers(digits),
			"r": orderedNumbers(digits, false), "f": orderedNumbers(digits, true), "d": different[digits],
		} {
			wantKind(t, digits, kind, numbers)
			for _, n := range someOnDial(digits) {
				wantNextOfKind(t, digits, kind, numbers, n)
			}
			for i := 0; i < len(numbers); i += 1 + len(numbers)/200 {
				n := numbers[i]
				wantNextOfKind(t, digits, kind, numbers, n)
				wantNextOfKind(t, digits, kind, numbers, max(n-1, 0))
				wantReading(t, readingText(n, digits))
			}
			wantNextOfKind(t, digits, kind, numbers, numbers[len(numbers)-1])
		}
	}
}

func TestCountsOfKinds(t *testing.T) {
	for i, want := range []int{10, 100, 25, 210, 210, 5040} {
		count, ok := impl.CountOfKind(4, kindLetters[i])
		wantNumber(t, "CountOfKind 4 "+kindLetters[i], count, ok, want, true)
	}
	for i, want := range []int{10, 10, 3, 10, 10, 10} {
		count, ok := impl.CountOfKind(1, kindLetters[i])
		wantNumber(t, "CountOfKind 1 "+kindLetters[i], count, ok, want, true)
	}
	for i, want := range []int{10, 100000, 1875, 10, 10, 3628800} {
		count, ok := impl.CountOfKind(maxDial, kindLetters[i])
		wantNumber(t, "CountOfKind 9 "+kindLetters[i], count, ok, want, true)
	}
	for i, want := range [][2]string{{"000000000", "999999999"}, {"000000000", "999999999"}, {"000000000", "999986666"}, {"012345678", "123456789"}, {"876543210", "987654321"}, {"012345678", "987654321"}} {
		first, ok := impl.FirstOfKind(maxDial, kindLetters[i])
		wantText(t, "FirstOfKind 9 "+kindLetters[i], first, ok, want[0], true)
		last, ok := impl.LastOfKind(maxDial, kindLetters[i])
		wantText(t, "LastOfKind 9 "+kindLetters[i], last, ok, want[1], true)
	}
}

// TestKindsComeOneBehindTheOther: as many as there are of a kind lead through all of them, once round the dial.
func TestKindsComeOneBehindTheOther(t *testing.T) {
	for digits := 1; digits <= maxDial; digits++ {
		for _, kind := range kindLetters {
			count, _ := impl.CountOfKind(digits, kind)
			if count > 2000 {
				continue
			}
			first, _ := impl.FirstOfKind(digits, kind)
			last, _ := impl.LastOfKind(digits, kind)
			text, sum := first, 0
			for i := range count {
				if (text == last) != (i == count-1) {
					t.Errorf("%s, number %d of kind %s, the last one is %s", text, i, kind, last)
				}
				next, _ := impl.NextOfKind(text, kind)
				miles, ok := impl.MilesToKind(text, kind)
				there, _ := impl.AddMiles(text, miles)
				if !ok || miles < 1 || there != next || !isOfKind(next, kind) {
					t.Errorf("%d miles from %s to %s: %s", miles, text, next, there)
				}
				text, sum = next, sum+miles
			}
			if text != first || sum != powerOf(10, digits) {
				t.Errorf("%d digits of kind %s: %d readings from %s lead to %s, %d miles", digits, kind, count, first, text, sum)
			}
		}
	}
}

func wantMiles(t *testing.T, from int, digits int, miles int) {
	t.Helper()
	round := powerOf(10, digits)
	text, want := readingText(from, digits), readingText((from+miles)%round, digits)
	got, ok := impl.AddMiles(text, miles)
	wantText(t, fmt.Sprint("AddMiles ", text, " ", miles), got, ok, want, true)
	back, ok := impl.MilesTo(text, want)
	wantNumber(t, "MilesTo "+text+" "+want, back, ok, miles%round, true)
}

// TestMiles goes once round short dials mile by mile, and farther on others.
func TestMiles(t *testing.T) {
	for digits := 1; digits <= 4; digits++ {
		text := strings.Repeat("0", digits)
		for n := range powerOf(10, digits) {
			wantText(t, "going on", text, true, readingText(n, digits), true)
			text, _ = impl.AddMiles(text, 1)
		}
		wantText(t, "behind all nines", text, true, strings.Repeat("0", digits), true)
	}
	for digits := 1; digits <= maxDial; digits++ {
		some := someOnDial(digits)
		for i, from := range some {
			for _, miles := range []int{0, 1, 9, 10, 11, 99, 12345, 999999999, maxMiles - 1, maxMiles, some[len(some)-1-i], some[i*31%len(some)]} {
				wantMiles(t, from, digits, miles)
			}
		}
	}
	for _, from := range []int{0, 5, 9} {
		for miles := range 200 {
			wantMiles(t, from, 1, miles)
		}
	}
	for _, row := range []struct {
		from, to string
		miles    int
	}{{"9", "0", 1}, {"0", "9", 9}, {"5", "5", 0}, {"999999999", "000000000", 1}, {"000000000", "999999999", 999999999}, {"000000001", "000000000", 999999999}, {"0010", "0009", 9999}, {"15951", "16061", 110}} {
		miles, ok := impl.MilesTo(row.from, row.to)
		wantNumber(t, "MilesTo "+row.from+" "+row.to, miles, ok, row.miles, true)
	}
}

func wantRankOfMirrored(t *testing.T, digits int, numbers []int, n int) {
	t.Helper()
	text := readingText(n, digits)
	rank, ok := impl.RankOfMirrored(text)
	wantNumber(t, "RankOfMirrored "+text, rank, ok, sort.SearchInts(numbers, n), true)
}

func wantMirroredOfRank(t *testing.T, digits int, numbers []int, rank int) {
	t.Helper()
	want, wantOk := "", rank >= 0 && rank < len(numbers)
	if wantOk {
		want = readingText(numbers[rank], digits)
	}
	text, ok := impl.MirroredOfRank(digits, rank)
	wantText(t, fmt.Sprint("MirroredOfRank ", digits, " ", rank), text, ok, want, wantOk)
}

func TestRanksOfMirrored(t *testing.T) {
	for digits := 1; digits <= maxDial; digits++ {
		numbers := mirroredNumbers(digits)
		for rank := 0; rank < len(numbers); rank += 1 + len(numbers)/1100 {
			wantMirroredOfRank(t, digits, numbers, rank)
			n := numbers[rank]
			wantRankOfMirrored(t, digits, numbers, n)
			wantRankOfMirrored(t, digits, numbers, max(n-1, 0))
			wantRankOfMirrored(t, digits, numbers, min(n+1, powerOf(10, digits)-1))
		}
		for _, n := range someOnDial(digits) {
			wantRankOfMirrored(t, digits, numbers, n)
		}
		for _, rank := range []int{math.MinInt, -len(numbers), -2, -1, 0, 1, len(numbers) - 1, len(numbers), len(numbers) + 1, 10 * len(numbers), 1 << 32, math.MaxInt - 1, math.MaxInt} {
			wantMirroredOfRank(t, digits, numbers, rank)
		}
	}
	for n := range 10000 {
		wantRankOfMirrored(t, 4, mirroredNumbers(4), n)
	}
}

// TestGreatestGaps looks at the gaps behind all mirrored readings.
func TestGreatestGaps(t *testing.T) {
	for digits := 1; digits <= maxDial; digits++ {
		numbers := mirroredNumbers(digits)
		from, farthest := 0, 0
		for _, n := range numbers {
			if _, miles := nextNumber(numbers, n, digits); miles > farthest {
				from, farthest = n, miles
			}
		}
		text, miles, ok := impl.GreatestGapMirrored(digits)
		wantText(t, fmt.Sprint("GreatestGapMirrored ", digits), text, ok, readingText(from, digits), true)
		wantNumber(t, fmt.Sprint("GreatestGapMirrored ", digits), miles, ok, farthest, true)
	}
	for i, want := range []int{1, 11, 11, 110, 110, 1100, 1100, 11000, 11000} {
		_, miles, ok := impl.GreatestGapMirrored(i + 1)
		wantNumber(t, fmt.Sprint("GreatestGapMirrored ", i+1), miles, ok, want, true)
	}
}

// stepsToDigits goes on mile by mile.
func stepsToDigits(n int, digits int, many int) int {
	round := powerOf(10, digits)
	for miles := range round {
		met := 0
		for left, i := (n+miles)%round, 0; i < digits; left, i = left/10, i+1 {
			met |= 1 << (left % 10)
		}
		if bits.OnesCount(uint(met)) == many {
			return miles
		}
	}
	panic("no such reading")
}

func wantMilesToDigits(t *testing.T, n int, digits int, many int, want int) {
	t.Helper()
	text := readingText(n, digits)
	miles, ok := impl.MilesToDigits(text, many)
	wantNumber(t, fmt.Sprint("MilesToDigits ", text, " ", many), miles, ok, want, true)
	there, _ := impl.AddMiles(text, miles)
	if different, _ := impl.DifferentDigits(there); different != many {
		t.Errorf("%d miles from %s to %d different digits: %s", miles, text, many, there)
	}
}

func wantNoMilesToDigits(t *testing.T, text string, many int) {
	t.Helper()
	miles, ok := impl.MilesToDigits(text, many)
	wantNumber(t, fmt.Sprintf("MilesToDigits %.20q %d", text, many), miles, ok, 0, false)
}

func TestMilesToDigits(t *testing.T) {
	for digits := 1; digits <= 4; digits++ {
		for many := 1; many <= digits; many++ {
			numbers := numbersOfKind(digits, func(text string) bool { return differentIn(text) == many })
			for n := range powerOf(10, digits) {
				_, want := nextNumber(numbers, n-1, digits)
				wantMilesToDigits(t, n, digits, many, want-1)
			}
		}
	}
	for digits := 5; digits <= maxDial; digits++ {
		some := someOnDial(digits)
		for many := 3; many < digits; many++ {
			for i := many; i < len(some); i += 40 {
				wantMilesToDigits(t, some[i], digits, many, stepsToDigits(some[i], digits, many))
			}
		}
	}
	for digits := 1; digits <= maxDial; digits++ {
		for many := range 20 {
			if many > digits || many == 0 {
				wantNoMilesToDigits(t, strings.Repeat("0", digits), many)
				wantNoMilesToDigits(t, "987654321"[:digits], many)
			}
		}
	}
}

// TestMilesToDigitsOfLongDials is for very few and for very many digits, which are far away.
func TestMilesToDigitsOfLongDials(t *testing.T) {
	different := differentNumbers()
	for digits := 5; digits <= maxDial; digits++ {
		for many, numbers := range map[int][]int{1: alikeNumbers(digits), digits: different[digits]} {
			for _, n := range someOnDial(digits) {
				_, want := nextNumber(numbers, n-1, digits)
				wantMilesToDigits(t, n, digits, many, want-1)
			}
		}
	}
	for _, row := range []struct {
		text        string
		many, miles int
	}{
		{"987654322", 9, 24691356}, {"987654321", 9, 0}, {"999999999", 9, 12345679}, {"000000000", 1, 0}, {"000000001", 1, 111111110}, {"999999998", 1, 1},
		{"999999999", 1, 0}, {"999999999", 2, 2}, {"999999999", 8, 1234568}, {"7", 1, 0}, {"99", 2, 2}, {"1998", 4, 15},
		{"980000001", 2, 8888887}, {"121222223", 2, 888888}, {"201000000", 2, 1000000},
	} {
		miles, ok := impl.MilesToDigits(row.text, row.many)
		wantNumber(t, fmt.Sprint("MilesToDigits ", row.text, " ", row.many), miles, ok, row.miles, true)
		if row.miles < 20000000 {
			steps := stepsToDigits(readingNumber(row.text), len(row.text), row.many)
			wantNumber(t, fmt.Sprint("steps of ", row.text, " ", row.many), steps, true, row.miles, true)
		}
	}
}

// mirrorSteps has the signs of both dials changed mile by mile.
func mirrorSteps(a string, b string) (int, bool) {
	x, y := []byte(a), []byte(b)
	for miles := 1; miles <= maxTogether; miles++ {
		turnOn(x)
		turnOn(y)
		if isMirrored(x) && isMirrored(y) {
			return miles, true
		}
	}
	return 0, false
}

func turnOn(dial []byte) {
	for i := len(dial) - 1; i >= 0; i-- {
		if dial[i] < '9' {
			dial[i]++
			return
		}
		dial[i] = '0'
	}
}

func isMirrored(dial []byte) bool {
	for i := range len(dial) / 2 {
		if dial[i] != dial[len(dial)-1-i] {
			return false
		}
	}
	return true
}

func wantBoth(t *testing.T, a string, b string, want int, wantOk bool) {
	t.Helper()
	miles, ok := impl.BothMirrored(a, b)
	wantNumber(t, "BothMirrored "+a+" "+b, miles, ok, want, wantOk)
	miles, ok = impl.BothMirrored(b, a)
	wantNumber(t, "BothMirrored "+b+" "+a, miles, ok, want, wantOk)
}

// firstOnBoth looks at the mirrored readings of one dial, whose numbers are told, up to a last mile.
func firstOnBoth(numbers []int, a string, b string, last int) (int, bool) {
	n := readingNumber(a)
	for miles := 0; ; {
		next, more := nextNumber(numbers, n, len(a))
		n, miles = next, miles+more
		if miles > last {
			return 0, false
		}
		if isMirrored([]byte(readingText((readingNumber(b)+miles)%powerOf(10, len(b)), len(b)))) {
			return miles, true
		}
	}
}

// TestBothMirroredOfShortDials is for all pairs of dials that have one or two digits. Behind 100 miles all comes again.
func TestBothMirroredOfShortDials(t *testing.T) {
	var texts []string
	for digits := 1; digits <= 2; digits++ {
		for n := range powerOf(10, digits) {
			texts = append(texts, readingText(n, digits))
		}
	}
	mirrored := [][]int{nil, mirroredNumbers(1), mirroredNumbers(2)}
	never := 0
	for _, a := range texts {
		for _, b := range texts {
			want, wantOk := firstOnBoth(mirrored[len(a)], a, b, 100)
			wantBoth(t, a, b, want, wantOk)
			if !wantOk {
				never++
			}
		}
	}
	if never == 0 || never == len(texts)*len(texts) {
		t.Error(never, "pairs are never mirrored both")
	}
}

func TestBothMirroredOfLongDials(t *testing.T) {
	for digits := 3; digits <= maxDial; digits++ {
		mirrored := mirroredNumbers(digits)
		for others := 1; others <= digits; others++ {
			for i := range 12 {
				a := readingText((i*i*7919*7919+i*104729*others)%powerOf(10, digits), digits)
				b := readingText((i*i*15485863+i*digits+5)%powerOf(10, others), others)
				want, wantOk := firstOnBoth(mirrored, a, b, maxTogether)
				wantBoth(t, a, b, want, wantOk)
			}
		}
	}
}

func TestBothMirroredMileByMile(t *testing.T) {
	for _, pair := range [][2]string{
		{"0095", "08"}, {"00", "02"}, {"00", "01"}, {"000", "002"}, {"0", "0"}, {"9", "9"}, {"9", "99"}, {"99", "99"}, {"999999999", "999999999"}, {"999999999", "9"}, {"999999999", "000000000"},
		{"000000", "000000"}, {"000000", "000001"}, {"123456", "654321"}, {"012345678", "98765432"}, {"0000000", "00000001"}, {"999999", "99999"}, {"999998", "99"}, {"7777777", "7777778"},
		{"1", "123"}, {"12", "345"}, {"678", "9012"}, {"3456", "78901"}, {"23456", "789012"}, {"345678", "9012345"}, {"6789012", "34567890"}, {"12345678", "901234567"}, {"890123456", "789012345"},
	} {
		want, wantOk := mirrorSteps(pair[0], pair[1])
		wantBoth(t, pair[0], pair[1], want, wantOk)
	}
}

// TestBothMirroredAtTheLimit: dials that come together just behind the most miles, and too late one mile before.
func TestBothMirroredAtTheLimit(t *testing.T) {
	for _, pair := range [][2]string{
		{"8200029", "9026200"}, {"9457540", "0000001"}, {"4695965", "52555535"}, {"3001004", "16811871"}, {"629959036", "301000203"}, {"719000027", "728181927"}, {"004303500", "2112"}, {"825606628", "2552"},
		{"67911986", "481184"}, {"31466423", "748847"}, {"31433423", "69000007"}, {"69077007", "52800835"}, {"0600061", "88"}, {"8400049", "33"}, {"159000061", "66"}, {"359000063", "00"},
	} {
		miles, ok := mirrorSteps(pair[0], pair[1])
		wantNumber(t, fmt.Sprint("steps of ", pair), miles, ok, maxTogether, true)
		wantBoth(t, pair[0], pair[1], maxTogether, true)
		var before, behind [2]string
		for i, text := range pair {
			before[i] = readingText((readingNumber(text)+powerOf(10, len(text))-1)%powerOf(10, len(text)), len(text))
			behind[i] = readingText((readingNumber(text)+1)%powerOf(10, len(text)), len(text))
		}
		wantBoth(t, before[0], before[1], 0, false)
		wantBoth(t, behind[0], behind[1], maxTogether-1, true)
	}
}

// TestNobodyIsLeft: what sends the miles has ended when they are told, or soon behind it.
func TestNobodyIsLeft(t *testing.T) {
	before := runtime.NumGoroutine()
	for range 2000 {
		impl.BothMirrored("0095", "08")
		impl.BothMirrored("0", "0")
		impl.BothMirrored("00", "02")
		impl.BothMirrored("", "02")
	}
	for range 1000000 {
		if runtime.NumGoroutine() <= before {
			return
		}
		runtime.Gosched()
	}
	t.Errorf("%d goroutines, %d before", runtime.NumGoroutine(), before)
}

// TestBothMirroredAgain: neither the order of goroutines nor other calls change a result.
func TestBothMirroredAgain(t *testing.T) {
	var calls sync.WaitGroup
	for range 8 {
		calls.Add(1)
		go func() {
			defer calls.Done()
			for range 200 {
				wantBoth(t, "0095", "08", 125, true)
				wantBoth(t, "00", "02", 0, false)
				wantBoth(t, "15951", "0000", 110, true)
			}
		}()
	}
	calls.Wait()
}

// textAsks are all functions that take one reading.
func textAsks() map[string]func(string) (string, bool) {
	asks := map[string]func(string) (string, bool){
		"KindsOfReading": impl.KindsOfReading, "UpsideOf": impl.UpsideOf, "TurnReading": impl.TurnReading,
		"AddMiles 0": func(text string) (string, bool) { return impl.AddMiles(text, 0) },
		"AddMiles 7": func(text string) (string, bool) { return impl.AddMiles(text, 7) },
	}
	for _, kind := range kindLetters {
		asks["NextOfKind "+kind] = func(text string) (string, bool) { return impl.NextOfKind(text, kind) }
	}
	return asks
}

func numberAsks() map[string]func(string) (int, bool) {
	asks := map[string]func(string) (int, bool){
		"DifferentDigits": impl.DifferentDigits, "RankOfMirrored": impl.RankOfMirrored,
		"MilesToDigits":  func(text string) (int, bool) { return impl.MilesToDigits(text, 1) },
		"MilesTo itself": func(text string) (int, bool) { return impl.MilesTo(text, text) },
		"BothMirrored":   func(text string) (int, bool) { return impl.BothMirrored(text, text) },
		"BothMirrored 1": func(text string) (int, bool) { return impl.BothMirrored(text, "1") },
		"BothMirrored 9": func(text string) (int, bool) { return impl.BothMirrored("000000009", text) },
	}
	for _, kind := range kindLetters {
		asks["MilesToKind "+kind] = func(text string) (int, bool) { return impl.MilesToKind(text, kind) }
	}
	return asks
}

// TestNoReadings is promise 11 for texts that are no readings.
func TestNoReadings(t *testing.T) {
	for _, bad := range noReadings {
		name := fmt.Sprintf(" %.20q", bad)
		if impl.IsReading(bad) {
			t.Error("IsReading" + name)
		}
		for what, ask := range textAsks() {
			text, ok := ask(bad)
			wantText(t, what+name, text, ok, "", false)
		}
		for what, ask := range numberAsks() {
			n, ok := ask(bad)
			wantNumber(t, what+name, n, ok, 0, false)
		}
		for _, good := range []string{"0", "12", "000000000"} {
			n, ok := impl.MilesTo(good, bad)
			wantNumber(t, "MilesTo "+good+name, n, ok, 0, false)
			n, ok = impl.MilesTo(bad, good)
			wantNumber(t, "MilesTo"+name+" "+good, n, ok, 0, false)
		}
		for _, kind := range noKinds {
			wantNothingOfKind(t, bad, kind)
		}
		for _, n := range append(noDialSizes, 1, 5, 9) {
			wantNoMilesToDigits(t, bad, n)
			text, ok := impl.AddMiles(bad, n)
			wantText(t, fmt.Sprint("AddMiles", name, " ", n), text, ok, "", false)
		}
	}
}

func wantNothingOfKind(t *testing.T, reading string, kind string) {
	t.Helper()
	name := fmt.Sprintf(" %.20q %.20q", reading, kind)
	text, ok := impl.NextOfKind(reading, kind)
	wantText(t, "NextOfKind"+name, text, ok, "", false)
	n, ok := impl.MilesToKind(reading, kind)
	wantNumber(t, "MilesToKind"+name, n, ok, 0, false)
}

func wantNoneOfKind(t *testing.T, digits int, kind string) {
	t.Helper()
	name := fmt.Sprintf(" %d %.20q", digits, kind)
	n, ok := impl.CountOfKind(digits, kind)
	wantNumber(t, "CountOfKind"+name, n, ok, 0, false)
	text, ok := impl.FirstOfKind(digits, kind)
	wantText(t, "FirstOfKind"+name, text, ok, "", false)
	text, ok = impl.LastOfKind(digits, kind)
	wantText(t, "LastOfKind"+name, text, ok, "", false)
}

// TestNoKinds is promise 11 for texts that are no kinds.
func TestNoKinds(t *testing.T) {
	for _, kind := range noKinds {
		for _, reading := range []string{"0", "9", "12", "15951", "000000000", "999999999"} {
			wantNothingOfKind(t, reading, kind)
			wantNoneOfKind(t, len(reading), kind)
		}
	}
	for sign := range 256 {
		kind := string([]byte{byte(sign)})
		if !slices.Contains(kindLetters, kind) {
			wantNothingOfKind(t, "15951", kind)
			wantNoneOfKind(t, 5, kind)
		}
	}
}

// TestNoDials is promise 11 for numbers of digits that no dial has.
func TestNoDials(t *testing.T) {
	for _, digits := range noDialSizes {
		for _, kind := range append(slices.Clone(noKinds), kindLetters...) {
			wantNoneOfKind(t, digits, kind)
		}
		for _, rank := range []int{math.MinInt, -1, 0, 1, math.MaxInt} {
			text, ok := impl.MirroredOfRank(digits, rank)
			wantText(t, fmt.Sprint("MirroredOfRank ", digits, " ", rank), text, ok, "", false)
		}
		text, miles, ok := impl.GreatestGapMirrored(digits)
		wantText(t, fmt.Sprint("GreatestGapMirrored ", digits), text, ok, "", false)
		wantNumber(t, fmt.Sprint("GreatestGapMirrored ", digits), miles, ok, 0, false)
		for _, reading := range []string{"0", "12", "000000000", "123456789"} {
			wantNoMilesToDigits(t, reading, digits)
		}
	}
}

func TestMilesOutOfBounds(t *testing.T) {
	for _, reading := range []string{"0", "9", "12", "15951", "000000000", "999999999"} {
		for _, miles := range []int{math.MinInt, math.MinInt + 1, -maxMiles, -10, -1, maxMiles + 1, maxMiles + 2, 2 * maxMiles, 1 << 32, math.MaxInt - 1, math.MaxInt} {
			text, ok := impl.AddMiles(reading, miles)
			wantText(t, fmt.Sprint("AddMiles ", reading, " ", miles), text, ok, "", false)
		}
		for digits := range 12 {
			if other := strings.Repeat("1", digits); digits != len(reading) {
				miles, ok := impl.MilesTo(reading, other)
				wantNumber(t, "MilesTo "+reading+" "+other, miles, ok, 0, false)
			}
		}
	}
}

// TestReadingsAreLeftAlone lends a part of a list of bytes as a text. Nothing is written into the list, at the text or
// beside it, and no result is a part of it, as they stay the same when the list is written into.
func TestReadingsAreLeftAlone(t *testing.T) {
	for _, reading := range []string{"0", "9", "69", "0095", "15951", "689010689", "999999999", "123456789", "", "12?"} {
		room := []byte("<" + reading + ">99")
		kept := slices.Clone(room)
		lent := unsafe.String(&room[1], len(reading))
		for what, ask := range textAsks() {
			want, wantOk := ask(strings.Clone(reading))
			got, ok := ask(lent)
			if !slices.Equal(room, kept) {
				t.Fatalf("%s: %q is %q now", what, kept, room)
			}
			for i := range room {
				room[i] = '#'
			}
			wantText(t, what+" of a lent text "+reading, got, ok, want, wantOk)
			copy(room, kept)
		}
		for what, ask := range numberAsks() {
			want, wantOk := ask(strings.Clone(reading))
			got, ok := ask(lent)
			wantNumber(t, what+" of a lent text "+reading, got, ok, want, wantOk)
			if !slices.Equal(room, kept) {
				t.Fatalf("%s: %q is %q now", what, kept, room)
			}
		}
	}
}

func TestExampleOfMileage(t *testing.T) {
	next, ok := impl.NextOfKind("15951", "m")
	wantText(t, "NextOfKind", next, ok, "16061", true)
	miles, ok := impl.MilesToKind("15951", "m")
	wantNumber(t, "MilesToKind", miles, ok, 110, true)
	mirrored, ok := impl.MirroredOfRank(4, 12)
	wantText(t, "MirroredOfRank", mirrored, ok, "1221", true)
	rank, ok := impl.RankOfMirrored("1222")
	wantNumber(t, "RankOfMirrored", rank, ok, 13, true)
	upside, ok := impl.UpsideOf("1968")
	wantText(t, "UpsideOf", upside, ok, "8961", true)
	wantBoth(t, "0095", "08", 125, true)
	for start, there := range map[string]string{"0095": "0220", "08": "33"} {
		got, ok := impl.AddMiles(start, 125)
		wantText(t, "AddMiles "+start, got, ok, there, true)
	}
	miles, ok = impl.MilesToDigits("1998", 4)
	wantNumber(t, "MilesToDigits", miles, ok, 15, true)
	from, gap, ok := impl.GreatestGapMirrored(4)
	wantText(t, "GreatestGapMirrored", from, ok, "0000", true)
	wantNumber(t, "GreatestGapMirrored", gap, ok, 110, true)
}

func TestLimitsOfMileage(t *testing.T) {
	if impl.MaxDial != maxDial || impl.MaxTogether != maxTogether {
		t.Error(impl.MaxDial, impl.MaxTogether)
	}
}
