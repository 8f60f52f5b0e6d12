package tests

import (
	"fmt"
	"math"
	"slices"
	"strings"
	"testing"

	"loop.example/g01395/impl"
)

// The signatures of chapter 6 are those that the document declares.
var (
	_ func(impl.Check) bool                       = impl.IsCheck
	_ func(impl.Check, string) (int, bool)        = impl.SumOfCheck
	_ func(impl.Check, string) (bool, bool)       = impl.IsSound
	_ func(impl.Check, string) (int, bool)        = impl.CheckDigit
	_ func(impl.Check) (int, bool)                = impl.CountSound
	_ func(impl.Check) (string, bool)             = impl.FirstSound
	_ func(impl.Check, int) (bool, bool)          = impl.TellsSingle
	_ func(impl.Check) ([][]int, bool)            = impl.UntoldSingles
	_ func(impl.Check, int) (bool, bool)          = impl.TellsSwap
	_ func(impl.Check) ([][]int, bool)            = impl.UntoldSwaps
	_ func(impl.Check, string) ([]int, bool)      = impl.FillUnread
	_ func(impl.Check, string) ([]string, bool)   = impl.NearSound
	_ func(impl.Check, string) ([]int, bool)      = impl.SwapsToSound
	_ func(a string, b string) (string, bool)     = impl.SlipBetween
	_ func(places int, modulus int) ([]int, bool) = impl.BestWeights
	_ func(string) (int, bool)                    = impl.DoubledSum
	_ func(string) (bool, bool)                   = impl.IsDoubledSound
	_ func(string) (int, bool)                    = impl.DoubledDigit
	_ func(impl.Check) (string, bool)             = impl.CheckText
	_ func(string) (impl.Check, bool)             = impl.ParseCheck
)

const (
	maxPlaces  = 12
	maxModulus = 11
)

func checkOf(modulus int, weights ...int) impl.Check {
	return impl.Check{Weights: weights, Modulus: modulus}
}

// longChecks have the most places, with the least and the greatest weights, and with weights that a factor of the modulus divides.
var longChecks = []impl.Check{
	checkOf(2, 0, 0, 0, 0, 0, 0, 0, 0, 0, 0, 0, 0),
	checkOf(2, 1, 1, 1, 1, 1, 1, 1, 1, 1, 1, 1, 1),
	checkOf(11, 0, 0, 0, 0, 0, 0, 0, 0, 0, 0, 0, 0),
	checkOf(11, 10, 10, 10, 10, 10, 10, 10, 10, 10, 10, 10, 10),
	checkOf(11, 0, 1, 2, 3, 4, 5, 6, 7, 8, 9, 10, 0),
	checkOf(11, 1, 10, 1, 10, 1, 10, 1, 10, 1, 10, 1, 10),
	checkOf(11, 0, 0, 0, 0, 0, 3, 0, 0, 0, 0, 0, 0),
	checkOf(11, 0, 0, 0, 0, 0, 3, 3, 0, 0, 0, 0, 0),
	checkOf(10, 1, 3, 1, 3, 1, 3, 1, 3, 1, 3, 1, 3),
	checkOf(10, 5, 5, 2, 5, 0, 0, 5, 2, 4, 6, 8, 5),
	checkOf(10, 0, 2, 4, 6, 8, 0, 2, 4, 6, 8, 0, 2),
	checkOf(10, 7, 0, 0, 0, 0, 0, 0, 0, 0, 0, 0, 1),
	checkOf(9, 3, 6, 0, 3, 6, 0, 3, 6, 0, 3, 6, 1),
	checkOf(8, 7, 1, 2, 4, 6, 3, 5, 0, 4, 4, 2, 6),
	checkOf(7, 1, 2, 3, 4, 5, 6, 0, 1, 2, 3, 4, 5),
	checkOf(6, 3, 2, 3, 2, 4, 0, 1, 5, 3, 3, 2, 2),
	checkOf(11, 10, 9, 8, 7, 6, 5, 4, 3, 2, 1, 10),
	checkOf(10, 3, 7, 1, 3, 7, 1, 3, 7, 1),
	checkOf(4, 2, 2, 2, 2, 2, 2, 2, 2, 1),
	checkOf(3, 1, 2, 1, 2, 1, 2, 1, 2),
	checkOf(11, 8, 6, 4, 2, 3, 5, 9, 7),
	checkOf(5, 0, 0, 4, 1, 0, 0, 2),
}

// fourChecks have few places, so that all their numbers can be listed.
var fourChecks = []impl.Check{
	checkOf(10, 1, 3, 1, 3), checkOf(10, 1, 6, 1, 6), checkOf(10, 5, 5, 5, 5), checkOf(10, 2, 5, 0, 4), checkOf(10, 0, 0, 0, 0),
	checkOf(11, 1, 2, 1, 2), checkOf(11, 10, 10, 0, 0), checkOf(11, 0, 0, 10, 10), checkOf(11, 0, 7, 7, 0), checkOf(11, 4, 3, 2, 1), checkOf(11, 0, 0, 0, 1),
	checkOf(9, 3, 3, 6, 0), checkOf(9, 8, 1, 8, 1), checkOf(8, 4, 2, 6, 0), checkOf(6, 2, 3, 4, 3), checkOf(4, 2, 2, 1, 3), checkOf(2, 0, 1, 0, 1), checkOf(2, 1, 1, 1, 1), checkOf(7, 6, 5, 4, 3),
}

// noChecks have too few or too many weights, ones that are no weights, at either end, or no modulus.
var noChecks = []impl.Check{
	{}, checkOf(10), checkOf(10, 1), checkOf(2, 0), checkOf(10, 1, 3, 1, 3, 1, 3, 1, 3, 1, 3, 1, 3, 1), checkOf(11, make([]int, 1000)...),
	checkOf(0, 0, 0), checkOf(1, 0, 0), checkOf(-1, 0, 0), checkOf(-10, -1, -3), checkOf(12, 1, 3), checkOf(13, 1, 3), checkOf(12, 11, 11), checkOf(math.MinInt, 1, 3), checkOf(math.MaxInt, 1, 3),
	checkOf(1<<32+10, 1, 3), checkOf(0, 0, 0, 0, 0), checkOf(1, 0, 0, 0, 0), checkOf(12, 0, 0, 0, 0),
	checkOf(10, 10, 3), checkOf(10, 1, 10), checkOf(10, -1, 3), checkOf(10, 1, -1), checkOf(11, 11, 1), checkOf(11, 1, 11), checkOf(2, 2, 1), checkOf(2, 1, 2), checkOf(3, 1, 4),
	checkOf(10, 1, 3, 1, 10), checkOf(10, 10, 3, 1, 3), checkOf(10, 1, 3, -1, 3), checkOf(10, 1, 3, 13, 3), checkOf(10, math.MinInt, 3, 1, 3), checkOf(10, 1, 3, 1, math.MaxInt), checkOf(10, 1, 3, 1, 1<<32),
}

// noFourDigits are texts that are no numbers of a check with four places: wrong lengths, and bytes that are no digits.
var noFourDigits = []string{
	"", "1", "123", "12345", "00000", strings.Repeat("1", 12), strings.Repeat("1", 1000),
	"a234", "123a", "/234", "123/", ":234", "123:", "+123", "-123", "12.4", "1 34", " 123", "123 ", "123\n", "\x00\x00\x00\x00", "123\xff", "é34", "1é4", "٣٣", "１2", "ABCD", "1,23",
}

// sumBy adds a digit as often as its weight tells.
func sumBy(c impl.Check, number string) int {
	var times strings.Builder
	for place, weight := range c.Weights {
		times.WriteString(strings.Repeat(number[place:place+1], weight))
	}
	return digitSum(times.String())
}

func soundBy(c impl.Check, number string) bool { return sumBy(c, number)%c.Modulus == 0 }

// listed has all numbers of a check, each one at its number.
type listed struct {
	impl.Check
	sound []bool
}

func listCheck(c impl.Check) listed {
	sums := []int{0}
	for _, weight := range c.Weights {
		var longer []int
		for _, sum := range sums {
			for digit := range 10 {
				longer = append(longer, sum+weight*digit)
			}
		}
		sums = longer
	}
	l := listed{Check: c}
	for _, sum := range sums {
		l.sound = append(l.sound, sum%c.Modulus == 0)
	}
	return l
}

// ten is how much one more is worth at a place.
func (l listed) ten(place int) int { return powerOf(10, len(l.Weights)-1-place) }

// untold goes through all sound numbers, and keeps for each place the least pair of digits that makes another sound one.
// Change tells what is put for a digit at a place, and what number it makes.
func (l listed) untold(places int, change func(n int, ten int, visit func(other int, with int))) [][]int {
	var rows [][]int
	for place := range places {
		best, ten := 100, l.ten(place)
		for n, sound := range l.sound {
			if !sound {
				continue
			}
			own := n / ten % 10
			change(n, ten, func(other int, with int) {
				if other != n && l.sound[other] {
					best = min(best, 10*min(own, with)+max(own, with))
				}
			})
		}
		if best < 100 {
			rows = append(rows, []int{place, best / 10, best % 10})
		}
	}
	return rows
}

func (l listed) untoldSlips() [][]int {
	return l.untold(len(l.Weights), func(n int, ten int, visit func(other int, with int)) {
		for digit := range 10 {
			visit(n+(digit-n/ten%10)*ten, digit)
		}
	})
}

func (l listed) untoldSwaps() [][]int {
	return l.untold(len(l.Weights)-1, func(n int, ten int, visit func(other int, with int)) {
		next := ten / 10
		first, second := n/ten%10, n/next%10
		visit(n+(second-first)*(ten-next), second)
	})
}

func (l listed) tellsAll() bool { return len(l.untoldSlips()) == 0 && len(l.untoldSwaps()) == 0 }

func wantUntold(t *testing.T, c impl.Check, slips [][]int, swaps [][]int) {
	t.Helper()
	what := fmt.Sprint(" ", c)
	got, ok := impl.UntoldSingles(c)
	wantPairs(t, "UntoldSingles"+what, got, ok, slips, true)
	got, ok = impl.UntoldSwaps(c)
	wantPairs(t, "UntoldSwaps"+what, got, ok, swaps, true)
	isIn := func(rows [][]int, place int) bool {
		return slices.ContainsFunc(rows, func(row []int) bool { return row[0] == place })
	}
	for place := range c.Weights {
		tells, ok := impl.TellsSingle(c, place)
		wantTruth(t, fmt.Sprint("TellsSingle", what, " ", place), tells, ok, !isIn(slips, place), true)
		if place < len(c.Weights)-1 {
			tells, ok = impl.TellsSwap(c, place)
			wantTruth(t, fmt.Sprint("TellsSwap", what, " ", place), tells, ok, !isIn(swaps, place), true)
		}
	}
	wantNoPlaces(t, c)
}

// wantNoPlaces: the last place has no next one.
func wantNoPlaces(t *testing.T, c impl.Check) {
	t.Helper()
	for _, place := range []int{math.MinInt, -2, -1, len(c.Weights), len(c.Weights) + 1, 1 << 32, math.MaxInt} {
		tells, ok := impl.TellsSingle(c, place)
		wantTruth(t, fmt.Sprint("TellsSingle ", c, " ", place), tells, ok, false, false)
		tells, ok = impl.TellsSwap(c, place)
		wantTruth(t, fmt.Sprint("TellsSwap ", c, " ", place), tells, ok, false, false)
	}
	tells, ok := impl.TellsSwap(c, len(c.Weights)-1)
	wantTruth(t, fmt.Sprint("TellsSwap ", c, " at the end"), tells, ok, false, false)
}

// wantListed checks what is told of a check as a whole against the list of its numbers.
func wantListed(t *testing.T, l listed) {
	t.Helper()
	what := fmt.Sprint(" ", l.Check)
	count, first := 0, 0
	for n, sound := range l.sound {
		if !sound {
			continue
		}
		if count == 1 {
			first = n
		}
		count++
	}
	got, ok := impl.CountSound(l.Check)
	wantNumber(t, "CountSound"+what, got, ok, count, true)
	number, ok := impl.FirstSound(l.Check)
	wantText(t, "FirstSound"+what, number, ok, fmt.Sprintf("%0*d", len(l.Weights), first), count > 1)
	wantUntold(t, l.Check, l.untoldSlips(), l.untoldSwaps())
	if !impl.IsCheck(l.Check) {
		t.Error("IsCheck" + what)
	}
}

func putIn(number string, place int, sign byte) string {
	signs := []byte(number)
	signs[place] = sign
	return string(signs)
}

// nearOnes has those with a lesser digit first: the earlier its place, the less the text. With a greater one it is the other way round.
func nearOnes(c impl.Check, number string) []string {
	var near []string
	put := func(place int, digit byte) {
		if other := putIn(number, place, digit); soundBy(c, other) {
			near = append(near, other)
		}
	}
	for place := range len(number) {
		for digit := byte('0'); digit < number[place]; digit++ {
			put(place, digit)
		}
	}
	for place := len(number) - 1; place >= 0; place-- {
		for digit := number[place] + 1; digit <= '9'; digit++ {
			put(place, digit)
		}
	}
	return near
}

func swapsBy(c impl.Check, number string) []int {
	var places []int
	for place := 1; place < len(number) && !soundBy(c, number); place++ {
		if soundBy(c, putIn(putIn(number, place, number[place-1]), place-1, number[place])) {
			places = append(places, place-1)
		}
	}
	return places
}

func fillsBy(c impl.Check, number string, place int) []int {
	var digits []int
	for digit := range 10 {
		if soundBy(c, putIn(number, place, '0'+byte(digit))) {
			digits = append(digits, digit)
		}
	}
	return digits
}

// wantNumberOfCheck checks what is told of one number.
func wantNumberOfCheck(t *testing.T, c impl.Check, number string) {
	t.Helper()
	what := fmt.Sprint(" ", c, " ", number)
	got, ok := impl.SumOfCheck(c, number)
	wantNumber(t, "SumOfCheck"+what, got, ok, sumBy(c, number), true)
	is, ok := impl.IsSound(c, number)
	wantTruth(t, "IsSound"+what, is, ok, soundBy(c, number), true)
	near, ok := impl.NearSound(c, number)
	wantTexts(t, "NearSound"+what, near, ok, nearOnes(c, number), true)
	places, ok := impl.SwapsToSound(c, number)
	wantList(t, "SwapsToSound"+what, places, ok, swapsBy(c, number), true)
	for place := range len(number) {
		digits, ok := impl.FillUnread(c, putIn(number, place, '?'))
		wantList(t, fmt.Sprint("FillUnread", what, " ", place), digits, ok, fillsBy(c, number, place), true)
	}
	want := append(fillsBy(c, number, len(number)-1), 0)
	digit, ok := impl.CheckDigit(c, number)
	wantNumber(t, "CheckDigit"+what, digit, ok, want[0], len(want) > 1)
}

// checksOf lists all checks with so many places.
func checksOf(places int) []impl.Check {
	var checks []impl.Check
	for modulus := 2; modulus <= maxModulus; modulus++ {
		for n := range powerOf(modulus, places) {
			checks = append(checks, checkOf(modulus, weightsOf(n, places, modulus)...))
		}
	}
	return checks
}

// weightsOf writes a number to the base of the modulus.
func weightsOf(n int, places int, modulus int) []int {
	weights := make([]int, places)
	for place := places - 1; place >= 0; place-- {
		weights[place] = n % modulus
		n /= modulus
	}
	return weights
}

// TestAllChecksOfTwoPlaces is promise 6 for the fewest places: all weights with all moduli, and all their numbers.
func TestAllChecksOfTwoPlaces(t *testing.T) {
	numbers := allTickets(2)
	for _, c := range checksOf(2) {
		wantListed(t, listCheck(c))
		for _, number := range numbers {
			wantNumberOfCheck(t, c, number)
		}
	}
}

func TestAllChecksOfThreePlaces(t *testing.T) {
	for i, c := range checksOf(3) {
		wantListed(t, listCheck(c))
		for n := i % 251; n < 1000; n += 251 {
			wantNumberOfCheck(t, c, fmt.Sprintf("%03d", n))
		}
	}
}

func TestChecksOfFourPlaces(t *testing.T) {
	for i, c := range fourChecks {
		wantListed(t, listCheck(c))
		for n := i % 23; n < 10000; n += 23 {
			wantNumberOfCheck(t, c, fmt.Sprintf("%04d", n))
		}
	}
	wantListed(t, listCheck(checkOf(11, 0, 4, 4, 0, 0)))
	wantListed(t, listCheck(checkOf(10, 2, 4, 6, 8, 5)))
	wantListed(t, listCheck(checkOf(11, 1, 2, 3, 3, 1)))
}

// sumsWithout has how often the digits in all places but some have a sum, whatever modulus is asked.
func sumsWithout(c impl.Check, without ...int) []int {
	sums := []int{1}
	for place, weight := range c.Weights {
		if slices.Contains(without, place) {
			continue
		}
		longer := make([]int, len(sums)+9*weight)
		for sum, count := range sums {
			for digit := range 10 {
				longer[sum+weight*digit] += count
			}
		}
		sums = longer
	}
	return sums
}

// leastPair looks for the least two digits with which one sum of the other places makes two sound numbers. Changed tells what the digits are worth.
func leastPair(c impl.Check, others []int, worth func(a int, b int) (int, int)) (int, int, bool) {
	for a := range 10 {
		for b := a + 1; b < 10; b++ {
			one, two := worth(a, b)
			for sum, count := range others {
				if count > 0 && (sum+one)%c.Modulus == 0 && (sum+two)%c.Modulus == 0 {
					return a, b, true
				}
			}
		}
	}
	return 0, 0, false
}

func untoldBySums(c impl.Check) (slips [][]int, swaps [][]int) {
	w := c.Weights
	for place := range w {
		a, b, found := leastPair(c, sumsWithout(c, place), func(a int, b int) (int, int) { return w[place] * a, w[place] * b })
		if found {
			slips = append(slips, []int{place, a, b})
		}
		if place == len(w)-1 {
			break
		}
		a, b, found = leastPair(c, sumsWithout(c, place, place+1), func(a int, b int) (int, int) { return w[place]*a + w[place+1]*b, w[place]*b + w[place+1]*a })
		if found {
			swaps = append(swaps, []int{place, a, b})
		}
	}
	return slips, swaps
}

// someNumbersOf are numbers with so many digits, sound and not.
func someNumbersOf(c impl.Check) []string {
	digits := len(c.Weights)
	numbers := []string{strings.Repeat("0", digits), strings.Repeat("9", digits), "123456789012"[:digits], "987654321098"[:digits], "100000000001"[:digits], "101010101010"[:digits], "550055005500"[:digits]}
	for n := 1; n < powerOf(10, digits); n = n*7 + 13 {
		number := fmt.Sprintf("%0*d", digits, n)
		numbers = append(numbers, number)
		for _, digit := range fillsBy(c, number, digits-1) {
			numbers = append(numbers, putIn(number, digits-1, '0'+byte(digit)))
		}
	}
	return numbers
}

// TestLongChecks is promise 6 for many places: the numbers are counted by their sums, and not by what the modulus leaves of them.
func TestLongChecks(t *testing.T) {
	for _, c := range slices.Concat(longChecks, fourChecks) {
		what := fmt.Sprint(" ", c)
		count := 0
		for sum, many := range sumsWithout(c) {
			if sum%c.Modulus == 0 {
				count += many
			}
		}
		got, ok := impl.CountSound(c)
		wantNumber(t, "CountSound"+what, got, ok, count, true)
		first := 1
		for !soundBy(c, fmt.Sprintf("%0*d", len(c.Weights), first)) {
			first++
		}
		number, ok := impl.FirstSound(c)
		wantText(t, "FirstSound"+what, number, ok, fmt.Sprintf("%0*d", len(c.Weights), first), true)
		slips, swaps := untoldBySums(c)
		wantUntold(t, c, slips, swaps)
		for _, number := range someNumbersOf(c) {
			wantNumberOfCheck(t, c, number)
		}
	}
}

// TestCountsOfSoundNumbers: one weight without a factor of the modulus, which divides 10, makes the same part of all numbers sound.
func TestCountsOfSoundNumbers(t *testing.T) {
	for _, want := range []struct {
		c     impl.Check
		count int
	}{
		{checkOf(2, 0, 0, 0, 0, 0, 0, 0, 0, 0, 0, 0, 0), 1000000000000},
		{checkOf(11, 0, 0, 0, 0, 0, 0, 0, 0, 0, 0, 0, 0), 1000000000000},
		{checkOf(2, 1, 1, 1, 1, 1, 1, 1, 1, 1, 1, 1, 1), 500000000000},
		{checkOf(10, 1, 3, 1, 3, 1, 3, 1, 3, 1, 3, 1, 3), 100000000000},
		{checkOf(5, 0, 0, 0, 0, 0, 0, 0, 0, 0, 0, 0, 4), 200000000000},
		{checkOf(11, 1, 0, 0, 0, 0, 0, 0, 0, 0, 0, 0, 0), 100000000000},
		{checkOf(2, 0, 0), 100}, {checkOf(2, 1, 0), 50}, {checkOf(11, 10, 10), 9}, {checkOf(11, 0, 10), 10}, {checkOf(11, 1, 10), 10},
	} {
		got, ok := impl.CountSound(want.c)
		wantNumber(t, fmt.Sprint("CountSound ", want.c), got, ok, want.count, true)
	}
}

// TestSoundWithSomeDigits: two digits that could be exchanged as far as the modulus goes, but stand in no sound number at these places, are no pair.
func TestSoundWithSomeDigits(t *testing.T) {
	wantUntold(t, checkOf(11, 1, 1), nil, [][]int{{0, 2, 9}})
	wantUntold(t, checkOf(10, 1, 1), nil, [][]int{{0, 1, 9}})
	wantUntold(t, checkOf(10, 1, 3), nil, nil)
	wantUntold(t, checkOf(10, 1, 3, 0), [][]int{{2, 0, 1}}, nil)
	wantUntold(t, checkOf(10, 1, 3, 5), [][]int{{2, 0, 2}}, [][]int{{0, 0, 5}, {1, 0, 5}})
	wantUntold(t, checkOf(2, 0, 0), [][]int{{0, 0, 1}, {1, 0, 1}}, [][]int{{0, 0, 1}})
	wantUntold(t, checkOf(2, 1, 1), [][]int{{0, 0, 2}, {1, 0, 2}}, [][]int{{0, 0, 2}})
	wantUntold(t, checkOf(11, 0, 10), [][]int{{0, 0, 1}}, nil)
	wantUntold(t, checkOf(9, 1, 2), [][]int{{0, 0, 9}, {1, 0, 9}}, [][]int{{0, 0, 9}})
}

// TestDigitsThatMakeNothingSound: some sums cannot be made up for by one digit.
func TestDigitsThatMakeNothingSound(t *testing.T) {
	for _, c := range []impl.Check{checkOf(11, 1, 1), checkOf(10, 1, 2), checkOf(10, 1, 0), checkOf(2, 1, 0)} {
		number := "10"
		digit, ok := impl.CheckDigit(c, number)
		wantNumber(t, fmt.Sprint("CheckDigit ", c), digit, ok, 0, false)
		digits, ok := impl.FillUnread(c, "1?")
		wantList(t, fmt.Sprint("FillUnread ", c), digits, ok, nil, true)
	}
	near, ok := impl.NearSound(checkOf(10, 4, 6), "10")
	wantTexts(t, "NearSound", near, ok, []string{"00", "11", "16", "50"}, true)
	near, ok = impl.NearSound(checkOf(11, 1, 1), "00")
	wantTexts(t, "NearSound without any", near, ok, nil, true)
	digit, ok := impl.CheckDigit(checkOf(2, 0, 1), "19")
	wantNumber(t, "CheckDigit 0", digit, ok, 0, true)
	places, ok := impl.SwapsToSound(checkOf(10, 1, 1), "12")
	wantList(t, "SwapsToSound without any", places, ok, nil, true)
	places, ok = impl.SwapsToSound(checkOf(10, 0, 0, 0), "123")
	wantList(t, "SwapsToSound of a sound one", places, ok, nil, true)
}

// tellsOfThree has for all weights of three places whether they tell all slips and swaps.
type tellsOfThree [11][11][11]bool

func listTellsOfThree(modulus int) tellsOfThree {
	var tells tellsOfThree
	for n := range powerOf(modulus, 3) {
		w := weightsOf(n, 3, modulus)
		tells[w[0]][w[1]][w[2]] = listCheck(checkOf(modulus, w...)).tellsAll()
	}
	return tells
}

func (tells *tellsOfThree) isHopeless(weights []int) bool {
	for place := 2; place < len(weights); place++ {
		if !tells[weights[place-2]][weights[place-1]][weights[place]] {
			return true
		}
	}
	return false
}

// bestBy tries all weights. Where three places next to each other leave something untold, all do, with zeros in the other places.
func bestBy(places int, modulus int, tells *tellsOfThree) []int {
	for n := range powerOf(modulus, places) {
		if weights := weightsOf(n, places, modulus); !tells.isHopeless(weights) && listCheck(checkOf(modulus, weights...)).tellsAll() {
			return weights
		}
	}
	return nil
}

// TestBestWeights is promise 6 for best weights, for all places and moduli, and without a best answer.
func TestBestWeights(t *testing.T) {
	for modulus := 2; modulus <= maxModulus; modulus++ {
		tells := listTellsOfThree(modulus)
		for places := 2; places <= 6; places++ {
			want := bestBy(places, modulus, &tells)
			got, ok := impl.BestWeights(places, modulus)
			wantList(t, fmt.Sprint("BestWeights ", places, " ", modulus), got, ok, want, want != nil)
			if modulus < 10 && ok {
				t.Error("a slip by the modulus is never told: ", places, modulus)
			}
		}
	}
	for places, want := range map[int][]int{2: {1, 2}, 3: {1, 2, 1}, 4: {1, 2, 1, 2}, 5: {1, 2, 1, 2, 1}, 6: {1, 2, 1, 2, 1, 2}} {
		got, ok := impl.BestWeights(places, 11)
		wantList(t, fmt.Sprint("BestWeights ", places, " 11"), got, ok, want, true)
	}
	got, ok := impl.BestWeights(2, 10)
	wantList(t, "BestWeights 2 10", got, ok, []int{1, 3}, true)
}

func TestNoBestWeights(t *testing.T) {
	for _, places := range []int{math.MinInt, -2, -1, 0, 1, 7, 8, maxPlaces, 1<<32 + 2, math.MaxInt} {
		for _, modulus := range []int{math.MinInt, 0, 1, 2, 10, 11, 12, math.MaxInt} {
			got, ok := impl.BestWeights(places, modulus)
			wantList(t, fmt.Sprint("BestWeights ", places, " ", modulus), got, ok, nil, false)
		}
	}
	for _, modulus := range []int{math.MinInt, -11, -1, 0, 1, 12, 13, 1<<32 + 11, math.MaxInt} {
		for places := 2; places <= 6; places++ {
			got, ok := impl.BestWeights(places, modulus)
			wantList(t, fmt.Sprint("BestWeights ", places, " ", modulus), got, ok, nil, false)
		}
	}
}

// leadBy tries to come from one text to the other.
func leadBy(a string, b string) string {
	if a == b {
		return "same"
	}
	for place := range len(a) {
		if putIn(a, place, b[place]) == b {
			return "slip"
		}
		if place > 0 && putIn(putIn(a, place, a[place-1]), place-1, a[place]) == b {
			return "swap"
		}
	}
	return "more"
}

func TestSlipsBetweenTexts(t *testing.T) {
	want := func(a string, b string) {
		t.Helper()
		got, ok := impl.SlipBetween(a, b)
		wantText(t, "SlipBetween "+a+" "+b, got, ok, leadBy(a, b), true)
	}
	for digits := 1; digits <= 2; digits++ {
		for _, a := range allTickets(digits) {
			for _, b := range allTickets(digits) {
				want(a, b)
			}
		}
	}
	few := slices.DeleteFunc(allTickets(4), func(text string) bool { return strings.ContainsAny(text, "345678") })
	for _, a := range few {
		for _, b := range few {
			want(a, b)
		}
	}
	long := "123456789012"
	for place := range long {
		want(long, putIn(long, place, '0'))
		want(putIn(long, place, '0'), long)
		for other := range long {
			want(long, putIn(putIn(long, place, long[other]), other, long[place]))
			want(long, putIn(putIn(long, place, '9'), other, '0'))
		}
	}
}

func TestSomeSlipsBetweenTexts(t *testing.T) {
	for _, want := range [][3]string{
		{"7", "7", "same"}, {"7", "8", "slip"}, {"12", "21", "swap"}, {"11", "22", "more"}, {"123", "321", "more"}, {"123", "231", "more"},
		{"1221", "2112", "more"}, {"1221", "2121", "swap"}, {"000000000000", "000000000000", "same"}, {"000000000000", "000000000001", "slip"},
		{"100000000000", "010000000000", "swap"}, {"000000000010", "000000000001", "swap"}, {"100000000000", "000000000001", "more"}, {"12", "31", "more"}, {"12", "23", "more"}, {"121", "212", "more"},
	} {
		got, ok := impl.SlipBetween(want[0], want[1])
		wantText(t, "SlipBetween "+want[0]+" "+want[1], got, ok, want[2], true)
	}
}

// noShortDigits are texts that have no digits, other signs, or more than MaxPlaces digits.
var noShortDigits = []string{"", "1234567890123", strings.Repeat("0", 13), strings.Repeat("8", 1000), "a", "1a", "a1", "/", ":", "1/", ":1", "+1", "-1", "1 ", " 1", "1\n", "1?", "?", "1.5", "\x00", "1\xff", "é", "٣", "１", "1,3"}

func TestNoSlipsBetweenTexts(t *testing.T) {
	for _, bad := range noShortDigits {
		for _, other := range append(noShortDigits, "1", "12", "123456789012") {
			for _, pair := range [][2]string{{bad, other}, {other, bad}} {
				got, ok := impl.SlipBetween(pair[0], pair[1])
				wantText(t, fmt.Sprintf("SlipBetween %.40q", pair), got, ok, "", false)
			}
		}
	}
	for a := 1; a <= maxPlaces; a++ {
		for b := 1; b <= maxPlaces; b++ {
			got, ok := impl.SlipBetween(strings.Repeat("1", a), strings.Repeat("1", b))
			want := ""
			if a == b {
				want = "same"
			}
			wantText(t, fmt.Sprint("SlipBetween of lengths ", a, " ", b), got, ok, want, a == b)
		}
	}
}

// doubledBy looks doubled digits up, as the document tells them: 0, 2, .. 8, and then 1 for 10, 3 for 12, and so on.
func doubledBy(number string) int {
	sum := 0
	isDoubled := false
	for place := len(number) - 1; place >= 0; place-- {
		digits := "0123456789"
		if isDoubled {
			digits = "0246813579"
		}
		sum += int(digits[number[place]-'0'] - '0')
		isDoubled = !isDoubled
	}
	return sum
}

// wantDoubled checks what is told of one text, and that just one digit behind it makes it sound.
func wantDoubled(t *testing.T, number string) {
	t.Helper()
	sum, ok := impl.DoubledSum(number)
	wantNumber(t, "DoubledSum "+number, sum, ok, doubledBy(number), true)
	is, ok := impl.IsDoubledSound(number)
	wantTruth(t, "IsDoubledSound "+number, is, ok, doubledBy(number)%10 == 0, true)
	want, isShort := 0, len(number) < maxPlaces
	for digit := range 10 {
		if isShort && doubledBy(number+textOf(digit))%10 == 0 {
			want = digit
		}
	}
	digit, ok := impl.DoubledDigit(number)
	wantNumber(t, "DoubledDigit "+number, digit, ok, want, isShort)
}

func TestDoubledDigits(t *testing.T) {
	for digits := 1; digits <= 4; digits++ {
		for _, number := range allTickets(digits) {
			wantDoubled(t, number)
		}
	}
	for digits := 5; digits <= maxPlaces; digits++ {
		for n := 1; n < powerOf(10, digits); n = n*2 + 7 {
			wantDoubled(t, fmt.Sprintf("%0*d", digits, n))
		}
		wantDoubled(t, strings.Repeat("9", digits))
		wantDoubled(t, strings.Repeat("5", digits))
	}
	for number, want := range map[string]int{"18": 10, "5": 5, "50": 1, "500": 5, "59": 10, "90": 9, "9": 9, "79927398713": 70, "0": 0, "000000000000": 0, "999999999999": 108, "100000000000": 2, "444444444444": 72} {
		sum, ok := impl.DoubledSum(number)
		wantNumber(t, "DoubledSum "+number, sum, ok, want, true)
	}
	digit, ok := impl.DoubledDigit("7992739871")
	wantNumber(t, "DoubledDigit 7992739871", digit, ok, 3, true)
}

func TestNoDoubledDigits(t *testing.T) {
	for _, bad := range noShortDigits {
		what := fmt.Sprintf(" %.40q", bad)
		sum, ok := impl.DoubledSum(bad)
		wantNumber(t, "DoubledSum"+what, sum, ok, 0, false)
		is, ok := impl.IsDoubledSound(bad)
		wantTruth(t, "IsDoubledSound"+what, is, ok, false, false)
		digit, ok := impl.DoubledDigit(bad)
		wantNumber(t, "DoubledDigit"+what, digit, ok, 0, false)
	}
	digit, ok := impl.DoubledDigit("123456789012")
	wantNumber(t, "DoubledDigit of MaxPlaces digits", digit, ok, 0, false)
	if _, ok := impl.DoubledDigit("12345678901"); !ok {
		t.Error("DoubledDigit of one digit less")
	}
}

func wantCheck(t *testing.T, what string, got impl.Check, ok bool, want impl.Check, wantOk bool) {
	t.Helper()
	if !slices.Equal(got.Weights, want.Weights) || got.Modulus != want.Modulus || ok != wantOk {
		t.Errorf("%s: %v %v, want %v %v", what, got, ok, want, wantOk)
	}
}

func TestTextsOfChecks(t *testing.T) {
	for _, c := range slices.Concat(checksOf(2), checksOf(3), fourChecks, longChecks) {
		want := strings.Trim(strings.ReplaceAll(fmt.Sprint(c.Weights), " ", ","), "[]") + "m" + textOf(c.Modulus)
		text, ok := impl.CheckText(c)
		wantText(t, "CheckText", text, ok, want, true)
		got, ok := impl.ParseCheck(want)
		wantCheck(t, "ParseCheck "+want, got, ok, c, true)
	}
	got, ok := impl.ParseCheck("0,10,9m11")
	wantCheck(t, "ParseCheck 0,10,9m11", got, ok, checkOf(11, 0, 10, 9), true)
}

func TestNoTextsOfChecks(t *testing.T) {
	for _, bad := range []string{
		"", "m", ",", ",m", "1,3", "1,3m", "m10", "1,3,1,3", "10", "1m10", "1,3m0", "0,0m0", "0,0m1", "1,3m1", "1,3m-10", "1,3m12", "1,3m100", "11,1m12",
		"10,3m10", "1,10m10", "1,11m11", "-1,3m10", "1,-3m10", "-0,3m10", "+1,3m10", "1,+3m10", "1,3m+10", "01,3m10", "1,03m10", "00,3m10", "1,3m010",
		" 1,3m10", "1,3m10 ", "1, 3m10", "1,3 m10", "1,3m 10", "1,3m10\n", "\t1,3m10", "1,,3m10", ",1,3m10", "1,3,m10", "1;3m10", "1 3m10", "1.3m10", "1,3M10", "1,3mm10", "1,3m10m", "1,3m10m10", "1,3m10,", "1,3m10,3", "1m3,10", "m1,3m10",
		"1,3x10", "1,3 10", "1,3,10", "a,3m10", "1,am10", "1,3ma", "1.0,3m10", "1e0,3m10", "0x1,3m10", "1_0,3m11", "1,3m1_0", "1,3m0xa", "１,3m10", "٣,3m10", "1,3m\x00", "\xff", "1,3m1０", "[1,3]m10", "1,3m10~", "?,3m10",
		"18446744073709551617,3m10", "1,3m18446744073709551626", "1,9223372036854775808m10", "1,3m4294967306",
		"1,3,1,3,1,3,1,3,1,3,1,3,1m10", strings.Repeat("1,", 5000) + "1m10", strings.Repeat("1", 5000) + ",3m10", strings.Repeat("m", 5000),
	} {
		got, ok := impl.ParseCheck(bad)
		wantCheck(t, fmt.Sprintf("ParseCheck %.40q", bad), got, ok, impl.Check{}, false)
		if got.Weights != nil {
			t.Errorf("ParseCheck %.40q has weights", bad)
		}
	}
}

// wantNothingOfNumber: all that takes a check and a number fails, with zero values.
func wantNothingOfNumber(t *testing.T, c impl.Check, text string) {
	t.Helper()
	what := fmt.Sprintf(" %.60v %.40q", fmt.Sprint(c), text)
	for name, ask := range map[string]func(impl.Check, string) (int, bool){"SumOfCheck": impl.SumOfCheck, "CheckDigit": impl.CheckDigit} {
		got, ok := ask(c, text)
		wantNumber(t, name+what, got, ok, 0, false)
	}
	is, ok := impl.IsSound(c, text)
	wantTruth(t, "IsSound"+what, is, ok, false, false)
	near, ok := impl.NearSound(c, text)
	wantTexts(t, "NearSound"+what, near, ok, nil, false)
	places, ok := impl.SwapsToSound(c, text)
	wantList(t, "SwapsToSound"+what, places, ok, nil, false)
}

func wantNothingFilled(t *testing.T, c impl.Check, text string) {
	t.Helper()
	digits, ok := impl.FillUnread(c, text)
	wantList(t, fmt.Sprintf("FillUnread %.60v %.40q", fmt.Sprint(c), text), digits, ok, nil, false)
}

// TestNoChecks is promise 11 for checks: nothing panics for what is no check, and each call fails with zero values.
func TestNoChecks(t *testing.T) {
	for _, c := range noChecks {
		what := fmt.Sprintf(" %.60v", fmt.Sprint(c))
		if impl.IsCheck(c) {
			t.Error("IsCheck" + what)
		}
		got, ok := impl.CountSound(c)
		wantNumber(t, "CountSound"+what, got, ok, 0, false)
		for name, ask := range map[string]func(impl.Check) (string, bool){"FirstSound": impl.FirstSound, "CheckText": impl.CheckText} {
			text, ok := ask(c)
			wantText(t, name+what, text, ok, "", false)
		}
		for name, ask := range map[string]func(impl.Check) ([][]int, bool){"UntoldSingles": impl.UntoldSingles, "UntoldSwaps": impl.UntoldSwaps} {
			rows, ok := ask(c)
			wantPairs(t, name+what, rows, ok, nil, false)
		}
		for _, place := range []int{-1, 0, 1, 2, math.MinInt, math.MaxInt} {
			for name, ask := range map[string]func(impl.Check, int) (bool, bool){"TellsSingle": impl.TellsSingle, "TellsSwap": impl.TellsSwap} {
				tells, ok := ask(c, place)
				wantTruth(t, name+what, tells, ok, false, false)
			}
		}
		for _, text := range []string{"", "0", "00", "1234", "0000", "a", strings.Repeat("0", len(c.Weights)), strings.Repeat("7", len(c.Weights))} {
			wantNothingOfNumber(t, c, text)
			wantNothingFilled(t, c, text+"?")
			wantNothingFilled(t, c, strings.Replace(text, "0", "?", 1))
		}
	}
}

func TestNoNumbersOfChecks(t *testing.T) {
	for _, c := range []impl.Check{checkOf(10, 1, 3, 1, 3), checkOf(2, 0, 0, 0, 0), checkOf(11, 10, 0, 0, 10)} {
		for _, bad := range append(noFourDigits, "?234", "1?34", "123?", "????") {
			wantNothingOfNumber(t, c, bad)
		}
		for _, bad := range append(noFourDigits, "1234", "0000", "??34", "1?3?", "????", "?", "?23", "23?", "?1234", "1234?", "12?34", "?2a4", "?23/", ":23?", "?é3", "1\xff3?", "１?", "*234", strings.Repeat("?", 1000), strings.Repeat("1", 1000)+"?") {
			wantNothingFilled(t, c, bad)
		}
	}
	for digits := range 20 {
		for _, c := range []impl.Check{checkOf(10, 1, 3), checkOf(11, 1, 2, 3, 4, 5, 6, 7, 8, 9, 10, 0, 0)} {
			if digits == len(c.Weights) {
				continue
			}
			wantNothingOfNumber(t, c, strings.Repeat("0", digits))
			wantNothingFilled(t, c, strings.Repeat("?", min(digits, 1))+strings.Repeat("0", max(0, digits-1)))
		}
	}
}

// askAllOfCheck calls all that takes a check.
func askAllOfCheck(c impl.Check, number string) {
	impl.IsCheck(c)
	impl.SumOfCheck(c, number)
	impl.IsSound(c, number)
	impl.CheckDigit(c, number)
	impl.CountSound(c)
	impl.FirstSound(c)
	for place := range 13 {
		impl.TellsSingle(c, place)
		impl.TellsSwap(c, place)
	}
	impl.UntoldSingles(c)
	impl.UntoldSwaps(c)
	impl.FillUnread(c, number)
	impl.FillUnread(c, strings.Replace(number, "1", "?", 1))
	impl.NearSound(c, number)
	impl.SwapsToSound(c, number)
	impl.CheckText(c)
}

// TestChecksAreLeftAlone: nothing is written into the weights of a check, nor behind them.
func TestChecksAreLeftAlone(t *testing.T) {
	for _, c := range slices.Concat(fourChecks, longChecks, noChecks) {
		room := append(slices.Clone(c.Weights), -7, -8)
		kept := slices.Clone(room)
		lent := impl.Check{Weights: room[:len(c.Weights)], Modulus: c.Modulus}
		for _, number := range []string{"", "1", strings.Repeat("1", len(c.Weights)), strings.Repeat("0", len(c.Weights)), "12?4"} {
			askAllOfCheck(lent, number)
		}
		if !slices.Equal(room, kept) {
			t.Fatalf("weights of %.60v are %.60v now", c, room)
		}
	}
}

// spoil writes into a list, and behind it as far as it has room.
func spoil(list []int) {
	for i := range list[:cap(list)] {
		list[:cap(list)][i] = -9
	}
}

// TestListsOfChecksAreNew: what a caller does to a result is seen neither in an argument nor in the next result.
func TestListsOfChecksAreNew(t *testing.T) {
	c := checkOf(10, 5, 5, 5, 2)
	for name, ask := range map[string]func() ([]int, bool){
		"FillUnread":   func() ([]int, bool) { return impl.FillUnread(c, "1?15") },
		"SwapsToSound": func() ([]int, bool) { return impl.SwapsToSound(c, "0501") },
		"BestWeights":  func() ([]int, bool) { return impl.BestWeights(6, 11) },
		"ParseCheck": func() ([]int, bool) {
			read, ok := impl.ParseCheck("5,5,5,2m10")
			return read.Weights, ok
		},
	} {
		first, _ := ask()
		want := slices.Clone(first)
		spoil(first)
		again, ok := ask()
		wantList(t, name+" again", again, ok, want, true)
		if len(want) == 0 {
			t.Error(name, "returns nothing to look at")
		}
	}
	for name, ask := range map[string]func(impl.Check) ([][]int, bool){"UntoldSingles": impl.UntoldSingles, "UntoldSwaps": impl.UntoldSwaps} {
		want, _ := ask(c)
		rows, ok := ask(c)
		spoil(rows[0])
		wantPairs(t, name+" beside a row", rows[1:], ok, want[1:], len(want) > 1)
		again, ok := ask(c)
		wantPairs(t, name+" again", again, ok, want, true)
	}
	near, _ := impl.NearSound(c, "1500")
	want := slices.Clone(near)
	near[0] = "MINE"
	again, ok := impl.NearSound(c, "1500")
	wantTexts(t, "NearSound again", again, ok, want, true)
	wantCheck(t, "the check", c, true, checkOf(10, 5, 5, 5, 2), true)
}

// TestSameDigitsAgain: what is taken out of a channel does not depend on when it is taken.
func TestSameDigitsAgain(t *testing.T) {
	c := checkOf(10, 2, 4, 6, 5)
	for range 2000 {
		wantNumberOfCheck(t, c, "1230")
	}
}

func TestExampleOfSlips(t *testing.T) {
	c, ok := impl.ParseCheck("1,3,1,3m10")
	wantCheck(t, "ParseCheck", c, ok, checkOf(10, 1, 3, 1, 3), true)
	sum, ok := impl.SumOfCheck(c, "1234")
	wantNumber(t, "SumOfCheck", sum, ok, 22, true)
	digit, ok := impl.CheckDigit(c, "1234")
	wantNumber(t, "CheckDigit", digit, ok, 0, true)
	count, ok := impl.CountSound(c)
	wantNumber(t, "CountSound", count, ok, 1000, true)
	first, ok := impl.FirstSound(c)
	wantText(t, "FirstSound", first, ok, "0013", true)
	near, ok := impl.NearSound(c, "1234")
	wantTexts(t, "NearSound", near, ok, []string{"1214", "1230", "1834", "9234"}, true)
	wantUntold(t, c, nil, [][]int{{0, 0, 5}, {1, 0, 5}, {2, 0, 5}})
	best, ok := impl.BestWeights(3, 11)
	wantList(t, "BestWeights", best, ok, []int{1, 2, 1}, true)
	sum, ok = impl.DoubledSum("18")
	wantNumber(t, "DoubledSum", sum, ok, 10, true)
	digit, ok = impl.DoubledDigit("1")
	wantNumber(t, "DoubledDigit", digit, ok, 8, true)
	lead, ok := impl.SlipBetween("12", "21")
	wantText(t, "SlipBetween", lead, ok, "swap", true)
}

func TestLimitsOfSlips(t *testing.T) {
	if impl.MaxPlaces != maxPlaces || impl.MaxModulus != maxModulus {
		t.Error(impl.MaxPlaces, impl.MaxModulus)
	}
}
