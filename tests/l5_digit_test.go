package tests

import (
	"fmt"
	"math"
	"slices"
	"strconv"
	"strings"
	"testing"

	"loop.example/g01395/impl"
)

// The signatures of chapter 5 are those that the document declares.
var (
	_ func(int) (int, bool)      = impl.DigitsWritten
	_ func(int) (int, bool)      = impl.LastWritten
	_ func(int) (int, bool)      = impl.DigitAtPlace
	_ func(int) (int, int, bool) = impl.NumberAtPlace
	_ func(int, int) (int, bool) = impl.CountDigit
	_ func(int) ([]int, bool)    = impl.DigitCounts
	_ func(int, int) (int, bool) = impl.LeastForCount
	_ func(int) (int, bool)      = impl.SumOfDigitsUpTo
	_ func(int) (int, bool)      = impl.DigitSum
	_ func(int) (int, int, bool) = impl.DigitRoot
	_ func(int) (int, bool)      = impl.DigitProduct
	_ func(int) (int, int, bool) = impl.ProductEnd
	_ func(int, int) (int, bool) = impl.CountOfSum
	_ func(int, int) (int, bool) = impl.NumberOfSum
	_ func(int) (int, bool)      = impl.NextOfSum
	_ func(int, int) (int, bool) = impl.CountWithout
	_ func(int, int) (int, bool) = impl.CounterShows
	_ func(int, int) (int, bool) = impl.CountOfCounter
)

const (
	maxWritten = 1000000000000
	maxShown   = 1000000
	maxSum     = 108
)

// noWritten are numbers that are not in the bounds. The ones near to the ends of int show what is reckoned
// with a number before it is looked at.
var noWritten = []int{math.MinInt, math.MinInt + 1, -maxWritten, -100, -2, -1, maxWritten + 1, maxWritten + 2, 2 * maxWritten, 10 * maxWritten, math.MaxInt - 1, math.MaxInt}

var noDigits = []int{math.MinInt, -10, -2, -1, 10, 11, '0', '9', 256, 1 << 32, math.MaxInt - 1, math.MaxInt}

func powerOf(base int, times int) int {
	power := 1
	for range times {
		power *= base
	}
	return power
}

// largeOnes are numbers between the bounds, many of them where a digit more begins, where digits are alike, and at the ends.
func largeOnes() []int {
	numbers := []int{1, 2, 9, maxWritten - 2, maxWritten - 1, maxWritten}
	for times := 1; times < 12; times++ {
		ten := powerOf(10, times)
		for digit := 1; digit <= 9; digit++ {
			numbers = append(numbers, digit*ten-1, digit*ten, digit*ten+1, digit*((10*ten-1)/9))
		}
	}
	for n := 7; n < maxWritten; n = n*3/2 + 11 {
		numbers = append(numbers, n)
	}
	for _, n := range []int{102030405060, 908070605040, 100000000001, 123456789012, 987654321098, 909090909090, 990000000000, 500500500500} {
		numbers = append(numbers, n)
	}
	return numbers
}

func textOf(n int) string { return strconv.Itoa(n) }

func timesIn(n int, digit int) int { return strings.Count(textOf(n), textOf(digit)) }

func productOf(n int) int {
	product := 1
	for _, r := range textOf(n) {
		product *= int(r - '0')
	}
	return product
}

// writtenList is all that is written up to a number, one number after the other.
type writtenList struct {
	text    string
	counts  [10]int
	sum     int
	reached [10][]int // for each digit, the number in which it stands for the first, the second, .. time
}

func (w *writtenList) write(n int) {
	text := textOf(n)
	w.text += text
	for _, r := range text {
		w.counts[r-'0']++
		w.reached[r-'0'] = append(w.reached[r-'0'], n)
	}
	w.sum += digitSum(text)
}

func wantCounts(t *testing.T, n int, w *writtenList) {
	t.Helper()
	what := fmt.Sprint(" ", n)
	got, ok := impl.DigitsWritten(n)
	wantNumber(t, "DigitsWritten"+what, got, ok, len(w.text), true)
	list, ok := impl.DigitCounts(n)
	wantList(t, "DigitCounts"+what, list, ok, w.counts[:], true)
	for digit, want := range w.counts {
		got, ok = impl.CountDigit(n, digit)
		wantNumber(t, fmt.Sprint("CountDigit", what, " ", digit), got, ok, want, true)
	}
	got, ok = impl.SumOfDigitsUpTo(n)
	wantNumber(t, "SumOfDigitsUpTo"+what, got, ok, w.sum, true)
}

// TestCountsOfAllThatIsWritten is promise 5 for what is written: all numbers up to some that have five digits.
func TestCountsOfAllThatIsWritten(t *testing.T) {
	var w writtenList
	for n := range 10120 {
		if n > 0 {
			w.write(n)
		}
		wantCounts(t, n, &w)
	}
	for digit, reached := range w.reached {
		for i, want := range reached {
			got, ok := impl.LeastForCount(digit, i+1)
			wantNumber(t, fmt.Sprint("LeastForCount ", digit, " ", i+1), got, ok, want, true)
		}
	}
}

func wantPlace(t *testing.T, k int, number int, which int) {
	t.Helper()
	what := fmt.Sprint(" ", k)
	gotNumber, gotWhich, ok := impl.NumberAtPlace(k)
	wantTwo(t, "NumberAtPlace"+what, gotNumber, gotWhich, ok, number, which, true)
	digit, ok := impl.DigitAtPlace(k)
	wantNumber(t, "DigitAtPlace"+what, digit, ok, int(textOf(number)[which-1]-'0'), true)
	last, ok := impl.LastWritten(k - 1)
	wantNumber(t, fmt.Sprint("LastWritten ", k-1), last, ok, number-1, true)
}

// TestPlacesOfAllThatIsWritten goes along all that is written, digit by digit. As many digits as come before
// a place have room for the numbers before the one that stands there.
func TestPlacesOfAllThatIsWritten(t *testing.T) {
	k := 0
	for n := 1; n <= 10120; n++ {
		for i := range textOf(n) {
			k++
			wantPlace(t, k, n, i+1)
		}
	}
}

// placeByLengths leaves out all numbers that have fewer digits.
func placeByLengths(k int) (int, int) {
	before := k - 1
	digits, first := 1, 1
	for before >= 9*first*digits {
		before -= 9 * first * digits
		digits, first = digits+1, first*10
	}
	return first + before/digits, before%digits + 1
}

// TestPlacesUpToTheLimit: where the numbers have a digit more, and at and before the last place.
func TestPlacesUpToTheLimit(t *testing.T) {
	places := []int{1, 2, 9, 10, 11, 189, 190, 191, maxWritten - 2, maxWritten - 1, maxWritten}
	behind := 0
	for digits := 1; digits <= 10; digits++ {
		behind += 9 * powerOf(10, digits-1) * digits
		for away := -13; away <= 13; away++ {
			places = append(places, max(1, behind+away))
		}
	}
	for _, k := range append(places, largeOnes()...) {
		number, which := placeByLengths(k)
		wantPlace(t, k, number, which)
		written, _ := impl.DigitsWritten(number - 1)
		if written+which != k {
			t.Errorf("place %d: %d digits before number %d, %d of its own", k, written, number, which)
		}
	}
	number, which := placeByLengths(maxWritten + 1)
	last, ok := impl.LastWritten(maxWritten)
	wantNumber(t, "LastWritten MaxWritten", last, ok, number-1, true)
	if number != 91919191919 || which != 3 {
		t.Error("behind the last place: ", number, which)
	}
}

// TestNothingWritten: up to 0 nothing is written at all, not even 0, though it has a digit.
func TestNothingWritten(t *testing.T) {
	wantCounts(t, 0, &writtenList{})
	got, ok := impl.LastWritten(0)
	wantNumber(t, "LastWritten 0", got, ok, 0, true)
	for digit := range 10 {
		got, ok = impl.CountWithout(0, digit)
		wantNumber(t, fmt.Sprint("CountWithout 0 ", digit), got, ok, 0, true)
		got, ok = impl.CountOfCounter(0, digit)
		wantNumber(t, fmt.Sprint("CountOfCounter 0 ", digit), got, ok, 0, false)
		got, ok = impl.CounterShows(0, digit)
		wantNumber(t, fmt.Sprint("CounterShows 0 ", digit), got, ok, 0, false)
		got, ok = impl.LeastForCount(digit, 0)
		wantNumber(t, fmt.Sprint("LeastForCount 0 ", digit), got, ok, 0, false)
	}
	for _, sum := range []int{0, 1, 2, 9, maxSum, maxSum + 1, math.MaxInt} {
		got, ok = impl.CountOfSum(0, sum)
		wantNumber(t, fmt.Sprint("CountOfSum 0 ", sum), got, ok, 0, true)
	}
	got, ok = impl.NextOfSum(0)
	wantNumber(t, "NextOfSum 0", got, ok, 0, false)
	got, ok = impl.DigitAtPlace(0)
	wantNumber(t, "DigitAtPlace 0", got, ok, 0, false)
	number, which, ok := impl.NumberAtPlace(0)
	wantTwo(t, "NumberAtPlace 0", number, which, ok, 0, 0, false)
	wantDigitsOf(t, 0)
}

// lessened does the same again and again until there is one digit.
func lessened(n int, lessen func(int) int) (int, int) {
	if n < 10 {
		return n, 0
	}
	digit, times := lessened(lessen(n), lessen)
	return digit, times + 1
}

// wantDigitsOf checks what is told of the digits of one number.
func wantDigitsOf(t *testing.T, n int) {
	t.Helper()
	what := fmt.Sprint(" ", n)
	sumOf := func(n int) int { return digitSum(textOf(n)) }
	got, ok := impl.DigitSum(n)
	wantNumber(t, "DigitSum"+what, got, ok, sumOf(n), true)
	got, ok = impl.DigitProduct(n)
	wantNumber(t, "DigitProduct"+what, got, ok, productOf(n), true)
	want, wantTimes := lessened(n, sumOf)
	digit, times, ok := impl.DigitRoot(n)
	wantTwo(t, "DigitRoot"+what, digit, times, ok, want, wantTimes, true)
	want, wantTimes = lessened(n, productOf)
	digit, times, ok = impl.ProductEnd(n)
	wantTwo(t, "ProductEnd"+what, digit, times, ok, want, wantTimes, true)
}

func TestDigitsOfNumbers(t *testing.T) {
	for n := range 20000 {
		wantDigitsOf(t, n)
	}
	for _, n := range append(largeOnes(), 3778888999, 199999999999, 299999999999, 999999999999) {
		wantDigitsOf(t, n)
	}
	digit, times, ok := impl.ProductEnd(3778888999)
	wantTwo(t, "ProductEnd 3778888999", digit, times, ok, 0, 10, true)
	digit, times, ok = impl.DigitRoot(199)
	wantTwo(t, "DigitRoot 199", digit, times, ok, 1, 3, true)
}

// beginnings parts all numbers from 1 up to n into those that have one beginning, and as many digits behind it, which are free.
func beginnings(n int, visit func(begin string, free int)) {
	text := textOf(n)
	for size := 1; size < len(text); size++ {
		for first := '1'; first <= '9'; first++ {
			visit(string(first), size-1)
		}
	}
	for i := range text {
		least := byte('0')
		if i == 0 {
			least = '1'
		}
		for digit := least; digit < text[i]; digit++ {
			visit(text[:i]+string(digit), len(text)-1-i)
		}
	}
	if n > 0 {
		visit(text, 0)
	}
}

// countsByBeginnings adds the digits of the beginnings, and as many of each digit in the free places.
func countsByBeginnings(n int) writtenList {
	var w writtenList
	beginnings(n, func(begin string, free int) {
		for digit := range w.counts {
			w.counts[digit] += strings.Count(begin, textOf(digit)) * powerOf(10, free)
			w.counts[digit] += free * powerOf(10, free) / 10
		}
	})
	for digit, many := range w.counts {
		w.sum += digit * many
	}
	return w
}

// TestCountsOfLargeNumbers is promise 5 for large numbers: what is written is counted by beginnings, and grows by the digits of each number.
func TestCountsOfLargeNumbers(t *testing.T) {
	for _, n := range largeOnes() {
		what := fmt.Sprint(" ", n)
		w := countsByBeginnings(n)
		list, ok := impl.DigitCounts(n)
		wantList(t, "DigitCounts"+what, list, ok, w.counts[:], true)
		before, _ := impl.DigitCounts(n - 1)
		all := 0
		for digit, want := range w.counts {
			got, ok := impl.CountDigit(n, digit)
			wantNumber(t, fmt.Sprint("CountDigit", what, " ", digit), got, ok, want, true)
			wantNumber(t, fmt.Sprint("more of ", digit, " in", what), list[digit]-before[digit], true, timesIn(n, digit), true)
			all += want
		}
		got, ok := impl.DigitsWritten(n)
		wantNumber(t, "DigitsWritten"+what, got, ok, all, true)
		got, ok = impl.SumOfDigitsUpTo(n)
		wantNumber(t, "SumOfDigitsUpTo"+what, got, ok, w.sum, true)
	}
}

// TestCountsOfWholeLengths: up to nines alone all digits are alike often, but for 0, which never comes first. MaxWritten adds a 1 and twelve 0.
func TestCountsOfWholeLengths(t *testing.T) {
	written, zeros := 0, 0
	for digits := 1; digits <= 12; digits++ {
		ten := powerOf(10, digits-1)
		written += 9 * ten * digits
		zeros += 9 * (digits - 1) * ten / 10
		n := 10*ten - 1
		what := fmt.Sprint(" ", n)
		got, ok := impl.DigitsWritten(n)
		wantNumber(t, "DigitsWritten"+what, got, ok, written, true)
		want := slices.Repeat([]int{digits * ten}, 10)
		want[0] = zeros
		list, ok := impl.DigitCounts(n)
		wantList(t, "DigitCounts"+what, list, ok, want, true)
		got, ok = impl.SumOfDigitsUpTo(n)
		wantNumber(t, "SumOfDigitsUpTo"+what, got, ok, 45*digits*ten, true)
		want[0], want[1] = zeros+digits, digits*ten+1
		list, ok = impl.DigitCounts(n + 1)
		wantList(t, fmt.Sprint("DigitCounts ", n+1), list, ok, want, true)
	}
	got, ok := impl.DigitsWritten(maxWritten)
	wantNumber(t, "DigitsWritten MaxWritten", got, ok, 11888888888902, true)
	got, ok = impl.SumOfDigitsUpTo(maxWritten)
	wantNumber(t, "SumOfDigitsUpTo MaxWritten", got, ok, 54000000000001, true)
	got, ok = impl.CountDigit(maxWritten, 0)
	wantNumber(t, "CountDigit MaxWritten 0", got, ok, 1088888888901, true)
	got, ok = impl.CountDigit(maxWritten, 1)
	wantNumber(t, "CountDigit MaxWritten 1", got, ok, 1200000000001, true)
}

// TestLeastForLargeCounts: the number has the digit, and just before it there are too few.
func TestLeastForLargeCounts(t *testing.T) {
	for digit := range 10 {
		for _, many := range append(largeOnes(), 999999999, 600000000000) {
			what := fmt.Sprint("LeastForCount ", digit, " ", many)
			n, ok := impl.LeastForCount(digit, many)
			if !ok || n < 1 || n > maxWritten {
				t.Fatal(what, n, ok)
			}
			upTo, before := countsByBeginnings(n).counts[digit], countsByBeginnings(n - 1).counts[digit]
			if upTo < many || before >= many {
				t.Errorf("%s: %d, with %d, and %d before", what, n, upTo, before)
			}
		}
	}
	for digit, want := range []int{10, 1, 2, 3, 4, 5, 6, 7, 8, 9} {
		got, ok := impl.LeastForCount(digit, 1)
		wantNumber(t, fmt.Sprint("LeastForCount of 1 ", digit), got, ok, want, true)
	}
}

// numbersBySum lists the numbers from 1 up to most by their digit sums.
func numbersBySum(most int) map[int][]int {
	bySum := map[int][]int{}
	for n := 1; n <= most; n++ {
		sum := digitSum(textOf(n))
		bySum[sum] = append(bySum[sum], n)
	}
	return bySum
}

// TestNumbersOfSums lists numbers by their digit sums.
func TestNumbersOfSums(t *testing.T) {
	const most = 12000
	bySum := numbersBySum(most)
	for sum, numbers := range bySum {
		for rank, n := range numbers {
			got, ok := impl.NumberOfSum(sum, rank)
			wantNumber(t, fmt.Sprint("NumberOfSum ", sum, " ", rank), got, ok, n, true)
			got, ok = impl.CountOfSum(n, sum)
			wantNumber(t, fmt.Sprint("CountOfSum ", n, " ", sum), got, ok, rank+1, true)
			got, ok = impl.CountOfSum(n-1, sum)
			wantNumber(t, fmt.Sprint("CountOfSum ", n-1, " ", sum), got, ok, rank, true)
			if rank+1 < len(numbers) {
				got, ok = impl.NextOfSum(n)
				wantNumber(t, fmt.Sprint("NextOfSum ", n), got, ok, numbers[rank+1], true)
			}
		}
	}
	for n := 0; n <= most; n += 131 {
		for sum := range 50 {
			want := 0
			for _, number := range bySum[sum] {
				if number <= n {
					want++
				}
			}
			got, ok := impl.CountOfSum(n, sum)
			wantNumber(t, fmt.Sprint("CountOfSum ", n, " ", sum), got, ok, want, true)
		}
	}
}

func choose(of int, many int) int {
	ways := 1
	for i := range many {
		ways = ways * (of - i) / (i + 1)
	}
	return ways
}

// waysBehind counts the texts of so many digits with a sum: all ways to part it, without those in which some digits are 10 or more.
func waysBehind(digits int, sum int) int {
	if digits == 0 && sum == 0 {
		return 1
	}
	ways, sign := 0, 1
	for tooGreat := 0; tooGreat <= digits && 10*tooGreat <= sum && digits > 0; tooGreat++ {
		ways += sign * choose(digits, tooGreat) * choose(sum-10*tooGreat+digits-1, digits-1)
		sign = -sign
	}
	return ways
}

func countOfSumByBeginnings(n int, sum int) int {
	count := 0
	beginnings(n, func(begin string, free int) {
		if left := sum - digitSum(begin); left >= 0 && left <= 9*free {
			count += waysBehind(free, left)
		}
	})
	return count
}

// TestCountsOfSums takes all sums of large numbers. All numbers have one, 1 at least.
func TestCountsOfSums(t *testing.T) {
	for _, n := range largeOnes() {
		all := 0
		for sum := range maxSum + 20 {
			got, ok := impl.CountOfSum(n, sum)
			if want := countOfSumByBeginnings(n, sum); got != want || !ok {
				t.Errorf("CountOfSum %d %d: %d %v, want %d", n, sum, got, ok, want)
			}
			all += got
		}
		wantNumber(t, fmt.Sprint("CountOfSum of all sums, ", n), all, true, n, true)
	}
	for _, sum := range []int{0, maxSum + 1, maxSum + 2, 117, 118, 1000, maxWritten, maxWritten + 1, math.MaxInt - 200, math.MaxInt - 1, math.MaxInt} {
		for _, n := range []int{1, 10, 100, 109, 999999999999, maxWritten} {
			got, ok := impl.CountOfSum(n, sum)
			wantNumber(t, fmt.Sprint("CountOfSum ", n, " ", sum), got, ok, 0, true)
		}
	}
}

// endsOfSum returns the least and the greatest number with a digit sum, of twelve digits at most: as many nines as there are, at either end.
func endsOfSum(sum int) (int, int) {
	nines, rest := sum/9, sum%9
	most := strings.Repeat("9", nines)
	if rest > 0 {
		most += textOf(rest)
	}
	least := []byte(most)
	slices.Reverse(least)
	return numberOf(string(least)), numberOf(most + strings.Repeat("0", 12-len(most)))
}

// TestFirstAndLastOfSum: the last number with a sum has twelve digits, but for 1, which MaxWritten has.
func TestFirstAndLastOfSum(t *testing.T) {
	for sum := 1; sum <= maxSum; sum++ {
		what := fmt.Sprint("NumberOfSum ", sum, " ")
		least, most := endsOfSum(sum)
		if sum == 1 {
			most = maxWritten
		}
		count := countOfSumByBeginnings(maxWritten, sum)
		for _, want := range [][2]int{{0, least}, {count - 1, most}} {
			got, ok := impl.NumberOfSum(sum, want[0])
			wantNumber(t, fmt.Sprint(what, want[0]), got, ok, want[1], true)
		}
		for _, rank := range []int{math.MinInt, -maxWritten, -2, -1, count, count + 1, maxWritten, maxWritten + 1, math.MaxInt - 1, math.MaxInt} {
			got, ok := impl.NumberOfSum(sum, rank)
			wantNumber(t, fmt.Sprint(what, rank), got, ok, 0, false)
		}
		got, ok := impl.NextOfSum(most)
		wantNumber(t, fmt.Sprint("NextOfSum ", most), got, ok, 0, false)
	}
	for rank := range 13 {
		got, ok := impl.NumberOfSum(1, rank)
		wantNumber(t, fmt.Sprint("NumberOfSum 1 ", rank), got, ok, powerOf(10, rank), true)
	}
	for _, sum := range []int{math.MinInt, -1, 0, maxSum + 1, 117, 1000, maxWritten, math.MaxInt} {
		for _, rank := range []int{-1, 0, 1, 5} {
			got, ok := impl.NumberOfSum(sum, rank)
			wantNumber(t, fmt.Sprint("NumberOfSum ", sum, " ", rank), got, ok, 0, false)
		}
	}
}

// nextByText makes one digit greater by 1, as far to the end as there is something behind it that can be less, and puts what is left to the end.
func nextByText(n int) int {
	digits := []byte("0" + textOf(n))
	for i := len(digits) - 2; ; i-- {
		behind := digitSum(string(digits[i+1:]))
		if digits[i] == '9' || behind == 0 {
			continue
		}
		digits[i]++
		behind--
		for k := len(digits) - 1; k > i; k-- {
			digits[k] = '0' + byte(min(behind, 9))
			behind -= min(behind, 9)
		}
		return numberOf(string(digits))
	}
}

func TestNextOfLargeSums(t *testing.T) {
	for _, n := range append(largeOnes(), 99999999999, 100000000000, 899999999999, 990000000000, 999999999998) {
		want := nextByText(n)
		wantOk := want <= maxWritten
		if !wantOk {
			want = 0
		}
		got, ok := impl.NextOfSum(n)
		wantNumber(t, fmt.Sprint("NextOfSum ", n), got, ok, want, wantOk)
		sum := digitSum(textOf(n))
		rank := countOfSumByBeginnings(n, sum) - 1
		got, ok = impl.NumberOfSum(sum, rank)
		wantNumber(t, fmt.Sprint("NumberOfSum ", sum, " ", rank), got, ok, n, true)
	}
}

// isBrokenIn goes along the digits from the last one on.
func isBrokenIn(n int, digit int) bool {
	for ; n > 0; n /= 10 {
		if n%10 == digit {
			return true
		}
	}
	return false
}

// TestBrokenCounters is promise 5 for counters: each goes through all numbers, and shows one for every count up to the greatest that may be asked for.
func TestBrokenCounters(t *testing.T) {
	for digit := range 10 {
		count := 0
		for n := 1; count < maxShown; n++ {
			isBroken := isBrokenIn(n, digit)
			if !isBroken {
				count++
			}
			if n < 3000 || n%1009 == 0 || count%997 == 0 || count >= maxShown-20 {
				wantShown(t, n, digit, count, isBroken)
			}
		}
	}
}

// wantShown checks what a counter without a digit does at a number, up to which there are so many counts.
func wantShown(t *testing.T, n int, digit int, count int, isBroken bool) {
	t.Helper()
	what := fmt.Sprintf(" %d without %d", n, digit)
	got, ok := impl.CountWithout(n, digit)
	wantNumber(t, "CountWithout"+what, got, ok, count, true)
	got, ok = impl.CountOfCounter(n, digit)
	if isBroken {
		wantNumber(t, "CountOfCounter"+what, got, ok, 0, false)
		return
	}
	wantNumber(t, "CountOfCounter"+what, got, ok, count, true)
	got, ok = impl.CounterShows(count, digit)
	wantNumber(t, fmt.Sprintf("CounterShows %d without %d", count, digit), got, ok, n, true)
}

// TestLargeNumbersWithoutDigits counts those that are free to have nine digits behind a beginning.
func TestLargeNumbersWithoutDigits(t *testing.T) {
	for _, n := range largeOnes() {
		for digit := range 10 {
			want := 0
			beginnings(n, func(begin string, free int) {
				if !strings.Contains(begin, textOf(digit)) {
					want += powerOf(9, free)
				}
			})
			what := fmt.Sprintf(" %d without %d", n, digit)
			got, ok := impl.CountWithout(n, digit)
			wantNumber(t, "CountWithout"+what, got, ok, want, true)
			isBroken := timesIn(n, digit) > 0
			if isBroken {
				want = 0
			}
			got, ok = impl.CountOfCounter(n, digit)
			wantNumber(t, "CountOfCounter"+what, got, ok, want, !isBroken)
		}
	}
}

// TestCountersWithoutZeroAndNine: without 0 there is no 10, but 11 comes behind 9; without 9, 10 comes behind 8.
func TestCountersWithoutZeroAndNine(t *testing.T) {
	upToNines := 0
	for times := 1; times <= 12; times++ {
		upToNines += powerOf(9, times)
	}
	for _, want := range [][3]int{{0, 1, 1}, {0, 9, 9}, {0, 10, 11}, {0, 18, 19}, {0, 19, 21}, {0, 90, 99}, {0, 91, 111}, {0, 99, 119}, {0, 100, 121}, {0, maxShown, 1783661},
		{9, 1, 1}, {9, 8, 8}, {9, 9, 10}, {9, 17, 18}, {9, 18, 20}, {9, 80, 88}, {9, 81, 100}, {9, 100, 121}, {9, maxShown, 1783661}} {
		what := fmt.Sprintf(" %d without %d", want[1], want[0])
		shown, ok := impl.CounterShows(want[1], want[0])
		wantNumber(t, "CounterShows"+what, shown, ok, want[2], true)
		count, ok := impl.CountOfCounter(want[2], want[0])
		wantNumber(t, fmt.Sprint("CountOfCounter", want[2], " of", what), count, ok, want[1], true)
	}
	for _, want := range [][3]int{{0, 999999999999, upToNines}, {9, 888888888888, powerOf(9, 12) - 1}, {9, maxWritten, powerOf(9, 12)}, {2, maxWritten, powerOf(9, 12)}} {
		count, ok := impl.CountOfCounter(want[1], want[0])
		wantNumber(t, fmt.Sprintf("CountOfCounter %d without %d", want[1], want[0]), count, ok, want[2], true)
	}
	for _, never := range [][2]int{{10, 0}, {100, 0}, {101, 0}, {maxWritten, 0}, {maxWritten, 1}, {9, 9}, {19, 9}, {90, 9}, {999999999999, 9}, {0, 0}, {0, 9}} {
		count, ok := impl.CountOfCounter(never[0], never[1])
		wantNumber(t, fmt.Sprintf("CountOfCounter %d without %d", never[0], never[1]), count, ok, 0, false)
	}
	for _, want := range [][3]int{{maxWritten, 0, upToNines}, {999999999999, 0, upToNines}, {maxWritten, 9, powerOf(9, 12)}, {999999999999, 9, powerOf(9, 12) - 1}} {
		count, ok := impl.CountWithout(want[0], want[1])
		wantNumber(t, fmt.Sprintf("CountWithout %d %d", want[0], want[1]), count, ok, want[2], true)
	}
}

// TestNumbersThatAreNotWritten is promise 11: nothing panics for a number out of bounds, and each call fails with zero values.
func TestNumbersThatAreNotWritten(t *testing.T) {
	for _, bad := range noWritten {
		what := fmt.Sprint(" ", bad)
		for name, ask := range map[string]func(int) (int, bool){
			"DigitsWritten": impl.DigitsWritten, "LastWritten": impl.LastWritten, "DigitAtPlace": impl.DigitAtPlace, "SumOfDigitsUpTo": impl.SumOfDigitsUpTo,
			"DigitSum": impl.DigitSum, "DigitProduct": impl.DigitProduct, "NextOfSum": impl.NextOfSum,
		} {
			got, ok := ask(bad)
			wantNumber(t, name+what, got, ok, 0, false)
		}
		for name, ask := range map[string]func(int) (int, int, bool){"NumberAtPlace": impl.NumberAtPlace, "DigitRoot": impl.DigitRoot, "ProductEnd": impl.ProductEnd} {
			a, b, ok := ask(bad)
			wantTwo(t, name+what, a, b, ok, 0, 0, false)
		}
		list, ok := impl.DigitCounts(bad)
		if list != nil || ok {
			t.Errorf("DigitCounts %d: %v %v", bad, list, ok)
		}
		for digit := -1; digit <= 10; digit++ {
			wantNothingOfDigit(t, bad, digit)
		}
	}
}

// wantNothingOfDigit checks that all that takes a number and a digit fails, in either order of these arguments, as the function has it.
func wantNothingOfDigit(t *testing.T, n int, digit int) {
	t.Helper()
	what := fmt.Sprintf(" %d %d", n, digit)
	for name, ask := range map[string]func(int, int) (int, bool){"CountDigit": impl.CountDigit, "CountWithout": impl.CountWithout, "CounterShows": impl.CounterShows, "CountOfCounter": impl.CountOfCounter} {
		got, ok := ask(n, digit)
		wantNumber(t, name+what, got, ok, 0, false)
	}
	got, ok := impl.LeastForCount(digit, n)
	wantNumber(t, fmt.Sprintf("LeastForCount %d %d", digit, n), got, ok, 0, false)
	if n < 0 || n > maxWritten {
		got, ok = impl.CountOfSum(n, max(0, digit))
		wantNumber(t, "CountOfSum"+what, got, ok, 0, false)
	}
}

// TestNoDigits: a digit that is none, with numbers that are all right, and with others.
func TestNoDigits(t *testing.T) {
	for _, digit := range noDigits {
		for _, n := range append([]int{0, 1, 2, 13, 100, maxShown, maxWritten}, noWritten...) {
			wantNothingOfDigit(t, n, digit)
		}
	}
}

// TestBoundsOfDigits: what is the first or the last one in the bounds is taken, and the next one is not.
func TestBoundsOfDigits(t *testing.T) {
	for digit := range 10 {
		for _, count := range []int{math.MinInt, -1, 0, maxShown + 1, maxShown + 2, maxWritten, math.MaxInt} {
			got, ok := impl.CounterShows(count, digit)
			wantNumber(t, fmt.Sprint("CounterShows ", count, " ", digit), got, ok, 0, false)
		}
		for _, count := range []int{1, maxShown} {
			if _, ok := impl.CounterShows(count, digit); !ok {
				t.Error("CounterShows", count, digit)
			}
		}
		for _, many := range []int{math.MinInt, -1, 0, maxWritten + 1, 1088888888901, math.MaxInt} {
			got, ok := impl.LeastForCount(digit, many)
			wantNumber(t, fmt.Sprint("LeastForCount ", digit, " ", many), got, ok, 0, false)
		}
	}
	for _, n := range []int{0, 1, maxWritten} {
		for _, sum := range []int{math.MinInt, -maxWritten, -2, -1} {
			got, ok := impl.CountOfSum(n, sum)
			wantNumber(t, fmt.Sprint("CountOfSum ", n, " ", sum), got, ok, 0, false)
		}
	}
	got, ok := impl.CountOfSum(maxWritten, 1)
	wantNumber(t, "CountOfSum MaxWritten 1", got, ok, 13, true)
	got, ok = impl.CountOfSum(maxWritten, maxSum)
	wantNumber(t, "CountOfSum MaxWritten 108", got, ok, 1, true)
	got, ok = impl.NextOfSum(maxWritten)
	wantNumber(t, "NextOfSum MaxWritten", got, ok, 0, false)
	got, ok = impl.NextOfSum(maxWritten / 10)
	wantNumber(t, "NextOfSum to MaxWritten", got, ok, maxWritten, true)
	got, ok = impl.NextOfSum(1)
	wantNumber(t, "NextOfSum 1", got, ok, 10, true)
}

// TestDigitCountsAreNew: what a caller writes into one result, or behind it, is not in another one.
// The arguments of this chapter are numbers, so that there is nothing else that could be written into.
func TestDigitCountsAreNew(t *testing.T) {
	want := []int{11, 21, 20, 20, 20, 20, 20, 20, 20, 20}
	first, _ := impl.DigitCounts(100)
	second, _ := impl.DigitCounts(100)
	_ = append(first[:0], slices.Repeat([]int{-1}, cap(first))...)
	wantList(t, "DigitCounts beside another one", second, true, want, true)
	again, ok := impl.DigitCounts(100)
	wantList(t, "DigitCounts again", again, ok, want, true)
}

func TestExampleOfDigits(t *testing.T) {
	for _, example := range []struct {
		what string
		ask  func() (int, bool)
		want int
	}{
		{"DigitsWritten", func() (int, bool) { return impl.DigitsWritten(100) }, 192},
		{"CountDigit of 1", func() (int, bool) { return impl.CountDigit(100, 1) }, 21},
		{"CountDigit of 0", func() (int, bool) { return impl.CountDigit(100, 0) }, 11},
		{"LastWritten", func() (int, bool) { return impl.LastWritten(600) }, 236},
		{"DigitsWritten of this", func() (int, bool) { return impl.DigitsWritten(236) }, 600},
		{"DigitAtPlace", func() (int, bool) { return impl.DigitAtPlace(15) }, 2},
		{"SumOfDigitsUpTo", func() (int, bool) { return impl.SumOfDigitsUpTo(100) }, 901},
		{"CountOfSum", func() (int, bool) { return impl.CountOfSum(100, 5) }, 6},
		{"NextOfSum", func() (int, bool) { return impl.NextOfSum(14) }, 23},
		{"CounterShows without 4", func() (int, bool) { return impl.CounterShows(13, 4) }, 15},
		{"CountOfCounter without 4", func() (int, bool) { return impl.CountOfCounter(100, 4) }, 81},
		{"CounterShows without 0", func() (int, bool) { return impl.CounterShows(10, 0) }, 11},
	} {
		got, ok := example.ask()
		wantNumber(t, example.what, got, ok, example.want, true)
	}
	number, which, ok := impl.NumberAtPlace(15)
	wantTwo(t, "NumberAtPlace", number, which, ok, 12, 2, true)
	digit, times, ok := impl.DigitRoot(987)
	wantTwo(t, "DigitRoot", digit, times, ok, 6, 2, true)
	digit, times, ok = impl.ProductEnd(77)
	wantTwo(t, "ProductEnd", digit, times, ok, 8, 4, true)
}

func TestLimitOfDigits(t *testing.T) {
	if impl.MaxWritten != maxWritten {
		t.Error(impl.MaxWritten)
	}
}
