package tests

import (
	"fmt"
	"math"
	"math/big"
	"runtime"
	"slices"
	"strings"
	"sync"
	"testing"
	"unsafe"

	"loop.example/g01395/impl"
)

// The signatures of chapter 8 are those that the document declares.
var (
	_ func(int) (int, bool)            = impl.LeastWithSum
	_ func(int, int) (int, bool)       = impl.LeastOfDigits
	_ func(int, int) (int, bool)       = impl.GreatestOfDigits
	_ func(int, int) (int, bool)       = impl.CountOfDigits
	_ func(int) (int, bool)            = impl.NextWithSum
	_ func(int) (int, bool)            = impl.LastWithSum
	_ func(int) (int, bool)            = impl.NextSameDigits
	_ func(int) (int, bool)            = impl.LastSameDigits
	_ func(int) (int, bool)            = impl.LeastSameDigits
	_ func(int) (int, bool)            = impl.GreatestSameDigits
	_ func(int) (int, bool)            = impl.LeastWithProduct
	_ func(int) (int, bool)            = impl.ProductOfDigits
	_ func(int) (int, bool)            = impl.ProductSteps
	_ func(int, string) (string, bool) = impl.LeastMultiple
	_ func(int) (string, bool)         = impl.DigitsForMultiple
	_ func(int) (int, bool)            = impl.OnesFor
	_ func(int, int) (int, bool)       = impl.RestOfOnes
	_ func(int, int) (int, bool)       = impl.LeastBoth
	_ func(int) (int, bool)            = impl.SumDivides
)

const (
	maxLeast       = 1000000000000
	maxLeastDigits = 12
	maxDivisor     = 400
)

// noNumbers are numbers that are out of the bounds of chapter 8.
var noNumbers = []int{math.MinInt, math.MinInt + 1, -maxLeast, -maxDivisor, -100, -12, -2, -1, maxLeast + 1, maxLeast + 2, 2 * maxLeast, 10 * maxLeast, math.MaxInt - 1, math.MaxInt}

var noLengths = []int{math.MinInt, -12, -1, 0, 13, 14, 100, 1 << 32, math.MaxInt - 1, math.MaxInt}

var noSums = []int{math.MinInt, math.MinInt + 1, -9, -1, 109, 110, 117, 1000, maxLeast, math.MaxInt - 1, math.MaxInt}

var noProducts = append([]int{0}, noNumbers...)

var noDivisors = []int{math.MinInt, math.MinInt + 1, -400, -7, -1, 0, 401, 402, 800, 1000, maxLeast, 1 << 32, 1<<32 + 7, math.MaxInt - 1, math.MaxInt}

// noDigitTexts are texts that are not 1 to 10 digits, each greater than the one before.
var noDigitTexts = []string{
	"", "00", "11", "10", "21", "011", "001", "0122", "987", "9876543210", "01234567899", "01234567890", "00123456789", "0123456789a", "123456789:", "/0", "/01",
	"a", "0a", "a0", " ", " 1", "1 ", "0 1", "+1", "-1", "1.5", "1,2", "0\n", "\x00", "0\x00", "\x001", "\xff", "1\xff", "é", "1é", "١", "٠١", "１", "ABC",
	strings.Repeat("1", 1000), strings.Repeat("0123456789", 100),
}

// manyTens are numbers at and beside those where a digit more begins, with other ones between the bounds.
func manyTens() []int {
	numbers := append(largeOnes(), 0, 99999999999, 100000000000, 899999999999, 990000000000, 999999999998, 200000000000, 110000000000, 109999999999)
	for digits := 1; digits <= maxLeastDigits; digits++ {
		for _, sum := range []int{1, 2, 9, 10, 9*digits - 1, 9 * digits} {
			if sum <= 9*digits {
				numbers = append(numbers, leastByPlaces(digits, sum), greatestByPlaces(digits, sum))
			}
		}
	}
	return numbers
}

// mayMake reports whether so many digits may have a sum.
func mayMake(digits int, sum int) bool { return sum >= 0 && sum <= 9*digits }

// byPlaces takes for each place the first one of the digits with which those behind may still have the sum. It is -1 if there is none.
func byPlaces(digits int, sum int, order string) int {
	text := ""
	for place := range digits {
		for _, r := range order {
			digit := int(r - '0')
			if place == 0 && digit == 0 && digits > 1 {
				continue
			}
			if mayMake(digits-1-place, sum-digit) {
				text += string(r)
				sum -= digit
				break
			}
		}
	}
	if len(text) < digits {
		return -1
	}
	return numberOf(text)
}

func leastByPlaces(digits int, sum int) int { return byPlaces(digits, sum, "0123456789") }

func greatestByPlaces(digits int, sum int) int { return byPlaces(digits, sum, "9876543210") }

func wantOfDigits(t *testing.T, digits int, sum int, least int, greatest int, count int) {
	t.Helper()
	what := fmt.Sprint(" ", digits, " ", sum)
	got, ok := impl.LeastOfDigits(digits, sum)
	wantNumber(t, "LeastOfDigits"+what, got, ok, least, count > 0)
	got, ok = impl.GreatestOfDigits(digits, sum)
	wantNumber(t, "GreatestOfDigits"+what, got, ok, greatest, count > 0)
	got, ok = impl.CountOfDigits(digits, sum)
	wantNumber(t, "CountOfDigits"+what, got, ok, count, true)
}

// TestNumbersOfShortLengths is promise 8 for sums: all numbers of up to six digits are listed.
func TestNumbersOfShortLengths(t *testing.T) {
	type ends struct{ least, greatest, count int }
	lists := map[[2]int]*ends{}
	for n := range 1000000 {
		key := [2]int{len(textOf(n)), digitSum(textOf(n))}
		if lists[key] == nil {
			lists[key] = &ends{least: n}
		}
		lists[key].greatest = n
		lists[key].count++
	}
	for digits := 1; digits <= 6; digits++ {
		for sum := 0; sum <= maxSum; sum++ {
			list := lists[[2]int{digits, sum}]
			if list == nil {
				list = &ends{}
			}
			wantOfDigits(t, digits, sum, list.least, list.greatest, list.count)
		}
	}
}

// TestNumbersOfAllLengths takes each digit as it may be, and adds up how many there are behind each first digit.
func TestNumbersOfAllLengths(t *testing.T) {
	for digits := 1; digits <= maxLeastDigits; digits++ {
		all := 0
		for sum := 0; sum <= maxSum; sum++ {
			count := 0
			for first := range 10 {
				if (first > 0 || digits == 1) && mayMake(digits-1, sum-first) {
					count += waysBehind(digits-1, sum-first)
				}
			}
			least, greatest := 0, 0
			if count > 0 {
				least, greatest = leastByPlaces(digits, sum), greatestByPlaces(digits, sum)
			}
			wantOfDigits(t, digits, sum, least, greatest, count)
			all += count
		}
		want := 9 * powerOf(10, digits-1)
		if digits == 1 {
			want = 10
		}
		wantNumber(t, fmt.Sprint("all numbers of ", digits, " digits"), all, true, want, true)
	}
	for digits := 1; digits <= maxLeastDigits; digits++ {
		wantOfDigits(t, digits, 9*digits, powerOf(10, digits)-1, powerOf(10, digits)-1, 1)
		wantOfDigits(t, digits, 1, powerOf(10, digits-1), powerOf(10, digits-1), 1)
		if digits < maxLeastDigits {
			wantOfDigits(t, digits, 9*digits+1, 0, 0, 0)
		}
		if digits > 1 {
			wantOfDigits(t, digits, 0, 0, 0, 0)
		}
	}
	wantOfDigits(t, 1, 0, 0, 0, 1)
}

// TestLeastWithSums: every sum has a least number, which has as few digits as it can.
func TestLeastWithSums(t *testing.T) {
	for sum := 0; sum <= maxSum; sum++ {
		got, ok := impl.LeastWithSum(sum)
		wantNumber(t, fmt.Sprint("LeastWithSum ", sum), got, ok, leastByPlaces(max(1, (sum+8)/9), sum), true)
	}
	for sum, want := range map[int]int{0: 0, 1: 1, 9: 9, 10: 19, 18: 99, 20: 299, 100: 199999999999, 107: 899999999999, 108: 999999999999} {
		got, ok := impl.LeastWithSum(sum)
		wantNumber(t, fmt.Sprint("LeastWithSum ", sum), got, ok, want, true)
	}
	for n := 0; n < 100000; n++ {
		least, _ := impl.LeastWithSum(digitSum(textOf(n)))
		if least > n || digitSum(textOf(least)) != digitSum(textOf(n)) {
			t.Errorf("LeastWithSum of the sum of %d: %d", n, least)
		}
	}
}

// wantBesideSum checks the neighbours of n among the numbers with its digit sum; -1 stands for none.
func wantBesideSum(t *testing.T, n int, last int, next int) {
	t.Helper()
	got, ok := impl.LastWithSum(n)
	wantNumber(t, fmt.Sprint("LastWithSum ", n), got, ok, max(last, 0), last >= 0)
	got, ok = impl.NextWithSum(n)
	wantNumber(t, fmt.Sprint("NextWithSum ", n), got, ok, max(next, 0), next >= 0)
}

func TestBesideListedSums(t *testing.T) {
	const most = 30000
	for _, numbers := range numbersBySum(most) {
		for i, n := range numbers[:len(numbers)-1] {
			last := -1
			if i > 0 {
				last = numbers[i-1]
			}
			wantBesideSum(t, n, last, numbers[i+1])
		}
	}
	wantBesideSum(t, 0, -1, -1)
}

// lastByText makes one digit less by 1, as far to the end as what is behind it may be greater by 1, and puts what is left to the front. It is -1 if there is none.
func lastByText(n int) int {
	digits := []byte(textOf(n))
	for i := len(digits) - 2; i >= 0; i-- {
		behind := digitSum(string(digits[i+1:])) + 1
		if digits[i] == '0' || behind > 9*(len(digits)-1-i) {
			continue
		}
		digits[i]--
		for k := i + 1; k < len(digits); k++ {
			digits[k] = '0' + byte(min(behind, 9))
			behind -= min(behind, 9)
		}
		return numberOf(string(digits))
	}
	return -1
}

func TestBesideLargeSums(t *testing.T) {
	for _, n := range manyTens() {
		if n == 0 {
			continue
		}
		next := nextByText(n)
		if next > maxLeast {
			next = -1
		}
		wantBesideSum(t, n, lastByText(n), next)
	}
	for sum := 1; sum <= maxSum; sum++ {
		least, greatest := endsOfSum(sum)
		if sum == 1 {
			greatest = maxLeast
		}
		got, ok := impl.LastWithSum(least)
		wantNumber(t, fmt.Sprint("LastWithSum ", least), got, ok, 0, false)
		got, ok = impl.NextWithSum(greatest)
		wantNumber(t, fmt.Sprint("NextWithSum ", greatest), got, ok, 0, false)
	}
	wantBesideSum(t, maxLeast, 100000000000, -1)
	wantBesideSum(t, 100000000000, 10000000000, maxLeast)
	wantBesideSum(t, 999999999999, -1, -1)
	wantBesideSum(t, 200000000000, 110000000000, -1)
	wantBesideSum(t, 100, 10, 1000)
	wantBesideSum(t, 1, -1, 10)
}

// sortedText has the digits of a text from the least one on.
func sortedText(text string) string {
	digits := []byte(text)
	slices.Sort(digits)
	return string(digits)
}

// wantSameDigits checks each one of all numbers that have as many digits, and the same ones, from the least one on.
func wantSameDigits(t *testing.T, numbers []int) {
	t.Helper()
	for i, n := range numbers {
		what := fmt.Sprint(" ", n)
		last, next := 0, 0
		if i > 0 {
			last = numbers[i-1]
		}
		if i < len(numbers)-1 {
			next = numbers[i+1]
		}
		got, ok := impl.LastSameDigits(n)
		wantNumber(t, "LastSameDigits"+what, got, ok, last, i > 0)
		got, ok = impl.NextSameDigits(n)
		wantNumber(t, "NextSameDigits"+what, got, ok, next, i < len(numbers)-1)
		got, ok = impl.LeastSameDigits(n)
		wantNumber(t, "LeastSameDigits"+what, got, ok, numbers[0], true)
		got, ok = impl.GreatestSameDigits(n)
		wantNumber(t, "GreatestSameDigits"+what, got, ok, numbers[len(numbers)-1], true)
	}
}

// TestSameDigitsOfListedNumbers: zeros among the digits are as many in all these numbers, and never in front.
func TestSameDigitsOfListedNumbers(t *testing.T) {
	lists := map[string][]int{}
	for n := range 100000 {
		key := sortedText(textOf(n))
		lists[key] = append(lists[key], n)
	}
	for _, numbers := range lists {
		wantSameDigits(t, numbers)
	}
	wantSameDigits(t, []int{0})
	wantSameDigits(t, []int{maxLeast})
	wantSameDigits(t, []int{100})
	wantSameDigits(t, []int{102, 120, 201, 210})
	wantSameDigits(t, []int{2003, 2030, 2300, 3002, 3020, 3200})
}

// ordersOf visits each order of the digits in which another one is there, by what is left of each of them.
func ordersOf(left [10]int, begin string, visit func(text string)) {
	isEnd := true
	for digit := range left {
		if left[digit] > 0 {
			isEnd = false
			left[digit]--
			ordersOf(left, begin+textOf(digit), visit)
			left[digit]++
		}
	}
	if isEnd {
		visit(begin)
	}
}

func TestSameDigitsOfLargeNumbers(t *testing.T) {
	for _, text := range []string{
		"100000000000", "200000000001", "300000000012", "110000000000", "111111111110", "111111111112", "999999999999", "999999999998", "999999999990", "990000000009",
		"555555666666", "101010101010", "123000000000", "777777778889", "99999000000", "1234567", "1023456", "10000000009", "400400400",
	} {
		var left [10]int
		for _, r := range text {
			left[r-'0']++
		}
		var numbers []int
		ordersOf(left, "", func(order string) {
			if order[0] != '0' {
				numbers = append(numbers, numberOf(order))
			}
		})
		wantSameDigits(t, numbers)
	}
}

// TestSameDigitsOfManyOrders: the neighbours lead to each other, and between them there is no number with the same digits,
// as they differ behind one place alone, and what is behind it is as late, and as soon, as it can be.
func TestSameDigitsOfManyOrders(t *testing.T) {
	for _, n := range manyTens() {
		next, ok := impl.NextSameDigits(n)
		if !ok {
			greatest, _ := impl.GreatestSameDigits(n)
			wantNumber(t, fmt.Sprint("GreatestSameDigits ", n), greatest, true, n, true)
			continue
		}
		back, ok := impl.LastSameDigits(next)
		wantNumber(t, fmt.Sprint("LastSameDigits ", next), back, ok, n, true)
		a, b := textOf(n), textOf(next)
		if sortedText(a) != sortedText(b) || a >= b {
			t.Errorf("NextSameDigits %s: %s", a, b)
			continue
		}
		place := 0
		for a[place] == b[place] {
			place++
		}
		if late := turnedText(sortedText(a[place+1:])); late != a[place+1:] {
			t.Errorf("NextSameDigits %s: %s, but there is %s", a, b, a[:place+1]+late)
		}
		if soon := sortedText(b[place+1:]); soon != b[place+1:] {
			t.Errorf("NextSameDigits %s: %s, but there is %s", a, b, b[:place+1]+soon)
		}
		for _, r := range a[place+1:] {
			if byte(r) > a[place] && byte(r) < b[place] {
				t.Errorf("NextSameDigits %s: %s, but there is one with %c", a, b, r)
			}
		}
	}
}

// leastBySumAndProduct has the least number for each product, and for each sum and product, of all numbers up to MaxLeast
// that have no zero. Digits that rise are enough, as another order of them is no less.
var leastBySumAndProduct = sync.OnceValues(func() (map[int]int, map[[2]int]int) {
	byProduct, byBoth := map[int]int{}, map[[2]int]int{}
	var add func(number int, least int, digits int, sum int, product int)
	add = func(number int, least int, digits int, sum int, product int) {
		if digits > 0 {
			if old, ok := byProduct[product]; !ok || number < old {
				byProduct[product] = number
			}
			both := [2]int{sum, product}
			if old, ok := byBoth[both]; !ok || number < old {
				byBoth[both] = number
			}
		}
		if digits < maxLeastDigits {
			for digit := least; digit <= 9; digit++ {
				add(number*10+digit, digit, digits+1, sum+digit, product*digit)
			}
		}
	}
	add(0, 1, 0, 0, 1)
	return byProduct, byBoth
})

func wantLeastWithProduct(t *testing.T, product int) {
	t.Helper()
	byProduct, _ := leastBySumAndProduct()
	want, wantOk := byProduct[product]
	got, ok := impl.LeastWithProduct(product)
	wantNumber(t, fmt.Sprint("LeastWithProduct ", product), got, ok, want, wantOk)
}

// TestLeastWithProducts is for all products that numbers have, those that just longer ones have, and those that no number has.
func TestLeastWithProducts(t *testing.T) {
	byProduct, _ := leastBySumAndProduct()
	for product := range byProduct {
		for away := -2; away <= 2; away++ {
			if product+away >= 1 {
				wantLeastWithProduct(t, product+away)
			}
		}
	}
	for product := 1; product <= 50000; product++ {
		wantLeastWithProduct(t, product)
	}
	for twos := 1; twos <= maxLeast; twos *= 2 {
		for threes := twos; threes <= maxLeast; threes *= 3 {
			for fives := threes; fives <= maxLeast; fives *= 5 {
				for sevens := fives; sevens <= maxLeast; sevens *= 7 {
					wantLeastWithProduct(t, sevens)
				}
			}
		}
	}
	for _, n := range manyTens() {
		if n > 0 {
			wantLeastWithProduct(t, n)
		}
	}
	for product, want := range map[int]int{1: 1, 7: 7, 10: 25, 11: 0, 13: 0, 14: 27, 36: 49, 48: 68, 12: 26, powerOf(9, 12): 999999999999, powerOf(8, 12): 888888888888, powerOf(2, 37): 0, powerOf(5, 12): 555555555555, powerOf(5, 13): 0, powerOf(5, 17): 0, powerOf(7, 14): 0, powerOf(2, 39): 0, maxLeast: 0, 999999999989: 0} {
		got, ok := impl.LeastWithProduct(product)
		wantNumber(t, fmt.Sprint("LeastWithProduct ", product), got, ok, want, want > 0)
	}
}

// TestLeastWithBoth is for all sums together with products that numbers have.
func TestLeastWithBoth(t *testing.T) {
	byProduct, byBoth := leastBySumAndProduct()
	products := []int{11, 22, 13, powerOf(5, 13), powerOf(2, 39), maxLeast, maxLeast - 1}
	for product := range byProduct {
		products = append(products, product)
	}
	slices.Sort(products)
	for i, product := range products {
		if i%19 != 0 && i > 500 && i < len(products)-500 {
			continue
		}
		for sum := 0; sum <= maxSum; sum++ {
			want, wantOk := byBoth[[2]int{sum, product}]
			got, ok := impl.LeastBoth(sum, product)
			if got != want || ok != wantOk {
				t.Errorf("LeastBoth %d %d: %d %v, want %d %v", sum, product, got, ok, want, wantOk)
			}
		}
	}
	for _, row := range [][3]int{{0, 1, 0}, {1, 1, 1}, {2, 1, 11}, {12, 1, 111111111111}, {13, 1, 0}, {10, 24, 46}, {9, 24, 234}, {8, 24, 0}, {108, powerOf(9, 12), 999999999999}, {107, powerOf(9, 12), 0}, {107, 8 * powerOf(9, 11), 899999999999}, {5, 7, 0}, {7, 7, 7}, {18, 7, 111111111117}, {19, 7, 0}, {24, 11, 0}} {
		got, ok := impl.LeastBoth(row[0], row[1])
		wantNumber(t, fmt.Sprint("LeastBoth ", row[0], " ", row[1]), got, ok, row[2], row[2] > 0)
	}
}

func wantProductOfDigits(t *testing.T, n int) {
	t.Helper()
	product, ok := impl.ProductOfDigits(n)
	wantNumber(t, fmt.Sprint("ProductOfDigits ", n), product, ok, productOf(n), true)
	_, want := lessened(n, productOf)
	steps, ok := impl.ProductSteps(n)
	wantNumber(t, fmt.Sprint("ProductSteps ", n), steps, ok, want, true)
}

func TestProductsOfDigits(t *testing.T) {
	for n := range 30000 {
		wantProductOfDigits(t, n)
	}
	for _, n := range append(manyTens(), 3778888999, 277777788888, 999999999999, maxLeast) {
		wantProductOfDigits(t, n)
	}
	for n, want := range map[int]int{0: 0, 9: 0, 10: 1, 39: 3, 77: 4, 679: 5, 6788: 6, 68889: 7, 2677889: 8, 26888999: 9, 3778888999: 10, maxLeast: 1} {
		steps, ok := impl.ProductSteps(n)
		wantNumber(t, fmt.Sprint("ProductSteps ", n), steps, ok, want, true)
	}
}

// digitTexts are all texts of so many digits that rise.
func digitTexts(digits int) []string {
	var texts []string
	for _, n := range orderedNumbers(digits, false) {
		texts = append(texts, readingText(n, digits))
	}
	slices.Sort(texts)
	return texts
}

// multipleBySets goes back from the rest 0: for each number of digits it lists the rests from which so many more lead there.
// Then it takes the least digit each time. A multiple has no more digits than there are rests, or it could leave some out.
func multipleBySets(n int, digits string) (string, bool) {
	leads := [][]bool{make([]bool, n)}
	leads[0][0] = true
	for size := 1; size <= n; size++ {
		behind := leads[size-1]
		row := make([]bool, n)
		for rest := range row {
			for _, r := range digits {
				row[rest] = row[rest] || behind[(10*rest+int(r-'0'))%n]
			}
		}
		leads = append(leads, row)
		for _, r := range digits {
			if rest := int(r-'0') % n; r != '0' && behind[rest] {
				return string(r) + endBySets(n, digits, rest, leads[:size-1]), true
			}
		}
	}
	return "", false
}

func endBySets(n int, digits string, rest int, leads [][]bool) string {
	text := ""
	for size := len(leads) - 1; size >= 0; size-- {
		for _, r := range digits {
			if next := (10*rest + int(r-'0')) % n; leads[size][next] {
				text, rest = text+string(r), next
				break
			}
		}
	}
	return text
}

func wantMultiple(t *testing.T, n int, digits string) {
	t.Helper()
	want, wantOk := multipleBySets(n, digits)
	got, ok := impl.LeastMultiple(n, digits)
	wantText(t, fmt.Sprint("LeastMultiple ", n, " ", digits), got, ok, want, wantOk)
}

// TestListedMultiples is promise 8 for multiples: they are listed one by one, and those looked for of which all digits are in the text.
func TestListedMultiples(t *testing.T) {
	for n := 1; n <= 12; n++ {
		for digits := 1; digits <= 10; digits++ {
			for _, text := range digitTexts(digits) {
				want, wantOk := multipleBySets(n, text)
				listed := 0
				for number := n; number < 3000 && listed == 0; number += n {
					if strings.Trim(textOf(number), text) == "" {
						listed = number
					}
				}
				if listed > 0 && want != textOf(listed) || listed == 0 && wantOk && len(want) < 4 {
					t.Errorf("%d %s: %d, by sets %q", n, text, listed, want)
				}
				wantMultiple(t, n, text)
			}
		}
	}
}

func TestMultiples(t *testing.T) {
	for n := 1; n <= maxDivisor; n++ {
		for digits := 1; digits <= 2; digits++ {
			for _, text := range digitTexts(digits) {
				wantMultiple(t, n, text)
			}
		}
		for digits := 3; digits <= 10; digits++ {
			texts := digitTexts(digits)
			wantMultiple(t, n, texts[(n*7919+digits)%len(texts)])
		}
		got, ok := impl.LeastMultiple(n, "0123456789")
		wantText(t, fmt.Sprint("LeastMultiple ", n), got, ok, textOf(n), true)
		got, ok = impl.LeastMultiple(n, "0")
		wantText(t, fmt.Sprint("LeastMultiple of 0 ", n), got, ok, "", false)
	}
	for _, row := range []struct {
		n            int
		digits, want string
	}{
		{1, "01", "1"}, {1, "9", "9"}, {7, "01", "1001"}, {7, "1", "111111"}, {2, "1", ""}, {5, "12346789", ""}, {10, "123456789", ""}, {10, "05", "50"}, {12, "4", "444"}, {12, "8", "888"},
		{6, "3", ""}, {6, "03", "30"}, {99, "01", "111111111111111111"}, {396, "0", ""}, {400, "01", "10000"}, {400, "02", "2000"}, {400, "04", "400"}, {400, "2468", ""}, {16, "2", ""}, {16, "12", "112"}, {9, "1", "111111111"},
		{397, "0123456789", "397"}, {383, "1", strings.Repeat("1", 382)}, {389, "7", strings.Repeat("7", 388)}, {333, "3", "333"}, {333, "1", "111111111"}, {396, "04", strings.Repeat("4", 18)}, {396, "4", strings.Repeat("4", 18)},
	} {
		got, ok := impl.LeastMultiple(row.n, row.digits)
		wantText(t, fmt.Sprint("LeastMultiple ", row.n, " ", row.digits), got, ok, row.want, row.want != "")
	}
}

// TestMultiplesAreMultiples reckons with the whole number, which may have some hundred digits.
func TestMultiplesAreMultiples(t *testing.T) {
	longest := 0
	for n := 1; n <= maxDivisor; n++ {
		for _, digits := range []string{"1", "3", "7", "9", "01", "09", "19", "12", "89", "678"} {
			text, ok := impl.LeastMultiple(n, digits)
			if !ok {
				continue
			}
			number, isNumber := new(big.Int).SetString(text, 10)
			if !isNumber || number.Sign() <= 0 || new(big.Int).Mod(number, big.NewInt(int64(n))).Sign() != 0 || strings.Trim(text, digits) != "" || text[0] == '0' {
				t.Errorf("LeastMultiple %d %s: %s", n, digits, text)
			}
			longest = max(longest, len(text))
		}
	}
	if longest < 388 {
		t.Error("the longest one has", longest, "digits")
	}
}

// TestDigitsForMultiples looks at all texts with one digit, and then at those with more.
func TestDigitsForMultiples(t *testing.T) {
	for n := 1; n <= maxDivisor; n++ {
		want := ""
		for digits := 1; want == ""; digits++ {
			for _, text := range digitTexts(digits) {
				if _, ok := multipleBySets(n, text); ok {
					want = text
					break
				}
			}
		}
		got, ok := impl.DigitsForMultiple(n)
		wantText(t, fmt.Sprint("DigitsForMultiple ", n), got, ok, want, true)
	}
	for n, want := range map[int]string{1: "1", 2: "2", 3: "1", 4: "4", 5: "5", 6: "2", 7: "1", 8: "8", 10: "01", 12: "4", 14: "2", 15: "5", 16: "01", 20: "01", 24: "8", 25: "01", 35: "5", 64: "01", 396: "4", 399: "1", 400: "01"} {
		got, ok := impl.DigitsForMultiple(n)
		wantText(t, fmt.Sprint("DigitsForMultiple ", n), got, ok, want, true)
	}
}

// restsOfOnes has what is left of 0, 1, 2, .. ones, until it begins to come again, and from where on.
func restsOfOnes(n int) ([]int, int) {
	rests := []int{0}
	for {
		next := (10*rests[len(rests)-1] + 1) % n
		if from := slices.Index(rests, next); from >= 0 {
			return rests, from
		}
		rests = append(rests, next)
	}
}

func TestOnes(t *testing.T) {
	manyOnes := append(largeOnes(), maxLeast)
	for ones := 1; ones <= 900; ones++ {
		manyOnes = append(manyOnes, ones)
	}
	for n := 1; n <= maxDivisor; n++ {
		rests, from := restsOfOnes(n)
		want := 0
		if from == 0 {
			want = len(rests) // as many as bring back 0, with which no ones begin
		}
		got, ok := impl.OnesFor(n)
		wantNumber(t, fmt.Sprint("OnesFor ", n), got, ok, want, n%2 != 0 && n%5 != 0)
		for _, ones := range manyOnes {
			want = ones
			if ones >= len(rests) {
				want = from + (ones-from)%(len(rests)-from)
			}
			rest, ok := impl.RestOfOnes(n, ones)
			if rest != rests[want] || !ok {
				t.Errorf("RestOfOnes %d %d: %d %v, want %d", n, ones, rest, ok, rests[want])
			}
		}
	}
	for n, want := range map[int]int{1: 1, 3: 3, 7: 6, 9: 9, 11: 2, 13: 6, 37: 3, 41: 5, 81: 81, 99: 18, 271: 5, 333: 9, 399: 18, 2: 0, 5: 0, 10: 0, 15: 0, 400: 0} {
		got, ok := impl.OnesFor(n)
		wantNumber(t, fmt.Sprint("OnesFor ", n), got, ok, want, want > 0)
	}
	for _, row := range [][3]int{{1, 1, 0}, {1, maxLeast, 0}, {400, 1, 1}, {400, 2, 11}, {400, 3, 111}, {400, 4, 311}, {400, maxLeast, 311}, {10, maxLeast, 1}, {9, maxLeast, 1}, {7, 6, 0}, {7, 5, 2}, {11, maxLeast, 0}, {11, maxLeast - 1, 1}} {
		rest, ok := impl.RestOfOnes(row[0], row[1])
		wantNumber(t, fmt.Sprint("RestOfOnes ", row[0], " ", row[1]), rest, ok, row[2], true)
	}
}

// TestSumsThatDivide goes on to each next number that its digit sum divides.
func TestSumsThatDivide(t *testing.T) {
	want := 1
	for n := range 60000 {
		for want < n || want%digitSum(textOf(want)) != 0 {
			want++
		}
		got, ok := impl.SumDivides(n)
		wantNumber(t, fmt.Sprint("SumDivides ", n), got, ok, want, true)
	}
	for _, n := range append(manyTens(), maxLeast-100, maxLeast-1000) {
		got, ok := impl.SumDivides(n)
		want := max(n, 1)
		for want%digitSum(textOf(want)) != 0 {
			want++
		}
		wantNumber(t, fmt.Sprint("SumDivides ", n), got, ok, want, true)
	}
	for n, want := range map[int]int{0: 1, 1: 1, 10: 10, 11: 12, 13: 18, maxLeast: maxLeast, maxLeast - 1: maxLeast} {
		got, ok := impl.SumDivides(n)
		wantNumber(t, fmt.Sprint("SumDivides ", n), got, ok, want, true)
	}
}

// ofOneNumber are the functions that take one number of the chapter.
func ofOneNumber() map[string]func(int) (int, bool) {
	return map[string]func(int) (int, bool){
		"NextWithSum": impl.NextWithSum, "LastWithSum": impl.LastWithSum, "NextSameDigits": impl.NextSameDigits, "LastSameDigits": impl.LastSameDigits,
		"LeastSameDigits": impl.LeastSameDigits, "GreatestSameDigits": impl.GreatestSameDigits, "ProductOfDigits": impl.ProductOfDigits, "ProductSteps": impl.ProductSteps, "SumDivides": impl.SumDivides,
	}
}

// TestTheNumberZero: 0 has one digit, no number beside it has its sum, and its digit sum does not divide it.
func TestTheNumberZero(t *testing.T) {
	for what, want := range map[string][2]int{"NextWithSum": {0, 0}, "LastWithSum": {0, 0}, "NextSameDigits": {0, 0}, "LastSameDigits": {0, 0}, "LeastSameDigits": {0, 1}, "GreatestSameDigits": {0, 1}, "ProductOfDigits": {0, 1}, "ProductSteps": {0, 1}, "SumDivides": {1, 1}} {
		got, ok := ofOneNumber()[what](0)
		wantNumber(t, what+" 0", got, ok, want[0], want[1] == 1)
	}
}

// TestNoNumbersOfLeast is promise 11 for arguments that are out of bounds.
func TestNoNumbersOfLeast(t *testing.T) {
	for what, ask := range ofOneNumber() {
		for _, n := range noNumbers {
			got, ok := ask(n)
			wantNumber(t, fmt.Sprint(what, " ", n), got, ok, 0, false)
		}
	}
	for _, product := range noProducts {
		got, ok := impl.LeastWithProduct(product)
		wantNumber(t, fmt.Sprint("LeastWithProduct ", product), got, ok, 0, false)
		for _, sum := range append([]int{0, 1, 10, maxSum}, noSums...) {
			got, ok = impl.LeastBoth(sum, product)
			wantNumber(t, fmt.Sprint("LeastBoth ", sum, " ", product), got, ok, 0, false)
		}
	}
	for _, sum := range noSums {
		got, ok := impl.LeastWithSum(sum)
		wantNumber(t, fmt.Sprint("LeastWithSum ", sum), got, ok, 0, false)
		for _, product := range []int{1, 2, 24, maxLeast} {
			got, ok = impl.LeastBoth(sum, product)
			wantNumber(t, fmt.Sprint("LeastBoth ", sum, " ", product), got, ok, 0, false)
		}
		for _, digits := range append([]int{1, 2, 6, 12}, noLengths...) {
			wantNothingOfLength(t, digits, sum)
		}
	}
	for _, digits := range noLengths {
		for sum := 0; sum <= maxSum; sum += 4 {
			wantNothingOfLength(t, digits, sum)
			wantNothingOfLength(t, digits, sum+1)
		}
	}
}

func wantNothingOfLength(t *testing.T, digits int, sum int) {
	t.Helper()
	for what, ask := range map[string]func(int, int) (int, bool){"LeastOfDigits": impl.LeastOfDigits, "GreatestOfDigits": impl.GreatestOfDigits, "CountOfDigits": impl.CountOfDigits} {
		got, ok := ask(digits, sum)
		wantNumber(t, fmt.Sprint(what, " ", digits, " ", sum), got, ok, 0, false)
	}
}

func wantNoMultiple(t *testing.T, n int, digits string) {
	t.Helper()
	text, ok := impl.LeastMultiple(n, digits)
	wantText(t, fmt.Sprintf("LeastMultiple %d %.20q", n, digits), text, ok, "", false)
}

func TestNoDivisors(t *testing.T) {
	for _, n := range noDivisors {
		for _, digits := range append([]string{"0", "1", "01", "9", "0123456789"}, noDigitTexts...) {
			wantNoMultiple(t, n, digits)
		}
		text, ok := impl.DigitsForMultiple(n)
		wantText(t, fmt.Sprint("DigitsForMultiple ", n), text, ok, "", false)
		got, ok := impl.OnesFor(n)
		wantNumber(t, fmt.Sprint("OnesFor ", n), got, ok, 0, false)
		for _, ones := range append([]int{0, 1, 6, maxLeast}, noNumbers...) {
			got, ok = impl.RestOfOnes(n, ones)
			wantNumber(t, fmt.Sprint("RestOfOnes ", n, " ", ones), got, ok, 0, false)
		}
	}
	for _, n := range []int{1, 2, 7, 10, 399, 400} {
		for _, digits := range noDigitTexts {
			wantNoMultiple(t, n, digits)
		}
		for sign := range 256 {
			if sign < '0' || sign > '9' {
				wantNoMultiple(t, n, string([]byte{byte(sign)}))
				wantNoMultiple(t, n, "1"+string([]byte{byte(sign)}))
				wantNoMultiple(t, n, string([]byte{byte(sign)})+"8")
			}
		}
		for _, ones := range append([]int{0}, noNumbers...) {
			got, ok := impl.RestOfOnes(n, ones)
			wantNumber(t, fmt.Sprint("RestOfOnes ", n, " ", ones), got, ok, 0, false)
		}
	}
}

// TestDigitTextsAreLeftAlone lends a part of a list of bytes as a text: nothing is written into the list, and no result is a part of it.
func TestDigitTextsAreLeftAlone(t *testing.T) {
	for _, digits := range []string{"0", "1", "7", "01", "19", "0123456789", "", "10", "1?"} {
		for _, n := range []int{0, 1, 7, 10, 99, 383, 400} {
			room := []byte("<" + digits + ">99")
			kept := slices.Clone(room)
			want, wantOk := impl.LeastMultiple(n, digits)
			got, ok := impl.LeastMultiple(n, unsafe.String(&room[1], len(digits)))
			if !slices.Equal(room, kept) {
				t.Fatalf("LeastMultiple %d: %q is %q now", n, kept, room)
			}
			for i := range room {
				room[i] = '#'
			}
			wantText(t, fmt.Sprint("LeastMultiple of a lent text ", n, " ", digits), got, ok, want, wantOk)
		}
	}
}

// TestDigitsForMultipleAgain: neither the order of goroutines nor other calls change a result, and none of them is left.
func TestDigitsForMultipleAgain(t *testing.T) {
	before := runtime.NumGoroutine()
	var calls sync.WaitGroup
	for range 8 {
		calls.Add(1)
		go func() {
			defer calls.Done()
			for range 300 {
				for n, want := range map[int]string{1: "1", 3: "1", 8: "8", 10: "01", 14: "2", 33: "1", 37: "1"} {
					got, ok := impl.DigitsForMultiple(n)
					wantText(t, fmt.Sprint("DigitsForMultiple ", n), got, ok, want, true)
				}
			}
		}()
	}
	calls.Wait()
	for range 1000000 {
		if runtime.NumGoroutine() <= before {
			return
		}
		runtime.Gosched()
	}
	t.Errorf("%d goroutines, %d before", runtime.NumGoroutine(), before)
}

func TestExampleOfLeastNumbers(t *testing.T) {
	wantOfDigits(t, 4, 20, 1199, 9920, 597)
	wantBesideSum(t, 1199, 992, 1289)
	for _, row := range []struct {
		what string
		ask  func(int) (int, bool)
		n    int
		want int
	}{
		{"LeastWithSum", impl.LeastWithSum, 20, 299}, {"NextSameDigits", impl.NextSameDigits, 1342, 1423}, {"LastSameDigits", impl.LastSameDigits, 1342, 1324}, {"LeastSameDigits", impl.LeastSameDigits, 3020, 2003},
		{"LeastWithProduct", impl.LeastWithProduct, 36, 49}, {"LeastWithProduct", impl.LeastWithProduct, 14, 27}, {"ProductSteps", impl.ProductSteps, 39, 3}, {"OnesFor", impl.OnesFor, 7, 6}, {"SumDivides", impl.SumDivides, 13, 18},
	} {
		got, ok := row.ask(row.n)
		wantNumber(t, fmt.Sprint(row.what, " ", row.n), got, ok, row.want, true)
	}
	got, ok := impl.LeastWithProduct(11)
	wantNumber(t, "LeastWithProduct 11", got, ok, 0, false)
	for i, n := range []int{39, 27, 14} {
		got, ok = impl.ProductOfDigits(n)
		wantNumber(t, fmt.Sprint("ProductOfDigits ", n), got, ok, []int{27, 14, 4}[i], true)
	}
	text, ok := impl.LeastMultiple(7, "01")
	wantText(t, "LeastMultiple 7 01", text, ok, "1001", true)
	text, ok = impl.DigitsForMultiple(12)
	wantText(t, "DigitsForMultiple 12", text, ok, "4", true)
	text, ok = impl.LeastMultiple(12, text)
	wantText(t, "LeastMultiple 12 4", text, ok, "444", true)
	got, ok = impl.LeastBoth(10, 24)
	wantNumber(t, "LeastBoth 10 24", got, ok, 46, true)
}

func TestLimitsOfLeastNumbers(t *testing.T) {
	if impl.MaxLeast != maxLeast || impl.MaxLeastDigits != maxLeastDigits || impl.MaxDivisor != maxDivisor {
		t.Error(impl.MaxLeast, impl.MaxLeastDigits, impl.MaxDivisor)
	}
}
