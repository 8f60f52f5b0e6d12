package tests

import (
	"fmt"
	"math"
	"slices"
	"testing"

	"loop.example/g01395/impl"
)

// The signatures of chapter 4 are those that the document declares.
var (
	_ func(int, int) (int, bool)      = impl.BalancedHouse
	_ func(int) ([][]int, bool)       = impl.BalancedStreets
	_ func(int) ([][]int, bool)       = impl.BalancedOdd
	_ func(int, int, int) (int, bool) = impl.SumLeft
	_ func(int, int, int) (int, bool) = impl.SumRight
	_ func(int, int, int) (int, bool) = impl.SumOfHouses
	_ func(int) ([][]int, bool)       = impl.RunsWithSum
	_ func(int) (int, bool)           = impl.CountRuns
	_ func(int) (int, int, bool)      = impl.LongestRun
	_ func(int) ([][]int, bool)       = impl.RunsOnSide
	_ func(int) (int, int, bool)      = impl.MissingHouse
	_ func(int) (int, bool)           = impl.StreetOfSum
	_ func(int, int) (int, bool)      = impl.LastForSum
	_ func(int) (int, bool)           = impl.OppositeOdd
	_ func(int, int) (int, bool)      = impl.OppositeAround
	_ func(int, int) (int, int, bool) = impl.NeighbourSums
	_ func(int, int) (int, bool)      = impl.DoubleSum
	_ func(int) ([]int, bool)         = impl.SquareStreets
	_ func(int, int) (int, int, bool) = impl.MiddleHouse
)

const (
	maxHouse  = 1000000
	maxRunSum = 1000000
)

// noHouses are numbers that are no houses, and no sums of runs either. The ones near to the ends
// of int show what is reckoned with a number before it is looked at.
var noHouses = []int{math.MinInt, math.MinInt + 1, -maxHouse, -2, -1, 0, maxHouse + 1, maxHouse + 2, 2 * maxHouse, 1 << 32, 1<<32 + 1, math.MaxInt - 1, math.MaxInt}

// allBalanced and allBalancedOdd are all that there are up to MaxHouse.
var (
	allBalanced    = [][]int{{1, 1}, {6, 8}, {35, 49}, {204, 288}, {1189, 1681}, {6930, 9800}, {40391, 57121}, {235416, 332928}}
	allBalancedOdd = [][]int{{1, 1}, {7, 9}, {41, 57}, {239, 337}, {1393, 1969}, {8119, 11481}, {47321, 66921}, {275807, 390049}}
)

// sumByStep adds the numbers one by one.
func sumByStep(first int, last int, step int) int {
	sum := 0
	for house := first; house <= last; house += step {
		sum += house
	}
	return sum
}

// houseWith returns the house of a street for which something is so. There must be one at most.
func houseWith(t *testing.T, first int, last int, step int, is func(house int) bool) (int, bool) {
	t.Helper()
	found := 0
	for house := first; house <= last; house += step {
		if is(house) && found > 0 {
			t.Fatal("two houses", first, last, found, house)
		}
		if is(house) {
			found = house
		}
	}
	return found, found > 0
}

func balancedByStep(t *testing.T, first int, last int, step int) (int, bool) {
	t.Helper()
	return houseWith(t, first, last, step, func(house int) bool {
		return sumByStep(first, house-step, step) == sumByStep(house+step, last, step)
	})
}

func wantTwo(t *testing.T, what string, a int, b int, ok bool, wantA int, wantB int, wantOk bool) {
	t.Helper()
	if a != wantA || b != wantB || ok != wantOk {
		t.Errorf("%s: %d %d %v, want %d %d %v", what, a, b, ok, wantA, wantB, wantOk)
	}
}

func wantPairs(t *testing.T, what string, got [][]int, ok bool, want [][]int, wantOk bool) {
	t.Helper()
	if !slices.EqualFunc(got, want, slices.Equal) || ok != wantOk {
		t.Errorf("%s: %v %v, want %v %v", what, got, ok, want, wantOk)
	}
}

// wantStreet checks what is told of a street against its houses, one by one.
func wantStreet(t *testing.T, first int, last int) {
	t.Helper()
	what := fmt.Sprintf(" %d %d", first, last)
	want, wantOk := balancedByStep(t, first, last, 1)
	got, ok := impl.BalancedHouse(first, last)
	wantNumber(t, "BalancedHouse"+what, got, ok, want, wantOk)
	all := sumByStep(first, last, 1)
	want, wantOk = houseWith(t, first, last, 1, func(house int) bool { return 2*sumByStep(first, house, 1) == all })
	got, ok = impl.DoubleSum(first, last)
	wantNumber(t, "DoubleSum"+what, got, ok, want, wantOk)
	for house := first; house <= last; house++ {
		got, ok = impl.SumLeft(first, last, house)
		wantNumber(t, fmt.Sprint("SumLeft", what, " ", house), got, ok, sumByStep(first, house-1, 1), true)
		got, ok = impl.SumRight(first, last, house)
		wantNumber(t, fmt.Sprint("SumRight", what, " ", house), got, ok, sumByStep(house+1, last, 1), true)
	}
	for _, step := range []int{1, 2, 3, 4, 5, 7, 10, max(1, last-first), last - first + 1, last, maxHouse - 1, maxHouse} {
		got, ok = impl.SumOfHouses(first, last, step)
		wantNumber(t, fmt.Sprint("SumOfHouses", what, " ", step), got, ok, sumByStep(first, last, step), true)
	}
	wantMiddle(t, first, last)
}

// wantMiddle checks the mean number by the sum and the number of all houses.
func wantMiddle(t *testing.T, first int, last int) {
	t.Helper()
	above, below, ok := impl.MiddleHouse(first, last)
	if !ok || below < 1 || above*(last-first+1) != below*sumByStep(first, last, 1) {
		t.Errorf("MiddleHouse %d %d: %d %d %v", first, last, above, below, ok)
	}
	for divisor := 2; divisor <= below; divisor++ {
		if above%divisor == 0 && below%divisor == 0 {
			t.Errorf("MiddleHouse %d %d: %d %d is not in lowest terms", first, last, above, below)
		}
	}
}

// TestStreetsAgainstTheirHouses is promise 4 for balanced houses: all short streets at both ends of the bounds.
func TestStreetsAgainstTheirHouses(t *testing.T) {
	for first := 1; first <= 50; first++ {
		for last := first; last <= 50; last++ {
			wantStreet(t, first, last)
		}
	}
	for first := maxHouse - 12; first <= maxHouse; first++ {
		for last := first; last <= maxHouse; last++ {
			wantStreet(t, first, last)
		}
	}
	wantStreet(t, 1, 288)
	wantStreet(t, 15, 119)
}

// TestSingleHouses: a street of one house has nothing left or right of it, so that the house is balanced.
func TestSingleHouses(t *testing.T) {
	for _, house := range []int{1, 2, 3, 7, 8, 1000, 999999, maxHouse} {
		what := fmt.Sprint(" of ", house, " alone")
		got, ok := impl.BalancedHouse(house, house)
		wantNumber(t, "BalancedHouse"+what, got, ok, house, true)
		got, ok = impl.SumLeft(house, house, house)
		wantNumber(t, "SumLeft"+what, got, ok, 0, true)
		got, ok = impl.SumRight(house, house, house)
		wantNumber(t, "SumRight"+what, got, ok, 0, true)
		got, ok = impl.DoubleSum(house, house)
		wantNumber(t, "DoubleSum"+what, got, ok, 0, false)
		above, below, ok := impl.MiddleHouse(house, house)
		wantTwo(t, "MiddleHouse"+what, above, below, ok, house, 1, true)
		for _, step := range []int{1, 2, house, maxHouse} {
			got, ok = impl.SumOfHouses(house, house, step)
			wantNumber(t, fmt.Sprint("SumOfHouses", what, " ", step), got, ok, house, true)
		}
		got, ok = impl.LastForSum(house, 1)
		wantNumber(t, "LastForSum"+what, got, ok, house, true)
	}
	one := [][]int{{1, 1}}
	streets, ok := impl.BalancedStreets(1)
	wantPairs(t, "BalancedStreets 1", streets, ok, one, true)
	streets, ok = impl.BalancedOdd(1)
	wantPairs(t, "BalancedOdd 1", streets, ok, one, true)
	squares, ok := impl.SquareStreets(1)
	wantList(t, "SquareStreets 1", squares, ok, []int{1}, true)
	last, ok := impl.StreetOfSum(1)
	wantNumber(t, "StreetOfSum 1", last, ok, 1, true)
}

// sumUpTo is the sum of all houses from 1 on.
func sumUpTo(last int) int { return last * (last + 1) / 2 }

// rootOf returns the number whose product with itself, and with more by more, is just so much.
func rootOf(product int, more int) (int, bool) {
	root := int(math.Sqrt(float64(product)))
	for root*(root+more) > product {
		root--
	}
	return root, root*(root+more) == product
}

// TestLongStreets goes through all streets with some last houses, by the sums from 1 on up to the last house and
// up to the one before the first: both together are the square of a balanced house, and twice the sum up to a double one.
func TestLongStreets(t *testing.T) {
	balanced, double := 0, 0
	wantRoot := func(what string, got int, ok bool, product int, more int) int {
		root, isThere := rootOf(product, more)
		if !isThere {
			wantNumber(t, what, got, ok, 0, false)
			return 0
		}
		wantNumber(t, what, got, ok, root, true)
		return 1
	}
	for _, last := range []int{4999, 9800, 23660, 332928, 803760, maxHouse - 1, maxHouse} {
		for first := 1; first <= last; first++ {
			product := sumUpTo(last) + sumUpTo(first-1)
			got, ok := impl.BalancedHouse(first, last)
			balanced += wantRoot("BalancedHouse", got, ok, product, 0)
			got, ok = impl.DoubleSum(first, last)
			double += wantRoot("DoubleSum", got, ok, product, 1)
		}
	}
	if balanced < 20 || double < 20 {
		t.Error("too few streets with a balanced house, or with a double sum: ", balanced, double)
	}
}

// TestSumsOfLongStreets: sums that are far greater than MaxHouse and MaxRunSum are no limit.
func TestSumsOfLongStreets(t *testing.T) {
	for _, step := range []int{1, 2, 3, 7, 1000, 333333, 499999, 500000, 999998, 999999, maxHouse} {
		for _, ends := range [][2]int{{1, maxHouse}, {2, maxHouse}, {1, maxHouse - 1}, {3, 999997}, {500000, maxHouse}} {
			got, ok := impl.SumOfHouses(ends[0], ends[1], step)
			wantNumber(t, fmt.Sprint("SumOfHouses ", ends, " ", step), got, ok, sumByStep(ends[0], ends[1], step), true)
		}
	}
	for _, house := range []int{1, 2, 3, 1000, 500000, 999998, 999999, maxHouse} {
		got, ok := impl.SumLeft(1, maxHouse, house)
		wantNumber(t, fmt.Sprint("SumLeft ", house), got, ok, sumByStep(1, house-1, 1), true)
		got, ok = impl.SumRight(1, maxHouse, house)
		wantNumber(t, fmt.Sprint("SumRight ", house), got, ok, sumByStep(house+1, maxHouse, 1), true)
	}
	above, below, ok := impl.MiddleHouse(1, maxHouse)
	wantTwo(t, "MiddleHouse", above, below, ok, maxHouse+1, 2, true)
	above, below, ok = impl.MiddleHouse(2, maxHouse)
	wantTwo(t, "MiddleHouse", above, below, ok, maxHouse/2+1, 1, true)
}

// upTo returns the pairs whose last house is not behind most.
func upTo(pairs [][]int, most int) [][]int {
	return slices.DeleteFunc(slices.Clone(pairs), func(pair []int) bool { return pair[1] > most })
}

func lastsOf(pairs [][]int) []int {
	var lasts []int
	for _, pair := range pairs {
		lasts = append(lasts, pair[1])
	}
	return lasts
}

// TestBalancedStreetsAgainstTheirHouses looks for the balanced houses of all streets and sides from 1 on up to some hundreds.
func TestBalancedStreetsAgainstTheirHouses(t *testing.T) {
	var streets, sides [][]int
	var squares []int
	for last := 1; last <= 400; last++ {
		if house, ok := balancedByStep(t, 1, last, 1); ok {
			streets = append(streets, []int{house, last})
		}
		if house, ok := balancedByStep(t, 1, last, 2); ok && last%2 == 1 {
			sides = append(sides, []int{house, last})
		}
		for root := 1; root <= last; root++ {
			if root*root == sumByStep(1, last, 1) {
				squares = append(squares, last)
			}
		}
		what := fmt.Sprint(" ", last)
		got, ok := impl.BalancedStreets(last)
		wantPairs(t, "BalancedStreets"+what, got, ok, streets, true)
		got, ok = impl.BalancedOdd(last)
		wantPairs(t, "BalancedOdd"+what, got, ok, sides, true)
		list, ok := impl.SquareStreets(last)
		wantList(t, "SquareStreets"+what, list, ok, squares, true)
	}
}

// TestBalancedStreetsUpToTheLimit asks just before, at and behind each last house, and at MaxHouse.
func TestBalancedStreetsUpToTheLimit(t *testing.T) {
	mosts := []int{maxHouse / 2, maxHouse - 1, maxHouse}
	for _, last := range slices.Concat(lastsOf(allBalanced), lastsOf(allBalancedOdd)) {
		mosts = append(mosts, max(1, last-1), last, last+1)
	}
	for _, most := range mosts {
		what := fmt.Sprint(" ", most)
		got, ok := impl.BalancedStreets(most)
		wantPairs(t, "BalancedStreets"+what, got, ok, upTo(allBalanced, most), true)
		got, ok = impl.BalancedOdd(most)
		wantPairs(t, "BalancedOdd"+what, got, ok, upTo(allBalancedOdd, most), true)
		list, ok := impl.SquareStreets(most)
		wantList(t, "SquareStreets"+what, list, ok, lastsOf(upTo(allBalanced, most)), true)
	}
	for _, pair := range allBalanced {
		house, ok := impl.BalancedHouse(1, pair[1])
		wantNumber(t, fmt.Sprint("BalancedHouse 1 ", pair[1]), house, ok, pair[0], true)
		left, fine := impl.SumLeft(1, pair[1], house)
		right, ok := impl.SumRight(1, pair[1], house)
		wantNumber(t, fmt.Sprint("SumLeft and SumRight ", pair), left, fine && ok, right, true)
	}
	for _, pair := range allBalancedOdd {
		left := sumByStep(1, pair[0]-2, 2)
		if right := sumByStep(pair[0]+2, pair[1], 2); left != right {
			t.Errorf("BalancedOdd %v: %d left, %d right", pair, left, right)
		}
	}
}

// runsByStep goes along all houses with a window that is made longer while its sum is too small. The first houses are of one side if the step is 2.
func runsByStep(sum int, step int) [][]int {
	var runs [][]int
	for side := 1; side <= step; side++ {
		total, last := 0, side
		for first := side; first < sum && first <= maxHouse; first += step {
			for total < sum && last <= maxHouse {
				total += last
				last += step
			}
			if total == sum && last-step > first {
				runs = append(runs, []int{first, last - step})
			}
			total -= first
		}
	}
	slices.SortFunc(runs, slices.Compare)
	return runs
}

// wantRuns checks all that is told of the runs with a sum.
func wantRuns(t *testing.T, sum int) {
	t.Helper()
	what := fmt.Sprint(" ", sum)
	want := runsByStep(sum, 1)
	got, ok := impl.RunsWithSum(sum)
	wantPairs(t, "RunsWithSum"+what, got, ok, want, true)
	n, ok := impl.CountRuns(sum)
	wantNumber(t, "CountRuns"+what, n, ok, len(want), true)
	longest := []int{0, 0}
	for _, run := range want {
		if longest[0] == 0 || run[1]-run[0] > longest[1]-longest[0] {
			longest = run
		}
	}
	first, last, ok := impl.LongestRun(sum)
	wantTwo(t, "LongestRun"+what, first, last, ok, longest[0], longest[1], len(want) > 0)
	got, ok = impl.RunsOnSide(sum)
	wantPairs(t, "RunsOnSide"+what, got, ok, runsByStep(sum, 2), true)
}

// TestRunsAgainstAllHouses is promise 4 for runs: all small sums, and some up to MaxRunSum, with many runs, with few, and with none.
func TestRunsAgainstAllHouses(t *testing.T) {
	for sum := 1; sum <= 600; sum++ {
		wantRuns(t, sum)
	}
	for _, sum := range []int{1023, 1024, 1025, 65535, 65536, 499500, 500500, 524288, 675675, 720720, 765765, 999000, 999983, 999997, 999998, 999999, maxRunSum} {
		wantRuns(t, sum)
	}
}

// TestSumsWithoutRuns: the powers of 2 have no runs, and every other sum has one. On a side, primes and 1 have none.
func TestSumsWithoutRuns(t *testing.T) {
	for sum := 1; sum <= 3000; sum++ {
		isPower := sum&(sum-1) == 0
		n, ok := impl.CountRuns(sum)
		if !ok || (n == 0) != isPower {
			t.Errorf("CountRuns %d: %d %v", sum, n, ok)
		}
		if _, _, ok := impl.LongestRun(sum); ok == isPower {
			t.Errorf("LongestRun %d: %v", sum, ok)
		}
	}
	for _, sum := range []int{1, 2, 3, 5, 101, 65537, 999983} {
		got, ok := impl.RunsOnSide(sum)
		wantPairs(t, fmt.Sprint("RunsOnSide ", sum), got, ok, nil, true)
	}
	for _, sum := range []int{1, 2, 4, 65536, 524288} {
		got, ok := impl.RunsWithSum(sum)
		wantPairs(t, fmt.Sprint("RunsWithSum ", sum), got, ok, nil, true)
		first, last, ok := impl.LongestRun(sum)
		wantTwo(t, fmt.Sprint("LongestRun ", sum), first, last, ok, 0, 0, false)
	}
}

// shortestWithout looks through all streets from 1 on and all their houses.
func shortestWithout(sum int) (int, int) {
	for last := 2; ; last++ {
		for missing := 1; missing <= last; missing++ {
			if sumUpTo(last)-missing == sum {
				return last, missing
			}
		}
	}
}

func TestMissingHouse(t *testing.T) {
	sums := []int{5049, 5050, 5051, 499999, 500500, 999998, 998991, 998990, 999999, maxRunSum}
	for sum := 1; sum <= 500; sum++ {
		sums = append(sums, sum)
	}
	for _, sum := range sums {
		wantLast, wantMissing := shortestWithout(sum)
		last, missing, ok := impl.MissingHouse(sum)
		wantTwo(t, fmt.Sprint("MissingHouse ", sum), last, missing, ok, wantLast, wantMissing, true)
	}
	// the first one of all, and streets whose last house is missing
	for _, want := range [][3]int{{1, 2, 2}, {2, 2, 1}, {3, 3, 3}, {5, 3, 1}, {6, 4, 4}, {36, 9, 9}} {
		last, missing, ok := impl.MissingHouse(want[0])
		wantTwo(t, fmt.Sprint("MissingHouse ", want[0]), last, missing, ok, want[1], want[2], true)
	}
}

// TestStreetOfSum asks for every sum.
func TestStreetOfSum(t *testing.T) {
	last := 1
	for sum := 1; sum <= maxRunSum; sum++ {
		if sumUpTo(last) < sum {
			last++
		}
		want, wantOk := last, sumUpTo(last) == sum
		if !wantOk {
			want = 0
		}
		if got, ok := impl.StreetOfSum(sum); got != want || ok != wantOk {
			t.Fatalf("StreetOfSum %d: %d %v, want %d %v", sum, got, ok, want, wantOk)
		}
	}
}

func TestLastForSum(t *testing.T) {
	firsts := []int{10, 11, 100, 707, 1414, 5000, 333333, 499999, 500000, 500001, 999998, 999999, maxHouse}
	for first := 1; first <= 9; first++ {
		firsts = append(firsts, first)
	}
	sums := []int{499999, 500000, 500001, 999996, 999997, 999998, 999999, maxRunSum}
	for sum := 1; sum <= 200; sum++ {
		sums = append(sums, sum)
	}
	for _, first := range firsts {
		for _, sum := range sums {
			total, last := first, first
			for total < sum {
				last++
				total += last
			}
			got, ok := impl.LastForSum(first, sum)
			wantNumber(t, fmt.Sprint("LastForSum ", first, " ", sum), got, ok, last, true)
		}
	}
}

// TestOppositeOdd: both houses are opposite to each other, two by two up to MaxHouse, which is even.
func TestOppositeOdd(t *testing.T) {
	for odd := 1; odd < maxHouse; odd += 2 {
		even, ok := impl.OppositeOdd(odd)
		back, fine := impl.OppositeOdd(odd + 1)
		if even != odd+1 || !ok || back != odd || !fine {
			t.Fatalf("OppositeOdd %d: %d %v, and %d %v", odd, even, ok, back, fine)
		}
	}
}

// aroundTheStreet lists the houses that stand opposite: those of one side going up, those of the other one coming back.
func aroundTheStreet(houses int) map[int]int {
	opposite := map[int]int{}
	back := houses
	for up := 1; up <= houses/2; up++ {
		opposite[up], opposite[back] = back, up
		back--
	}
	return opposite
}

func TestOppositeAround(t *testing.T) {
	for houses := 1; houses <= 40; houses++ {
		opposite := aroundTheStreet(houses)
		for house := -2; house <= houses+3; house++ {
			isThere := houses%2 == 0 && house >= 1 && house <= houses
			want := 0
			if isThere {
				want = opposite[house]
			}
			got, ok := impl.OppositeAround(houses, house)
			wantNumber(t, fmt.Sprint("OppositeAround ", houses, " ", house), got, ok, want, isThere)
		}
	}
	for _, want := range [][2]int{{1, maxHouse}, {2, 999999}, {500000, 500001}, {500001, 500000}, {maxHouse, 1}} {
		got, ok := impl.OppositeAround(maxHouse, want[0])
		wantNumber(t, fmt.Sprint("OppositeAround MaxHouse ", want[0]), got, ok, want[1], true)
	}
	got, ok := impl.OppositeAround(maxHouse-1, 1)
	wantNumber(t, "OppositeAround of an odd number of houses", got, ok, 0, false)
}

func TestNeighbourSums(t *testing.T) {
	for houses := 1; houses <= 30; houses++ {
		for house := -2; house <= houses+3; house++ {
			wantSum, wantMany := 0, 0
			isThere := houses >= 2 && house >= 1 && house <= houses
			for other := 1; other <= houses && isThere; other++ {
				if other-house == 1 || house-other == 1 {
					wantSum += other
					wantMany++
				}
			}
			sum, many, ok := impl.NeighbourSums(houses, house)
			wantTwo(t, fmt.Sprint("NeighbourSums ", houses, " ", house), sum, many, ok, wantSum, wantMany, isThere)
		}
	}
	for _, want := range [][3]int{{1, 2, 1}, {2, 4, 2}, {999999, 1999998, 2}, {maxHouse, 999999, 1}} {
		sum, many, ok := impl.NeighbourSums(maxHouse, want[0])
		wantTwo(t, fmt.Sprint("NeighbourSums MaxHouse ", want[0]), sum, many, ok, want[1], want[2], true)
	}
}

// wantNoStreet checks that all that takes a first and a last house fails.
func wantNoStreet(t *testing.T, first int, last int) {
	t.Helper()
	what := fmt.Sprintf(" %d %d", first, last)
	for name, ask := range map[string]func(int, int) (int, bool){"BalancedHouse": impl.BalancedHouse, "DoubleSum": impl.DoubleSum} {
		got, ok := ask(first, last)
		wantNumber(t, name+what, got, ok, 0, false)
	}
	for _, third := range []int{first, last, 1, 2, 5, maxHouse} {
		for name, ask := range map[string]func(int, int, int) (int, bool){"SumLeft": impl.SumLeft, "SumRight": impl.SumRight, "SumOfHouses": impl.SumOfHouses} {
			got, ok := ask(first, last, third)
			wantNumber(t, fmt.Sprint(name, what, " ", third), got, ok, 0, false)
		}
	}
	above, below, ok := impl.MiddleHouse(first, last)
	wantTwo(t, "MiddleHouse"+what, above, below, ok, 0, 0, false)
}

// TestNoStreets is promise 11 for streets: nothing panics for what is no street, and each call fails with zero values.
func TestNoStreets(t *testing.T) {
	for _, bad := range noHouses {
		for _, good := range []int{1, 2, 5, 1000, 999999, maxHouse} {
			wantNoStreet(t, bad, good)
			wantNoStreet(t, good, bad)
		}
		for _, other := range noHouses {
			wantNoStreet(t, bad, other)
		}
	}
	for _, ends := range [][2]int{{2, 1}, {3, 1}, {8, 1}, {9, 8}, {maxHouse, maxHouse - 1}, {maxHouse, 1}} {
		wantNoStreet(t, ends[0], ends[1])
	}
}

// TestHousesOutOfStreets: a house that the street does not have, and a step that is none.
func TestHousesOutOfStreets(t *testing.T) {
	for _, ends := range [][2]int{{1, 1}, {1, 8}, {4, 6}, {2, maxHouse}, {1, maxHouse}, {maxHouse, maxHouse}} {
		first, last := ends[0], ends[1]
		for _, house := range append([]int{first - 1, last + 1, first - 2, last + 2}, noHouses...) {
			what := fmt.Sprint(" ", ends, " ", house)
			got, ok := impl.SumLeft(first, last, house)
			wantNumber(t, "SumLeft"+what, got, ok, 0, false)
			got, ok = impl.SumRight(first, last, house)
			wantNumber(t, "SumRight"+what, got, ok, 0, false)
		}
		for _, step := range noHouses {
			got, ok := impl.SumOfHouses(first, last, step)
			wantNumber(t, fmt.Sprint("SumOfHouses ", ends, " ", step), got, ok, 0, false)
		}
	}
}

// TestNumbersOutOfBounds is promise 11 for all else that takes houses or sums.
func TestNumbersOutOfBounds(t *testing.T) {
	for _, bad := range noHouses {
		what := fmt.Sprint(" ", bad)
		for name, ask := range map[string]func(int) ([][]int, bool){"BalancedStreets": impl.BalancedStreets, "BalancedOdd": impl.BalancedOdd, "RunsWithSum": impl.RunsWithSum, "RunsOnSide": impl.RunsOnSide} {
			got, ok := ask(bad)
			wantPairs(t, name+what, got, ok, nil, false)
		}
		list, ok := impl.SquareStreets(bad)
		wantList(t, "SquareStreets"+what, list, ok, nil, false)
		for name, ask := range map[string]func(int) (int, bool){"CountRuns": impl.CountRuns, "StreetOfSum": impl.StreetOfSum, "OppositeOdd": impl.OppositeOdd} {
			got, ok := ask(bad)
			wantNumber(t, name+what, got, ok, 0, false)
		}
		for name, ask := range map[string]func(int) (int, int, bool){"LongestRun": impl.LongestRun, "MissingHouse": impl.MissingHouse} {
			a, b, ok := ask(bad)
			wantTwo(t, name+what, a, b, ok, 0, 0, false)
		}
		for _, other := range append([]int{1, 2, 10, 500000, maxHouse}, noHouses...) {
			for name, ask := range map[string]func(int, int) (int, bool){"LastForSum": impl.LastForSum, "OppositeAround": impl.OppositeAround} {
				got, ok := ask(bad, other)
				wantNumber(t, fmt.Sprint(name, what, " ", other), got, ok, 0, false)
				got, ok = ask(other, bad)
				wantNumber(t, fmt.Sprint(name, " ", other, what), got, ok, 0, false)
			}
			a, b, ok := impl.NeighbourSums(bad, other)
			wantTwo(t, fmt.Sprint("NeighbourSums", what, " ", other), a, b, ok, 0, 0, false)
			a, b, ok = impl.NeighbourSums(other, bad)
			wantTwo(t, fmt.Sprint("NeighbourSums ", other, what), a, b, ok, 0, 0, false)
		}
	}
}

// TestPairsAreNew: no pair has room that another one uses, and what a caller writes into one result is not in the next.
// The arguments of this chapter are numbers, so that there is nothing else that could be written into.
func TestPairsAreNew(t *testing.T) {
	for name, ask := range map[string]func() ([][]int, bool){
		"BalancedStreets": func() ([][]int, bool) { return impl.BalancedStreets(300) },
		"BalancedOdd":     func() ([][]int, bool) { return impl.BalancedOdd(400) },
		"RunsWithSum":     func() ([][]int, bool) { return impl.RunsWithSum(945) },
		"RunsOnSide":      func() ([][]int, bool) { return impl.RunsOnSide(960) },
	} {
		first, ok := ask()
		var want [][]int
		for _, pair := range first {
			want = append(want, slices.Clone(pair))
		}
		if !ok || len(want) < 4 {
			t.Errorf("%s: %v %v", name, first, ok)
		}
		for _, pair := range first {
			_ = append(pair, -1, -2, -3)
		}
		wantPairs(t, name+" with more behind its pairs", first, true, want, true)
		for _, pair := range first {
			pair[0], pair[1] = -1, -2
		}
		again, ok := ask()
		wantPairs(t, name+" again", again, ok, want, true)
	}
	squares, _ := impl.SquareStreets(50)
	squares[0] = -1
	squares, ok := impl.SquareStreets(50)
	wantList(t, "SquareStreets again", squares, ok, []int{1, 8, 49}, true)
}

func TestExampleOfHouses(t *testing.T) {
	house, ok := impl.BalancedHouse(1, 8)
	wantNumber(t, "BalancedHouse", house, ok, 6, true)
	sum, ok := impl.SumLeft(1, 8, 6)
	wantNumber(t, "SumLeft", sum, ok, 15, true)
	sum, ok = impl.SumRight(1, 8, 6)
	wantNumber(t, "SumRight", sum, ok, 15, true)
	pairs, ok := impl.BalancedStreets(300)
	wantPairs(t, "BalancedStreets", pairs, ok, [][]int{{1, 1}, {6, 8}, {35, 49}, {204, 288}}, true)
	pairs, ok = impl.BalancedOdd(57)
	wantPairs(t, "BalancedOdd", pairs, ok, [][]int{{1, 1}, {7, 9}, {41, 57}}, true)
	pairs, ok = impl.RunsWithSum(15)
	wantPairs(t, "RunsWithSum", pairs, ok, [][]int{{1, 5}, {4, 6}, {7, 8}}, true)
	many, ok := impl.CountRuns(15)
	wantNumber(t, "CountRuns", many, ok, 3, true)
	first, last, ok := impl.LongestRun(15)
	wantTwo(t, "LongestRun", first, last, ok, 1, 5, true)
	pairs, ok = impl.RunsOnSide(24)
	wantPairs(t, "RunsOnSide", pairs, ok, [][]int{{3, 9}, {6, 10}, {11, 13}}, true)
	last, missing, ok := impl.MissingHouse(40)
	wantTwo(t, "MissingHouse", last, missing, ok, 9, 5, true)
	house, ok = impl.OppositeAround(10, 3)
	wantNumber(t, "OppositeAround", house, ok, 8, true)
	lasts, ok := impl.SquareStreets(50)
	wantList(t, "SquareStreets", lasts, ok, []int{1, 8, 49}, true)
}

func TestLimitsOfHouses(t *testing.T) {
	if impl.MaxHouse != maxHouse || impl.MaxRunSum != maxRunSum {
		t.Error(impl.MaxHouse, impl.MaxRunSum)
	}
}
