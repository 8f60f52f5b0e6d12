package tests

import (
	"fmt"
	"maps"
	"math"
	"regexp"
	"slices"
	"strconv"
	"strings"
	"testing"

	"loop.example/g01395/impl"
)

// The signatures of chapter 2 are those that the document declares.
var (
	_ func(string) bool                           = impl.IsSigned
	_ func(string) (string, bool)                 = impl.DigitsOfSigned
	_ func(string) (int, bool)                    = impl.ValueOfSigned
	_ func(string) (int, bool)                    = impl.CountSigns
	_ func(string, int) (int, bool)               = impl.CountMade
	_ func(string, int) (string, bool)            = impl.FirstMade
	_ func(string, int) ([]string, bool)          = impl.AllMade
	_ func(string, int) (int, bool)               = impl.FewestSigns
	_ func(string, int) (string, bool)            = impl.FirstFewestSigns
	_ func(string) ([]int, bool)                  = impl.NumbersMade
	_ func(string) (int, bool)                    = impl.CountNumbers
	_ func(string) (int, bool)                    = impl.LeastNotMade
	_ func(string, int) (int, bool)               = impl.NearestMade
	_ func(string) (int, int, bool)               = impl.MostWays
	_ func(string, int) (int, bool)               = impl.CountPlain
	_ func(string, int) (string, bool)            = impl.FirstPlain
	_ func(string) (string, bool)                 = impl.TurnSigns
	_ func(string, string, string) (string, bool) = impl.JoinSigned
	_ func(int, int) (string, bool)               = impl.FirstTicketFor
)

const (
	maxSigned = 7
	maxMade   = 100000000
)

// noDigitsToSign are texts that are not 1..MaxSigned digits.
var noDigitsToSign = []string{
	"", "00000000", "12345678", "123456789012", strings.Repeat("1", 1000), "1+2", "-1", "+1", "*", "1 2", " 1", "1 ",
	"/", ":", "a", "12a", "1.5", "\x00", "1\xff", "é", "٣", "１",
}

// noSigned are texts that are no signed digits.
var noSigned = []string{
	"", "+", "-", "*", "+1", "-1", "*1", "1+", "1-", "1*", "1++2", "1+-2", "1--2", "1**2", "1*-2", "1-*2", "1/2", "1:2", "1,2", "1.2",
	"1 + 2", "1 2", " 1", "1 ", "(1)", "1+a", "a+1", "00000000", "12345678", "1+2+3+4+5+6+7+8", "1234567+8", "0*1234567",
	strings.Repeat("1+", 500) + "1", "1\n", "1+\x00", "1\xff2", "1−2", "1×2", "٣", "é+1", "１+１",
}

// noNumbersToMake are numbers beyond -MaxMade..MaxMade.
var noNumbersToMake = []int{math.MinInt, math.MinInt + 1, -maxMade - 1, maxMade + 1, math.MaxInt - 1, math.MaxInt}

// someDigits are texts to sign: few digits and many, zeros in front and among them, and all alike.
var someDigits = []string{
	"0000", "0001", "0010", "1000", "1234", "4321", "9999", "1111", "0909", "5050", "2718",
	"00000", "12345", "90210", "10101", "00123", "123456", "000001", "999999", "102030",
}

var longDigits = []string{"0000000", "1111111", "1234567", "9876543", "0010397", "0013764", "9999999", "1000000", "0000009", "2020202"}

// valueOf reckons signed digits by their text: sums of products.
func valueOf(text string) int {
	value := 0
	for _, term := range strings.Split(strings.ReplaceAll(text, "-", "+-"), "+") {
		product := 1
		if strings.HasPrefix(term, "-") {
			product = -1
			term = term[1:]
		}
		for _, factor := range strings.Split(term, "*") {
			n, err := strconv.Atoi(factor)
			if err != nil {
				panic(err)
			}
			product *= n
		}
		value += product
	}
	return value
}

func signsOf(text string) int {
	return strings.Count(text, "+") + strings.Count(text, "-") + strings.Count(text, "*")
}

// allSigned lists all signed digits with these digits, in the order of texts.
func allSigned(digits string) []string {
	texts := []string{digits[:1]}
	for _, digit := range digits[1:] {
		var longer []string
		for _, text := range texts {
			for _, sign := range []string{"", "+", "-", "*"} {
				longer = append(longer, text+sign+string(digit))
			}
		}
		texts = longer
	}
	slices.Sort(texts)
	return texts
}

func plainOnes(texts []string) []string {
	var plain []string
	for _, text := range texts {
		if !strings.Contains(text, "*") {
			plain = append(plain, text)
		}
	}
	return plain
}

// byValues sorts texts by their values, and keeps their order with one value.
func byValues(texts []string) map[int][]string {
	made := map[int][]string{}
	for _, text := range texts {
		made[valueOf(text)] = append(made[valueOf(text)], text)
	}
	return made
}

func firstOf(texts []string) string {
	if len(texts) == 0 {
		return ""
	}
	return texts[0]
}

func wantTexts(t *testing.T, what string, got []string, ok bool, want []string, wantOk bool) {
	t.Helper()
	if !slices.Equal(got, want) || ok != wantOk {
		t.Errorf("%s: %q %v, want %q %v", what, got, ok, want, wantOk)
	}
}

// wantMade checks what is told of a number that digits make, or not, against the texts that make it.
func wantMade(t *testing.T, digits string, number int, texts []string) {
	t.Helper()
	what := fmt.Sprint(" ", digits, " ", number)
	any := len(texts) > 0
	count, ok := impl.CountMade(digits, number)
	wantNumber(t, "CountMade"+what, count, ok, len(texts), true)
	first, ok := impl.FirstMade(digits, number)
	wantText(t, "FirstMade"+what, first, ok, firstOf(texts), any)
	all, ok := impl.AllMade(digits, number)
	if len(texts) > 100 {
		wantTexts(t, "AllMade"+what, all, ok, nil, false)
	} else {
		wantTexts(t, "AllMade"+what, all, ok, texts, true)
	}
	fewest, firstFewest := 0, ""
	for i, text := range texts {
		if i == 0 || signsOf(text) < fewest {
			fewest, firstFewest = signsOf(text), text
		}
	}
	signs, ok := impl.FewestSigns(digits, number)
	wantNumber(t, "FewestSigns"+what, signs, ok, fewest, any)
	first, ok = impl.FirstFewestSigns(digits, number)
	wantText(t, "FirstFewestSigns"+what, first, ok, firstFewest, any)
	plain := plainOnes(texts)
	count, ok = impl.CountPlain(digits, number)
	wantNumber(t, "CountPlain"+what, count, ok, len(plain), true)
	first, ok = impl.FirstPlain(digits, number)
	wantText(t, "FirstPlain"+what, first, ok, firstOf(plain), len(plain) > 0)
}

func wantNearest(t *testing.T, digits string, numbers []int, number int) {
	t.Helper()
	nearest := slices.MinFunc(numbers, func(a, b int) int {
		return max(a-number, number-a) - max(b-number, number-b)
	})
	got, ok := impl.NearestMade(digits, number)
	wantNumber(t, fmt.Sprint("NearestMade ", digits, " ", number), got, ok, nearest, true)
}

// wantNumbers checks what is told of all numbers that digits make against all their texts.
func wantNumbers(t *testing.T, digits string, made map[int][]string) {
	t.Helper()
	numbers := slices.Sorted(maps.Keys(made))
	count, ok := impl.CountNumbers(digits)
	wantNumber(t, "CountNumbers "+digits, count, ok, len(numbers), true)
	least := 0
	for len(made[least]) > 0 {
		least++
	}
	got, ok := impl.LeastNotMade(digits)
	wantNumber(t, "LeastNotMade "+digits, got, ok, least, true)
	for _, number := range []int{-maxMade, maxMade, numbers[0] - 1, numbers[len(numbers)-1] + 1, -1, 0, 1, least, 50} {
		wantNearest(t, digits, numbers, number)
	}
	for i := 1; i < len(numbers) && i < 50; i++ {
		middle := numbers[i-1] + (numbers[i]-numbers[i-1])/2
		wantNearest(t, digits, numbers, middle)
		wantNearest(t, digits, numbers, middle+1)
	}
	var plain []int
	most, ways := 0, 0
	for _, number := range numbers {
		if n := len(plainOnes(made[number])); n > 0 {
			plain = append(plain, number)
			if n > ways {
				most, ways = number, n
			}
		}
	}
	list, ok := impl.NumbersMade(digits)
	wantList(t, "NumbersMade "+digits, list, ok, plain, true)
	number, n, ok := impl.MostWays(digits)
	if number != most || n != ways || !ok {
		t.Errorf("MostWays %s: %d %d %v, want %d %d", digits, number, n, ok, most, ways)
	}
}

func TestAllThatMakeANumber(t *testing.T) {
	digits := slices.Clone(someDigits)
	for _, size := range []int{1, 2, 3} {
		for n := range int(math.Pow10(size)) {
			digits = append(digits, fmt.Sprintf("%0*d", size, n))
		}
	}
	for _, text := range digits {
		made := byValues(allSigned(text))
		wantNumbers(t, text, made)
		for number, texts := range made {
			if len(text) < 5 || number%7 == 0 {
				wantMade(t, text, number, texts)
			}
		}
		for _, number := range []int{-maxMade, maxMade, -1, 0, 1, 10, 7777} {
			wantMade(t, text, number, made[number])
		}
	}
}

func TestAllThatMakeANumberOfManyDigits(t *testing.T) {
	for _, text := range longDigits {
		made := byValues(allSigned(text))
		wantNumbers(t, text, made)
		for number := -25; number <= 25; number++ {
			wantMade(t, text, number, made[number])
		}
		numbers := slices.Sorted(maps.Keys(made))
		for _, number := range []int{-maxMade, maxMade, numbers[0], numbers[len(numbers)-1], valueOf(text), 100, 1000} {
			wantMade(t, text, number, made[number])
		}
	}
}

func TestAllMadeUpTo100(t *testing.T) {
	for _, c := range []struct {
		digits string
		number int
		count  int
	}{{"0010397", 1, 100}, {"0013764", 0, 101}, {"0000000", 0, 4096}, {"0000", 0, 64}, {"00000", 0, 256}} {
		texts := byValues(allSigned(c.digits))[c.number]
		if len(texts) != c.count {
			t.Fatalf("%s makes %d by %d, not by %d", c.digits, c.number, len(texts), c.count)
		}
		wantMade(t, c.digits, c.number, texts)
	}
}

func TestDigitsWithoutAnySign(t *testing.T) {
	for _, digits := range []string{"0", "7", "00", "007", "12", "1234567", "0000000", "0000012", "9999999"} {
		number, _ := strconv.Atoi(digits)
		if !impl.IsSigned(digits) {
			t.Errorf("IsSigned %s", digits)
		}
		value, ok := impl.ValueOfSigned(digits)
		wantNumber(t, "ValueOfSigned "+digits, value, ok, number, true)
		signs, ok := impl.CountSigns(digits)
		wantNumber(t, "CountSigns "+digits, signs, ok, 0, true)
		signs, ok = impl.FewestSigns(digits, number)
		wantNumber(t, "FewestSigns "+digits, signs, ok, 0, true)
		first, ok := impl.FirstFewestSigns(digits, number)
		wantText(t, "FirstFewestSigns "+digits, first, ok, digits, true)
		turned, ok := impl.TurnSigns(digits)
		wantText(t, "TurnSigns "+digits, turned, ok, digits, true)
		without, ok := impl.DigitsOfSigned(digits)
		wantText(t, "DigitsOfSigned "+digits, without, ok, digits, true)
	}
}

// wantSigned checks what is told of signed digits against what their text shows.
func wantSigned(t *testing.T, text string, digits string) {
	t.Helper()
	if !impl.IsSigned(text) {
		t.Errorf("IsSigned %s", text)
	}
	got, ok := impl.DigitsOfSigned(text)
	wantText(t, "DigitsOfSigned "+text, got, ok, digits, true)
	value, ok := impl.ValueOfSigned(text)
	wantNumber(t, "ValueOfSigned "+text, value, ok, valueOf(text), true)
	signs, ok := impl.CountSigns(text)
	wantNumber(t, "CountSigns "+text, signs, ok, signsOf(text), true)
	turned := []byte(text)
	for i, c := range turned {
		if c == '+' {
			turned[i] = '-'
		} else if c == '-' {
			turned[i] = '+'
		}
	}
	got, ok = impl.TurnSigns(text)
	wantText(t, "TurnSigns "+text, got, ok, string(turned), true)
}

func TestSignedDigitsAgainstTheirTexts(t *testing.T) {
	for _, digits := range append(slices.Concat(someDigits, longDigits), "0", "5", "12", "00", "034") {
		for _, text := range allSigned(digits) {
			wantSigned(t, text, digits)
		}
	}
}

func TestTextsThatAreSigned(t *testing.T) {
	signed := regexp.MustCompile(`^[0-9](?:[-+*]?[0-9])*$`)
	texts := []string{""}
	for from := 0; from < len(texts); from++ {
		text := texts[from]
		if got, want := impl.IsSigned(text), signed.MatchString(text); got != want {
			t.Errorf("IsSigned %q: %v", text, got)
		}
		if len(text) < 6 {
			for _, c := range "09+-*/" {
				texts = append(texts, text+string(c))
			}
		}
	}
	for _, text := range noSigned {
		if impl.IsSigned(text) {
			t.Errorf("IsSigned %q", text)
		}
	}
	for b := range 256 {
		text := "1" + string([]byte{byte(b)}) + "2"
		if got, want := impl.IsSigned(text), strings.Contains("0123456789+-*", text[1:2]); got != want {
			t.Errorf("IsSigned %q: %v", text, got)
		}
	}
}

func TestJoinSigned(t *testing.T) {
	texts := []string{"1", "0", "05", "1-2", "3*4+5", "1+2-3*4", "123456", "1234567", "0+1+2+3+4+5+6"}
	for _, a := range texts {
		for _, b := range texts {
			for _, sign := range []string{"", "+", "-", "*"} {
				want := a + sign + b
				fits := len(want)-signsOf(want) <= maxSigned
				if !fits {
					want = ""
				}
				got, ok := impl.JoinSigned(a, b, sign)
				wantText(t, fmt.Sprintf("JoinSigned %q %q %q", a, b, sign), got, ok, want, fits)
			}
		}
	}
	for _, sign := range []string{" ", "/", "++", "+-", "+1", "1", "1+", "0", ",", "\x00", "−", "×", "é", "+1+", "*1*"} {
		got, ok := impl.JoinSigned("1", "2", sign)
		wantText(t, fmt.Sprintf("JoinSigned with %q", sign), got, ok, "", false)
	}
	for _, none := range noSigned {
		for _, sign := range []string{"", "+", "-", "*"} {
			got, ok := impl.JoinSigned(none, "1", sign)
			wantText(t, fmt.Sprintf("JoinSigned %q before 1", none), got, ok, "", false)
			got, ok = impl.JoinSigned("1", none, sign)
			wantText(t, fmt.Sprintf("JoinSigned %q behind 1", none), got, ok, "", false)
		}
	}
}

// firstTexts has for each number the first text of so many digits that makes it.
func firstTexts(digits int) map[int]string {
	first := map[int]string{}
	for _, text := range allTickets(digits) {
		for _, signed := range allSigned(text) {
			if _, known := first[valueOf(signed)]; !known {
				first[valueOf(signed)] = text
			}
		}
	}
	return first
}

func TestFirstTicketFor(t *testing.T) {
	for _, digits := range []int{1, 2, 3, 4} {
		first := firstTexts(digits)
		numbers := []int{-maxMade, maxMade, -10000, 10000, -1000, -100, -10, 1 - int(math.Pow10(digits-1))}
		for number := -100; number < 200; number++ {
			numbers = append(numbers, number)
		}
		for _, number := range []int{729, 999, 1000, 6561, 8910, 9801, 9802, 9999} {
			numbers = append(numbers, number, number-1, -number)
		}
		for _, number := range numbers {
			want, made := first[number]
			got, ok := impl.FirstTicketFor(digits, number)
			wantText(t, fmt.Sprint("FirstTicketFor ", digits, " ", number), got, ok, want, made)
		}
	}
	for _, digits := range []int{math.MinInt, -1, 0, 5, 6, 7, 100, math.MaxInt} {
		got, ok := impl.FirstTicketFor(digits, 1)
		wantText(t, fmt.Sprint("FirstTicketFor ", digits, " digits"), got, ok, "", false)
	}
}

func TestNoDigitsToSign(t *testing.T) {
	for _, digits := range noDigitsToSign {
		wantNothingMade(t, digits, 1)
		list, ok := impl.NumbersMade(digits)
		wantList(t, fmt.Sprintf("NumbersMade %q", digits), list, ok, nil, false)
		n, ok := impl.CountNumbers(digits)
		wantNumber(t, fmt.Sprintf("CountNumbers %q", digits), n, ok, 0, false)
		n, ok = impl.LeastNotMade(digits)
		wantNumber(t, fmt.Sprintf("LeastNotMade %q", digits), n, ok, 0, false)
		most, ways, ok := impl.MostWays(digits)
		if most != 0 || ways != 0 || ok {
			t.Errorf("MostWays %q: %d %d %v", digits, most, ways, ok)
		}
	}
	for _, number := range noNumbersToMake {
		for _, digits := range []string{"0", "1", "9999999"} {
			wantNothingMade(t, digits, number)
		}
		for digits := 1; digits <= 4; digits++ {
			got, ok := impl.FirstTicketFor(digits, number)
			wantText(t, fmt.Sprint("FirstTicketFor number ", number), got, ok, "", false)
		}
	}
}

// wantNothingMade checks that all that is told of digits and a number fails.
func wantNothingMade(t *testing.T, digits string, number int) {
	t.Helper()
	what := fmt.Sprintf(" %q %d", digits, number)
	n, ok := impl.CountMade(digits, number)
	wantNumber(t, "CountMade"+what, n, ok, 0, false)
	n, ok = impl.CountPlain(digits, number)
	wantNumber(t, "CountPlain"+what, n, ok, 0, false)
	n, ok = impl.FewestSigns(digits, number)
	wantNumber(t, "FewestSigns"+what, n, ok, 0, false)
	n, ok = impl.NearestMade(digits, number)
	wantNumber(t, "NearestMade"+what, n, ok, 0, false)
	text, ok := impl.FirstMade(digits, number)
	wantText(t, "FirstMade"+what, text, ok, "", false)
	text, ok = impl.FirstPlain(digits, number)
	wantText(t, "FirstPlain"+what, text, ok, "", false)
	text, ok = impl.FirstFewestSigns(digits, number)
	wantText(t, "FirstFewestSigns"+what, text, ok, "", false)
	all, ok := impl.AllMade(digits, number)
	wantTexts(t, "AllMade"+what, all, ok, nil, false)
}

func TestNoSignedDigits(t *testing.T) {
	for _, text := range noSigned {
		got, ok := impl.DigitsOfSigned(text)
		wantText(t, fmt.Sprintf("DigitsOfSigned %q", text), got, ok, "", false)
		got, ok = impl.TurnSigns(text)
		wantText(t, fmt.Sprintf("TurnSigns %q", text), got, ok, "", false)
		n, ok := impl.ValueOfSigned(text)
		wantNumber(t, fmt.Sprintf("ValueOfSigned %q", text), n, ok, 0, false)
		n, ok = impl.CountSigns(text)
		wantNumber(t, fmt.Sprintf("CountSigns %q", text), n, ok, 0, false)
	}
}

func TestLimitsOfSigns(t *testing.T) {
	if impl.MaxSigned != maxSigned || impl.MaxMade != maxMade {
		t.Error(impl.MaxSigned, impl.MaxMade)
	}
}

func TestExampleOfSigns(t *testing.T) {
	text, ok := impl.FirstMade("1234", 10)
	wantText(t, "FirstMade", text, ok, "1*2*3+4", true)
	text, ok = impl.FirstPlain("1234", 10)
	wantText(t, "FirstPlain", text, ok, "1+2+3+4", true)
	n, ok := impl.FewestSigns("1234", 46)
	wantNumber(t, "FewestSigns", n, ok, 1, true)
	text, ok = impl.FirstFewestSigns("1234", 46)
	wantText(t, "FirstFewestSigns", text, ok, "12+34", true)
	n, ok = impl.ValueOfSigned("1-2*3+04")
	wantNumber(t, "ValueOfSigned", n, ok, -1, true)
	list, ok := impl.NumbersMade("12")
	wantList(t, "NumbersMade", list, ok, []int{-1, 3, 12}, true)
	n, ok = impl.CountNumbers("12")
	wantNumber(t, "CountNumbers", n, ok, 4, true)
	n, ok = impl.LeastNotMade("12")
	wantNumber(t, "LeastNotMade", n, ok, 0, true)
	n, ok = impl.NearestMade("12", 7)
	wantNumber(t, "NearestMade", n, ok, 3, true)
	n, ways, ok := impl.MostWays("11")
	if n != 0 || ways != 1 || !ok {
		t.Errorf("MostWays: %d %d %v", n, ways, ok)
	}
	text, ok = impl.TurnSigns("1+2-3")
	wantText(t, "TurnSigns", text, ok, "1-2+3", true)
	text, ok = impl.FirstTicketFor(2, 18)
	wantText(t, "FirstTicketFor", text, ok, "18", true)
}

func TestListsOfSignsAreNew(t *testing.T) {
	texts, _ := impl.AllMade("1234", 10)
	clear(texts[:cap(texts)])
	again, ok := impl.AllMade("1234", 10)
	wantTexts(t, "AllMade again", again, ok, byValues(allSigned("1234"))[10], true)
	numbers, _ := impl.NumbersMade("12")
	clear(numbers[:cap(numbers)])
	list, ok := impl.NumbersMade("12")
	wantList(t, "NumbersMade again", list, ok, []int{-1, 3, 12}, true)
}
