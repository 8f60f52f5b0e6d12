package tests

import (
	"fmt"
	"math"
	"slices"
	"strings"
	"testing"

	"loop.example/g01395/impl"
)

// The signatures of chapter 1 are those that the document declares.
var (
	_ func(string) bool                = impl.IsTicket
	_ func(string) (int, int, bool)    = impl.HalfSums
	_ func(string) (bool, bool)        = impl.IsLucky
	_ func(string) (bool, bool)        = impl.IsEverySecond
	_ func(int) (int, bool)            = impl.CountLucky
	_ func(int, int) (int, bool)       = impl.CountLuckyOf
	_ func(int, int) (string, bool)    = impl.FirstLuckyOf
	_ func(int, int, int) (int, bool)  = impl.CountTickets
	_ func(string) (int, bool)         = impl.RankOfLucky
	_ func(int, int) (string, bool)    = impl.LuckyOfRank
	_ func(string) (string, bool)      = impl.NextLucky
	_ func(string) (string, bool)      = impl.LastLucky
	_ func(string) (int, int, bool)    = impl.GapsAround
	_ func(string, string) (int, bool) = impl.CountLuckyBetween
	_ func(string) (int, bool)         = impl.NumberOfTicket
	_ func(int, int) (string, bool)    = impl.TicketOfNumber
	_ func(string) (string, bool)      = impl.TurnTicket
	_ func(string) (string, bool)      = impl.SwapHalves
	_ func(string) (string, bool)      = impl.NinesTicket
	_ func(int) ([]int, bool)          = impl.SumsOfLucky
	_ func(string) ([]int, bool)       = impl.LuckyDigits
)

const maxTicket = 12

// noTickets are texts that are no tickets: wrong lengths, and bytes that are no digits, at either end of the digits too.
var noTickets = []string{
	"", "0", "7", "123", "12345", "12345678901", "0000000000000", "00000000000000", strings.Repeat("9", 1000),
	"1a", "a1", "/0", "0/", ":0", "0:", "+1", "-1", "1 ", " 1", "12\n4", "12.4", "1234567890 1", "\x00\x00", "0\xff",
	"é", "é1", "٣٣", "１２", "12é", "ABCD",
}

// noSizes are numbers that are no numbers of digits of a ticket.
var noSizes = []int{math.MinInt, -12, -2, -1, 0, 1, 3, 5, 7, 9, 11, 13, 14, 16, 100, math.MaxInt - 1, math.MaxInt}

func digitSum(text string) int {
	sum := 0
	for _, r := range text {
		sum += int(r - '0')
	}
	return sum
}

func halfSums(ticket string) (int, int) {
	return digitSum(ticket[:len(ticket)/2]), digitSum(ticket[len(ticket)/2:])
}

func isLucky(ticket string) bool {
	first, second := halfSums(ticket)
	return first == second
}

// allTickets lists the tickets of so many digits by their numbers.
func allTickets(digits int) []string {
	var tickets []string
	for n := range int(math.Pow10(digits)) {
		tickets = append(tickets, fmt.Sprintf("%0*d", digits, n))
	}
	return tickets
}

func luckyOnes(tickets []string) []string {
	var lucky []string
	for _, ticket := range tickets {
		if isLucky(ticket) {
			lucky = append(lucky, ticket)
		}
	}
	return lucky
}

func wantText(t *testing.T, what string, got string, ok bool, want string, wantOk bool) {
	t.Helper()
	if got != want || ok != wantOk {
		t.Errorf("%s: %q %v, want %q %v", what, got, ok, want, wantOk)
	}
}

func wantNumber(t *testing.T, what string, got int, ok bool, want int, wantOk bool) {
	t.Helper()
	if got != want || ok != wantOk {
		t.Errorf("%s: %d %v, want %d %v", what, got, ok, want, wantOk)
	}
}

func wantList(t *testing.T, what string, got []int, ok bool, want []int, wantOk bool) {
	t.Helper()
	if !slices.Equal(got, want) || ok != wantOk {
		t.Errorf("%s: %v %v, want %v %v", what, got, ok, want, wantOk)
	}
}

// wantLike checks what is told of a ticket against what its text shows.
func wantLike(t *testing.T, ticket string, number int) {
	t.Helper()
	if !impl.IsTicket(ticket) {
		t.Errorf("IsTicket %s", ticket)
	}
	wantFirst, wantSecond := halfSums(ticket)
	first, second, ok := impl.HalfSums(ticket)
	if first != wantFirst || second != wantSecond || !ok {
		t.Errorf("HalfSums %s: %d %d %v", ticket, first, second, ok)
	}
	if lucky, ok := impl.IsLucky(ticket); lucky != isLucky(ticket) || !ok {
		t.Errorf("IsLucky %s: %v %v", ticket, lucky, ok)
	}
	balance := 0
	for i, r := range ticket {
		balance += int(r-'0') * (1 - i%2*2)
	}
	if same, ok := impl.IsEverySecond(ticket); same != (balance == 0) || !ok {
		t.Errorf("IsEverySecond %s: %v %v", ticket, same, ok)
	}
	got, ok := impl.NumberOfTicket(ticket)
	wantNumber(t, "NumberOfTicket "+ticket, got, ok, number, true)
	told, ok := impl.TicketOfNumber(len(ticket), number)
	wantText(t, fmt.Sprint("TicketOfNumber ", number), told, ok, ticket, true)
	wantChanged(t, ticket)
	digits, ok := impl.LuckyDigits(ticket)
	var wantDigits []int
	for d := range 10 {
		if isLucky(fmt.Sprint(ticket[:len(ticket)-1], d)) {
			wantDigits = append(wantDigits, d)
		}
	}
	wantList(t, "LuckyDigits "+ticket, digits, ok, wantDigits, true)
}

func wantChanged(t *testing.T, ticket string) {
	t.Helper()
	turned, ok := impl.TurnTicket(ticket)
	back := []byte(ticket)
	slices.Reverse(back)
	wantText(t, "TurnTicket "+ticket, turned, ok, string(back), true)
	swapped, ok := impl.SwapHalves(ticket)
	wantText(t, "SwapHalves "+ticket, swapped, ok, ticket[len(ticket)/2:]+ticket[:len(ticket)/2], true)
	nines, ok := impl.NinesTicket(ticket)
	sums := make([]byte, len(ticket))
	for i := range ticket {
		sums[i] = '9' - ticket[i] + '0'
	}
	wantText(t, "NinesTicket "+ticket, nines, ok, string(sums), true)
}

func TestTicketsAgainstTheirTexts(t *testing.T) {
	for _, digits := range []int{2, 4} {
		for number, ticket := range allTickets(digits) {
			wantLike(t, ticket, number)
		}
	}
	wantLike(t, "000000000000", 0)
	wantLike(t, "999999999999", 999999999999)
	wantLike(t, "000000999999", 999999)
	wantLike(t, "123456654321", 123456654321)
	wantLike(t, "90000009", 90000009)
	wantLike(t, "0000000001", 1)
}

// wantAround checks what is around a ticket in the list of all lucky ones, of which so many come before it.
func wantAround(t *testing.T, ticket string, number int, lucky []string, before int) {
	t.Helper()
	rank, ok := impl.RankOfLucky(ticket)
	wantNumber(t, "RankOfLucky "+ticket, rank, ok, before, true)
	behind := before
	if isLucky(ticket) {
		behind++
	}
	last, wantLast, gapLast := "", before > 0, 0
	if wantLast {
		last = lucky[before-1]
		gapLast = number - numberOf(last)
	}
	next, wantNext, gapNext := "", behind < len(lucky), 0
	if wantNext {
		next = lucky[behind]
		gapNext = numberOf(next) - number
	}
	got, ok := impl.LastLucky(ticket)
	wantText(t, "LastLucky "+ticket, got, ok, last, wantLast)
	got, ok = impl.NextLucky(ticket)
	wantText(t, "NextLucky "+ticket, got, ok, next, wantNext)
	a, b, ok := impl.GapsAround(ticket)
	if a != gapLast || b != gapNext || !ok {
		t.Errorf("GapsAround %s: %d %d %v, want %d %d", ticket, a, b, ok, gapLast, gapNext)
	}
}

func numberOf(ticket string) int {
	number := 0
	for _, r := range ticket {
		number = number*10 + int(r-'0')
	}
	return number
}

func TestLuckyAround(t *testing.T) {
	for _, digits := range []int{2, 4, 6} {
		tickets := allTickets(digits)
		lucky := luckyOnes(tickets)
		before := 0
		for number, ticket := range tickets {
			if digits < 6 || number%997 == 0 || number < 2100 || number > 997900 {
				wantAround(t, ticket, number, lucky, before)
			}
			if isLucky(ticket) {
				before++
			}
		}
	}
}

func TestLuckyByRank(t *testing.T) {
	for _, digits := range []int{2, 4, 6} {
		lucky := luckyOnes(allTickets(digits))
		count, ok := impl.CountLucky(digits)
		wantNumber(t, fmt.Sprint("CountLucky ", digits), count, ok, len(lucky), true)
		for rank, ticket := range lucky {
			if digits == 6 && rank%101 != 0 && rank < len(lucky)-5 {
				continue
			}
			got, ok := impl.LuckyOfRank(digits, rank)
			wantText(t, fmt.Sprint("LuckyOfRank ", digits, rank), got, ok, ticket, true)
		}
		for _, rank := range []int{math.MinInt, -1, len(lucky), len(lucky) + 1, math.MaxInt} {
			got, ok := impl.LuckyOfRank(digits, rank)
			wantText(t, fmt.Sprint("LuckyOfRank ", digits, rank), got, ok, "", false)
		}
	}
}

// TestRanksOneBehindTheOther is promise 1 for tickets that are too many to list.
func TestRanksOneBehindTheOther(t *testing.T) {
	for digits := 2; digits <= maxTicket; digits += 2 {
		count, _ := impl.CountLucky(digits)
		for _, start := range []int{0, count / 3, count / 2, count - 10} {
			for rank := max(start, 0); rank < min(start+9, count-1); rank++ {
				a, okA := impl.LuckyOfRank(digits, rank)
				b, okB := impl.LuckyOfRank(digits, rank+1)
				if !okA || !okB || !isLucky(a) || !isLucky(b) || a >= b || len(a) != digits {
					t.Errorf("ranks %d of %d digits: %q %q", rank, digits, a, b)
				}
				told, ok := impl.RankOfLucky(a)
				wantNumber(t, "RankOfLucky "+a, told, ok, rank, true)
				next, ok := impl.NextLucky(a)
				wantText(t, "NextLucky "+a, next, ok, b, true)
				last, ok := impl.LastLucky(b)
				wantText(t, "LastLucky "+b, last, ok, a, true)
				between, ok := impl.CountLuckyBetween(a, b)
				wantNumber(t, "CountLuckyBetween "+a+" "+b, between, ok, 1, true)
				nines, _ := impl.NinesTicket(a)
				if same, ok := impl.IsLucky(nines); !same || !ok {
					t.Errorf("nines of %s: %s", a, nines)
				}
				told, ok = impl.RankOfLucky(nines)
				wantNumber(t, "RankOfLucky "+nines, told, ok, count-1-rank, true)
			}
		}
	}
}

func TestFirstAndLastLucky(t *testing.T) {
	for digits := 2; digits <= maxTicket; digits += 2 {
		zeros, nines := strings.Repeat("0", digits), strings.Repeat("9", digits)
		count, _ := impl.CountLucky(digits)
		rank, ok := impl.RankOfLucky(zeros)
		wantNumber(t, "RankOfLucky "+zeros, rank, ok, 0, true)
		rank, ok = impl.RankOfLucky(nines)
		wantNumber(t, "RankOfLucky "+nines, rank, ok, count-1, true)
		got, ok := impl.LastLucky(zeros)
		wantText(t, "LastLucky "+zeros, got, ok, "", false)
		got, ok = impl.NextLucky(nines)
		wantText(t, "NextLucky "+nines, got, ok, "", false)
		got, ok = impl.LuckyOfRank(digits, count)
		wantText(t, "LuckyOfRank behind all", got, ok, "", false)
		one := strings.Repeat("0", digits/2-1) + "1"
		got, ok = impl.NextLucky(zeros)
		wantText(t, "NextLucky "+zeros, got, ok, one+one, true)
		eight := strings.Repeat("9", digits/2-1) + "8"
		got, ok = impl.LastLucky(nines)
		wantText(t, "LastLucky "+nines, got, ok, eight+eight, true)
		before, behind, ok := impl.GapsAround(zeros)
		if before != 0 || behind != numberOf(one+one) || !ok {
			t.Errorf("GapsAround %s: %d %d %v", zeros, before, behind, ok)
		}
		before, behind, ok = impl.GapsAround(nines)
		if before != numberOf(nines)-numberOf(eight+eight) || behind != 0 || !ok {
			t.Errorf("GapsAround %s: %d %d %v", nines, before, behind, ok)
		}
		between, ok := impl.CountLuckyBetween(zeros, nines)
		wantNumber(t, "CountLuckyBetween all", between, ok, count-1, true)
	}
}

func TestExamplesOfTickets(t *testing.T) {
	if lucky, ok := impl.IsLucky("123321"); !lucky || !ok {
		t.Error("IsLucky 123321")
	}
	if a, b, ok := impl.HalfSums("123321"); a != 6 || b != 6 || !ok {
		t.Error("HalfSums 123321", a, b)
	}
	if a, b, ok := impl.GapsAround("123321"); a != 9 || b != 9 || !ok {
		t.Error("GapsAround 123321", a, b)
	}
	n, ok := impl.RankOfLucky("001001")
	wantNumber(t, "RankOfLucky 001001", n, ok, 1, true)
	n, ok = impl.CountLucky(4)
	wantNumber(t, "CountLucky 4", n, ok, 670, true)
	n, ok = impl.CountLucky(6)
	wantNumber(t, "CountLucky 6", n, ok, 55252, true)
	n, ok = impl.CountLuckyOf(4, 3)
	wantNumber(t, "CountLuckyOf 4 3", n, ok, 16, true)
	s, ok := impl.FirstLuckyOf(4, 3)
	wantText(t, "FirstLuckyOf 4 3", s, ok, "0303", true)
	s, ok = impl.NextLucky("123321")
	wantText(t, "NextLucky 123321", s, ok, "123330", true)
	s, ok = impl.LastLucky("123321")
	wantText(t, "LastLucky 123321", s, ok, "123312", true)
	s, ok = impl.NinesTicket("123321")
	wantText(t, "NinesTicket 123321", s, ok, "876678", true)
	d, ok := impl.LuckyDigits("1290")
	wantList(t, "LuckyDigits 1290", d, ok, nil, true)
	d, ok = impl.LuckyDigits("1920")
	wantList(t, "LuckyDigits 1920", d, ok, []int{8}, true)
}

// halfCounts counts the halves of so many digits by their sums, one by one.
func halfCounts(digits int) []int {
	counts := make([]int, 9*digits+1)
	for n := range int(math.Pow10(digits)) {
		counts[digitSum(fmt.Sprint(n))]++
	}
	return counts
}

func TestCountsBySums(t *testing.T) {
	for digits := 2; digits <= maxTicket; digits += 2 {
		counts := halfCounts(digits / 2)
		all := 0
		var sums []int
		for sum, count := range counts {
			all += count * count
			sums = append(sums, count*count)
			got, ok := impl.CountLuckyOf(digits, sum)
			wantNumber(t, fmt.Sprint("CountLuckyOf ", digits, sum), got, ok, count*count, true)
			for other, more := range counts {
				got, ok := impl.CountTickets(digits, sum, other)
				wantNumber(t, fmt.Sprint("CountTickets ", digits, sum, other), got, ok, count*more, true)
			}
		}
		got, ok := impl.CountLucky(digits)
		wantNumber(t, fmt.Sprint("CountLucky ", digits), got, ok, all, true)
		list, ok := impl.SumsOfLucky(digits)
		wantList(t, fmt.Sprint("SumsOfLucky ", digits), list, ok, sums, true)
	}
}

// TestSumsThatNoHalfHas: such sums are valid, but there is nothing with them.
func TestSumsThatNoHalfHas(t *testing.T) {
	for digits := 2; digits <= maxTicket; digits += 2 {
		most := 9 * digits / 2
		for _, sum := range []int{most + 1, most + 2, 10 * most, math.MaxInt - 1, math.MaxInt} {
			n, ok := impl.CountLuckyOf(digits, sum)
			wantNumber(t, fmt.Sprint("CountLuckyOf ", digits, sum), n, ok, 0, true)
			n, ok = impl.CountTickets(digits, sum, 0)
			wantNumber(t, fmt.Sprint("CountTickets ", digits, sum, 0), n, ok, 0, true)
			n, ok = impl.CountTickets(digits, 0, sum)
			wantNumber(t, fmt.Sprint("CountTickets ", digits, 0, sum), n, ok, 0, true)
			s, ok := impl.FirstLuckyOf(digits, sum)
			wantText(t, fmt.Sprint("FirstLuckyOf ", digits, sum), s, ok, "", false)
		}
		for _, sum := range []int{math.MinInt, -9, -1} {
			n, ok := impl.CountLuckyOf(digits, sum)
			wantNumber(t, fmt.Sprint("CountLuckyOf ", digits, sum), n, ok, 0, false)
			n, ok = impl.CountTickets(digits, sum, 0)
			wantNumber(t, fmt.Sprint("CountTickets ", digits, sum, 0), n, ok, 0, false)
			n, ok = impl.CountTickets(digits, 0, sum)
			wantNumber(t, fmt.Sprint("CountTickets ", digits, 0, sum), n, ok, 0, false)
			n, ok = impl.CountTickets(digits, math.MaxInt, sum)
			wantNumber(t, fmt.Sprint("CountTickets ", digits, math.MaxInt, sum), n, ok, 0, false)
			s, ok := impl.FirstLuckyOf(digits, sum)
			wantText(t, fmt.Sprint("FirstLuckyOf ", digits, sum), s, ok, "", false)
		}
	}
}

func TestFirstLuckyOf(t *testing.T) {
	for _, digits := range []int{2, 4, 6} {
		seen := map[int]bool{}
		for _, ticket := range luckyOnes(allTickets(digits)) {
			sum, _ := halfSums(ticket)
			if seen[sum] {
				continue
			}
			seen[sum] = true
			got, ok := impl.FirstLuckyOf(digits, sum)
			wantText(t, fmt.Sprint("FirstLuckyOf ", digits, sum), got, ok, ticket, true)
		}
	}
	for sum, want := range map[int]string{0: "000000000000", 1: "000001000001", 10: "000019000019", 53: "899999899999", 54: "999999999999"} {
		got, ok := impl.FirstLuckyOf(12, sum)
		wantText(t, fmt.Sprint("FirstLuckyOf 12 ", sum), got, ok, want, true)
	}
}

func TestCountLuckyBetween(t *testing.T) {
	tickets := allTickets(4)
	upTo := make([]int, len(tickets))
	count := 0
	for number, ticket := range tickets {
		if isLucky(ticket) {
			count++
		}
		upTo[number] = count
	}
	for a := 0; a < len(tickets); a += 83 {
		for b := 0; b < len(tickets); b += 101 {
			got, ok := impl.CountLuckyBetween(tickets[a], tickets[b])
			want := 0
			if b >= a {
				want = upTo[b] - upTo[a]
			}
			wantNumber(t, "CountLuckyBetween "+tickets[a]+" "+tickets[b], got, ok, want, b >= a)
		}
	}
	for _, pair := range [][2]string{{"0000", "0000"}, {"9999", "9999"}, {"1221", "1221"}, {"1222", "1222"}, {"000000000000", "000000000000"}} {
		got, ok := impl.CountLuckyBetween(pair[0], pair[1])
		wantNumber(t, "CountLuckyBetween "+pair[0]+" itself", got, ok, 0, true)
	}
	for _, pair := range [][2]string{{"11", "0011"}, {"0011", "11"}, {"00", "9999"}, {"9999", "00"}, {"22", "21"}, {"999999999999", "000000000000"}} {
		got, ok := impl.CountLuckyBetween(pair[0], pair[1])
		wantNumber(t, "CountLuckyBetween "+pair[0]+" "+pair[1], got, ok, 0, false)
	}
}

func TestTicketOfNumber(t *testing.T) {
	most := 1
	for digits := 2; digits <= maxTicket; digits += 2 {
		most *= 100
		got, ok := impl.TicketOfNumber(digits, 0)
		wantText(t, "TicketOfNumber 0", got, ok, strings.Repeat("0", digits), true)
		got, ok = impl.TicketOfNumber(digits, 7)
		wantText(t, "TicketOfNumber 7", got, ok, strings.Repeat("0", digits-1)+"7", true)
		got, ok = impl.TicketOfNumber(digits, most-1)
		wantText(t, fmt.Sprint("TicketOfNumber ", most-1), got, ok, strings.Repeat("9", digits), true)
		for _, n := range []int{most, most + 1, math.MaxInt, -1, -most, math.MinInt} {
			got, ok = impl.TicketOfNumber(digits, n)
			wantText(t, fmt.Sprint("TicketOfNumber ", digits, n), got, ok, "", false)
		}
	}
}

// TestNoTickets is promise 11 for texts: no function panics for a text that is no ticket, and each one fails with zero values.
func TestNoTickets(t *testing.T) {
	for _, text := range noTickets {
		if impl.IsTicket(text) {
			t.Errorf("IsTicket %q", text)
		}
		if a, b, ok := impl.HalfSums(text); a != 0 || b != 0 || ok {
			t.Errorf("HalfSums %q: %d %d %v", text, a, b, ok)
		}
		if a, b, ok := impl.GapsAround(text); a != 0 || b != 0 || ok {
			t.Errorf("GapsAround %q: %d %d %v", text, a, b, ok)
		}
		for name, ask := range map[string]func(string) (bool, bool){"IsLucky": impl.IsLucky, "IsEverySecond": impl.IsEverySecond} {
			if got, ok := ask(text); got || ok {
				t.Errorf("%s %q: %v %v", name, text, got, ok)
			}
		}
		for name, ask := range map[string]func(string) (int, bool){"RankOfLucky": impl.RankOfLucky, "NumberOfTicket": impl.NumberOfTicket} {
			got, ok := ask(text)
			wantNumber(t, fmt.Sprintf("%s %q", name, text), got, ok, 0, false)
		}
		for name, ask := range map[string]func(string) (string, bool){
			"NextLucky": impl.NextLucky, "LastLucky": impl.LastLucky, "TurnTicket": impl.TurnTicket,
			"SwapHalves": impl.SwapHalves, "NinesTicket": impl.NinesTicket,
		} {
			got, ok := ask(text)
			wantText(t, fmt.Sprintf("%s %q", name, text), got, ok, "", false)
		}
		digits, ok := impl.LuckyDigits(text)
		wantList(t, fmt.Sprintf("LuckyDigits %q", text), digits, ok, nil, false)
		for _, pair := range [][2]string{{text, text}, {text, "99"}, {"00", text}, {text, "999999999999"}} {
			got, ok := impl.CountLuckyBetween(pair[0], pair[1])
			wantNumber(t, fmt.Sprintf("CountLuckyBetween %q", pair), got, ok, 0, false)
		}
	}
}

// TestNoSizes is promise 11 for numbers of digits that no ticket has.
func TestNoSizes(t *testing.T) {
	for _, digits := range noSizes {
		n, ok := impl.CountLucky(digits)
		wantNumber(t, fmt.Sprint("CountLucky ", digits), n, ok, 0, false)
		sums, ok := impl.SumsOfLucky(digits)
		wantList(t, fmt.Sprint("SumsOfLucky ", digits), sums, ok, nil, false)
		for _, other := range []int{math.MinInt, -1, 0, 1, 9, math.MaxInt} {
			n, ok = impl.CountLuckyOf(digits, other)
			wantNumber(t, fmt.Sprint("CountLuckyOf ", digits, other), n, ok, 0, false)
			n, ok = impl.CountTickets(digits, other, other)
			wantNumber(t, fmt.Sprint("CountTickets ", digits, other), n, ok, 0, false)
			for name, ask := range map[string]func(int, int) (string, bool){
				"FirstLuckyOf": impl.FirstLuckyOf, "LuckyOfRank": impl.LuckyOfRank, "TicketOfNumber": impl.TicketOfNumber,
			} {
				s, ok := ask(digits, other)
				wantText(t, fmt.Sprint(name, " ", digits, other), s, ok, "", false)
			}
		}
	}
}

// TestTicketResultsAreNew: what a caller does to a list that was returned is not seen in the next one.
func TestTicketResultsAreNew(t *testing.T) {
	sums, _ := impl.SumsOfLucky(4)
	want := slices.Clone(sums)
	for i := range sums {
		sums[i] = -1
	}
	again, ok := impl.SumsOfLucky(4)
	wantList(t, "SumsOfLucky again", again, ok, want, true)
	digits, _ := impl.LuckyDigits("1920")
	digits[0] = -1
	digits, ok = impl.LuckyDigits("1920")
	wantList(t, "LuckyDigits again", digits, ok, []int{8}, true)
	if impl.MaxTicket != maxTicket {
		t.Error("MaxTicket", impl.MaxTicket)
	}
}
