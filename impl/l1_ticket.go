package impl

import (
	"strconv"
	"strings"
)

const MaxTicket = 12

// half is all that luck knows of one half of a ticket, so that two halves can be compared as values.
type half struct {
	digits int
	sum    int
}

// halves are two parts of a ticket with as many digits each, by whatever rule it is parted.
type halves struct {
	first  half
	second half
}

func (h halves) areAlike() bool { return h.first == h.second }

// readTicket is a text that is known to be a ticket, with the halves of chapter 1.
type readTicket struct {
	halves
	text string
}

func isTicketSize(digits int) bool {
	return digits >= 2 && digits <= MaxTicket && digits%2 == 0
}

func isDigits(text string) bool {
	for i := range len(text) {
		if text[i] < '0' || text[i] > '9' {
			return false
		}
	}
	return true
}

func halfOf(text string) half {
	sum := 0
	for i := range len(text) {
		sum += int(text[i] - '0')
	}
	return half{len(text), sum}
}

func halvesOf(text string) halves {
	middle := len(text) / 2
	return halves{halfOf(text[:middle]), halfOf(text[middle:])}
}

// ofTicket asks a ticket for something, and fails for a text that is none.
func ofTicket[T any](text string, ask func(readTicket) T) (T, bool) {
	if !IsTicket(text) {
		var none T
		return none, false
	}
	return ask(readTicket{halvesOf(text), text}), true
}

func (t readTicket) sums() halves { return t.halves }

func (t readTicket) isEverySecond() bool {
	var first, second strings.Builder
	for i := 0; i < len(t.text); i += 2 {
		first.WriteByte(t.text[i])
		second.WriteByte(t.text[i+1])
	}
	return halves{halfOf(first.String()), halfOf(second.String())}.areAlike()
}

func (t readTicket) number() int { return numberIn(t.text) }

func (t readTicket) turned() string { return turned(t.text) }

func (t readTicket) swapped() string {
	middle := len(t.text) / 2
	return t.text[middle:] + t.text[:middle]
}

func (t readTicket) nines() string { return nines(t.text) }

func (t readTicket) luckyDigits() []int {
	last := int(t.text[len(t.text)-1] - '0')
	digit := t.first.sum - (t.second.sum - last)
	if digit < 0 || digit > 9 {
		return nil
	}
	return []int{digit}
}

// sumCounts has in row n, at s, how many texts of n digits have the sum s.
type sumCounts [][]int

func newSumCounts(most int) sumCounts {
	counts := sumCounts{{1}}
	for n := 1; n <= most; n++ {
		row := make([]int, 9*n+1)
		for sum, count := range counts[n-1] {
			for digit := range 10 {
				row[sum+digit] += count
			}
		}
		counts = append(counts, row)
	}
	return counts
}

func (c sumCounts) of(digits int, sum int) int {
	if sum < 0 || sum >= len(c[digits]) {
		return 0
	}
	return c[digits][sum]
}

// luckyWalk goes along a ticket from its first digit on. The balance is by how much
// the first half is ahead of the second one; a lucky ticket ends with a balance of 0.
type luckyWalk struct {
	counts  sumCounts
	digits  int
	place   int
	balance int
}

func newLuckyWalk(digits int) luckyWalk {
	return luckyWalk{counts: newSumCounts(digits), digits: digits}
}

func (w luckyWalk) step(digit int) luckyWalk {
	if w.place < w.digits/2 {
		w.balance += digit
	} else {
		w.balance -= digit
	}
	w.place++
	return w
}

// completions counts the lucky tickets that begin as the walk did. With 9-d in place of
// each digit d that the second half still needs, the digits that are left add up to one
// told sum just when the ticket is lucky, so that one look into the counts is enough.
func (w luckyWalk) completions() int {
	left := w.digits - w.place
	second := min(left, w.digits/2)
	return w.counts.of(left, 9*second-w.balance)
}

// luckyUpTo returns how many lucky tickets come before a ticket, and how many do or are the ticket.
func luckyUpTo(ticket string) (int, int) {
	walk := newLuckyWalk(len(ticket))
	before := 0
	for i := range len(ticket) {
		own := int(ticket[i] - '0')
		for digit := range own {
			before += walk.step(digit).completions()
		}
		walk = walk.step(own)
	}
	return before, before + walk.completions()
}

// leastHalf returns the first text of so many digits with a sum that they can have:
// what is great stands as far to the end as it can.
func leastHalf(digits int, sum int) string {
	text := ""
	for range digits {
		digit := min(sum, 9)
		text = strconv.Itoa(digit) + text
		sum -= digit
	}
	return text
}

// digitsOf writes a number with zeros in front, so that it has at least so many digits.
func digitsOf(number int, digits int) string {
	text := strconv.Itoa(number)
	return strings.Repeat("0", max(0, digits-len(text))) + text
}

// numberIn reads what digitsOf writes.
func numberIn(text string) int {
	number := 0
	for i := range len(text) {
		number = number*10 + int(text[i]-'0')
	}
	return number
}

func turned(text string) string {
	var turned strings.Builder
	for i := range len(text) {
		turned.WriteByte(text[len(text)-1-i])
	}
	return turned.String()
}

func nines(text string) string {
	var nines strings.Builder
	for i := range len(text) {
		nines.WriteByte('0' + '9' - text[i])
	}
	return nines.String()
}

// IsTicket reports whether a text is a ticket.
func IsTicket(ticket string) bool {
	return isTicketSize(len(ticket)) && isDigits(ticket)
}

// HalfSums returns the sums of the digits of both halves.
func HalfSums(ticket string) (int, int, bool) {
	sums, ok := ofTicket(ticket, readTicket.sums)
	return sums.first.sum, sums.second.sum, ok
}

// IsLucky reports whether a ticket is lucky.
func IsLucky(ticket string) (bool, bool) {
	return ofTicket(ticket, readTicket.areAlike)
}

// IsEverySecond reports whether the first, third, .. digits of a ticket have one sum with the second, fourth, .. ones.
func IsEverySecond(ticket string) (bool, bool) {
	return ofTicket(ticket, readTicket.isEverySecond)
}

// CountLucky returns how many lucky tickets of so many digits there are.
func CountLucky(digits int) (int, bool) {
	if !isTicketSize(digits) {
		return 0, false
	}
	return newLuckyWalk(digits).completions(), true
}

// CountLuckyOf returns how many of these have halves with just so much, at least 0.
func CountLuckyOf(digits int, sum int) (int, bool) {
	return CountTickets(digits, sum, sum)
}

// FirstLuckyOf returns the first one of these. It fails if there is none.
func FirstLuckyOf(digits int, sum int) (string, bool) {
	if !isTicketSize(digits) || sum < 0 || sum > 9*(digits/2) {
		return "", false
	}
	text := leastHalf(digits/2, sum)
	return text + text, true
}

// CountTickets returns how many tickets have just these sums of their halves, both at least 0.
func CountTickets(digits int, first int, second int) (int, bool) {
	if !isTicketSize(digits) || first < 0 || second < 0 {
		return 0, false
	}
	counts := newSumCounts(digits / 2)
	return counts.of(digits/2, first) * counts.of(digits/2, second), true
}

// RankOfLucky returns how many lucky tickets of as many digits come before a ticket, lucky or not.
func RankOfLucky(ticket string) (int, bool) {
	if !IsTicket(ticket) {
		return 0, false
	}
	before, _ := luckyUpTo(ticket)
	return before, true
}

// LuckyOfRank returns the lucky ticket before which just rank others come. It fails if there is none.
func LuckyOfRank(digits int, rank int) (string, bool) {
	count, ok := CountLucky(digits)
	if !ok || rank < 0 || rank >= count {
		return "", false
	}
	var text strings.Builder
	walk := newLuckyWalk(digits)
	for range digits {
		digit := 0
		for rank >= walk.step(digit).completions() {
			rank -= walk.step(digit).completions()
			digit++
		}
		text.WriteByte('0' + byte(digit))
		walk = walk.step(digit)
	}
	return text.String(), true
}

// NextLucky returns the first lucky ticket that comes behind a ticket. It fails if there is none.
func NextLucky(ticket string) (string, bool) {
	if !IsTicket(ticket) {
		return "", false
	}
	_, upTo := luckyUpTo(ticket)
	return LuckyOfRank(len(ticket), upTo)
}

// LastLucky returns the last one that comes before it. It fails if there is none.
func LastLucky(ticket string) (string, bool) {
	if !IsTicket(ticket) {
		return "", false
	}
	before, _ := luckyUpTo(ticket)
	return LuckyOfRank(len(ticket), before-1)
}

// GapsAround returns by how many numbers LastLucky is before a ticket, and NextLucky behind it: 0 where there is none.
func GapsAround(ticket string) (int, int, bool) {
	number, ok := NumberOfTicket(ticket)
	if !ok {
		return 0, 0, false
	}
	before, behind := 0, 0
	if last, found := LastLucky(ticket); found {
		lucky, _ := NumberOfTicket(last)
		before = number - lucky
	}
	if next, found := NextLucky(ticket); found {
		lucky, _ := NumberOfTicket(next)
		behind = lucky - number
	}
	return before, behind, true
}

// CountLuckyBetween returns how many lucky tickets come behind a, and not behind b, of as many digits, which does not come before a.
func CountLuckyBetween(a string, b string) (int, bool) {
	if !IsTicket(a) || !IsTicket(b) || len(a) != len(b) || b < a {
		return 0, false
	}
	_, upToA := luckyUpTo(a)
	_, upToB := luckyUpTo(b)
	return upToB - upToA, true
}

// NumberOfTicket returns the number that a ticket tells.
func NumberOfTicket(ticket string) (int, bool) {
	return ofTicket(ticket, readTicket.number)
}

// TicketOfNumber returns the ticket with a number, at least 0. It fails if that has too many digits.
func TicketOfNumber(digits int, n int) (string, bool) {
	if !isTicketSize(digits) || n < 0 {
		return "", false
	}
	text := digitsOf(n, digits)
	if len(text) > digits {
		return "", false
	}
	return text, true
}

// TurnTicket returns the ticket told from its end.
func TurnTicket(ticket string) (string, bool) {
	return ofTicket(ticket, readTicket.turned)
}

// SwapHalves returns the ticket with its halves exchanged.
func SwapHalves(ticket string) (string, bool) {
	return ofTicket(ticket, readTicket.swapped)
}

// NinesTicket returns the ticket whose digits are those that make 9 with the ones of a ticket.
func NinesTicket(ticket string) (string, bool) {
	return ofTicket(ticket, readTicket.nines)
}

// SumsOfLucky returns for each sum, 0, 1, .., up to the greatest, how many lucky tickets have it.
func SumsOfLucky(digits int) ([]int, bool) {
	if !isTicketSize(digits) {
		return nil, false
	}
	var sums []int
	for _, count := range newSumCounts(digits / 2)[digits/2] {
		sums = append(sums, count*count)
	}
	return sums, true
}

// LuckyDigits returns all digits that, put in place of the last one, make a ticket lucky: one at most.
func LuckyDigits(ticket string) ([]int, bool) {
	return ofTicket(ticket, readTicket.luckyDigits)
}
