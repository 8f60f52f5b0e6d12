package tests

import (
	"fmt"
	"maps"
	"math"
	"regexp"
	"slices"
	"strings"
	"sync"
	"testing"

	"loop.example/g01395/impl"
)

// The signatures of chapter 10 are those that the document declares.
var (
	_ func() impl.Desk                                         = impl.FirstDesk
	_ func(impl.Desk) bool                                     = impl.IsDesk
	_ func(d impl.Desk, line string) (impl.Desk, string, bool) = impl.DeskLine
	_ func(string) ([]string, bool)                            = impl.RunScript
	_ func(string) (impl.Desk, bool)                           = impl.DeskAfter
	_ func(string) ([]int, bool)                               = impl.FailedLines
)

const (
	maxScript = 3000
	maxLines  = 50
	maxInLine = 999999
)

func TestLimitsOfConsole(t *testing.T) {
	if impl.MaxScript != maxScript || impl.MaxLines != maxLines {
		t.Error("limits are not those of the document")
	}
}

func deskOf(ticket string, s impl.Scheme, number int, reading string) impl.Desk {
	return impl.Desk{Ticket: ticket, Scheme: s, Number: number, Reading: reading}
}

// usualDesk is the first one as the document tells it, in memory of its own.
func usualDesk() impl.Desk { return deskOf("123321", schemeOf("LL", "", "AB"), 100, "15951") }

func copyOfDesk(d impl.Desk) impl.Desk {
	d.Scheme.Words = slices.Clone(d.Scheme.Words)
	return d
}

func areDesksAlike(a impl.Desk, b impl.Desk) bool {
	areSchemes := a.Scheme.Pattern == b.Scheme.Pattern && a.Scheme.Barred == b.Scheme.Barred && slices.Equal(a.Scheme.Words, b.Scheme.Words)
	return areSchemes && a.Ticket == b.Ticket && a.Number == b.Number && a.Reading == b.Reading
}

func wantDesk(t *testing.T, what string, got impl.Desk, ok bool, want impl.Desk, wantOk bool) {
	t.Helper()
	if !areDesksAlike(got, want) || ok != wantOk {
		t.Errorf("%.100s: %.200q %v, want %.200q %v", what, fmt.Sprint(got), ok, fmt.Sprint(want), wantOk)
	}
}

// wantLine checks the reply to a line, and the desk behind it, which is a desk.
func wantLine(t *testing.T, d impl.Desk, line string, reply string, behind impl.Desk) {
	t.Helper()
	what := fmt.Sprintf("%.100q", line)
	got, gotReply, ok := impl.DeskLine(d, line)
	wantText(t, what, gotReply, ok, reply, true)
	wantDesk(t, what, got, ok, behind, true)
	if !impl.IsDesk(got) {
		t.Errorf("no desk behind %s: %v", what, got)
	}
}

func scriptOf(lines ...string) string {
	if len(lines) == 0 {
		return ""
	}
	return strings.Join(lines, "\n") + "\n"
}

func isRefused(reply string) bool { return reply == "no" || reply == "what" }

// failedIn numbers the replies that are no or what.
func failedIn(replies []string) []int {
	var numbers []int
	for i, reply := range replies {
		if isRefused(reply) {
			numbers = append(numbers, i+1)
		}
	}
	return numbers
}

// wantScript checks all that is told of a script.
func wantScript(t *testing.T, lines []string, replies []string, behind impl.Desk) {
	t.Helper()
	s := scriptOf(lines...)
	got, ok := impl.RunScript(s)
	wantTexts(t, fmt.Sprintf("RunScript %.300q", s), got, ok, replies, true)
	numbers, ok := impl.FailedLines(s)
	wantList(t, fmt.Sprintf("FailedLines %.300q", s), numbers, ok, failedIn(replies), true)
	d, ok := impl.DeskAfter(s)
	wantDesk(t, fmt.Sprintf("DeskAfter %.300q", s), d, ok, behind, true)
}

// wantReplies takes lines, each with its reply behind it, from the first desk on, as a script and one by one.
func wantReplies(t *testing.T, behind impl.Desk, told ...string) {
	t.Helper()
	var lines, replies []string
	for pair := range slices.Chunk(told, 2) {
		lines, replies = append(lines, pair[0]), append(replies, pair[1])
	}
	wantScript(t, lines, replies, behind)
	d := usualDesk()
	for i, line := range lines {
		next, reply, ok := impl.DeskLine(d, line)
		wantText(t, fmt.Sprintf("line %d, %q", i+1, line), reply, ok, replies[i], true)
		if isRefused(replies[i]) {
			wantDesk(t, "behind "+line, next, ok, d, true)
		}
		d = next
	}
	wantDesk(t, "behind the last line", d, true, behind, true)
}

var exampleLines = strings.Split("lucky,halves,gaps,next,last,nines,ticket 001001,rank,count 4,count 3,plates,place AC,plate 25,behind AA 25,place AB,"+
	"word ZZ,plates,spoiled,bar A,bar A,plates,written,digit 1,sum,all,digits,broken 4,broken 0,after,number 987,root,at 15,pages 600,shows 13 4,"+
	"kinds,far m,come m,upside,miles 83939,different,many 4 u,reading 0095,both 08,come x,fly", ",")

var exampleReplies = strings.Split("yes;6 6;9 9;123330;123321;876678;001001;1;670;no;675;1;BA;BA;what;"+
	"LL~AB~ZZ;674;2;LL!A~AB~ZZ;no;624;192;21;1;901;11,21,20,20,20,20,20,20,20,20;81;no;1000;987;6;2;236;15;"+
	"m;110;16061;19091;00000;1;25;0095;125;what;what", ";")

func TestConsoleExample(t *testing.T) {
	wantScript(t, exampleLines, exampleReplies, deskOf("001001", schemeOf("LL", "A", "AB", "ZZ"), 6, "0095"))
	numbers, ok := impl.FailedLines(scriptOf(exampleLines...))
	wantList(t, "FailedLines", numbers, ok, []int{10, 15, 20, 28, 44, 45}, true)
}

func TestFirstDesk(t *testing.T) {
	wantDesk(t, "FirstDesk", impl.FirstDesk(), true, usualDesk(), true)
	if !impl.IsDesk(impl.FirstDesk()) {
		t.Error("the first desk is no desk")
	}
	text, ok := impl.SchemeText(impl.FirstDesk().Scheme)
	wantText(t, "its scheme", text, ok, "LL~AB", true)
}

// TestLinesOfTickets, and those of the other chapters, tell replies themselves, and do not ask the calls for them.
func TestLinesOfTickets(t *testing.T) {
	behind := usualDesk()
	behind.Ticket = "999999999999"
	wantReplies(t, behind,
		"rank", "5536", "ticket 0000", "0000", "last", "no", "gaps", "0 101", "rank", "0", "next", "0101", "lucky", "yes", "nines", "9898",
		"halves", "17 17", "gaps", "9 101", "rank", "668", "next", "9999", "next", "no", "rank", "669", "gaps", "101 0", "last", "9898",
		"ticket 12", "12", "lucky", "never", "halves", "1 2", "rank", "2", "gaps", "1 10", "nines", "87", "last", "77", "ticket 12", "12", "next", "22",
		"count 2", "10", "count 6", "55252", "count 12", "39581170420", "count 0", "no", "count 1", "no", "count 11", "no", "count 13", "no", "count 14", "no", "count 999999", "no",
		"ticket 000000000000", "000000000000", "last", "no", "halves", "0 0", "nines", "999999999999", "next", "no", "lucky", "yes")
}

func TestLinesOfPlates(t *testing.T) {
	behind := usualDesk()
	behind.Scheme = schemeOf("LD", "09AZ", "B2", "9")
	wantReplies(t, behind,
		"scheme D", "D", "plates", "10", "spoiled", "0", "place 7", "7", "plate 9", "9", "plate 10", "no", "plate 999999", "no",
		"behind 7 0", "7", "behind 7 2", "9", "behind 7 3", "no", "behind 7 999999", "no", "bar 3", "D!3", "place 3", "what", "place 4", "3", "bar 3", "no",
		"word 4", "D!3~4", "plates", "8", "spoiled", "1", "place 4", "what", "behind 4 0", "what", "behind 2 1", "5",
		"word ABCD", "D!3~4~ABCD", "word 4", "D!3~4~ABCD~4", "word 5", "no", "bar 35", "no", "bar Z", "D!3Z~4~ABCD~4", "bar 0", "D!03Z~4~ABCD~4", "plate 0", "1", "plates", "7",
		"scheme L!ABCDEFGHIJKLMNOPQRSTUVWXYZ", "L!ABCDEFGHIJKLMNOPQRSTUVWXYZ", "plates", "0", "spoiled", "0", "plate 0", "no", "place A", "what",
		"scheme LD!0AZ~B2~9", "LD!0AZ~B2~9", "plates", "191", "spoiled", "25", "bar 9", "LD!09AZ~B2~9", "spoiled", "1")
}

func TestLinesOfDigits(t *testing.T) {
	behind := usualDesk()
	behind.Number = 9
	wantReplies(t, behind,
		"number 0", "0", "written", "0", "digits", "0,0,0,0,0,0,0,0,0,0", "digit 0", "0", "sum", "0", "all", "0", "after", "no", "broken 5", "no", "root", "0",
		"number 10", "10", "broken 0", "no", "broken 1", "no", "broken 2", "9", "broken 9", "9", "broken 10", "no", "digit 0", "1", "digit 9", "1", "digit 10", "no", "digit 999999", "no", "sum", "1",
		"at 0", "no", "at 1", "1", "at 11", "0", "pages 0", "0", "pages 10", "9", "pages 11", "10",
		"shows 0 4", "no", "shows 1 1", "2", "shows 10 0", "11", "shows 13 10", "no", "shows 999999 9", "1783660",
		"number 999999", "999999", "written", "5888889", "digit 0", "488889", "digit 9", "600000", "all", "27000000", "after", "1899999", "after", "1989999", "root", "9")
}

func TestLinesOfMileage(t *testing.T) {
	behind := usualDesk()
	behind.Reading = "00"
	wantReplies(t, behind,
		"reading 0", "0", "kinds", "amurfd", "upside", "0", "different", "1", "reading 1213", "1213", "kinds", "-", "different", "3", "upside", "no",
		"far d", "17", "far u", "478", "come f", "3210", "far r", "246", "come r", "3456", "far m", "97", "come m", "3553",
		"reading 00", "00", "both 02", "no", "both 5", "11", "both 01", "99", "far a", "11", "come a", "11", "miles 0", "11", "miles 89", "00", "miles 999999", "99", "upside", "66", "far m", "1",
		"many 0 m", "no", "many 10 m", "no", "many 999999 a", "no", "many 1 a", "10", "many 9 d", "3628800", "many 9 m", "100000", "come u", "00")
}

// kindShapes are patterns of the words that the document names by a letter. Of S and P they are more than all.
var kindShapes = map[string]string{
	"N": "(0|[1-9][0-9]{0,5})", "K": "(0|[1-9][0-9]{0,5})", "T": "(([0-9][0-9]){1,6})", "S": "([LD]{1,8}(!0?1?2?3?4?5?6?7?8?9?A?B?C?D?E?F?G?H?I?J?K?L?M?N?O?P?Q?R?S?T?U?V?W?X?Y?Z?)?(~[A-Z0-9]{1,4}){0,3})",
	"P": "([A-Z0-9]{1,8})", "W": "([A-Z0-9]{1,4})", "R": "([0-9]{1,9})", "X": "([amurfd])",
}

// lineRow is a line of the document's table: what it does to a desk, with the words of the line, the command with them.
type lineRow struct {
	shape string
	does  func(d *impl.Desk, words []string) (string, bool)
}

func asReply[T any](result T, ok bool) (string, bool) { return fmt.Sprint(result), ok }

func asReplies[A any, B any](first A, second B, ok bool) (string, bool) {
	return fmt.Sprint(first, " ", second), ok
}

var lineRows = []lineRow{
	{"ticket T", func(d *impl.Desk, words []string) (string, bool) { d.Ticket = words[1]; return d.Ticket, true }},
	{"scheme S", func(d *impl.Desk, words []string) (string, bool) {
		d.Scheme, _ = impl.ParseScheme(words[1])
		return words[1], true
	}},
	{"number N", func(d *impl.Desk, words []string) (string, bool) {
		d.Number = numberOf(words[1])
		return words[1], true
	}},
	{"reading R", func(d *impl.Desk, words []string) (string, bool) { d.Reading = words[1]; return d.Reading, true }},
	{"next", func(d *impl.Desk, _ []string) (_ string, ok bool) {
		d.Ticket, ok = impl.NextLucky(d.Ticket)
		return d.Ticket, ok
	}},
	{"last", func(d *impl.Desk, _ []string) (_ string, ok bool) {
		d.Ticket, ok = impl.LastLucky(d.Ticket)
		return d.Ticket, ok
	}},
	{"nines", func(d *impl.Desk, _ []string) (_ string, ok bool) {
		d.Ticket, ok = impl.NinesTicket(d.Ticket)
		return d.Ticket, ok
	}},
	{"bar W", func(d *impl.Desk, words []string) (_ string, ok bool) {
		d.Scheme, ok = impl.BarSign(d.Scheme, words[1])
		text, _ := impl.SchemeText(d.Scheme)
		return text, ok
	}},
	{"word W", func(d *impl.Desk, words []string) (_ string, ok bool) {
		d.Scheme, ok = impl.AddWord(d.Scheme, words[1])
		text, _ := impl.SchemeText(d.Scheme)
		return text, ok
	}},
	{"after", func(d *impl.Desk, _ []string) (_ string, ok bool) {
		d.Number, ok = impl.NextOfSum(d.Number)
		return textOf(d.Number), ok
	}},
	{"root", func(d *impl.Desk, _ []string) (_ string, ok bool) {
		d.Number, _, ok = impl.DigitRoot(d.Number)
		return textOf(d.Number), ok
	}},
	{"miles N", func(d *impl.Desk, words []string) (_ string, ok bool) {
		d.Reading, ok = impl.AddMiles(d.Reading, numberOf(words[1]))
		return d.Reading, ok
	}},
	{"come X", func(d *impl.Desk, words []string) (_ string, ok bool) {
		d.Reading, ok = impl.NextOfKind(d.Reading, words[1])
		return d.Reading, ok
	}},
	{"lucky", func(d *impl.Desk, _ []string) (string, bool) {
		is, ok := impl.IsLucky(d.Ticket)
		return map[bool]string{true: "yes", false: "never"}[is], ok
	}},
	{"halves", func(d *impl.Desk, _ []string) (string, bool) { return asReplies(impl.HalfSums(d.Ticket)) }},
	{"rank", func(d *impl.Desk, _ []string) (string, bool) { return asReply(impl.RankOfLucky(d.Ticket)) }},
	{"gaps", func(d *impl.Desk, _ []string) (string, bool) { return asReplies(impl.GapsAround(d.Ticket)) }},
	{"count N", func(_ *impl.Desk, words []string) (string, bool) { return asReply(impl.CountLucky(numberOf(words[1]))) }},
	{"plates", func(d *impl.Desk, _ []string) (string, bool) { return asReply(impl.CountPlates(d.Scheme)) }},
	{"spoiled", func(d *impl.Desk, _ []string) (string, bool) { return asReply(impl.CountSpoiled(d.Scheme)) }},
	{"place P", func(d *impl.Desk, words []string) (string, bool) {
		return asReply(impl.RankOfPlate(d.Scheme, words[1]))
	}},
	{"plate N", func(d *impl.Desk, words []string) (string, bool) {
		return impl.PlateOfRank(d.Scheme, numberOf(words[1]))
	}},
	{"behind P N", func(d *impl.Desk, words []string) (string, bool) {
		return impl.PlateBehind(d.Scheme, words[1], numberOf(words[2]))
	}},
	{"written", func(d *impl.Desk, _ []string) (string, bool) { return asReply(impl.DigitsWritten(d.Number)) }},
	{"digit N", func(d *impl.Desk, words []string) (string, bool) {
		return asReply(impl.CountDigit(d.Number, numberOf(words[1])))
	}},
	{"digits", func(d *impl.Desk, _ []string) (string, bool) {
		counts, ok := impl.DigitCounts(d.Number)
		return strings.ReplaceAll(strings.Trim(fmt.Sprint(counts), "[]"), " ", ","), ok
	}},
	{"sum", func(d *impl.Desk, _ []string) (string, bool) { return asReply(impl.DigitSum(d.Number)) }},
	{"all", func(d *impl.Desk, _ []string) (string, bool) { return asReply(impl.SumOfDigitsUpTo(d.Number)) }},
	{"broken N", func(d *impl.Desk, words []string) (string, bool) {
		return asReply(impl.CountOfCounter(d.Number, numberOf(words[1])))
	}},
	{"at N", func(_ *impl.Desk, words []string) (string, bool) {
		return asReply(impl.DigitAtPlace(numberOf(words[1])))
	}},
	{"pages N", func(_ *impl.Desk, words []string) (string, bool) {
		return asReply(impl.LastWritten(numberOf(words[1])))
	}},
	{"shows N K", func(_ *impl.Desk, words []string) (string, bool) {
		return asReply(impl.CounterShows(numberOf(words[1]), numberOf(words[2])))
	}},
	{"kinds", func(d *impl.Desk, _ []string) (string, bool) {
		kinds, ok := impl.KindsOfReading(d.Reading)
		if kinds == "" {
			return "-", ok
		}
		return kinds, ok
	}},
	{"upside", func(d *impl.Desk, _ []string) (string, bool) { return impl.UpsideOf(d.Reading) }},
	{"far X", func(d *impl.Desk, words []string) (string, bool) {
		return asReply(impl.MilesToKind(d.Reading, words[1]))
	}},
	{"different", func(d *impl.Desk, _ []string) (string, bool) { return asReply(impl.DifferentDigits(d.Reading)) }},
	{"many N X", func(_ *impl.Desk, words []string) (string, bool) {
		return asReply(impl.CountOfKind(numberOf(words[1]), words[2]))
	}},
	{"both R", func(d *impl.Desk, words []string) (string, bool) {
		return asReply(impl.BothMirrored(d.Reading, words[1]))
	}},
}

// shownLines has a pattern of whole lines for each row.
func shownLines() []*regexp.Regexp {
	var shapes []*regexp.Regexp
	for _, row := range lineRows {
		words := strings.Split(row.shape, " ")
		for i, word := range words[1:] {
			words[1+i] = kindShapes[word]
		}
		shapes = append(shapes, regexp.MustCompile(`\A`+strings.Join(words, " ")+`\z`))
	}
	return shapes
}

var lineShapes = shownLines()

// isPlateText looks for a text of the scheme sign by sign.
func isPlateText(s impl.Scheme, text string) bool {
	if len(text) != len(s.Pattern) || hasWord(s, text) || strings.ContainsAny(text, s.Barred) {
		return false
	}
	for i, letter := range s.Pattern {
		if !strings.Contains(map[rune]string{'L': allLetters, 'D': allDigits}[letter], text[i:i+1]) {
			return false
		}
	}
	return true
}

// isMeant looks at what the patterns of S and P leave open.
func isMeant(d impl.Desk, row lineRow, words []string) bool {
	switch strings.Split(row.shape+" ", " ")[1] {
	case "S":
		return !strings.HasSuffix(words[1], "!") && !strings.Contains(words[1], "!~")
	case "P":
		return isPlateText(d.Scheme, words[1])
	}
	return true
}

// lineByTable does what the table of the document says.
func lineByTable(d impl.Desk, line string) (impl.Desk, string) {
	for i, row := range lineRows {
		words := strings.Split(line, " ")
		if !lineShapes[i].MatchString(line) || !isMeant(d, row, words) {
			continue
		}
		behind := copyOfDesk(d)
		reply, ok := row.does(&behind, words)
		if !ok {
			return d, "no"
		}
		return behind, reply
	}
	return d, "what"
}

func wantByTable(t *testing.T, d impl.Desk, line string) (impl.Desk, string) {
	t.Helper()
	behind, reply := lineByTable(d, line)
	wantLine(t, d, line, reply, behind)
	return behind, reply
}

// someDesks are desks with their parts at the bounds, and between them.
var someDesks = []impl.Desk{
	usualDesk(),
	deskOf("00", schemeOf("D", ""), 0, "0"),
	deskOf("99", schemeOf("L", allLetters), 1, "9"),
	deskOf("000000000000", schemeOf("LLLLLLLL", ""), maxWritten, "000000000"),
	deskOf("999999999999", schemeOf("DDDDDDDD", "", "9999", "1", "22"), maxWritten-1, "999999999"),
	deskOf("1234", schemeOf("LD", "09AZ", "B2"), 999999, "1213"),
	deskOf("87654321", schemeOf("DLD", allDigits[1:]+allLetters[1:], "0A", "A0"), 1000000, "10"),
	deskOf("0990", schemeOf("LL", "0", "AB", "CD", "EF"), 4711, "6889"),
	deskOf("999999", schemeOf("DD", "", "A", "A", "ABCD"), 99, "98"),
	deskOf("5005", schemeOf("LLD", "1B"), 100000000000, "8"),
}

func TestWhatIsADesk(t *testing.T) {
	for _, d := range someDesks {
		if !impl.IsDesk(d) {
			t.Error("no desk", d)
		}
	}
	for _, s := range smallSchemes {
		if !impl.IsDesk(deskOf("11", s, 1, "1")) {
			t.Error("no desk with", s)
		}
	}
	for _, d := range noDesks() {
		if impl.IsDesk(d) {
			t.Errorf("a desk: %.200q", fmt.Sprint(d))
		}
	}
}

// noDesks are no desks, each by one part alone, and two more.
func noDesks() []impl.Desk {
	desks := []impl.Desk{{}, deskOf("1", impl.Scheme{}, -1, "")}
	for _, base := range []impl.Desk{usualDesk(), someDesks[5]} {
		for _, ticket := range noTickets {
			desks = append(desks, deskOf(ticket, base.Scheme, base.Number, base.Reading))
		}
		for _, s := range noSchemes {
			desks = append(desks, deskOf(base.Ticket, s, base.Number, base.Reading))
		}
		for _, n := range []int{math.MinInt, math.MinInt + 1, -maxWritten, -100, -1, maxWritten + 1, 2 * maxWritten, math.MaxInt - 1, math.MaxInt} {
			desks = append(desks, deskOf(base.Ticket, base.Scheme, n, base.Reading))
		}
		for _, reading := range noReadings {
			desks = append(desks, deskOf(base.Ticket, base.Scheme, base.Number, reading))
		}
	}
	return desks
}

func wantNoLine(t *testing.T, d impl.Desk, line string) {
	t.Helper()
	behind, reply, ok := impl.DeskLine(d, line)
	what := fmt.Sprintf("DeskLine %.100q", line)
	wantText(t, what, reply, ok, "", false)
	wantDesk(t, what, behind, ok, impl.Desk{}, false)
}

// TestNoLinesOnNoDesks: a line that would put right what is wrong does not help.
func TestNoLinesOnNoDesks(t *testing.T) {
	for _, d := range noDesks() {
		for _, line := range []string{"lucky", "ticket 1221", "scheme LL", "number 7", "reading 123", "count 4", "root", "fly", ""} {
			wantNoLine(t, d, line)
		}
	}
}

// wordsOfKinds are words for each letter, such as are of the kind and such as are not.
var wordsOfKinds = map[string][]string{
	"N": append([]string{"0", "1", "2", "4", "9", "10", "12", "25", "600", "999", "1000000", "99999", "999999", "2000000", "9999999"}, noWords...),
	"K": append([]string{"0", "1", "4", "9", "10", "11", "999999", "1000000"}, noWords...),
	"T": append([]string{"00", "12", "123321", "9999", "000000000000", "123456789012"}, noTickets...),
	"S": append([]string{
		"L", "D", "LDLDLDLD", "DD!0", "LL!A", "LL!0A~A", "LL~AB", "LL~AB~AB~AB", "D~1~12~1234", "L!" + plateSigns, "L!" + plateSigns + "~AAAA~BBBB~CCCC",
		"LLLLLLLLL", "LL!", "LL~", "LL!~A", "LL!A~", "LL~~A", "LL~A~", "!A", "~A", "L!AA", "L!BA", "L!A0", "L~ABCDE", "L~A~B~C~D", "L~A!A", "L!A!B", "LX", "l", "L!a", "L~a", "A", "1",
	}, noWords...),
	"P": append([]string{"AA", "AB", "AC", "ZZ", "B1", "B2", "0", "9", "A", "00", "12", "BZ1", "0A0", "AAAAAAAA", "00000000", "33333333", "AAA", "aa", "A9"}, noWords...),
	"W": append([]string{"A", "Z", "0", "9", "AB", "A1", "ABC", "ABCD", "0000", "ABCDE", "00000", "a", "Ab", "A-", "A~B", "A!", "[", "@", "/", ":", strings.Repeat("A", 500)}, noWords...),
	"R": append([]string{"0", "9", "02", "08", "0095", "123456789", "000000000", "999999999", "16061"}, noReadings...),
	"X": append(strings.Split("amurfd", ""), noKinds...),
}

// noWords are words of no kind but some of the shorter ones, which may be barred or written on a plate.
var noWords = []string{
	"", "00", "01", "007", "000000", "0000000", "0999999", "-0", "-1", "+1", "+0", "-", "+", "1.0", "1.", ".1", "1e3", "0x1", "0b1", "1_000", "1,000", "1,2", "9223372036854775807",
	"9223372036854775808", "18446744073709551617", "99999999999999999999999", "\t1", "1\t", "1\r", "\x00", "1\x00", "\xff", "é", "٣", "１", "x", "AB~", "NaN", "?", "no", "what", strings.Repeat("1", 1000),
}

// linesOfShape puts all words that are known of their kinds into a line.
func linesOfShape(shape string) []string {
	words := strings.Split(shape, " ")
	lines := []string{words[0]}
	for _, kind := range words[1:] {
		var longer []string
		for _, line := range lines {
			for _, word := range wordsOfKinds[kind] {
				longer = append(longer, line+" "+word)
			}
		}
		lines = longer
	}
	return slices.DeleteFunc(lines, func(line string) bool { return strings.Contains(line, "\n") })
}

// TestLinesDoWhatTheTableSays executes all lines of all shapes on all desks, with words that are of their kind and not.
// Each row has lines that do something, and, where a function can fail or words can be none, such as do not.
func TestLinesDoWhatTheTableSays(t *testing.T) {
	neverNo := " ticket scheme number reading nines lucky halves rank gaps plates spoiled place written digits sum all root pages miles come kinds far different "
	for _, row := range lineRows {
		name, _, hasWords := strings.Cut(row.shape, " ")
		replies := map[string]int{}
		for _, line := range linesOfShape(row.shape) {
			for _, d := range someDesks {
				_, reply := wantByTable(t, d, line)
				if !isRefused(reply) {
					reply = "yes"
				}
				replies[reply]++
			}
		}
		if replies["yes"] == 0 || (replies["what"] > 0) != hasWords || (replies["no"] == 0) != strings.Contains(neverNo, " "+name+" ") {
			t.Error("replies to", row.shape, replies)
		}
	}
}

// TestTooManyAndTooFewWords: a line with a word more, an empty one too, or with one less, is none, also if a function would fail.
func TestTooManyAndTooFewWords(t *testing.T) {
	right := map[string]string{"N": "4", "K": "5", "T": "1221", "S": "LD", "P": "AA", "W": "C", "R": "171", "X": "m"}
	d := deskOf("123321", schemeOf("LL", "", "AB"), 100, "16061")
	for _, row := range lineRows {
		words := strings.Split(row.shape, " ")
		for i, word := range words[1:] {
			words[1+i] = right[word]
		}
		line := strings.Join(words, " ")
		if _, reply := wantByTable(t, d, line); isRefused(reply) {
			t.Error("line", line, reply)
		}
		for _, other := range []string{
			line + " ", " " + line, line + "  ", line + " x", line + " 1", line + " 0", line + " " + words[0], "  " + line, "x " + line, line + "\t", "\t" + line, line + "\r", line + "\x00", line + ",", line + ";",
			strings.ReplaceAll(line, " ", "  ") + " ", strings.ToUpper(line[:1]) + line[1:], strings.ToUpper(words[0]) + line[len(words[0]):], line[1:], words[0] + "s" + line[len(words[0]):], words[0][:len(words[0])-1] + "_" + line[len(words[0]):],
		} {
			wantLine(t, d, other, "what", d)
		}
		for i := range words {
			fewer := strings.Join(slices.Delete(slices.Clone(words), i, i+1), " ")
			if len(words) > 1 {
				wantLine(t, d, fewer, "what", d)
			}
			if i > 0 {
				wantLine(t, d, strings.Join(words[:i], " ")+"  "+strings.Join(words[i:], " "), "what", d)
				wantLine(t, d, strings.Join(words[:i], " ")+"\t"+strings.Join(words[i:], " "), "what", d)
			}
		}
	}
	for _, line := range []string{"count 3 4", "count 3 ", "bar AB C", "digit 10 10", "shows 0 10 1", "shows 0", "many 0", "many 0 m m", "behind AA 999999 1", "plate 999999 x", "after 1", "upside 0", "both 02 03", "at 0 0"} {
		wantLine(t, d, line, "what", d)
	}
}

func TestNoLines(t *testing.T) {
	for _, line := range []string{
		"", " ", "  ", "fly", "what", "no", "yes", "-", "T", "N", "ticket T", "number N", "ticket", "scheme", "Lucky", "LUCKY", "lucky,halves", "lucky;", "lucky\r", "lucky\x00", "\x00lucky", "\xef\xbb\xbflucky",
		"luckу", "lucky\u00a0", "halves\thalves", "123321", "LL~AB", "100", "tickets", "unlucky", "help", "quit", "reset", "undo", "#", "# lucky", "//", "é", "\xff", "next next", "next;last",
		"product", "end", "turn", "swap", "first", "total", "value", "signs", "houses", "house", "balanced", "check", "sound", "clue", "solve", "solved", "puzzle", "least", "greatest", "mirrored", "beginning", "with",
	} {
		for _, d := range someDesks {
			wantLine(t, d, line, "what", d)
		}
	}
}

// TestLongLines: at most MaxScript bytes, of which none is a newline.
func TestLongLines(t *testing.T) {
	for _, size := range []int{100, 1000, maxScript - 6, maxScript - 5, maxScript - 1, maxScript} {
		for _, begin := range []string{"lucky", "lucky ", "number ", "number 1", "ticket ", "ticket 11", "reading ", "scheme L~", "bar A", "x"} {
			for _, sign := range []string{"1", " ", "A", "~", "\x00", "0"} {
				line := begin + strings.Repeat(sign, size-len(begin))
				wantLine(t, usualDesk(), line, "what", usualDesk())
				wantNoLine(t, usualDesk(), line+strings.Repeat(sign, maxScript+1-size))
			}
		}
	}
	for _, size := range []int{maxScript + 1, maxScript + 2, 2 * maxScript, 1000000} {
		wantNoLine(t, usualDesk(), strings.Repeat("x", size))
		wantNoLine(t, usualDesk(), "lucky"+strings.Repeat(" ", size-5))
	}
	for _, line := range []string{"\n", "\n\n", "lucky\n", "\nlucky", "lucky\nlucky", "number 1\n", "number\n1", "fly\n", "lucky\r\n", strings.Repeat("x", maxScript-1) + "\n"} {
		wantNoLine(t, usualDesk(), line)
	}
}

// TestChangedLines looks at all lines of the example, with each of their bytes changed, taken out, or doubled.
func TestChangedLines(t *testing.T) {
	for _, line := range append(slices.Clone(exampleLines), "scheme LD!0A~B1", "ticket 98", "number 10", "shows 10 0", "many 9 d", "behind AA 1") {
		for i := range line {
			changed := []string{line[:i] + line[i+1:], line[:i+1] + line[i:]}
			for _, sign := range " \t0179AZaz~!+-.\x00\xff" {
				changed = append(changed, line[:i]+string(sign)+line[i:], line[:i]+string(sign)+line[i+1:])
			}
			for _, other := range changed {
				wantByTable(t, usualDesk(), other)
				wantByTable(t, someDesks[5], other)
			}
		}
	}
}

func TestSmallScripts(t *testing.T) {
	wantScript(t, nil, nil, usualDesk())
	wantScript(t, []string{""}, []string{"what"}, usualDesk())
	wantScript(t, []string{"", ""}, []string{"what", "what"}, usualDesk())
	wantScript(t, []string{"lucky"}, []string{"yes"}, usualDesk())
	wantScript(t, []string{"", "lucky", "", "no", "count 3", "halves"}, []string{"what", "yes", "what", "what", "no", "6 6"}, usualDesk())
	wantScript(t, []string{"lucky\r", "lucky"}, []string{"what", "yes"}, usualDesk())
	wantScript(t, []string{"\x00", "lucky\x00", "\xff", "lucky "}, []string{"what", "what", "what", "what"}, usualDesk())
	behind := usualDesk()
	behind.Number = 7
	wantScript(t, []string{"number 7"}, []string{"7"}, behind)
	wantScript(t, []string{"number 7", "number 07", "number x", "broken 7"}, []string{"7", "what", "what", "no"}, behind)
}

// TestStepsOfScripts: each line finds what the one before left.
func TestStepsOfScripts(t *testing.T) {
	behind := deskOf("9889", schemeOf("D", "5", "1"), 23, "00")
	wantReplies(t, behind,
		"ticket 9999", "9999", "last", "9898", "last", "9889", "lucky", "yes", "scheme D", "D", "place 5", "5", "bar 5", "D!5", "place 5", "what", "place 6", "5", "word 1", "D!5~1", "place 6", "4",
		"number 14", "14", "after", "23", "sum", "5", "reading 98", "98", "miles 1", "99", "miles 1", "00", "come m", "11", "miles 89", "00")
}

func wantNoScript(t *testing.T, s string) {
	t.Helper()
	what := fmt.Sprintf("script %.60q of %d bytes", s, len(s))
	replies, ok := impl.RunScript(s)
	wantTexts(t, "RunScript "+what, replies, ok, nil, false)
	numbers, ok := impl.FailedLines(s)
	wantList(t, "FailedLines "+what, numbers, ok, nil, false)
	d, ok := impl.DeskAfter(s)
	wantDesk(t, "DeskAfter "+what, d, ok, impl.Desk{}, false)
}

// TestNoScripts: without a newline at the end, with too many lines, or with too many bytes, also where each line is one.
func TestNoScripts(t *testing.T) {
	for _, s := range []string{"lucky", " ", "x", "\r", "\x00", "lucky\nhalves", "\nlucky", "\n ", "lucky\n\r", "lucky\n\x00", "lucky\r", "lucky\x00", "number 7\nfly", "lucky\u2028", "lucky\v"} {
		wantNoScript(t, s)
	}
	for _, lines := range []int{maxLines + 1, maxLines + 2, 2 * maxLines, 200, maxScript} {
		wantNoScript(t, strings.Repeat("\n", lines))
		wantNoScript(t, strings.Repeat("lucky\n", lines))
		wantNoScript(t, strings.Repeat("lucky\n", lines)+"lucky")
	}
	wantNoScript(t, strings.Repeat("\n", maxLines)+"lucky")
	wantNoScript(t, strings.Repeat("\n", maxLines)+" ")
	for _, size := range []int{maxScript, maxScript + 1, maxScript + 100, 100000, 1000000} {
		wantNoScript(t, strings.Repeat("x", size)+"\n")
		wantNoScript(t, "lucky\n"+strings.Repeat("x", size-6)+"\n")
		wantNoScript(t, strings.Repeat("x", size))
		wantNoScript(t, strings.Repeat("x", size-6)+"\nlucky\n")
	}
}

func TestLargestScripts(t *testing.T) {
	refused := slices.Repeat([]string{"what"}, maxLines)
	wantScript(t, slices.Repeat([]string{""}, maxLines), refused, usualDesk())
	wantScript(t, slices.Repeat([]string{"lucky"}, maxLines), slices.Repeat([]string{"yes"}, maxLines), usualDesk())
	// both most lines and most bytes
	wantScript(t, slices.Repeat([]string{strings.Repeat("x", maxScript/maxLines-1)}, maxLines), refused, usualDesk())
	for _, size := range []int{1, 100, maxScript - 2, maxScript - 1} {
		wantScript(t, []string{strings.Repeat("x", size)}, []string{"what"}, usualDesk())
	}
	// the last line is executed, too
	long := strings.Repeat("x", maxScript-len("lucky\n\nnumber 7\n"))
	behind := usualDesk()
	behind.Number = 7
	wantScript(t, []string{"lucky", long, "number 7"}, []string{"yes", "what", "7"}, behind)
	lines := append(slices.Repeat([]string{"lucky"}, maxLines-1), "number 7")
	wantScript(t, lines, append(slices.Repeat([]string{"yes"}, maxLines-1), "7"), behind)
}

// madeScript chooses lines by a number: mostly such as may be executed.
func madeScript(seed int) []string {
	z := seed
	pick := func(list []string) string {
		z = (z*1103515245 + 12345) % (1 << 31)
		return list[z>>8%len(list)]
	}
	var lines []string
	for range 1 + seed%maxLines {
		words := strings.Split(lineRows[numberOf(pick(manyNumbers))%len(lineRows)].shape, " ")
		for i, kind := range words[1:] {
			words[1+i] = pick(wordsOfKinds[kind][:6])
		}
		line := strings.Join(words, " ")
		if len(scriptOf(append(lines, line)...)) <= maxScript {
			lines = append(lines, line)
		}
	}
	return lines
}

var manyNumbers = func() []string {
	var texts []string
	for n := range 1000 {
		texts = append(texts, textOf(n))
	}
	return texts
}()

// TestScriptsAreTheirLines executes scripts, and then their lines one by one, each on the desk behind the one before.
func TestScriptsAreTheirLines(t *testing.T) {
	used := map[string]int{}
	for seed := range 2000 {
		lines := madeScript(seed)
		var replies []string
		d := usualDesk()
		for _, line := range lines {
			var reply string
			d, reply = wantByTable(t, d, line)
			replies = append(replies, reply)
			name, _, _ := strings.Cut(line, " ")
			if !isRefused(reply) {
				used[name]++
			}
		}
		wantScript(t, lines, replies, d)
	}
	if len(used) != len(lineRows) {
		t.Error("not all lines were used", slices.Sorted(maps.Keys(used)))
	}
}

// TestOrderOfScriptsDoesNotMatter: nothing is kept from one script for another one.
func TestOrderOfScriptsDoesNotMatter(t *testing.T) {
	alone, _ := impl.RunScript(scriptOf("lucky", "plates", "sum", "kinds"))
	impl.RunScript(scriptOf("ticket 12", "scheme D", "number 99", "reading 0", "bar 1", "fly"))
	impl.DeskLine(usualDesk(), "word CD")
	again, ok := impl.RunScript(scriptOf("lucky", "plates", "sum", "kinds"))
	wantTexts(t, "again", again, ok, alone, true)
	wantTexts(t, "alone", alone, true, []string{"yes", "675", "1", "m"}, true)
	var runs sync.WaitGroup
	for range 8 {
		runs.Go(func() {
			wantScript(t, exampleLines, exampleReplies, deskOf("001001", schemeOf("LL", "A", "AB", "ZZ"), 6, "0095"))
		})
	}
	runs.Wait()
}

// deskWithRoom returns a copy of a desk whose list of words has room behind it, and all that lies there.
func deskWithRoom(d impl.Desk) (impl.Desk, []string) {
	room := append(slices.Clone(d.Scheme.Words), "MINE", "OWN", "no")
	d.Scheme.Words = room[:len(d.Scheme.Words)]
	return d, room
}

// spoilDesk writes into the words of a desk, and behind them as far as there is room.
func spoilDesk(d impl.Desk) {
	words := d.Scheme.Words[:cap(d.Scheme.Words)]
	for i := range words {
		words[i] = "SPOILED"
	}
}

// linesForMemory are lines of all kinds: that change the scheme, or something else, or nothing, or fail.
var linesForMemory = append(slices.Clone(exampleLines), "word Q", "bar Q", "bar QQ", "bar 7", "word 1234", "scheme LL~AB", "scheme DD", "ticket 1", "", " ", "root", "next", "miles 1", "come d", "number 5", "reading 5", "plate 3", "behind AC 1")

// TestDesksAreLeftAlone: nothing is written into the words of a desk, nor behind them, and what lies there changes no answer.
func TestDesksAreLeftAlone(t *testing.T) {
	for _, d := range slices.Concat(someDesks, noDesks()) {
		lent, room := deskWithRoom(d)
		kept := slices.Clone(room)
		for _, line := range linesForMemory {
			if impl.IsDesk(d) {
				wantByTable(t, lent, line)
			} else {
				wantNoLine(t, lent, line)
			}
		}
		impl.IsDesk(lent)
		if !slices.Equal(room, kept) {
			t.Fatalf("words of %v are %v now", d, room)
		}
	}
}

// TestDesksOfResultsAreNew: what a caller does to a desk that was returned is not seen in the argument, nor the other way round,
// also behind lines that change nothing.
func TestDesksOfResultsAreNew(t *testing.T) {
	for _, d := range someDesks {
		for _, line := range linesForMemory {
			lent, room := deskWithRoom(d)
			kept := slices.Clone(room)
			behind, reply := lineByTable(d, line)
			first, firstReply, _ := impl.DeskLine(lent, line)
			second, _, _ := impl.DeskLine(lent, line)
			spoilDesk(first)
			if !slices.Equal(room, kept) {
				t.Fatalf("the desk behind %q shares the words of %v", line, d)
			}
			wantDesk(t, "second "+line, second, true, behind, true)
			wantText(t, "reply to "+line, firstReply, true, reply, true)
			for i := range room {
				room[i] = "LATER"
			}
			wantDesk(t, "second, later "+line, second, true, behind, true)
		}
	}
}

func TestResultsOfScriptsAreNew(t *testing.T) {
	spoilDesk(impl.FirstDesk())
	wantDesk(t, "FirstDesk", impl.FirstDesk(), true, usualDesk(), true)
	for _, lines := range [][]string{nil, {"lucky"}, {"fly"}, {"word CD"}, {"bar C"}, {"scheme LL~AB~CD"}, {"word CD", "fly", "bar C", "bar C"}, exampleLines} {
		s := scriptOf(lines...)
		replies, _ := impl.RunScript(s)
		numbers, _ := impl.FailedLines(s)
		d, _ := impl.DeskAfter(s)
		keptReplies, kept := slices.Clone(replies), copyOfDesk(d)
		for i := range replies[:cap(replies)] {
			replies[:cap(replies)][i] = "mine"
		}
		spoil(numbers)
		spoilDesk(d)
		wantScript(t, lines, keptReplies, kept)
		wantDesk(t, "FirstDesk", impl.FirstDesk(), true, usualDesk(), true)
	}
}

// TestTextsOfConsoleAreLeftAlone: nothing is written into the list of bytes in which a text lies, nor behind it.
func TestTextsOfConsoleAreLeftAlone(t *testing.T) {
	for _, line := range linesForMemory {
		lent, room := lend(line)
		kept := slices.Clone(room)
		wantByTable(t, usualDesk(), lent)
		if !slices.Equal(room, kept) {
			t.Fatalf("the bytes of %q are %q now", line, room)
		}
		for _, s := range []string{line, line + "\n", line + "\n" + line + "\n", line + "\nx"} {
			lent, room := lend(s)
			kept := slices.Clone(room)
			replies, ok := impl.RunScript(lent)
			numbers, numbersOk := impl.FailedLines(lent)
			impl.DeskAfter(lent)
			if !slices.Equal(room, kept) {
				t.Fatalf("the bytes of %q are %q now", s, room)
			}
			if s == "" || strings.HasSuffix(s, "\n") {
				wantList(t, "failed in "+s, numbers, numbersOk, failedIn(replies), ok)
			}
		}
	}
}
