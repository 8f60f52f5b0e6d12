package tests

import (
	"fmt"
	"math"
	"slices"
	"strings"
	"testing"
	"unsafe"

	"loop.example/g01395/impl"
)

// The signatures of chapter 9 are those that the document declares.
var (
	_ func(impl.Clue) bool                                                     = impl.IsClue
	_ func(impl.Puzzle) bool                                                   = impl.IsPuzzle
	_ func(c impl.Clue, ticket string) (bool, bool)                            = impl.DoesFit
	_ func(impl.Puzzle) ([]string, bool)                                       = impl.Solutions
	_ func(impl.Puzzle) (int, bool)                                            = impl.CountSolutions
	_ func(impl.Puzzle) (string, bool)                                         = impl.FirstSolution
	_ func(impl.Puzzle) (string, bool)                                         = impl.SureDigits
	_ func(impl.Puzzle) (bool, bool)                                           = impl.IsSolved
	_ func(impl.Puzzle) ([]int, bool)                                          = impl.NeedlessClues
	_ func(p impl.Puzzle, k int) (impl.Puzzle, bool)                           = impl.DropClue
	_ func(impl.Puzzle, impl.Clue) (impl.Puzzle, bool)                         = impl.AddClue
	_ func(impl.Puzzle) ([]int, bool)                                          = impl.LeftByClues
	_ func(impl.Puzzle) (int, bool)                                            = impl.BestClue
	_ func(impl.Puzzle) (impl.Puzzle, bool)                                    = impl.HarderPuzzle
	_ func(ticket string, clues int, seed int) (puzzle impl.Puzzle, done bool) = impl.MakePuzzle
	_ func(impl.Puzzle) (string, bool)                                         = impl.PuzzleText
	_ func(string) (impl.Puzzle, bool)                                         = impl.ParsePuzzle
)

const (
	maxHidden = 5
	maxClues  = 6
	maxTold   = 20
	maxSeed   = 9999
)

func clueOf(kind int, a int, b int) impl.Clue { return impl.Clue{Kind: kind, A: a, B: b} }

func puzzleOf(clues ...impl.Clue) impl.Puzzle { return impl.Puzzle{Clues: clues} }

// clueRange has the bounds of the numbers of all clues of one kind, at its own place in the list.
type clueRange struct{ lastA, firstB, lastB int }

var clueRanges = []clueRange{{1, 0, maxTold}, {3, 0, maxTold}, {0, 0, 1}, {2, 0, 1}, {0, 0, maxTold}, {0, 2, 9}}

func allClues() []impl.Clue {
	var clues []impl.Clue
	for kind, r := range clueRanges {
		for a := 0; a <= r.lastA; a++ {
			for b := r.firstB; b <= r.lastB; b++ {
				clues = append(clues, clueOf(kind, a, b))
			}
		}
	}
	return clues
}

// hiddenTicket has the digits of a hidden ticket as numbers.
type hiddenTicket [4]int

func (h hiddenTicket) text() string { return fmt.Sprintf("%d%d%d%d", h[0], h[1], h[2], h[3]) }

func hiddenOnes() []hiddenTicket {
	var all []hiddenTicket
	for n := range powerOf(maxHidden+1, 4) {
		all = append(all, hiddenTicket{n / 216, n / 36 % 6, n / 6 % 6, n % 6})
	}
	return all
}

// fits reads each kind of clue as the document tells it.
func (h hiddenTicket) fits(c impl.Clue) bool {
	first, second := h[0]+h[1], h[2]+h[3]
	switch c.Kind {
	case 0:
		return c.A == 0 && first == c.B || c.A == 1 && second == c.B
	case 1:
		return h[c.A] == c.B
	case 2:
		return c.B == 1 && first == second || c.B == 0 && first != second
	case 3:
		return c.B == 1 && h[c.A] < h[c.A+1] || c.B == 0 && h[c.A] >= h[c.A+1]
	case 4:
		different := map[int]bool{h[0]: true, h[1]: true, h[2]: true, h[3]: true}
		return len(different) == c.B
	}
	left := 1000*h[0] + 100*h[1] + 10*h[2] + h[3]
	for left > 0 {
		left -= c.B
	}
	return left == 0
}

// fitTable remembers which hidden tickets fit each clue.
type fitTable struct {
	hidden []hiddenTicket
	fits   map[impl.Clue][]bool
}

func newFitTable() fitTable {
	table := fitTable{hiddenOnes(), map[impl.Clue][]bool{}}
	for _, c := range allClues() {
		for _, h := range table.hidden {
			table.fits[c] = append(table.fits[c], h.fits(c))
		}
	}
	return table
}

// left crosses out the tickets that do not fit, clue by clue.
func (table fitTable) left(clues []impl.Clue) []bool {
	left := slices.Repeat([]bool{true}, len(table.hidden))
	for _, c := range clues {
		for n, fits := range table.fits[c] {
			left[n] = left[n] && fits
		}
	}
	return left
}

func (table fitTable) solve(clues []impl.Clue) []string {
	var texts []string
	for n, is := range table.left(clues) {
		if is {
			texts = append(texts, table.hidden[n].text())
		}
	}
	return texts
}

func (table fitTable) count(clues []impl.Clue) int {
	count := 0
	for _, is := range table.left(clues) {
		if is {
			count++
		}
	}
	return count
}

func cluesBut(clues []impl.Clue, k int) []impl.Clue {
	var left []impl.Clue
	for i, c := range clues {
		if i != k {
			left = append(left, c)
		}
	}
	return left
}

// harder keeps a clue if those kept before it and all that come behind it are not enough.
func (table fitTable) harder(clues []impl.Clue) []impl.Clue {
	var kept []impl.Clue
	for k, c := range clues {
		if table.count(slices.Concat(kept, clues[k+1:])) != 1 {
			kept = append(kept, c)
		}
	}
	return kept
}

func sureOf(texts []string) string {
	sure := ""
	for place := range 4 {
		digits := map[byte]bool{}
		for _, text := range texts {
			digits[text[place]] = true
		}
		if len(digits) == 1 {
			sure += texts[0][place : place+1]
		} else {
			sure += "?"
		}
	}
	return sure
}

func puzzleText(p impl.Puzzle) string {
	var texts []string
	for _, c := range p.Clues {
		texts = append(texts, fmt.Sprintf("%d.%d.%d", c.Kind, c.A, c.B))
	}
	return strings.Join(texts, ",")
}

func wantPuzzle(t *testing.T, what string, got impl.Puzzle, ok bool, want impl.Puzzle, wantOk bool) {
	t.Helper()
	if !slices.Equal(got.Clues, want.Clues) || ok != wantOk {
		t.Errorf("%s: %.100s %v, want %.100s %v", what, puzzleText(got), ok, puzzleText(want), wantOk)
	}
}

// wantSolved checks what is told of the solutions of a puzzle.
func (table fitTable) wantSolved(t *testing.T, p impl.Puzzle) {
	t.Helper()
	what := " " + puzzleText(p)
	fitting := table.solve(p.Clues)
	got, ok := impl.Solutions(p)
	wantTexts(t, "Solutions"+what, got, ok, fitting, true)
	count, ok := impl.CountSolutions(p)
	wantNumber(t, "CountSolutions"+what, count, ok, len(fitting), true)
	first, ok := impl.FirstSolution(p)
	wantText(t, "FirstSolution"+what, first, ok, firstOf(fitting), len(fitting) > 0)
	want := ""
	if len(fitting) > 0 {
		want = sureOf(fitting)
	}
	sure, ok := impl.SureDigits(p)
	wantText(t, "SureDigits"+what, sure, ok, want, len(fitting) > 0)
	is, ok := impl.IsSolved(p)
	wantTruth(t, "IsSolved"+what, is, ok, len(fitting) == 1, true)
	var left []int
	for many := range len(p.Clues) + 1 {
		left = append(left, table.count(p.Clues[:many]))
	}
	list, ok := impl.LeftByClues(p)
	wantList(t, "LeftByClues"+what, list, ok, left, true)
}

// wantClues checks what is told of the single clues of a puzzle.
func (table fitTable) wantClues(t *testing.T, p impl.Puzzle) {
	t.Helper()
	what := " " + puzzleText(p)
	all := table.count(p.Clues)
	var needless []int
	best, fewest := 0, math.MaxInt
	for k, c := range p.Clues {
		but := cluesBut(p.Clues, k)
		if table.count(but) == all {
			needless = append(needless, k)
		}
		if alone := table.count([]impl.Clue{c}); alone < fewest {
			best, fewest = k, alone
		}
		got, ok := impl.DropClue(p, k)
		wantPuzzle(t, fmt.Sprint("DropClue", what, " ", k), got, ok, puzzleOf(but...), true)
	}
	list, ok := impl.NeedlessClues(p)
	wantList(t, "NeedlessClues"+what, list, ok, needless, true)
	index, ok := impl.BestClue(p)
	wantNumber(t, "BestClue"+what, index, ok, best, len(p.Clues) > 0)
	for _, k := range []int{math.MinInt, -2, -1, len(p.Clues), len(p.Clues) + 1, maxClues, 1 << 32, math.MaxInt} {
		got, ok := impl.DropClue(p, k)
		wantPuzzle(t, fmt.Sprint("DropClue", what, " ", k), got, ok, impl.Puzzle{}, false)
	}
	c := clueOf(len(p.Clues)%4, 0, 1)
	more := puzzleOf(slices.Concat(p.Clues, []impl.Clue{c})...)
	if len(p.Clues) == maxClues {
		more = impl.Puzzle{}
	}
	got, ok := impl.AddClue(p, c)
	wantPuzzle(t, "AddClue"+what, got, ok, more, len(p.Clues) < maxClues)
}

// wantHarder is the second half of promise 9: what is left has the same solution, and there is no clue too many in it.
func (table fitTable) wantHarder(t *testing.T, p impl.Puzzle) {
	t.Helper()
	what := " " + puzzleText(p)
	fitting := table.solve(p.Clues)
	harder, ok := impl.HarderPuzzle(p)
	if len(fitting) != 1 {
		wantPuzzle(t, "HarderPuzzle"+what, harder, ok, impl.Puzzle{}, false)
		return
	}
	wantPuzzle(t, "HarderPuzzle"+what, harder, ok, puzzleOf(table.harder(p.Clues)...), true)
	same, ok := impl.Solutions(harder)
	wantTexts(t, "Solutions of HarderPuzzle"+what, same, ok, fitting, true)
	needless, ok := impl.NeedlessClues(harder)
	wantList(t, "NeedlessClues of HarderPuzzle"+what, needless, ok, nil, true)
	again, ok := impl.HarderPuzzle(harder)
	wantPuzzle(t, "HarderPuzzle of HarderPuzzle"+what, again, ok, harder, true)
}

func wantPuzzleText(t *testing.T, p impl.Puzzle) {
	t.Helper()
	want := puzzleText(p)
	text, ok := impl.PuzzleText(p)
	wantText(t, "PuzzleText", text, ok, want, true)
	got, ok := impl.ParsePuzzle(want)
	wantPuzzle(t, "ParsePuzzle "+want, got, ok, p, true)
}

func (table fitTable) wantAll(t *testing.T, p impl.Puzzle) {
	t.Helper()
	if !impl.IsPuzzle(p) {
		t.Error("IsPuzzle", puzzleText(p))
	}
	table.wantSolved(t, p)
	table.wantClues(t, p)
	table.wantHarder(t, p)
	wantPuzzleText(t, p)
}

// TestAllCluesWithAllHiddenTickets: each clue of each kind, those at the bounds with them, with each hidden ticket.
func TestAllCluesWithAllHiddenTickets(t *testing.T) {
	table := newFitTable()
	for c, fits := range table.fits {
		for n, h := range table.hidden {
			is, ok := impl.DoesFit(c, h.text())
			wantTruth(t, fmt.Sprint("DoesFit ", c, " ", h.text()), is, ok, fits[n], true)
		}
	}
}

func TestCluesThatAreTold(t *testing.T) {
	for _, row := range []struct {
		clue   impl.Clue
		ticket string
		want   bool
	}{
		{clueOf(0, 0, 3), "1255", true}, {clueOf(0, 1, 3), "1255", false}, {clueOf(0, 1, 10), "1255", true}, {clueOf(0, 0, 0), "0012", true}, {clueOf(0, 0, 11), "5555", false}, {clueOf(0, 1, 20), "5555", false},
		{clueOf(1, 0, 1), "1234", true}, {clueOf(1, 3, 4), "1234", true}, {clueOf(1, 3, 1), "1234", false}, {clueOf(1, 0, 6), "5555", false}, {clueOf(1, 2, 20), "5555", false},
		{clueOf(2, 0, 1), "1221", true}, {clueOf(2, 0, 0), "1221", false}, {clueOf(2, 0, 1), "1213", false}, {clueOf(2, 0, 0), "1212", false}, {clueOf(2, 0, 0), "1213", true},
		{clueOf(3, 0, 1), "1200", true}, {clueOf(3, 0, 0), "1200", false}, {clueOf(3, 1, 1), "0110", false}, {clueOf(3, 1, 0), "0110", true}, {clueOf(3, 2, 1), "0001", true}, {clueOf(3, 2, 0), "0010", true},
		{clueOf(4, 0, 1), "3333", true}, {clueOf(4, 0, 4), "0123", true}, {clueOf(4, 0, 2), "0110", true}, {clueOf(4, 0, 3), "0110", false}, {clueOf(4, 0, 0), "0000", false}, {clueOf(4, 0, 5), "0123", false},
		{clueOf(5, 0, 9), "0045", true}, {clueOf(5, 0, 9), "0054", true}, {clueOf(5, 0, 9), "0000", true}, {clueOf(5, 0, 9), "0044", false}, {clueOf(5, 0, 2), "5555", false}, {clueOf(5, 0, 7), "1001", true}, {clueOf(5, 0, 2), "0002", true},
	} {
		is, ok := impl.DoesFit(row.clue, row.ticket)
		wantTruth(t, fmt.Sprint("DoesFit ", row.clue, " ", row.ticket), is, ok, row.want, true)
	}
}

// somePuzzles have no clue, the most, contradictory ones, ones that are there twice, one solution, none, and all of them.
var somePuzzles = []impl.Puzzle{
	{}, {Clues: []impl.Clue{}},
	// clues that contradict each other, next to each other and far apart, and ones that no ticket fits alone
	puzzleOf(clueOf(2, 0, 0), clueOf(2, 0, 1)), puzzleOf(clueOf(3, 1, 1), clueOf(3, 1, 0)), puzzleOf(clueOf(1, 0, 1), clueOf(1, 0, 2)), puzzleOf(clueOf(0, 0, 1), clueOf(0, 1, 2), clueOf(2, 0, 1)),
	puzzleOf(clueOf(4, 0, 1), clueOf(5, 0, 2), clueOf(1, 3, 3)), puzzleOf(clueOf(0, 0, 11)), puzzleOf(clueOf(1, 0, 6)), puzzleOf(clueOf(4, 0, 0)), puzzleOf(clueOf(4, 0, 5)), puzzleOf(clueOf(4, 0, 20), clueOf(4, 0, 19)),
	puzzleOf(clueOf(3, 0, 1), clueOf(3, 1, 1), clueOf(3, 2, 1), clueOf(4, 0, 3)), puzzleOf(clueOf(1, 0, 20), clueOf(1, 1, 20), clueOf(1, 2, 20), clueOf(1, 3, 20), clueOf(0, 0, 20), clueOf(0, 1, 20)),
	// one solution: by few clues, by the most, and by the first or the last ones alone
	puzzleOf(clueOf(0, 0, 0), clueOf(0, 1, 0)), puzzleOf(clueOf(0, 0, 10), clueOf(0, 1, 10)), puzzleOf(clueOf(0, 0, 1), clueOf(2, 0, 1), clueOf(1, 0, 1), clueOf(3, 2, 1)),
	puzzleOf(clueOf(1, 0, 1), clueOf(1, 1, 2), clueOf(1, 2, 3), clueOf(1, 3, 4)), puzzleOf(clueOf(1, 0, 1), clueOf(1, 1, 2), clueOf(1, 2, 3), clueOf(1, 3, 4), clueOf(4, 0, 4), clueOf(2, 0, 0)),
	puzzleOf(clueOf(4, 0, 4), clueOf(2, 0, 0), clueOf(1, 0, 1), clueOf(1, 1, 2), clueOf(1, 2, 3), clueOf(1, 3, 4)), puzzleOf(clueOf(1, 0, 1), clueOf(0, 0, 3), clueOf(1, 1, 2), clueOf(1, 2, 3), clueOf(0, 1, 7), clueOf(1, 3, 4)),
	// clues that are there twice, so that each of them is needless, but not both
	puzzleOf(clueOf(0, 0, 0), clueOf(0, 1, 0), clueOf(0, 0, 0), clueOf(0, 1, 0)), puzzleOf(clueOf(1, 0, 3), clueOf(1, 0, 3)), puzzleOf(clueOf(5, 0, 9), clueOf(5, 0, 3), clueOf(5, 0, 9)),
	puzzleOf(clueOf(0, 0, 0), clueOf(0, 0, 0), clueOf(0, 0, 0), clueOf(0, 1, 10), clueOf(0, 1, 10), clueOf(0, 1, 10)),
	// needless clues
	puzzleOf(clueOf(5, 0, 4), clueOf(5, 0, 2)), puzzleOf(clueOf(5, 0, 2), clueOf(5, 0, 3), clueOf(5, 0, 6)), puzzleOf(clueOf(4, 0, 1), clueOf(2, 0, 1)), puzzleOf(clueOf(1, 0, 5), clueOf(3, 0, 0)), puzzleOf(clueOf(4, 0, 0), clueOf(2, 0, 1), clueOf(1, 0, 1)),
	// the same number of tickets by several clues
	puzzleOf(clueOf(1, 3, 1), clueOf(1, 2, 1), clueOf(1, 1, 1), clueOf(1, 0, 1)), puzzleOf(clueOf(2, 0, 0), clueOf(1, 1, 9), clueOf(4, 0, 7)), puzzleOf(clueOf(0, 1, 0), clueOf(0, 0, 10), clueOf(0, 0, 0)),
}

func TestSomePuzzles(t *testing.T) {
	table := newFitTable()
	for _, p := range somePuzzles {
		table.wantAll(t, p)
	}
}

func TestPuzzlesOfOneClue(t *testing.T) {
	table := newFitTable()
	for c := range table.fits {
		table.wantAll(t, puzzleOf(c))
	}
}

func TestPuzzlesOfTwoClues(t *testing.T) {
	table, clues := newFitTable(), allClues()
	for i := 0; i < len(clues)*len(clues); i += 41 {
		table.wantAll(t, puzzleOf(clues[i/len(clues)], clues[i%len(clues)]))
	}
}

// fittingClues returns so many clues that a hidden ticket fits, taken here and there from the list of all of them.
func fittingClues(clues []impl.Clue, h hiddenTicket, many int, start int) []impl.Clue {
	var fitting, some []impl.Clue
	for _, c := range clues {
		if h.fits(c) {
			fitting = append(fitting, c)
		}
	}
	for i := range many {
		some = append(some, fitting[(start+i*(start%5+1))%len(fitting)])
	}
	return some
}

// TestPuzzlesWithSolutions is promise 9 for puzzles of three clues up to the most, some of which are solved.
func TestPuzzlesWithSolutions(t *testing.T) {
	table, clues := newFitTable(), allClues()
	solved := 0
	for n, h := range table.hidden {
		if n%3 > 0 {
			continue
		}
		p := puzzleOf(fittingClues(clues, h, 3+n%4, n/3)...)
		table.wantAll(t, p)
		if table.count(p.Clues) == 1 {
			solved++
		}
		fitting, _ := impl.Solutions(p)
		if !slices.Contains(fitting, h.text()) {
			t.Errorf("Solutions %s are without %s", puzzleText(p), h.text())
		}
		for _, ticket := range fitting {
			for _, c := range p.Clues {
				is, ok := impl.DoesFit(c, ticket)
				wantTruth(t, fmt.Sprint("DoesFit ", c, " ", ticket), is, ok, true, true)
			}
		}
	}
	if solved < 30 {
		t.Error("too few puzzles are solved:", solved)
	}
}

// TestHarderPuzzlesTakeTheFirstCluesFirst: what is left depends on the order of the clues.
func TestHarderPuzzlesTakeTheFirstCluesFirst(t *testing.T) {
	for text, want := range map[string]string{
		"0.0.1,2.0.1,1.0.1,3.2.1":               "0.0.1,2.0.1,1.0.1,3.2.1",
		"0.0.0,0.1.0":                           "0.0.0,0.1.0",
		"0.0.0,0.1.0,0.0.0,0.1.0":               "0.0.0,0.1.0",
		"0.0.0,2.0.1,0.1.0":                     "2.0.1,0.1.0",
		"0.1.0,0.0.0,2.0.1":                     "0.0.0,2.0.1",
		"2.0.1,0.0.0,0.1.0":                     "0.0.0,0.1.0",
		"1.0.1,1.1.2,1.2.3,1.3.4,4.0.4":         "1.0.1,1.1.2,1.2.3,1.3.4",
		"1.0.1,0.0.3,1.1.2,1.2.3,0.1.7,1.3.4":   "0.0.3,1.1.2,0.1.7,1.3.4",
		"0.0.10,1.0.5,1.1.5,2.0.1,0.1.10,4.0.1": "0.1.10,4.0.1",
	} {
		p, ok := impl.ParsePuzzle(text)
		harder, fine := impl.HarderPuzzle(p)
		got, _ := impl.PuzzleText(harder)
		wantText(t, "HarderPuzzle "+text, got, ok && fine, want, true)
	}
}

// TestTheFirstOfTheBestClues: of several clues that as few tickets fit, the first one is the best.
func TestTheFirstOfTheBestClues(t *testing.T) {
	for text, want := range map[string]int{
		"0.0.1,2.0.1,1.0.1,3.2.1": 0, "2.0.1,0.0.1": 1, "1.0.1,1.1.1,1.2.1": 0, "3.0.0,1.3.1,1.1.2,2.0.0": 1, "2.0.0,1.0.6,4.0.9": 1, "4.0.9,1.0.6": 0, "4.0.1,0.0.0": 0, "0.0.0,4.0.1,0.0.0": 1, "2.0.0": 0, "5.0.2,5.0.3,5.0.4,5.0.5": 2,
	} {
		p, ok := impl.ParsePuzzle(text)
		got, fine := impl.BestClue(p)
		wantNumber(t, "BestClue "+text, got, ok && fine, want, true)
	}
}

// TestAPuzzleWithoutClues: all hidden tickets fit.
func TestAPuzzleWithoutClues(t *testing.T) {
	for _, p := range []impl.Puzzle{{}, {Clues: []impl.Clue{}}} {
		fitting, ok := impl.Solutions(p)
		if !ok || len(fitting) != 1296 || fitting[0] != "0000" || fitting[6] != "0010" || fitting[1295] != "5555" {
			t.Error("Solutions", ok, len(fitting))
		}
		sure, ok := impl.SureDigits(p)
		wantText(t, "SureDigits", sure, ok, "????", true)
		left, ok := impl.LeftByClues(p)
		wantList(t, "LeftByClues", left, ok, []int{1296}, true)
		needless, ok := impl.NeedlessClues(p)
		wantList(t, "NeedlessClues", needless, ok, nil, true)
		best, ok := impl.BestClue(p)
		wantNumber(t, "BestClue", best, ok, 0, false)
		got, ok := impl.DropClue(p, 0)
		wantPuzzle(t, "DropClue", got, ok, impl.Puzzle{}, false)
		got, ok = impl.HarderPuzzle(p)
		wantPuzzle(t, "HarderPuzzle", got, ok, impl.Puzzle{}, false)
		text, ok := impl.PuzzleText(p)
		wantText(t, "PuzzleText", text, ok, "", true)
	}
	got, ok := impl.ParsePuzzle("")
	wantPuzzle(t, "ParsePuzzle of an empty text", got, ok, impl.Puzzle{}, true)
}

// extremes are numbers far out of the bounds of each field of a clue.
var extremes = []int{math.MinInt, math.MinInt + 1, -1 << 32, -100, -2, -1, 21, 22, 100, 255, 256, 1 << 32, 1<<32 + 1, math.MaxInt - 1, math.MaxInt}

// TestBoundsOfClues: all that is near the bounds is listed, and is a clue just if it is in the list of all.
func TestBoundsOfClues(t *testing.T) {
	isOne := map[impl.Clue]bool{}
	for _, c := range allClues() {
		isOne[c] = true
	}
	for kind := -3; kind <= 9; kind++ {
		for a := -3; a <= 23; a++ {
			for b := -3; b <= 23; b++ {
				c := clueOf(kind, a, b)
				if impl.IsClue(c) != isOne[c] {
					t.Errorf("IsClue %v: %v", c, !isOne[c])
				}
				if impl.IsPuzzle(puzzleOf(clueOf(1, 0, 0), c)) != isOne[c] {
					t.Errorf("IsPuzzle with %v: %v", c, !isOne[c])
				}
			}
		}
	}
	if len(isOne) != 163 {
		t.Error(len(isOne), "clues")
	}
}

// noClues have one number that is out of its bounds, by one or by far.
func noClues() []impl.Clue {
	clues := []impl.Clue{clueOf(-1, 0, 0), clueOf(6, 0, 0), clueOf(6, 0, 2), clueOf(7, 0, 5), clueOf(10, 0, 2), clueOf(5, 0, 0), clueOf(5, 0, 1), clueOf(5, 0, 10), clueOf(2, 0, 2), clueOf(3, 0, 2), clueOf(2, 1, 0), clueOf(4, 1, 2), clueOf(5, 1, 2)}
	for kind, r := range clueRanges {
		clues = append(clues, clueOf(kind, -1, r.firstB), clueOf(kind, r.lastA+1, r.firstB), clueOf(kind, 0, r.firstB-1), clueOf(kind, 0, r.lastB+1))
		for _, n := range extremes {
			clues = append(clues, clueOf(kind, n, r.firstB), clueOf(kind, 0, n), clueOf(n, 0, r.firstB), clueOf(n, n, n))
		}
	}
	return clues
}

// wantNoPuzzle: all that takes a puzzle fails, with zero values.
func wantNoPuzzle(t *testing.T, p impl.Puzzle) {
	t.Helper()
	what := fmt.Sprintf(" %.80v", fmt.Sprint(p))
	if impl.IsPuzzle(p) {
		t.Error("IsPuzzle" + what)
	}
	fitting, ok := impl.Solutions(p)
	wantTexts(t, "Solutions"+what, fitting, ok, nil, false)
	for name, ask := range map[string]func(impl.Puzzle) (int, bool){"CountSolutions": impl.CountSolutions, "BestClue": impl.BestClue} {
		got, ok := ask(p)
		wantNumber(t, name+what, got, ok, 0, false)
	}
	for name, ask := range map[string]func(impl.Puzzle) (string, bool){"FirstSolution": impl.FirstSolution, "SureDigits": impl.SureDigits, "PuzzleText": impl.PuzzleText} {
		got, ok := ask(p)
		wantText(t, name+what, got, ok, "", false)
	}
	is, ok := impl.IsSolved(p)
	wantTruth(t, "IsSolved"+what, is, ok, false, false)
	for name, ask := range map[string]func(impl.Puzzle) ([]int, bool){"NeedlessClues": impl.NeedlessClues, "LeftByClues": impl.LeftByClues} {
		got, ok := ask(p)
		wantList(t, name+what, got, ok, nil, false)
	}
	for _, k := range []int{math.MinInt, -1, 0, 1, len(p.Clues) - 1, len(p.Clues), math.MaxInt} {
		got, ok := impl.DropClue(p, k)
		wantNothingLeft(t, "DropClue"+what, got, ok)
	}
	for _, c := range []impl.Clue{clueOf(0, 0, 0), clueOf(5, 0, 2), clueOf(5, 0, 0)} {
		got, ok := impl.AddClue(p, c)
		wantNothingLeft(t, "AddClue"+what, got, ok)
	}
	got, ok := impl.HarderPuzzle(p)
	wantNothingLeft(t, "HarderPuzzle"+what, got, ok)
}

func wantNothingLeft(t *testing.T, what string, got impl.Puzzle, ok bool) {
	t.Helper()
	if got.Clues != nil || ok {
		t.Errorf("%s: %v %v, want nothing", what, got, ok)
	}
}

// TestNoClues is promise 11 for clues: nothing panics for what is none, wherever it is, and each call fails with zero values.
func TestNoClues(t *testing.T) {
	fine := []impl.Clue{clueOf(0, 0, 0), clueOf(0, 1, 0), clueOf(1, 3, 0), clueOf(2, 0, 1), clueOf(4, 0, 1)}
	for i, c := range noClues() {
		if impl.IsClue(c) {
			t.Error("IsClue", c)
		}
		for _, ticket := range []string{"0000", "1234", "5555", "", "6666"} {
			is, ok := impl.DoesFit(c, ticket)
			wantTruth(t, fmt.Sprint("DoesFit ", c, " ", ticket), is, ok, false, false)
		}
		for many := range len(fine) + 1 {
			got, ok := impl.AddClue(puzzleOf(fine[:many]...), c)
			wantNothingLeft(t, fmt.Sprint("AddClue ", many, " ", c), got, ok)
			if many%3 == i%3 {
				wantNoPuzzle(t, puzzleOf(slices.Concat(fine[:many], []impl.Clue{c}, fine[many:])...))
			}
		}
		wantNoPuzzle(t, puzzleOf(c))
	}
}

// TestTooManyClues: MaxClues may be met, but not exceeded.
func TestTooManyClues(t *testing.T) {
	most := puzzleOf(clueOf(0, 0, 0), clueOf(0, 1, 0), clueOf(1, 3, 0), clueOf(2, 0, 1), clueOf(4, 0, 1), clueOf(5, 0, 9))
	if !impl.IsPuzzle(most) {
		t.Error("IsPuzzle with MaxClues")
	}
	for _, c := range allClues() {
		got, ok := impl.AddClue(most, c)
		wantNothingLeft(t, fmt.Sprint("AddClue to MaxClues ", c), got, ok)
		got, ok = impl.AddClue(puzzleOf(most.Clues[:5]...), c)
		wantPuzzle(t, fmt.Sprint("AddClue ", c), got, ok, puzzleOf(slices.Concat(most.Clues[:5], []impl.Clue{c})...), true)
		wantNoPuzzle(t, puzzleOf(slices.Concat(most.Clues, []impl.Clue{c})...))
	}
	for _, many := range []int{7, 8, 12, 100, 1000} {
		wantNoPuzzle(t, puzzleOf(make([]impl.Clue, many)...))
		wantNoPuzzle(t, puzzleOf(slices.Repeat([]impl.Clue{clueOf(9, 9, 9)}, many)...))
	}
}

// noHidden are texts that are no hidden tickets: wrong lengths, and bytes that are none of the digits 0 to 5.
var noHidden = []string{
	"", "0", "00", "000", "00000", "000000", "12345", "123412", strings.Repeat("1", 12), strings.Repeat("0", 1000),
	"6000", "0600", "0060", "0006", "9999", "1239", "7123", "a123", "123a", "1a23", "/123", "123/", "12:3", ":123", "-123", "+123", "123-", "1 23", " 123", "123 ", "123\n", "\t123", "12.3", "1,23", "?123", "12??",
	"\x00\x00\x00\x00", "\x00\x01\x02\x03", "123\xff", "\xff123", "é12", "1é3", "é1", "٣٣", "１2", "１23", "ABCD",
}

func TestNoHiddenTickets(t *testing.T) {
	for _, bad := range noHidden {
		for _, c := range allClues() {
			is, ok := impl.DoesFit(c, bad)
			wantTruth(t, fmt.Sprintf("DoesFit %v %.40q", c, bad), is, ok, false, false)
		}
		for many := range maxClues + 1 {
			got, ok := impl.MakePuzzle(bad, many, 77)
			wantNothingLeft(t, fmt.Sprintf("MakePuzzle %.40q %d", bad, many), got, ok)
		}
	}
	for place := range 4 {
		for sign := range 256 {
			is, ok := impl.DoesFit(clueOf(5, 0, 2), putIn("0000", place, byte(sign)))
			isHidden := sign >= '0' && sign <= '5'
			isEven := place < 3 || sign%2 == 0
			wantTruth(t, fmt.Sprint("DoesFit with ", sign, " at ", place), is, ok, isHidden && isEven, isHidden)
		}
	}
}

// makeBy looks for each next number among all rests, and for each B among all that a clue may have.
func makeBy(h hiddenTicket, clues int, seed int) impl.Puzzle {
	z := seed
	next := func() int {
		z = 303*z + 709
		for z >= 10007 {
			z -= 10007
		}
		return z
	}
	var p impl.Puzzle
	for range clues {
		kind := next() % 5
		y := next()
		a := map[int]int{0: y % 2, 1: y % 4, 3: y % 3}[kind]
		for b := range maxTold + 1 {
			if c := clueOf(kind, a, b); h.fits(c) && (kind == 0 || kind == 1 || kind == 4 || b <= 1) {
				p.Clues = append(p.Clues, c)
			}
		}
	}
	return p
}

func wantMadePuzzle(t *testing.T, h hiddenTicket, many int, seed int) {
	t.Helper()
	got, ok := impl.MakePuzzle(h.text(), many, seed)
	what := fmt.Sprint("MakePuzzle ", h.text(), " ", many, " ", seed)
	wantPuzzle(t, what, got, ok, makeBy(h, many, seed), true)
	if !impl.IsPuzzle(got) || len(got.Clues) != many {
		t.Errorf("%s: no puzzle of %d clues", what, many)
	}
	for _, c := range got.Clues {
		is, ok := impl.DoesFit(c, h.text())
		wantTruth(t, fmt.Sprint(what, " ", c), is, ok, true, true)
	}
}

func TestMadePuzzles(t *testing.T) {
	all := hiddenOnes()
	for seed := 0; seed <= maxSeed; seed++ {
		wantMadePuzzle(t, all[seed*11%len(all)], maxClues, seed)
	}
	for n, h := range all {
		wantMadePuzzle(t, h, n%(maxClues+1), n*5)
		wantMadePuzzle(t, h, maxClues, 0)
		wantMadePuzzle(t, h, maxClues, maxSeed)
	}
}

// TestMadePuzzlesByHand: the numbers behind the seed 0 are 709, 5389, 2435, 8003, 3924, 8855, 1898, 5404, 6980, 4172, 3943 and 4605.
func TestMadePuzzlesByHand(t *testing.T) {
	want := "4.0.3,0.1.7,4.0.3,3.1.0,0.0.4,3.0.1"
	for many := range maxClues + 1 {
		p, ok := impl.MakePuzzle("1334", many, 0)
		got, fine := impl.PuzzleText(p)
		wantText(t, fmt.Sprint("MakePuzzle 1334 ", many, " 0"), got, ok && fine, want[:max(0, 6*many-1)], true)
	}
}

func TestMadePuzzlesAreSolved(t *testing.T) {
	table := newFitTable()
	solved := 0
	for seed := 3; seed <= maxSeed; seed += 31 {
		h := table.hidden[seed%len(table.hidden)]
		p, ok := impl.MakePuzzle(h.text(), maxClues, seed)
		table.wantAll(t, p)
		fitting, fine := impl.Solutions(p)
		if !ok || !fine || !slices.Contains(fitting, h.text()) {
			t.Errorf("MakePuzzle %s with %d: %v", h.text(), seed, fitting)
		}
		if len(fitting) == 1 {
			solved++
		}
	}
	if solved < 30 {
		t.Error("too few puzzles that were made are solved:", solved)
	}
}

func TestNothingIsMade(t *testing.T) {
	for _, clues := range []int{math.MinInt, -6, -1, 7, 8, 100, 1 << 32, 1<<32 + 1, math.MaxInt} {
		got, ok := impl.MakePuzzle("1234", clues, 1)
		wantNothingLeft(t, fmt.Sprint("MakePuzzle with so many clues: ", clues), got, ok)
	}
	for _, seed := range []int{math.MinInt, math.MinInt + 1, -10007, -9999, -1, 10000, 10001, 10006, 10007, 1 << 32, 1<<32 + 1, math.MaxInt - 1, math.MaxInt} {
		for _, clues := range []int{0, 1, 6} {
			got, ok := impl.MakePuzzle("1234", clues, seed)
			wantNothingLeft(t, fmt.Sprint("MakePuzzle by the seed ", seed), got, ok)
		}
	}
}

func TestTextsOfPuzzles(t *testing.T) {
	for _, c := range allClues() {
		wantPuzzleText(t, puzzleOf(c))
		wantPuzzleText(t, puzzleOf(clueOf(5, 0, 9), c, clueOf(0, 0, 0)))
		wantPuzzleText(t, puzzleOf(c, c, c, c, c, c))
	}
	for text, want := range map[string]impl.Puzzle{
		"0.0.0": puzzleOf(impl.Clue{}), "0.0.20": puzzleOf(clueOf(0, 0, 20)), "1.3.10,5.0.2": puzzleOf(clueOf(1, 3, 10), clueOf(5, 0, 2)), "3.2.1,2.0.0,4.0.20": puzzleOf(clueOf(3, 2, 1), clueOf(2, 0, 0), clueOf(4, 0, 20)),
	} {
		got, ok := impl.ParsePuzzle(text)
		wantPuzzle(t, "ParsePuzzle "+text, got, ok, want, true)
		back, ok := impl.PuzzleText(want)
		wantText(t, "PuzzleText", back, ok, text, true)
	}
}

func TestNoTextsOfPuzzles(t *testing.T) {
	bad := []string{
		",", ".", "..", "...", ",,", "0", "00", "0.0", "0.0.", ".0.0", "0..0", "0.0.0.", ".0.0.0", "0.0.0.0", "0.0.0,", ",0.0.0", "0.0.0,,0.0.0", "0.0.0,0", "0.0.0,0.0", "0.0,0.0.0", "0.0.0,.",
		"0,0,0", "0.0,0", "0 0 0", "0.0.0;0.0.0", "0.0.0 0.0.0", "0.0.0|1.0.0", "0.0.0.1.0.0", "0:0:0", "0.0.0,,", "0.0.0\n", "\n", " ", " 0.0.0", "0.0.0 ", "0. 0.0", "0.0 .0", "0.0.0, 1.0.0", "0.0.0 ,1.0.0", "\t0.0.0",
		"00.0.0", "0.00.0", "0.0.00", "01.0.0", "1.01.0", "1.0.01", "+1.0.0", "1.+1.0", "1.0.+1", "-0.0.0", "0.-0.0", "0.0.-0", "-1.0.0", "0.-1.0", "0.0.-1", "1e0.0.0", "0x1.0.0", "1.0x1.0", "1.0.0x1", "1_0.0.0", "0.0.1_0", "a.0.0", "0.a.0", "0.0.a", "0.0.0a", "a0.0.0",
		"6.0.0", "6.0.2", "9.0.0", "10.0.2", "0.2.0", "0.0.21", "1.4.0", "1.0.21", "2.1.0", "2.0.2", "3.3.0", "3.0.2", "4.1.0", "4.0.21", "5.1.2", "5.0.0", "5.0.1", "5.0.10", "5.0.20", "0.0.100",
		"?.0.0", "0.0.?", "[0.0.0]", "0.0.0~", "!", "0.0.\x00", "\x00.0.0", "\xff", "0.0.\xff", "０.0.0", "0.0.٣", "0.0.0，1.0.0", "é",
		"18446744073709551616.0.0", "0.18446744073709551616.0", "0.0.18446744073709551616", "0.0.9223372036854775807", "0.0.9223372036854775808", "0.0.4294967296", "4294967296.0.0", "-18446744073709551616.0.0",
		"0.0.0,0.0.0,0.0.0,0.0.0,0.0.0,0.0.0,0.0.0", strings.Repeat("0.0.0,", 6), strings.Repeat("0.0.0,", 5000) + "0.0.0", strings.Repeat(",", 5000), strings.Repeat(".", 5000), strings.Repeat("1", 5000), "0.0." + strings.Repeat("1", 5000), "0.0.0" + strings.Repeat("0", 5000),
	}
	for _, c := range noClues() {
		bad = append(bad, puzzleText(puzzleOf(c)), puzzleText(puzzleOf(clueOf(0, 0, 0), c)), puzzleText(puzzleOf(c, clueOf(5, 0, 9))))
	}
	for _, text := range bad {
		got, ok := impl.ParsePuzzle(text)
		wantNothingLeft(t, fmt.Sprintf("ParsePuzzle %.40q", text), got, ok)
	}
}

// TestShortTextsOfPuzzles: of all texts of up to six of these signs, just those are read that some puzzle has.
func TestShortTextsOfPuzzles(t *testing.T) {
	isText := map[string]bool{"": true}
	for _, c := range allClues() {
		isText[puzzleText(puzzleOf(c))] = true
	}
	texts := []string{""}
	for size := 0; size <= 6; size++ {
		var longer []string
		for _, text := range texts {
			if got, ok := impl.ParsePuzzle(text); ok != isText[text] || puzzleText(got) != text && ok {
				t.Errorf("ParsePuzzle %q: %v %v", text, got, ok)
			}
			for _, sign := range "0125.,-" {
				longer = append(longer, text+string(sign))
			}
		}
		texts = longer
	}
}

// askAllOfPuzzle calls all that takes a puzzle.
func askAllOfPuzzle(p impl.Puzzle) {
	impl.IsPuzzle(p)
	impl.Solutions(p)
	impl.CountSolutions(p)
	impl.FirstSolution(p)
	impl.SureDigits(p)
	impl.IsSolved(p)
	impl.NeedlessClues(p)
	for k := -1; k <= len(p.Clues) && k < 10; k++ {
		impl.DropClue(p, k)
	}
	impl.AddClue(p, clueOf(1, 1, 1))
	impl.AddClue(p, clueOf(9, 9, 9))
	impl.LeftByClues(p)
	impl.BestClue(p)
	impl.HarderPuzzle(p)
	impl.PuzzleText(p)
}

// withRoom returns a copy of a puzzle with room behind its clues, and all that lies there.
func withRoom(p impl.Puzzle) (impl.Puzzle, []impl.Clue) {
	room := append(slices.Clone(p.Clues), clueOf(-7, -7, -7), clueOf(-8, -8, -8), clueOf(-9, -9, -9))
	return puzzleOf(room[:len(p.Clues)]...), room
}

// TestPuzzlesAreLeftAlone: nothing is written into the clues of a puzzle, nor behind them, and what lies there changes no answer.
func TestPuzzlesAreLeftAlone(t *testing.T) {
	table := newFitTable()
	for _, p := range somePuzzles {
		lent, room := withRoom(p)
		kept := slices.Clone(room)
		table.wantAll(t, lent)
		askAllOfPuzzle(lent)
		if !slices.Equal(room, kept) {
			t.Fatalf("clues of %s are %v now", puzzleText(p), room)
		}
	}
	for _, c := range noClues() {
		lent, room := withRoom(puzzleOf(clueOf(0, 0, 0), c, clueOf(0, 1, 0)))
		kept := slices.Clone(room)
		askAllOfPuzzle(lent)
		if !slices.Equal(room, kept) {
			t.Fatalf("clues with %v are %v now", c, room)
		}
	}
}

// spoilPuzzle writes into all clues of a puzzle, and behind them as far as there is room.
func spoilPuzzle(p impl.Puzzle) {
	clues := p.Clues[:cap(p.Clues)]
	for k := range clues {
		clues[k] = clueOf(-5, -5, -5)
	}
}

// puzzleAsks are all that return a puzzle, with arguments for which they succeed.
func puzzleAsks(p impl.Puzzle) map[string]func() (impl.Puzzle, bool) {
	asks := map[string]func() (impl.Puzzle, bool){
		"AddClue":      func() (impl.Puzzle, bool) { return impl.AddClue(p, clueOf(2, 0, 1)) },
		"HarderPuzzle": func() (impl.Puzzle, bool) { return impl.HarderPuzzle(p) },
		"MakePuzzle":   func() (impl.Puzzle, bool) { return impl.MakePuzzle("1234", 5, 99) },
		"ParsePuzzle":  func() (impl.Puzzle, bool) { return impl.ParsePuzzle(puzzleText(p)) },
	}
	for k := range p.Clues {
		asks[fmt.Sprint("DropClue ", k)] = func() (impl.Puzzle, bool) { return impl.DropClue(p, k) }
	}
	return asks
}

// TestPuzzlesOfResultsAreNew: what a caller does to a puzzle that was returned is seen neither in the argument nor in the next result,
// also where all clues of the argument are in it, or all but the first or the last one.
func TestPuzzlesOfResultsAreNew(t *testing.T) {
	table := newFitTable()
	for _, text := range []string{"0.0.1,2.0.1,1.0.1,3.2.1", "0.0.0,0.1.0", "0.0.0,0.1.0,4.0.1", "4.0.1,0.0.0,0.1.0", "0.0.0,2.0.1,0.1.0,4.0.1,1.2.0"} {
		parsed, _ := impl.ParsePuzzle(text)
		p, room := withRoom(parsed)
		kept := slices.Clone(room)
		for name, ask := range puzzleAsks(p) {
			first, ok := ask()
			want := puzzleOf(slices.Clone(first.Clues)...)
			if !ok || len(want.Clues) == 0 {
				t.Error(name, "returns nothing to look at", text)
			}
			spoilPuzzle(first)
			if !slices.Equal(room, kept) {
				t.Fatalf("%s shares the clues of %s: %v", name, text, room)
			}
			again, ok := ask()
			wantPuzzle(t, name+" again", again, ok, want, true)
		}
		table.wantAll(t, p)
	}
}

// TestResultsDoNotFollowTheirArguments: what is done to an argument later is not seen in a result.
func TestResultsDoNotFollowTheirArguments(t *testing.T) {
	for _, text := range []string{"0.0.1,2.0.1,1.0.1,3.2.1", "0.0.0,0.1.0,4.0.1"} {
		p, _ := impl.ParsePuzzle(text)
		results, wants := map[string]impl.Puzzle{}, map[string]impl.Puzzle{}
		for name, ask := range puzzleAsks(p) {
			got, _ := ask()
			results[name], wants[name] = got, puzzleOf(slices.Clone(got.Clues)...)
		}
		spoilPuzzle(p)
		for name, got := range results {
			wantPuzzle(t, name+" "+text, got, true, wants[name], true)
		}
	}
}

func TestListsOfPuzzlesAreNew(t *testing.T) {
	p, _ := impl.ParsePuzzle("0.0.0,0.0.0,5.0.9,5.0.3")
	for name, ask := range map[string]func(impl.Puzzle) ([]int, bool){"NeedlessClues": impl.NeedlessClues, "LeftByClues": impl.LeftByClues} {
		first, _ := ask(p)
		want := slices.Clone(first)
		spoil(first)
		again, ok := ask(p)
		wantList(t, name+" again", again, ok, want, len(want) > 0)
	}
	first, _ := impl.Solutions(p)
	want := slices.Clone(first)
	for i := range first {
		first[i] = "MINE"
	}
	again, ok := impl.Solutions(p)
	wantTexts(t, "Solutions again", again, ok, want, len(want) > 0)
}

// lend returns a text that lies in a list of bytes, and the list.
func lend(text string) (string, []byte) {
	room := []byte("<" + text + ">99")
	return unsafe.String(&room[1], len(text)), room
}

// TestTextsOfPuzzlesAreLeftAlone: nothing is written into the list of bytes in which a text lies, and no result is a part of it.
func TestTextsOfPuzzlesAreLeftAlone(t *testing.T) {
	for _, text := range []string{"1234", "0.0.1,2.0.1", "", "5.0.1", "12", "é"} {
		lent, room := lend(text)
		kept := slices.Clone(room)
		fits, fitsOk := impl.DoesFit(clueOf(4, 0, 4), lent)
		made, madeOk := impl.MakePuzzle(lent, 6, 7)
		read, readOk := impl.ParsePuzzle(lent)
		if !slices.Equal(room, kept) {
			t.Fatalf("%q is %q now", kept, room)
		}
		for i := range room {
			room[i] = '#'
		}
		want, wantOk := impl.DoesFit(clueOf(4, 0, 4), text)
		wantTruth(t, "DoesFit of a lent text", fits, fitsOk, want, wantOk)
		puzzle, wantOk := impl.MakePuzzle(text, 6, 7)
		wantPuzzle(t, "MakePuzzle of a lent text", made, madeOk, puzzle, wantOk)
		puzzle, wantOk = impl.ParsePuzzle(text)
		wantPuzzle(t, "ParsePuzzle of a lent text", read, readOk, puzzle, wantOk)
	}
}

func TestExampleOfPuzzles(t *testing.T) {
	p, ok := impl.ParsePuzzle("0.0.1,2.0.1,1.0.1,3.2.1")
	wantPuzzle(t, "ParsePuzzle", p, ok, puzzleOf(clueOf(0, 0, 1), clueOf(2, 0, 1), clueOf(1, 0, 1), clueOf(3, 2, 1)), true)
	fitting, ok := impl.Solutions(p)
	wantTexts(t, "Solutions", fitting, ok, []string{"1001"}, true)
	left, ok := impl.LeftByClues(p)
	wantList(t, "LeftByClues", left, ok, []int{1296, 72, 4, 2, 1}, true)
	is, ok := impl.IsSolved(p)
	wantTruth(t, "IsSolved", is, ok, true, true)
	p, _ = impl.ParsePuzzle("0.0.0,5.0.9")
	fitting, ok = impl.Solutions(p)
	wantTexts(t, "Solutions", fitting, ok, []string{"0000", "0045", "0054"}, true)
	sure, ok := impl.SureDigits(p)
	wantText(t, "SureDigits", sure, ok, "00??", true)
}

func TestLimitsOfPuzzles(t *testing.T) {
	if impl.MaxHidden != maxHidden || impl.MaxClues != maxClues {
		t.Error(impl.MaxHidden, impl.MaxClues)
	}
}
