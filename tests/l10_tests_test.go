package tests

import (
	"math"
	"slices"
	"testing"

	"loop.example/tellersandliars/impl"
)

// wrongUnits are numbers of units that no function takes.
var wrongUnits = []int{math.MinInt, math.MinInt + 1, -65, -64, -6, -5, -2, -1, 0, 6, 7, 8, 31, 32, 33, 63, 64, 65, 1 << 32, math.MaxInt - 1, math.MaxInt}

// belowNone are numbers below 0.
var belowNone = []int{-1, -2, -3, -16, -31, -32, -33, -64, -65536, math.MinInt32, math.MinInt + 1, math.MinInt}

// mostSure has for each number of units how many may be broken at most.
var mostSure = []int{-1, 0, 0, 1, 1, 2}

// ofRows is a syndrome with a text for each row, and a digit in it for each unit.
func ofRows(texts ...string) [][]int {
	var s [][]int
	for _, text := range texts {
		var row []int
		for _, digit := range text {
			row = append(row, int(digit-'0'))
		}
		s = append(s, row)
	}
	return s
}

// allTell is a syndrome in which each unit tells the same of all others.
func allTell(units, told int) [][]int {
	var s [][]int
	for tester := range units {
		s = append(s, changed(allOf(told, units), tester, 0))
	}
	return s
}

// tellsAbout is in how many ways a unit may tell of all others.
func tellsAbout(units int) int {
	return power(units - 1)
}

// syndromeCount is how many syndromes there are of so many units.
func syndromeCount(units int) int {
	return powerOf(tellsAbout(units), units)
}

// syndromeOf has for each unit a digit that tells what the unit tells of the others.
func syndromeOf(units, number int) [][]int {
	var s [][]int
	for tester, told := range digitsOf(tellsAbout(units), units, number) {
		s = append(s, slices.Insert(digitsOf(2, units-1, told), tester, 0))
	}
	return s
}

// setOfRow is the set of those units of which a row tells that they are broken.
func setOfRow(row []int) int {
	var broken []bool
	for _, told := range row {
		broken = append(broken, told == 1)
	}
	return worldOfRow(broken)
}

func others(units int, set int) []int {
	var list []int
	for unit, broken := range tellsIn(units, set) {
		if !broken {
			list = append(list, unit)
		}
	}
	return list
}

// fitsRows compares whole rows with the set, where the program compares what is told of each unit.
func fitsRows(s [][]int, set int) bool {
	for _, unit := range others(len(s), set) {
		if setOfRow(s[unit]) != set {
			return false
		}
	}
	return true
}

// setsThatFit seeks them among the rows, as each set but that of all is what some right unit tells.
func setsThatFit(s [][]int) []int {
	sets := []int{power(len(s)) - 1}
	for _, row := range s {
		if set := setOfRow(row); fitsRows(s, set) {
			sets = append(sets, set)
		}
	}
	slices.Sort(sets)
	return slices.Compact(sets)
}

// ofAtMost are those sets that have at most so many units.
func ofAtMost(sets []int, most int) []int {
	var list []int
	for _, set := range sets {
		if len(membersOf(set)) <= most {
			list = append(list, set)
		}
	}
	return list
}

// toldBy is what the units of a set tell of all others, as a number.
func toldBy(s [][]int, set int) int {
	var bits []bool
	for _, tester := range membersOf(set) {
		for unit, told := range s[tester] {
			if unit != tester {
				bits = append(bits, told == 1)
			}
		}
	}
	return worldOfRow(bits)
}

// wordsOfSet is how many numbers there are for what the units of a set tell.
func wordsOfSet(units, set int) int {
	return powerOf(tellsAbout(units), len(membersOf(set)))
}

// eachBroken calls f for all sets of units, of all numbers of units.
func eachBroken(f func(units, set int)) {
	for units := 1; units <= impl.MaxUnits; units++ {
		for set := range power(units) {
			f(units, set)
		}
	}
}

// brokenTell is a syndrome that a set fits, in which the broken units tell what they tell in another one.
func brokenTell(set int, s [][]int) [][]int {
	units := len(s)
	made := make([][]int, units)
	for _, tester := range membersOf(set) {
		made[tester] = slices.Clone(s[tester])
	}
	for _, tester := range others(units, set) {
		for _, broken := range tellsIn(units, set) {
			told := 0
			if broken {
				told = 1
			}
			made[tester] = append(made[tester], told)
		}
	}
	return made
}

// eachSyndrome calls f for all syndromes of fewer than MaxUnits units, for some of MaxUnits, and for some of these that each set fits.
func eachSyndrome(f func(s [][]int)) {
	for units := 1; units < impl.MaxUnits; units++ {
		for number := range syndromeCount(units) {
			f(syndromeOf(units, number))
		}
	}
	all := syndromeCount(impl.MaxUnits)
	for number := 0; number < all; number += 13 {
		f(syndromeOf(impl.MaxUnits, number))
	}
	f(syndromeOf(impl.MaxUnits, all-1))
	pick := &picker{state: 47}
	for set := range power(impl.MaxUnits) {
		for range min(600, wordsOfSet(impl.MaxUnits, set)) {
			f(brokenTell(set, syndromeOf(impl.MaxUnits, pick.below(all))))
		}
	}
}

// someSyndromes are some of so many units, in which nobody, everybody, and just some tell that others are broken.
func someSyndromes(units int) [][][]int {
	return [][][]int{allTell(units, 0), allTell(units, 1), syndromeOf(units, syndromeCount(units)/3), syndromeOf(units, syndromeCount(units)*4/5)}
}

// withNumber is a syndrome with another number in one place.
func withNumber(s [][]int, tester, unit, number int) [][]int {
	return withRow(s, tester, changed(s[tester], unit, number))
}

// withRow is a syndrome with another row in one place.
func withRow(s [][]int, tester int, row []int) [][]int {
	other := slices.Clone(s)
	other[tester] = row
	return other
}

// turned has the units from the last one to the first one.
func turned(s [][]int) [][]int {
	var other [][]int
	for _, row := range slices.Backward(s) {
		other = append(other, reversed(row))
	}
	return other
}

func sameRows(a, b [][]int) bool {
	return slices.EqualFunc(a, b, slices.Equal[[]int])
}

func copyOfRows(s [][]int) [][]int {
	var other [][]int
	for _, row := range s {
		other = append(other, slices.Clone(row))
	}
	return other
}

// checkNoSyndrome tests what is returned for what is no syndrome.
func checkNoSyndrome(t *testing.T, s [][]int) {
	t.Helper()
	if impl.SyndromeOk(s) {
		t.Error("SyndromeOk", s)
	}
	for set := -1; set <= power(impl.MaxUnits); set++ {
		checkNotFitting(t, s, set)
	}
	for most := -1; most <= impl.MaxUnits+1; most++ {
		checkNoSets(t, s, most)
	}
	if set, ok := impl.OnlyFaults(s); set != 0 || ok {
		t.Error("OnlyFaults", s, set, ok)
	}
	for unit := -1; unit <= impl.MaxUnits+1; unit++ {
		checkNoVotes(t, s, unit)
	}
}

func checkNotFitting(t *testing.T, s [][]int, set int) {
	t.Helper()
	if impl.FitsFaults(s, set) {
		t.Error("FitsFaults", s, set)
	}
}

func checkNoSets(t *testing.T, s [][]int, most int) {
	t.Helper()
	if got := impl.FaultSets(s, most); len(got) != 0 {
		t.Error("FaultSets", s, most, got)
	}
}

func checkNoVotes(t *testing.T, s [][]int, unit int) {
	t.Helper()
	if got := impl.VotesAgainst(s, unit); got != -1 {
		t.Error("VotesAgainst", s, unit, got)
	}
}

func checkNotMade(t *testing.T, units, set, words int) {
	t.Helper()
	if got := impl.MadeSyndrome(units, set, words); len(got) != 0 {
		t.Error("MadeSyndrome", units, set, words, got)
	}
}

func checkMade(t *testing.T, units, set, words int, want [][]int) {
	t.Helper()
	if got := impl.MadeSyndrome(units, set, words); !sameRows(got, want) {
		t.Error("MadeSyndrome", units, set, words, got, want)
	}
}

// checkSyndrome tests all that is told of a syndrome that just some sets fit.
func checkSyndrome(t *testing.T, s [][]int, sets []int) {
	t.Helper()
	units := len(s)
	if !impl.SyndromeOk(s) {
		t.Error("SyndromeOk", s)
	}
	for set := range power(units) {
		if got := impl.FitsFaults(s, set); got != slices.Contains(sets, set) {
			t.Error("FitsFaults", s, set, got)
		}
	}
	for most := range units + 2 {
		checkSets(t, s, most, ofAtMost(sets, most))
	}
	only, told := 0, false
	if sure := ofAtMost(sets, mostSure[units]); len(sure) > 0 {
		only, told = sure[0], true
	}
	if got, ok := impl.OnlyFaults(s); got != only || ok != told {
		t.Error("OnlyFaults", s, got, ok)
	}
	for unit := range units {
		if got, want := impl.VotesAgainst(s, unit), votesOf(s, unit); got != want {
			t.Error("VotesAgainst", s, unit, got, want)
		}
	}
}

func checkSets(t *testing.T, s [][]int, most int, want []int) {
	t.Helper()
	if got := impl.FaultSets(s, most); !slices.Equal(got, want) {
		t.Error("FaultSets", s, most, got, want)
	}
}

// votesOf reads the column of a unit, as a row.
func votesOf(s [][]int, unit int) int {
	var column []int
	for _, row := range s {
		column = append(column, row[unit])
	}
	return countOf(column, 1)
}

func TestMaxUnits(t *testing.T) {
	if impl.MaxUnits != 5 {
		t.Fatal(impl.MaxUnits)
	}
}

// eachShape calls f for all lists of so many rows of at most so many numbers, each in -1..2.
func eachShape(rows, most int, f func(s [][]int)) {
	var all [][]int
	for count := range most + 1 {
		for number := range powerOf(4, count) {
			row := digitsOf(4, count, number)
			for unit := range row {
				row[unit]--
			}
			all = append(all, row)
		}
	}
	for number := range powerOf(len(all), rows) {
		var s [][]int
		for _, place := range digitsOf(len(all), rows, number) {
			s = append(s, all[place])
		}
		f(s)
	}
}

func TestAllShortSyndromes(t *testing.T) {
	for rows, want := range []int{0, 1, 4, 64} {
		known := map[[3][3]int]bool{}
		if rows > 0 {
			for number := range syndromeCount(rows) {
				known[cornerOf(syndromeOf(rows, number))] = true
			}
		}
		count := 0
		eachShape(rows, 3, func(s [][]int) {
			ok := rows > 0 && known[cornerOf(s)]
			for _, row := range s {
				ok = ok && len(row) == rows
			}
			set, told := impl.OnlyFaults(s)
			if impl.SyndromeOk(s) != ok || impl.FitsFaults(s, power(rows)-1) != ok || !ok && (len(impl.FaultSets(s, 3)) > 0 || told || set != 0 || impl.VotesAgainst(s, 0) != -1) {
				t.Fatal(s, ok)
			}
			if ok {
				count++
			}
		})
		if count != want {
			t.Error("syndromes", rows, count)
		}
	}
}

// cornerOf has a place for each number of a short list of rows, and 0 for those that are missing.
func cornerOf(s [][]int) [3][3]int {
	var corner [3][3]int
	for place, row := range s {
		copy(corner[place][:], row)
	}
	return corner
}

func TestAllSyndromesOfFourUnits(t *testing.T) {
	for number := range syndromeCount(4) {
		if s := syndromeOf(4, number); !impl.SyndromeOk(s) {
			t.Fatal(s)
		}
	}
}

func TestSyndromesRefuseCounts(t *testing.T) {
	for _, s := range [][][]int{nil, {}, {nil}, {{}}, {nil, nil}, {{}, {}}, {{1}}, {{0, 0}}, {{0, 1}}, {{0}, {0}}, {{0}, {}}, {{}, {0}}, {{0, 0}, nil}, {nil, {0, 0}}, make([][]int, 5), make([][]int, 6)} {
		checkNoSyndrome(t, s)
	}
	for _, units := range []int{6, 7, 8, 16, 31, 32, 33, 63, 64, 65, 66, 300} {
		for told := range 2 {
			checkNoSyndrome(t, allTell(units, told))
		}
		for _, set := range append([]int{31, 32, 63, 64, 127, 255, power(15)}, farNumbers...) {
			checkNotFitting(t, allTell(units, 0), set)
		}
		checkNoSets(t, allTell(units, 0), units)
		checkNoVotes(t, allTell(units, 1), units-1)
	}
}

func TestSyndromesRefuseRows(t *testing.T) {
	for units := 1; units <= impl.MaxUnits; units++ {
		for _, s := range someSyndromes(units) {
			for tester := range s {
				row := s[tester]
				for _, other := range [][]int{nil, {}, row[:units-1], append(slices.Clone(row), 0), append(slices.Clone(row), 1), append([]int{0}, row...), slices.Concat(row, row)} {
					checkNoSyndrome(t, withRow(s, tester, other))
				}
				checkNoSyndrome(t, slices.Delete(slices.Clone(s), tester, tester+1))
				checkNoSyndrome(t, slices.Insert(slices.Clone(s), tester, row))
				checkNoSyndrome(t, slices.Insert(slices.Clone(s), tester, nil))
			}
			checkNoSyndrome(t, append(slices.Clone(s), allOf(0, units)))
			checkNoSyndrome(t, append(slices.Clone(s), allOf(0, units+1)))
			checkNoSyndrome(t, append(slices.Clone(s), nil))
		}
	}
}

func TestSyndromesRefuseNumbers(t *testing.T) {
	numbers := append([]int{2, 3, 4, 5, 8, 32, 64, 65, 256, 257, -3}, farNumbers...)
	for units := 1; units <= impl.MaxUnits; units++ {
		for _, s := range someSyndromes(units) {
			for tester := range units {
				for unit := range units {
					for _, number := range numbers {
						checkNoSyndrome(t, withNumber(s, tester, unit, number))
					}
				}
				checkNoSyndrome(t, withNumber(s, tester, tester, 1))
			}
		}
	}
}

func TestSetsRefuse(t *testing.T) {
	for units := 1; units <= impl.MaxUnits; units++ {
		for _, s := range someSyndromes(units) {
			for _, set := range slices.Concat(belowNone, farNumbers, []int{power(units), power(units) + 1, 2*power(units) - 1, 2 * power(units), 32, 33, 63, 64, 65, 255, 256}) {
				checkNotFitting(t, s, set)
			}
			for _, most := range belowNone {
				checkNoSets(t, s, most)
			}
			for _, unit := range slices.Concat(belowNone, farNumbers, []int{units, units + 1, 5, 6, 31, 32, 63, 64}) {
				checkNoVotes(t, s, unit)
			}
		}
	}
}

func TestSureMostNumbers(t *testing.T) {
	for units := -20; units <= 40; units++ {
		want := -1
		if units >= 1 && units <= 5 {
			want = mostSure[units]
		}
		if got := impl.SureMost(units); got != want {
			t.Error(units, got)
		}
	}
	for _, units := range wrongUnits {
		if got := impl.SureMost(units); got != -1 {
			t.Error(units, got)
		}
	}
}

func TestSyndromeExamples(t *testing.T) {
	for _, x := range []struct {
		rows  []string
		sets  []int
		only  int
		told  bool
		votes []int
	}{
		{[]string{"0"}, []int{0, 1}, 0, true, []int{0}},
		{[]string{"00", "00"}, []int{0, 3}, 0, true, []int{0, 0}},
		{[]string{"01", "00"}, []int{2, 3}, 0, false, []int{0, 1}},
		{[]string{"00", "10"}, []int{1, 3}, 0, false, []int{1, 0}},
		{[]string{"01", "10"}, []int{1, 2, 3}, 0, false, []int{1, 1}},
		{[]string{"000", "000", "000"}, []int{0, 7}, 0, true, []int{0, 0, 0}},
		{[]string{"010", "001", "010"}, []int{2, 7}, 2, true, []int{0, 2, 1}},
		{[]string{"011", "100", "100"}, []int{1, 6, 7}, 1, true, []int{2, 1, 1}},
		{[]string{"001", "001", "110"}, []int{3, 4, 7}, 4, true, []int{1, 1, 2}},
		{[]string{"010", "001", "100"}, []int{7}, 0, false, []int{1, 1, 1}},
		{[]string{"011", "101", "110"}, []int{3, 5, 6, 7}, 0, false, []int{2, 2, 2}},
		{[]string{"011", "000", "000"}, []int{6, 7}, 0, false, []int{0, 1, 1}},
		{[]string{"0000", "1000", "0000", "0000"}, []int{15}, 0, false, []int{1, 0, 0, 0}},
		{[]string{"0000", "1001", "0000", "0000"}, []int{15}, 0, false, []int{1, 0, 0, 1}},
		{[]string{"0000", "1000", "1000", "1000"}, []int{1, 15}, 1, true, []int{3, 0, 0, 0}},
		{[]string{"0011", "0011", "1100", "1100"}, []int{3, 12, 15}, 0, false, []int{2, 2, 2, 2}},
		{[]string{"0001", "0001", "0001", "1110"}, []int{7, 8, 15}, 8, true, []int{1, 1, 1, 3}},
		{[]string{"00011", "00011", "00011", "00000", "00000"}, []int{24, 31}, 24, true, []int{0, 0, 0, 3, 3}},
		{[]string{"00011", "00011", "00011", "11100", "11100"}, []int{7, 24, 31}, 24, true, []int{2, 2, 2, 3, 3}},
		{[]string{"01010", "10111", "01010", "11101", "01010"}, []int{10, 23, 29, 31}, 10, true, []int{2, 4, 2, 4, 2}},
		{[]string{"01000", "00100", "00010", "00001", "10000"}, []int{31}, 0, false, []int{1, 1, 1, 1, 1}},
		{[]string{"01111", "10000", "10000", "10000", "10000"}, []int{1, 30, 31}, 1, true, []int{4, 1, 1, 1, 1}},
		{[]string{"01111", "10111", "11011", "11101", "11110"}, []int{15, 23, 27, 29, 30, 31}, 0, false, []int{4, 4, 4, 4, 4}},
		{[]string{"00000", "00000", "00000", "00000", "00000"}, []int{0, 31}, 0, true, []int{0, 0, 0, 0, 0}},
	} {
		s := ofRows(x.rows...)
		checkSyndrome(t, s, x.sets)
		if only, told := impl.OnlyFaults(s); only != x.only || told != x.told {
			t.Error("OnlyFaults", x.rows, only, told)
		}
		for unit, want := range x.votes {
			if got := impl.VotesAgainst(s, unit); got != want {
				t.Error("VotesAgainst", x.rows, unit, got)
			}
		}
	}
}

func TestAllThatIsToldOfSyndromes(t *testing.T) {
	var counts [impl.MaxUnits + 1]int
	eachSyndrome(func(s [][]int) {
		sets := setsThatFit(s)
		checkSyndrome(t, s, sets)
		if t.Failed() {
			t.FailNow()
		}
		counts[min(len(sets), impl.MaxUnits)]++
	})
	if counts[0] != 0 || counts[1] < 1000 || counts[2] < 1000 || counts[3] < 20 || counts[4] < 1 {
		t.Fatal("too few syndromes", counts)
	}
}

// A most of more than the units is as the units.
func TestMoreFaultsThanUnits(t *testing.T) {
	for units := 1; units <= impl.MaxUnits; units++ {
		for _, s := range someSyndromes(units) {
			sets := setsThatFit(s)
			for _, most := range []int{units, units + 1, 6, 31, 32, 63, 64, 65, 1 << 32, math.MaxInt - 1, math.MaxInt} {
				checkSets(t, s, most, sets)
			}
		}
	}
}

// A most of 0 leaves just the set of no units.
func TestNoFaultsAtAll(t *testing.T) {
	for units := 1; units <= impl.MaxUnits; units++ {
		checkSets(t, allTell(units, 0), 0, []int{0})
		for tester := range units {
			for unit := range units {
				if unit != tester {
					s := withNumber(allTell(units, 0), tester, unit, 1)
					checkSets(t, s, 0, nil)
					checkNotFitting(t, s, 0)
				}
			}
		}
	}
}

func TestOneUnitAlone(t *testing.T) {
	s := ofRows("0")
	checkSyndrome(t, s, []int{0, 1})
	checkSets(t, s, 0, []int{0})
	checkSets(t, s, 1, []int{0, 1})
	if only, told := impl.OnlyFaults(s); only != 0 || !told {
		t.Error(only, told)
	}
	if impl.VotesAgainst(s, 0) != 0 || impl.SureMost(1) != 0 {
		t.Error("votes")
	}
	for set := range 2 {
		for _, words := range []int{0, 1, 2, 3, math.MaxInt} {
			checkMade(t, 1, set, words, s)
		}
	}
}

func checkNotSure(t *testing.T, s [][]int) {
	t.Helper()
	if only, told := impl.OnlyFaults(s); only != 0 || told {
		t.Error("OnlyFaults", s, only, told)
	}
}

// If each unit tells that just another one is broken, and no two the same, none is right.
func TestJustTheSetOfAllFits(t *testing.T) {
	for units := 3; units <= impl.MaxUnits; units++ {
		for step := 1; step < units; step++ {
			s := allTell(units, 0)
			for tester := range units {
				s[tester][(tester+step)%units] = 1
			}
			checkSyndrome(t, s, []int{power(units) - 1})
			checkNotSure(t, s)
		}
	}
}

// If one unit tells that all others are broken, and these that all are right, it is right alone, or none is.
func TestJustLargeSetsFit(t *testing.T) {
	for units := 2; units <= impl.MaxUnits; units++ {
		for tester := range units {
			all := power(units) - 1
			s := withRow(allTell(units, 0), tester, changed(allOf(1, units), tester, 0))
			checkSyndrome(t, s, []int{all - power(tester), all})
			checkNotSure(t, s)
		}
	}
}

// Of an even number of units just half may be broken in two ways, so that this is not told.
func TestHalfOfAllUnits(t *testing.T) {
	for _, units := range []int{2, 4} {
		halves := 0
		for set := range power(units) {
			if len(membersOf(set)) != units/2 {
				continue
			}
			halves++
			opposite := power(units) - 1 - set
			var s [][]int
			for _, broken := range tellsIn(units, set) {
				told := set
				if broken {
					told = opposite
				}
				s = append(s, digitsOf(2, units, told))
			}
			sets := []int{set, opposite, power(units) - 1}
			slices.Sort(sets)
			checkSyndrome(t, s, sets)
			checkNotSure(t, s)
		}
		if halves != choose(units, units/2) {
			t.Error(units, halves)
		}
	}
}

func TestMadeExamples(t *testing.T) {
	for _, x := range []struct {
		units, set, words int
		rows              []string
	}{
		{1, 0, 0, []string{"0"}}, {1, 1, 7, []string{"0"}},
		{2, 0, 3, []string{"00", "00"}}, {2, 1, 0, []string{"00", "10"}}, {2, 1, 1, []string{"01", "10"}}, {2, 1, 2, []string{"00", "10"}}, {2, 2, 1, []string{"01", "10"}}, {2, 2, 0, []string{"01", "00"}},
		{2, 3, 0, []string{"00", "00"}}, {2, 3, 1, []string{"01", "00"}}, {2, 3, 2, []string{"00", "10"}}, {2, 3, 3, []string{"01", "10"}}, {2, 3, 4, []string{"00", "00"}}, {2, 3, 5, []string{"01", "00"}},
		{3, 2, 2, []string{"010", "001", "010"}}, {3, 2, 1, []string{"010", "100", "010"}}, {3, 2, 3, []string{"010", "101", "010"}}, {3, 5, 0, []string{"000", "101", "000"}}, {3, 5, 1, []string{"010", "101", "000"}}, {3, 5, 2, []string{"001", "101", "000"}},
		{3, 5, 4, []string{"000", "101", "100"}}, {3, 5, 8, []string{"000", "101", "010"}}, {3, 5, 16, []string{"000", "101", "000"}}, {3, 7, 42, []string{"001", "001", "010"}}, {3, 7, 21, []string{"010", "100", "100"}},
		{4, 0, 99, []string{"0000", "0000", "0000", "0000"}}, {4, 8, 5, []string{"0001", "0001", "0001", "1010"}}, {4, 6, 1 + 32, []string{"0110", "1000", "0001", "0110"}}, {4, 15, 4095, []string{"0111", "1011", "1101", "1110"}},
		{5, 24, 0, []string{"00011", "00011", "00011", "00000", "00000"}}, {5, 24, 7 + 7*16, []string{"00011", "00011", "00011", "11100", "11100"}}, {5, 1, 6, []string{"00110", "10000", "10000", "10000", "10000"}}, {5, 31, 1 << 19, []string{"00000", "00000", "00000", "00000", "00010"}},
		{5, 31, 1<<20 + 1, []string{"01000", "00000", "00000", "00000", "00000"}}, {5, 31, 1 << 4, []string{"00000", "10000", "00000", "00000", "00000"}}, {5, 30, 1 << 4, []string{"01111", "00000", "10000", "00000", "00000"}},
	} {
		checkMade(t, x.units, x.set, x.words, ofRows(x.rows...))
	}
}

// What broken units tell is read back as the number, without the bits that nobody is left to tell.
func TestMadeOfAllWords(t *testing.T) {
	eachBroken(func(units, set int) {
		count := wordsOfSet(units, set)
		step := max(1, count/5000)
		// The step is odd, so that each bit is told both ways.
		for words := 0; words < count; words += step | 1 {
			s := impl.MadeSyndrome(units, set, words)
			if !impl.SyndromeOk(s) || len(s) != units || toldBy(s, set) != words {
				t.Fatal("told", units, set, words, s)
			}
			for _, unit := range others(units, set) {
				if setOfRow(s[unit]) != set {
					t.Fatal("a right unit", units, set, words, s)
				}
			}
			for _, more := range []int{count, 2 * count, 1 << 40, 1 << 62} {
				checkMade(t, units, set, words+more, s)
			}
			if t.Failed() {
				t.FailNow()
			}
		}
	})
}

// Without words broken units tell that all are right, and with all bits that all others are broken.
func TestMadeOfNoWordsAndAll(t *testing.T) {
	eachBroken(func(units, set int) {
		for told, words := range [][]int{{0}, {wordsOfSet(units, set) - 1, 1<<20 - 1, 1<<32 - 1, math.MaxInt}} {
			for _, number := range words {
				checkMade(t, units, set, number, brokenTell(set, allTell(units, told)))
			}
		}
		checkMade(t, units, set, wordsOfSet(units, set), brokenTell(set, allTell(units, 0)))
	})
}

func TestMadeRefuses(t *testing.T) {
	for _, units := range wrongUnits {
		for _, set := range []int{-1, 0, 1, 2, 15, 31, 32, 63, math.MaxInt} {
			for _, words := range []int{-1, 0, 1, math.MaxInt} {
				checkNotMade(t, units, set, words)
			}
		}
	}
	for units := 1; units <= impl.MaxUnits; units++ {
		for _, set := range slices.Concat(belowNone, farNumbers, []int{power(units), power(units) + 1, 2 * power(units), 32, 33, 63, 64}) {
			for _, words := range []int{-1, 0, 1, math.MaxInt} {
				checkNotMade(t, units, set, words)
			}
		}
	}
	eachBroken(func(units, set int) {
		for _, words := range belowNone {
			checkNotMade(t, units, set, words)
		}
	})
}

// Promise 60.
func TestAllRightIsASyndrome(t *testing.T) {
	for units := range 70 {
		if got := impl.SyndromeOk(allTell(units, 0)); got != (units >= 1 && units <= 5) {
			t.Error(units, got)
		}
	}
	eachSyndrome(func(s [][]int) {
		if !impl.SyndromeOk(s) || !impl.SyndromeOk(turned(s)) {
			t.Fatal(s)
		}
	})
	is, not := 0, 0
	for rows := range 4 {
		eachShape(rows, 3, func(s [][]int) {
			ok := impl.SyndromeOk(s)
			if impl.SyndromeOk(turned(s)) != ok {
				t.Fatal(s, ok)
			}
			if ok {
				is++
			} else {
				not++
			}
		})
	}
	if is != 69 || not < 1000 {
		t.Fatal(is, not)
	}
}

// Promise 61.
func TestIfAllAreBrokenAnythingIsTold(t *testing.T) {
	fits, not := 0, 0
	eachSyndrome(func(s [][]int) {
		all := power(len(s)) - 1
		if !impl.FitsFaults(s, all) {
			t.Fatal("all", s)
		}
		for unit, row := range s {
			allOthers := countOf(row, 1) == len(s)-1
			if got := impl.FitsFaults(s, all-power(unit)); got != allOthers {
				t.Fatal("all but", unit, s, got)
			}
			if allOthers {
				fits++
			} else {
				not++
			}
		}
	})
	if fits < 1000 || not < 1000 {
		t.Fatal("too few syndromes", fits, not)
	}
}

// Promise 62.
func TestAllSetsThatFitAreListed(t *testing.T) {
	listed, left := 0, 0
	eachSyndrome(func(s [][]int) {
		for most := range len(s) + 2 {
			list := impl.FaultSets(s, most)
			if !slices.IsSorted(list) || len(slices.Compact(slices.Clone(list))) != len(list) {
				t.Fatal("not ascending", s, most, list)
			}
			for set := range power(len(s)) {
				want := len(membersOf(set)) <= most && impl.FitsFaults(s, set)
				if slices.Contains(list, set) != want {
					t.Fatal(s, most, set, list)
				}
				if want {
					listed++
				} else {
					left++
				}
			}
		}
	})
	if listed < 1000 || left < 1000 {
		t.Fatal("too few sets", listed, left)
	}
}

// Promise 63.
func TestSoManyAreFewerThanHalf(t *testing.T) {
	for units := 1; units <= impl.MaxUnits; units++ {
		most := impl.SureMost(units)
		if most < 0 || 2*most >= units || 2*(most+1) < units {
			t.Error(units, most)
		}
	}
}

// Promise 64.
func TestFewerThanHalfAreAlwaysKnown(t *testing.T) {
	told, untold, larger := 0, 0, 0
	eachSyndrome(func(s [][]int) {
		most := impl.SureMost(len(s))
		sets := impl.FaultSets(s, most)
		only, ok := impl.OnlyFaults(s)
		if len(sets) > 1 || ok != (len(sets) == 1) || ok && only != sets[0] || !ok && only != 0 {
			t.Fatal(s, sets, only, ok)
		}
		switch {
		case ok:
			told++
		case len(impl.FaultSets(s, len(s)-1)) > 0:
			larger++
		default:
			untold++
		}
	})
	if told < 1000 || untold < 1000 || larger < 1000 {
		t.Fatal("too few syndromes", told, untold, larger)
	}
}

// Promise 65.
func TestVotesOfTheRightOnesDecide(t *testing.T) {
	broken, right := 0, 0
	eachSyndrome(func(s [][]int) {
		only, ok := impl.OnlyFaults(s)
		if !ok {
			return
		}
		faults := len(membersOf(only))
		for unit, isBroken := range tellsIn(len(s), only) {
			votes := impl.VotesAgainst(s, unit)
			if isBroken {
				broken++
				if votes < len(s)-faults {
					t.Fatal("broken", s, only, unit, votes)
				}
				continue
			}
			right++
			if votes < 0 || votes > faults {
				t.Fatal("right", s, only, unit, votes)
			}
		}
	})
	if broken < 1000 || right < 1000 {
		t.Fatal("too few units", broken, right)
	}
}

// Promise 66.
func TestMadeSyndromesFitWhatMadeThem(t *testing.T) {
	found := 0
	eachBroken(func(units, set int) {
		count := wordsOfSet(units, set)
		step := max(1, count/3000)
		for words := 0; words < 2*count; words += step | 1 {
			s := impl.MadeSyndrome(units, set, words)
			if !impl.SyndromeOk(s) || !impl.FitsFaults(s, set) {
				t.Fatal(units, set, words, s)
			}
			if len(membersOf(set)) > impl.SureMost(units) {
				continue
			}
			found++
			if only, ok := impl.OnlyFaults(s); !ok || only != set {
				t.Fatal("found again", units, set, words, only, ok)
			}
		}
	})
	if found < 1000 {
		t.Fatal("too few syndromes", found)
	}
}

// Promise 67.
func TestMoreFaultsMayFitAndFewerNeverVanish(t *testing.T) {
	kept, added := 0, 0
	eachSyndrome(func(s [][]int) {
		for most := range len(s) + 1 {
			fewer, more := impl.FaultSets(s, most), impl.FaultSets(s, most+1)
			for _, set := range fewer {
				kept++
				if !slices.Contains(more, set) {
					t.Fatal("vanished", s, most, set)
				}
			}
			for _, set := range more {
				if slices.Contains(fewer, set) {
					continue
				}
				added++
				if len(membersOf(set)) != most+1 {
					t.Fatal("added", s, most, set)
				}
			}
		}
	})
	if kept < 1000 || added < 1000 {
		t.Fatal("too few sets", kept, added)
	}
}

// In each order of the units the same is told, of the units in that order.
func TestUnitsInTheOtherOrder(t *testing.T) {
	eachSyndrome(func(s [][]int) {
		units, other := len(s), turned(s)
		for set := range power(units) {
			back := tellsIn(units, set)
			slices.Reverse(back)
			if impl.FitsFaults(s, set) != impl.FitsFaults(other, worldOfRow(back)) {
				t.Fatal("FitsFaults", s, set)
			}
		}
		for unit := range units {
			if impl.VotesAgainst(s, unit) != impl.VotesAgainst(other, units-1-unit) {
				t.Fatal("VotesAgainst", s, unit)
			}
		}
	})
}

// rowsWithSpare is a syndrome with spare capacity behind each row and behind the rows' row, and all the memory of both.
func rowsWithSpare(s [][]int) ([][]int, [][]int, []int) {
	units := len(s)
	numbers := allOf(7, 10*units)
	all := slices.Repeat([][]int{{7}}, 2*units)
	for tester, row := range s {
		all[tester] = append(numbers[10*tester:10*tester], row...)
	}
	return all[:units], all, numbers
}

// The general rules: rows and the rows' row are not written to, and what was told of them stays, whatever becomes of them.
func TestSyndromesDoNotWrite(t *testing.T) {
	given := ofRows("001", "001", "110")
	s, all, numbers := rowsWithSpare(given)
	rowsBefore, numbersBefore := copyOfRows(all), slices.Clone(numbers)
	type told struct {
		ok, fits, sure bool
		only, votes    int
	}
	tell := func() (told, []int) {
		only, sure := impl.OnlyFaults(s)
		return told{impl.SyndromeOk(s), impl.FitsFaults(s, 3), sure, only, impl.VotesAgainst(s, 2)}, impl.FaultSets(s, 3)
	}
	want, wantSets := told{true, true, true, 4, 2}, []int{3, 4, 7}
	first, sets := tell()
	if first != want || !slices.Equal(sets, wantSets) {
		t.Error(first, sets)
	}
	if !sameRows(s, given) || !sameRows(all, rowsBefore) || !slices.Equal(numbers, numbersBefore) {
		t.Error("an argument is written to", all, numbers)
	}
	s[2] = []int{0, 0, 0}
	other, otherSets := tell()
	if other != (told{true, false, true, 4, 2}) || !slices.Equal(otherSets, []int{4, 7}) || !slices.Equal(sets, wantSets) {
		t.Error("what was told is kept", other, otherSets, sets)
	}
	s[0][0] = 1
	if other, otherSets = tell(); other != (told{votes: -1}) || len(otherSets) != 0 || !slices.Equal(sets, wantSets) {
		t.Error("what was told is kept", other, otherSets, sets)
	}
	s[0][0], s[2] = 0, []int{1, 1, 0}
	if again, list := tell(); again != want || !slices.Equal(list, wantSets) {
		t.Error("state is kept", again, list)
	}
}

// Rows of one syndrome may share their memory.
func TestSyndromesOfSharedRows(t *testing.T) {
	row := []int{0, 0, 0, 0}
	checkSyndrome(t, [][]int{row, row, row, row}, []int{0, 15})
	if !slices.Equal(row, []int{0, 0, 0, 0}) {
		t.Error(row)
	}
	long := []int{0, 1, 0, 1}
	checkSyndrome(t, [][]int{long[:2], long[1:3]}, []int{1, 2, 3})
	if !slices.Equal(long, []int{0, 1, 0, 1}) {
		t.Error(long)
	}
}

// The general rules: what is told is new, and shares no memory, spare capacity among it.
func TestListsOfSetsAreNotShared(t *testing.T) {
	s := allTell(5, 1)
	first, second := impl.FaultSets(s, 5), impl.FaultSets(s, 5)
	spare := first[:cap(first)]
	for place := range spare {
		spare[place] = -7
	}
	want := []int{15, 23, 27, 29, 30, 31}
	if third := impl.FaultSets(s, 5); !slices.Equal(second, want) || !slices.Equal(third, want) || !sameRows(s, allTell(5, 1)) {
		t.Error(second, third, s)
	}
}

// The general rules: no two rows of what is made share memory, spare capacity among it, nor do two that are made.
func TestMadeRowsAreNotShared(t *testing.T) {
	eachBroken(func(units, set int) {
		words := wordsOfSet(units, set) * 2 / 3
		want := copyOfRows(impl.MadeSyndrome(units, set, words))
		for tester := range units {
			s, other := impl.MadeSyndrome(units, set, words), impl.MadeSyndrome(units, set, words)
			row := s[tester]
			spare := row[:cap(row)]
			for place := range spare {
				spare[place] = -7
			}
			if !sameRows(s, withRow(want, tester, allOf(-7, units))) {
				t.Error("rows share memory", units, set, tester, s)
			}
			rows := s[:cap(s)]
			for place := range rows {
				rows[place] = nil
			}
			if !sameRows(other, want) {
				t.Error("two that are made share memory", units, set, tester, other)
			}
			checkMade(t, units, set, words, want)
		}
	})
}
