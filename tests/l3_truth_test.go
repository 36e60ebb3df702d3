package tests

import (
	"slices"
	"testing"

	"loop.example/tellersandliars/impl"
)

// holds tells a term by its tree, from the first mark it begins with, where the program goes back from the last one.
func (n *tree) holds(tells []bool) bool {
	switch n.mark.Kind {
	case impl.MarkTells:
		return tells[n.mark.At]
	case impl.MarkCount:
		return tellersOf(tells) >= n.mark.At
	case impl.MarkNot:
		return !n.first.holds(tells)
	case impl.MarkAnd:
		return n.first.holds(tells) && n.second.holds(tells)
	case impl.MarkOr:
		return n.first.holds(tells) || n.second.holds(tells)
	}
	return n.first.holds(tells) == n.second.holds(tells)
}

func tellersOf(tells []bool) int {
	count := 0
	for _, is := range tells {
		if is {
			count++
		}
	}
	return count
}

// truths are the values of a term in all worlds, in their order.
func (n *tree) truths(people int) []bool {
	var row []bool
	for world := range power(people) {
		row = append(row, n.holds(tellsIn(people, world)))
	}
	return row
}

// table is worldOfRow of the worlds instead of the people.
func (n *tree) table(people int) int {
	return worldOfRow(n.truths(people))
}

// matter looks for people who turn the value by going the other way alone.
func (n *tree) matter(people int) int {
	row := make([]bool, people)
	for world := range power(people) {
		for person := range row {
			tells := tellsIn(people, world)
			before := n.holds(tells)
			tells[person] = !tells[person]
			row[person] = row[person] || n.holds(tells) != before
		}
	}
	return worldOfRow(row)
}

func follows(first, second []bool) bool {
	for i := range first {
		if first[i] && !second[i] {
			return false
		}
	}
	return true
}

// eachPair calls f for all pairs of terms of at most 3 marks, and for some of each number of marks, of all numbers of people.
func eachPair(f func(people int, a, b *tree)) {
	pick := &picker{state: 5}
	for people := 1; people <= impl.MaxPeople; people++ {
		short := treesOf(people, 3)
		for _, a := range short {
			for _, b := range short {
				f(people, a, b)
			}
		}
		for size := 1; size <= impl.MaxMarks; size++ {
			for range 300 {
				a, b := pick.tree(people, size), pick.tree(people, 1+pick.below(impl.MaxMarks))
				f(people, a, b)
				f(people, a, pick.tree(people, 1+pick.below(3)))
			}
		}
	}
}

// readRow is the row of a text's term, which has to be one.
func readRow(t *testing.T, people int, s string) []impl.Mark {
	t.Helper()
	marks, ok := impl.ReadTerm(people, s)
	if !ok {
		t.Fatal("no term", people, s)
	}
	return marks
}

// joinedRow has two rows and further marks behind both, and tells whether that is a term.
func joinedRow(people int, a, b []impl.Mark, kinds ...int) ([]impl.Mark, bool) {
	both := slices.Concat(a, b)
	for _, kind := range kinds {
		both = append(both, impl.Mark{Kind: kind})
	}
	return both, impl.TermOk(people, both)
}

// countRow is the term that at least so many tell the truth.
func countRow(at int) []impl.Mark {
	return []impl.Mark{{Kind: impl.MarkCount, At: at}}
}

// tellsRow is the term that a person tells the truth.
func tellsRow(at int) []impl.Mark {
	return []impl.Mark{{Kind: impl.MarkTells, At: at}}
}

func TestTruthOfAllTerms(t *testing.T) {
	eachTree(func(people int, n *tree) {
		marks, truths := n.marks(), n.truths(people)
		for world, want := range truths {
			if got := impl.HoldsIn(people, marks, world); got != want {
				t.Fatal("HoldsIn", people, n.text(), world, got)
			}
		}
		if got := impl.TableOf(people, marks); got != n.table(people) {
			t.Fatal("TableOf", people, n.text(), got)
		}
		if got := impl.AlwaysOk(people, marks); got == slices.Contains(truths, false) {
			t.Fatal("AlwaysOk", people, n.text(), got)
		}
		if got := impl.MatterIn(people, marks); got != n.matter(people) {
			t.Fatal("MatterIn", people, n.text(), got)
		}
	})
}

func TestTruthOfAllPairs(t *testing.T) {
	same, one := 0, 0
	eachPair(func(people int, a, b *tree) {
		first, second := a.truths(people), b.truths(people)
		if got := impl.SameOk(people, a.marks(), b.marks()); got != slices.Equal(first, second) {
			t.Fatal("SameOk", people, a.text(), b.text(), got)
		} else if got {
			same++
		}
		if got := impl.FollowsOk(people, a.marks(), b.marks()); got != follows(first, second) {
			t.Fatal("FollowsOk", people, a.text(), b.text(), got)
		} else if got && !follows(second, first) {
			one++
		}
	})
	if same < 1000 || one < 1000 {
		t.Fatal("too few pairs", same, one)
	}
}

func TestTableOfExamples(t *testing.T) {
	for _, x := range []struct {
		people int
		s      string
		table  int
		matter int
	}{
		{1, "a", 2, 1}, {1, "!a", 1, 1}, {1, "!!a", 2, 1}, {1, "0", 3, 0}, {1, "1", 2, 1}, {1, "2", 0, 0}, {1, "!2", 3, 0},
		{2, "a", 10, 1}, {2, "b", 12, 2}, {2, "a&b", 8, 3}, {2, "a|b", 14, 3}, {2, "a=b", 9, 3}, {2, "!(a&b)", 7, 3}, {2, "!(a|b)", 1, 3}, {2, "!(a=b)", 6, 3},
		{2, "0", 15, 0}, {2, "1", 14, 3}, {2, "2", 8, 3}, {2, "3", 0, 0}, {2, "1&!2", 6, 3}, {2, "a=b=a", 12, 2}, {2, "a=!b", 6, 3},
		{2, "a|!a", 15, 0}, {2, "a&!a", 0, 0}, {2, "a=a", 15, 0}, {2, "b&0", 12, 2}, {2, "a&3", 0, 0}, {2, "b|a&!a", 12, 2}, {2, "!!!b", 3, 2},
		{3, "c", 240, 4}, {3, "2", 232, 7}, {3, "3", 128, 7}, {3, "4", 0, 0}, {3, "a=b=c", 150, 7}, {3, "a&b|!a&b", 204, 2}, {3, "a&(b|c)", 168, 7},
		{4, "d", 65280, 8}, {4, "4", 32768, 15}, {4, "1", 65534, 15}, {4, "5", 0, 0}, {4, "0", 65535, 0}, {4, "a|b|c|d", 65534, 15}, {4, "a&b&c&d=4", 65535, 0}, {4, "a=a&d", 65365, 9},
	} {
		marks := readRow(t, x.people, x.s)
		if got := impl.TableOf(x.people, marks); got != x.table {
			t.Error("TableOf", x.people, x.s, got)
		}
		if got := impl.MatterIn(x.people, marks); got != x.matter {
			t.Error("MatterIn", x.people, x.s, got)
		}
		if got := impl.AlwaysOk(x.people, marks); got != (x.table == power(power(x.people))-1) {
			t.Error("AlwaysOk", x.people, x.s, got)
		}
	}
}

func TestPairExamples(t *testing.T) {
	for _, x := range []struct {
		people      int
		a, b        string
		forth, back bool
	}{
		{1, "a", "1", true, true}, {1, "a", "0", true, false}, {1, "2", "a", true, false}, {1, "a", "!a", false, false}, {1, "!!a", "a", true, true},
		{2, "a=!b", "1&!2", true, true}, {2, "a=!b", "a|b", true, false}, {2, "a&b", "2", true, true}, {2, "a|b", "1", true, true}, {2, "a", "b", false, false},
		{2, "a&b", "a=b", true, false}, {2, "3", "a&!a", true, true}, {2, "a|!a", "0", true, true}, {2, "3", "0", true, false}, {2, "a", "a=b=b", true, true},
		{3, "a&b", "2", true, false}, {3, "a=b=c", "c=a=b", true, true}, {3, "a=(b=c)", "a=b=c", true, true}, {3, "2", "a", false, false},
		{4, "a&b&c&d", "4", true, true}, {4, "d", "1", true, false}, {4, "5", "!0", true, true},
	} {
		a, b := readRow(t, x.people, x.a), readRow(t, x.people, x.b)
		if impl.FollowsOk(x.people, a, b) != x.forth || impl.FollowsOk(x.people, b, a) != x.back {
			t.Error("FollowsOk", x.people, x.a, x.b)
		}
		if both := x.forth && x.back; impl.SameOk(x.people, a, b) != both || impl.SameOk(x.people, b, a) != both {
			t.Error("SameOk", x.people, x.a, x.b)
		}
	}
}

// Each mark that joins is told for each of the four cases of its parts.
func TestMarksThatJoin(t *testing.T) {
	for kind, want := range map[int][4]bool{
		impl.MarkAnd:  {false, false, false, true},
		impl.MarkOr:   {false, true, true, true},
		impl.MarkSame: {true, false, false, true},
	} {
		marks := joinTree(kind, personTree(0), personTree(1)).marks()
		for world, holds := range want {
			if got := impl.HoldsIn(2, marks, world); got != holds {
				t.Error(kind, world, got)
			}
			if got := impl.HoldsIn(2, append(slices.Clone(marks), impl.Mark{Kind: impl.MarkNot}), world); got == holds {
				t.Error("not", kind, world, got)
			}
		}
	}
}

// Parts of different lengths show which marks are whose: here the first part, the second one or both are long.
func TestPartsAreKeptApart(t *testing.T) {
	long := andTree(orTree(personTree(0), notTree(personTree(1))), nots(3, countTree(2)))
	for people := 2; people <= impl.MaxPeople; people++ {
		for kind := impl.MarkAnd; kind <= impl.MarkSame; kind++ {
			for _, n := range []*tree{joinTree(kind, long, personTree(1)), joinTree(kind, personTree(1), long), joinTree(kind, notTree(personTree(0)), long), notTree(joinTree(kind, long, notTree(personTree(1))))} {
				if got := impl.TableOf(people, n.marks()); got != n.table(people) {
					t.Error(people, n.text(), got)
				}
			}
		}
	}
}

func TestCountsInAllWorlds(t *testing.T) {
	eachWorld(func(people, world int) {
		for at := range people + 2 {
			if got := impl.HoldsIn(people, countRow(at), world); got != (impl.TellersIn(people, world) >= at) {
				t.Error(people, world, at, got)
			}
		}
		for at, is := range tellsIn(people, world) {
			if got := impl.HoldsIn(people, tellsRow(at), world); got != is {
				t.Error(people, world, at, got)
			}
		}
	})
}

func TestNobodyAndEverybody(t *testing.T) {
	for people := 1; people <= impl.MaxPeople; people++ {
		everybody := power(people) - 1
		if !impl.HoldsIn(people, countRow(people), everybody) || impl.HoldsIn(people, countRow(people), everybody-1) {
			t.Error("everybody", people)
		}
		if impl.HoldsIn(people, countRow(1), 0) || !impl.HoldsIn(people, countRow(1), 1) || !impl.HoldsIn(people, countRow(0), 0) || impl.HoldsIn(people, countRow(people+1), everybody) {
			t.Error("nobody", people)
		}
		nobody := notTree(countTree(1)).marks()
		if impl.TableOf(people, nobody) != 1 || impl.TableOf(people, countRow(people)) != power(everybody) {
			t.Error("tables", people)
		}
		if impl.MatterIn(people, nobody) != everybody || impl.MatterIn(people, countRow(people)) != everybody {
			t.Error("matter", people)
		}
	}
}

func TestNotBehindNot(t *testing.T) {
	for people := 1; people <= impl.MaxPeople; people++ {
		for _, leaf := range leavesOf(people) {
			for count := range impl.MaxMarks {
				marks := nots(count, leaf).marks()
				table := leaf.table(people)
				if count%2 == 1 {
					table = power(power(people)) - 1 - table
				}
				if got := impl.TableOf(people, marks); got != table || impl.MatterIn(people, marks) != leaf.matter(people) {
					t.Error(people, leaf.text(), count, got)
				}
				if impl.SameOk(people, marks, leaf.marks()) != (count%2 == 0) {
					t.Error("SameOk", people, leaf.text(), count)
				}
			}
		}
	}
}

// checkNoTruth tests what is returned for a row that is no term, alone, with a term on either side, and twice.
func checkNoTruth(t *testing.T, people int, marks []impl.Mark) {
	t.Helper()
	for _, world := range []int{-1, 0, 1, 3, 15, 16} {
		if impl.HoldsIn(people, marks, world) {
			t.Error("HoldsIn", people, marks, world)
		}
	}
	if got := impl.TableOf(people, marks); got != -1 {
		t.Error("TableOf", people, marks, got)
	}
	if impl.AlwaysOk(people, marks) {
		t.Error("AlwaysOk", people, marks)
	}
	if got := impl.MatterIn(people, marks); got != -1 {
		t.Error("MatterIn", people, marks, got)
	}
	never := []impl.Mark{{Kind: impl.MarkCount}, {Kind: impl.MarkNot}}
	for _, other := range [][]impl.Mark{tellsRow(0), countRow(0), never, marks, nil} {
		if impl.SameOk(people, marks, other) || impl.SameOk(people, other, marks) {
			t.Error("SameOk", people, marks, other)
		}
		if impl.FollowsOk(people, marks, other) || impl.FollowsOk(people, other, marks) {
			t.Error("FollowsOk", people, marks, other)
		}
	}
	checkNoQuestion(t, people, marks)
}

func TestTruthRefuses(t *testing.T) {
	for _, people := range wrongPeople {
		for _, marks := range [][]impl.Mark{nil, tellsRow(0), countRow(0), countRow(1), {{}, {}, {Kind: impl.MarkSame}}} {
			checkNoTruth(t, people, marks)
		}
	}
	a, not := impl.Mark{}, impl.Mark{Kind: impl.MarkNot}
	for people := 1; people <= impl.MaxPeople; people++ {
		for _, marks := range [][]impl.Mark{nil, {}, {not}, {not, a}, {a, a}, {a, a, not}, tellsRow(people), tellsRow(-1), countRow(people + 2), countRow(-1), {{Kind: 6}}, {{Kind: -1}}, {a, {Kind: impl.MarkNot, At: 1}}, {a, a, {Kind: 6}}} {
			checkNoTruth(t, people, marks)
		}
		for kind := impl.MarkAnd; kind <= impl.MarkSame; kind++ {
			join := impl.Mark{Kind: kind}
			for _, marks := range [][]impl.Mark{{join}, {a, join}, {join, a, a}, {a, join, a}, {a, a, a, join}, {a, a, join, join}, {a, a, {Kind: kind, At: 1}}} {
				checkNoTruth(t, people, marks)
			}
		}
		for _, number := range farNumbers {
			checkNoTruth(t, people, tellsRow(number))
			checkNoTruth(t, people, countRow(number))
			checkNoTruth(t, people, []impl.Mark{{Kind: number}})
			checkNoTruth(t, people, []impl.Mark{a, {Kind: impl.MarkNot, At: number}})
		}
	}
}

func TestTruthOfAllShortRows(t *testing.T) {
	marks := []impl.Mark{{Kind: 0}, {Kind: 0, At: 1}, {Kind: 1}, {Kind: 2}, {Kind: 3}, {Kind: 4}, {Kind: 5}}
	for people := 1; people <= 2; people++ {
		eachRow(marks, 5, func(row []impl.Mark) {
			is := termByRule(people, row)
			if (impl.TableOf(people, row) == -1) == is || (impl.MatterIn(people, row) == -1) == is {
				t.Fatal(people, row)
			}
			if impl.SameOk(people, row, row) != is || impl.FollowsOk(people, row, row) != is || impl.FollowsOk(people, row, countRow(0)) != is || impl.FollowsOk(people, countRow(people+1), row) != is {
				t.Fatal(people, row)
			}
			if !is && (impl.AlwaysOk(people, row) || impl.HoldsIn(people, row, 0) || impl.HoldsIn(people, row, 1)) {
				t.Fatal(people, row)
			}
		})
	}
}

// A term of some people may be none of fewer, and its worlds may be none of theirs.
func TestTruthOfOtherPeople(t *testing.T) {
	for people := 1; people <= impl.MaxPeople; people++ {
		always := countRow(0)
		for _, world := range append([]int{power(people), power(people) + 1, 16, 63, 64, 65}, farNumbers...) {
			if impl.HoldsIn(people, always, world) || impl.HoldsIn(people, tellsRow(people-1), world) {
				t.Error(people, world)
			}
		}
		if !impl.HoldsIn(people, always, power(people)-1) || !impl.HoldsIn(people, tellsRow(people-1), power(people)-1) {
			t.Error(people)
		}
		for fewer := 1; fewer < people; fewer++ {
			checkNoTruth(t, fewer, tellsRow(people-1))
			checkNoTruth(t, fewer, countRow(people+1))
		}
	}
}

func TestTruthOfMostMarks(t *testing.T) {
	for people := 1; people <= impl.MaxPeople; people++ {
		most := nots(14, countTree(0))
		if !impl.AlwaysOk(people, most.marks()) || impl.MatterIn(people, most.marks()) != 0 || !impl.FollowsOk(people, countRow(0), most.marks()) || !impl.SameOk(people, most.marks(), most.marks()) {
			t.Error(people)
		}
		checkNoTruth(t, people, notTree(most).marks())
		for kind := impl.MarkAnd; kind <= impl.MarkSame; kind++ {
			for _, left := range []bool{true, false} {
				// So many persons 0, an even number of them, are the same as one, or always hold.
				n, want := chain(kind, 8, left), tellsRow(0)
				if kind == impl.MarkSame {
					want = countRow(0)
				}
				if !impl.SameOk(people, n.marks(), want) || impl.TableOf(people, n.marks()) != n.table(people) {
					t.Error(people, n.text())
				}
				checkNoTruth(t, people, notTree(n).marks())
				checkNoTruth(t, people, chain(kind, 9, left).marks())
				checkNoTruth(t, people, chain(kind, 500, left).marks())
			}
		}
	}
}

// Promise 14.
func TestInTheOppositeWorldTheMirroredTermHolds(t *testing.T) {
	told, refused := 0, 0
	eachTree(func(people int, n *tree) {
		marks := n.marks()
		mirrored, is := impl.MirrorTerm(people, marks)
		denied := append(slices.Clone(marks), impl.Mark{Kind: impl.MarkNot})
		deniedIs := impl.TermOk(people, denied)
		if is {
			told++
		} else {
			refused++
		}
		for world := range power(people) {
			holds := impl.HoldsIn(people, marks, world)
			if is && impl.HoldsIn(people, mirrored, impl.OppositeWorld(people, world)) != holds {
				t.Fatal(people, n.text(), world)
			}
			if impl.HoldsIn(people, denied, world) != (deniedIs && !holds) {
				t.Fatal("not", people, n.text(), world)
			}
		}
	})
	if told < 1000 || refused < 1000 {
		t.Fatal("too few terms", told, refused)
	}
}

// Promise 15.
func TestMirroredTermsHaveOppositeTables(t *testing.T) {
	eachTree(func(people int, n *tree) {
		marks := n.marks()
		table := impl.TableOf(people, marks)
		if !impl.TableOk(people, table) {
			t.Fatal(people, n.text(), table)
		}
		worlds := impl.WorldsIn(people, table)
		for world := range power(people) {
			if slices.Contains(worlds, world) != impl.HoldsIn(people, marks, world) {
				t.Fatal(people, n.text(), table, world)
			}
		}
		if mirrored, is := impl.MirrorTerm(people, marks); is && impl.TableOf(people, mirrored) != impl.OppositeTable(people, table) {
			t.Fatal(people, n.text(), table)
		}
	})
}

// Promise 16.
func TestTheSameIsWhatFollowsBothWays(t *testing.T) {
	eachPair(func(people int, a, b *tree) {
		first, second := a.marks(), b.marks()
		same := impl.SameOk(people, first, second)
		if same != (impl.FollowsOk(people, first, second) && impl.FollowsOk(people, second, first)) {
			t.Fatal(people, a.text(), b.text(), same)
		}
		both, is := joinedRow(people, first, second, impl.MarkSame)
		if impl.AlwaysOk(people, both) != (is && same) {
			t.Fatal(people, a.text(), b.text(), is, same)
		}
	})
}

// Promise 17.
func TestWhatFollowsFromBothFollowsFromEach(t *testing.T) {
	eachPair(func(people int, a, b *tree) {
		first, second := a.marks(), b.marks()
		either, is := joinedRow(people, first, second, impl.MarkOr)
		if impl.SameOk(people, either, second) != (is && impl.FollowsOk(people, first, second)) {
			t.Fatal(people, a.text(), b.text(), is)
		}
	})
	eachTree(func(people int, n *tree) {
		marks := n.marks()
		if !impl.FollowsOk(people, marks, marks) || !impl.SameOk(people, marks, marks) || !impl.FollowsOk(people, marks, countRow(0)) {
			t.Fatal(people, n.text())
		}
	})
}

// Promise 18.
func TestAtLeastNobodyAlwaysHolds(t *testing.T) {
	always, never := 0, 0
	eachTree(func(people int, n *tree) {
		marks := n.marks()
		got := impl.AlwaysOk(people, marks)
		nobodyMatters, first := impl.MatterIn(people, marks) == 0, impl.HoldsIn(people, marks, 0)
		if got != (nobodyMatters && first) {
			t.Fatal(people, n.text(), got)
		}
		if got {
			always++
		} else if nobodyMatters {
			never++
		}
		if nobodyMatters && !first && impl.TableOf(people, marks) != 0 {
			t.Fatal(people, n.text())
		}
	})
	if always < 1000 || never < 1000 {
		t.Fatal("too few terms", always, never)
	}
	for people := 1; people <= impl.MaxPeople; people++ {
		if !impl.AlwaysOk(people, countRow(0)) || impl.AlwaysOk(people, countRow(1)) || impl.AlwaysOk(people, countRow(people+1)) {
			t.Error(people)
		}
	}
}

// Promise 19.
func TestWithoutCountsJustWhoIsReadMatters(t *testing.T) {
	needless := 0
	eachTree(func(people int, n *tree) {
		marks := n.marks()
		matter := impl.MatterIn(people, marks)
		if !impl.WorldOk(people, matter) {
			t.Fatal(people, n.text(), matter)
		}
		counts := slices.ContainsFunc(marks, func(m impl.Mark) bool { return m.Kind == impl.MarkCount })
		read := tellsIn(people, impl.PeopleRead(people, marks))
		for person, matters := range tellsIn(people, matter) {
			if !counts && matters && !read[person] {
				t.Fatal(people, n.text(), person)
			}
			if read[person] && !matters {
				needless++
			}
		}
		if mirrored, is := impl.MirrorTerm(people, marks); is && impl.MatterIn(people, mirrored) != matter {
			t.Fatal(people, n.text(), matter)
		}
	})
	if needless < 1000 {
		t.Fatal("too few who are read and do not matter", needless)
	}
}

// Promise 20.
func TestAtLeastSoManyIsAtLeastFewer(t *testing.T) {
	for people := 1; people <= impl.MaxPeople; people++ {
		for at := range people + 1 {
			if !impl.FollowsOk(people, countRow(at+1), countRow(at)) {
				t.Error(people, at)
			}
			if impl.FollowsOk(people, countRow(at), countRow(at+1)) || impl.SameOk(people, countRow(at), countRow(at+1)) {
				t.Error("more follows from fewer", people, at)
			}
		}
		if impl.TableOf(people, countRow(people+1)) != 0 {
			t.Error(people)
		}
	}
}

// Promise 21.
func TestNeitherIsBothNot(t *testing.T) {
	not := impl.Mark{Kind: impl.MarkNot}
	both, one := 0, 0
	eachPair(func(people int, a, b *tree) {
		first, second := a.marks(), b.marks()
		neither, isNeither := joinedRow(people, first, second, impl.MarkOr, impl.MarkNot)
		bothNot, isBothNot := joinedRow(people, append(first, not), append(second, not), impl.MarkAnd)
		if impl.SameOk(people, neither, bothNot) != (isNeither && isBothNot) {
			t.Fatal(people, a.text(), b.text())
		}
		if isBothNot {
			both++
		} else if isNeither {
			one++
		}
	})
	if both < 1000 || one < 100 {
		t.Fatal("too few pairs", both, one)
	}
}

// The general rules: rows are not written to, and no state is kept.
func TestTruthDoesNotWrite(t *testing.T) {
	a, allOfA := withSpare(sameTree(personTree(0), notTree(countTree(1))).marks())
	b, allOfB := withSpare(orTree(personTree(1), countTree(2)).marks())
	beforeA, beforeB := slices.Clone(allOfA), slices.Clone(allOfB)
	for range 2 {
		if impl.TableOf(2, a) != 4 || impl.MatterIn(2, a) != 3 || !impl.HoldsIn(2, a, 2) || impl.AlwaysOk(2, a) || impl.SameOk(2, a, b) || !impl.FollowsOk(2, a, b) || impl.FollowsOk(2, b, a) {
			t.Error(impl.TableOf(2, a), impl.MatterIn(2, a))
		}
	}
	if !slices.Equal(allOfA, beforeA) || !slices.Equal(allOfB, beforeB) {
		t.Error("an argument is written to", allOfA, allOfB)
	}
}
