package tests

import (
	"slices"
	"testing"

	"loop.example/tellersandliars/impl"
)

// tableOfList is the number of a list of worlds, each once, by sums.
func tableOfList(worlds []int) int {
	table := 0
	for _, world := range worlds {
		table += power(world)
	}
	return table
}

// withoutMember is the number without one of its bits.
func withoutMember(number, member int) int {
	return number - power(member)
}

// majorityOf counts tellers and liars one by one.
func majorityOf(people int) int {
	var worlds []int
	for world := range power(people) {
		balance := 0
		for _, tells := range tellsIn(people, world) {
			if tells {
				balance++
			} else {
				balance--
			}
		}
		if balance > 0 {
			worlds = append(worlds, world)
		}
	}
	return tableOfList(worlds)
}

// knownTellerOf is the first of the people who are known as tellers.
func knownTellerOf(people, table int) int {
	return slices.Index(knownOf(people, membersOf(table)), 1)
}

// answersOf tells for each person, asked of each other one or the same, the worlds in which the answer is yes.
func answersOf(people int) [][][]bool {
	answers := make([][][]bool, people)
	for who := range people {
		for whom := range people {
			row := make([]bool, power(people))
			for world := range row {
				row[world] = answerOf(who, personTree(whom), tellsIn(people, world)) == 1
			}
			answers[who] = append(answers[who], row)
		}
	}
	return answers
}

// leftOf are the worlds of a table with an answer.
func leftOf(table int, row []bool, yes bool) int {
	left := 0
	for _, world := range membersOf(table) {
		if row[world] == yes {
			left += power(world)
		}
	}
	return left
}

// asksOfAll are the least numbers of questions of all tables. What an answer leaves is a lesser number, so it is told before; all people are asked of all, where the program leaves out what tells nothing.
func asksOfAll(people int) []int {
	asks := make([]int, power(power(people)))
	answers := answersOf(people)
	for table := range asks {
		if table > 0 && knownTellerOf(people, table) == -1 {
			asks[table] = oneMoreThan(asks, table, answers)
		}
	}
	return asks
}

// oneMoreThan is the least number for a table in which nobody is known, if those of lesser tables are told; -1 if there is none.
func oneMoreThan(asks []int, table int, answers [][][]bool) int {
	var numbers []int
	for _, ofWhom := range answers {
		for _, row := range ofWhom {
			left, other := leftOf(table, row, true), leftOf(table, row, false)
			if left < table && other < table && asks[left] >= 0 && asks[other] >= 0 {
				numbers = append(numbers, 1+max(asks[left], asks[other]))
			}
		}
	}
	if len(numbers) == 0 {
		return -1
	}
	return slices.Min(numbers)
}

// canBeAsked tells whether any number of questions is enough: no answers tell a world from its opposite, and in the world 0 there is nobody to be known.
func canBeAsked(people, table int) bool {
	worlds := membersOf(table)
	for _, world := range worlds {
		if world == 0 || slices.Contains(worlds, power(people)-1-world) {
			return false
		}
	}
	return true
}

// someTables are all tables of few people, and some of more, with none, each one, all but one, and all of the worlds among them.
func someTables(people int) []int {
	all := power(power(people))
	tables := []int{0, all - 1}
	for world := range power(people) {
		tables = append(tables, power(world), all-1-power(world))
	}
	step := max(1, all/2000)
	for table := 0; table < all; table += step {
		tables = append(tables, table)
	}
	pick := &picker{state: 71}
	for range 500 {
		tables = append(tables, pick.below(all))
	}
	return tables
}

// eachQuestion calls f for some tables of all numbers of people, each with all people who are asked of all.
func eachQuestion(f func(people, table, who, whom int)) {
	for people := 1; people <= impl.MaxPeople; people++ {
		for _, table := range someTables(people) {
			for who := range people {
				for whom := range people {
					f(people, table, who, whom)
				}
			}
		}
	}
}

func checkNotAsked(t *testing.T, people, table, who, whom int) {
	t.Helper()
	for _, yes := range []bool{true, false} {
		if got := impl.AskedTable(people, table, who, whom, yes); got != -1 {
			t.Error("AskedTable", people, table, who, whom, yes, got)
		}
	}
}

// checkNoTable tests what is returned for what is no table, whoever is asked.
func checkNoTable(t *testing.T, people, table int) {
	t.Helper()
	if got := impl.KnownTeller(people, table); got != -1 {
		t.Error("KnownTeller", people, table, got)
	}
	if got := impl.LeastAsks(people, table); got != -1 {
		t.Error("LeastAsks", people, table, got)
	}
	for who := -1; who <= impl.MaxPeople; who++ {
		for whom := -1; whom <= impl.MaxPeople; whom++ {
			checkNotAsked(t, people, table, who, whom)
		}
	}
}

// checkTold tests who is known in a table, and with how many questions somebody is.
func checkTold(t *testing.T, people int, worlds []int, known, asks int) {
	t.Helper()
	if got := impl.KnownTeller(people, tableOfList(worlds)); got != known {
		t.Error("KnownTeller", people, worlds, got, known)
	}
	if got := impl.LeastAsks(people, tableOfList(worlds)); got != asks {
		t.Error("LeastAsks", people, worlds, got, asks)
	}
}

// checkLeft tests what both answers leave of a table.
func checkLeft(t *testing.T, people int, worlds []int, who, whom int, yes, no []int) {
	t.Helper()
	if got := impl.AskedTable(people, tableOfList(worlds), who, whom, true); got != tableOfList(yes) {
		t.Error("yes", people, worlds, who, whom, got, yes)
	}
	if got := impl.AskedTable(people, tableOfList(worlds), who, whom, false); got != tableOfList(no) {
		t.Error("no", people, worlds, who, whom, got, no)
	}
}

func TestMajorityTables(t *testing.T) {
	// With an even number of people those worlds are none of them in which as many tell the truth as lie.
	for people, worlds := range [][]int{1: {1}, 2: {3}, 3: {3, 5, 6, 7}, 4: {7, 11, 13, 14, 15}} {
		if people == 0 {
			continue
		}
		if got := impl.MajorityTable(people); got != tableOfList(worlds) || got != majorityOf(people) {
			t.Error(people, got, worlds)
		}
	}
	for _, people := range wrongPeople {
		if got := impl.MajorityTable(people); got != -1 {
			t.Error(people, got)
		}
	}
}

func TestKnownTellersOfAllTables(t *testing.T) {
	counts := map[int]int{}
	eachTable(func(people, table int) {
		want := knownTellerOf(people, table)
		if got := impl.KnownTeller(people, table); got != want {
			t.Fatal(people, table, got, want)
		}
		counts[want]++
	})
	if len(counts) != 5 || counts[0] < 200 || counts[1] < 200 || counts[2] < 200 || counts[3] < 200 {
		t.Fatal("too few tables", counts)
	}
}

func TestAnswersOfSomeTables(t *testing.T) {
	answers := map[int][][][]bool{}
	for people := 1; people <= impl.MaxPeople; people++ {
		answers[people] = answersOf(people)
	}
	eachQuestion(func(people, table, who, whom int) {
		for _, yes := range []bool{true, false} {
			want := leftOf(table, answers[people][who][whom], yes)
			if got := impl.AskedTable(people, table, who, whom, yes); got != want {
				t.Fatal(people, table, who, whom, yes, got, want)
			}
		}
	})
}

func TestLeastAsksOfAllTables(t *testing.T) {
	counts := map[int]int{}
	for people := 1; people <= impl.MaxPeople; people++ {
		for table, want := range asksOfAll(people) {
			if got := impl.LeastAsks(people, table); got != want {
				t.Fatal(people, table, got, want)
			}
			if canBeAsked(people, table) != (want >= 0) {
				t.Fatal("reference", people, table, want)
			}
			counts[want]++
		}
	}
	if len(counts) != 5 || counts[1] < 1000 || counts[2] < 1000 || counts[3] != 8 {
		t.Fatal("too few tables", counts)
	}
}

func TestAskingOnePerson(t *testing.T) {
	checkTold(t, 1, nil, -1, 0)
	checkTold(t, 1, []int{0}, -1, -1)
	checkTold(t, 1, []int{1}, 0, 0)
	checkTold(t, 1, []int{0, 1}, -1, -1)
	// Even a liar says to tell the truth.
	checkLeft(t, 1, nil, 0, 0, nil, nil)
	checkLeft(t, 1, []int{0}, 0, 0, []int{0}, nil)
	checkLeft(t, 1, []int{1}, 0, 0, []int{1}, nil)
	checkLeft(t, 1, []int{0, 1}, 0, 0, []int{0, 1}, nil)
	checkNotAsked(t, 1, 3, 0, 1)
	checkNotAsked(t, 1, 3, 1, 0)
	checkNotAsked(t, 1, 3, 1, 1)
}

func TestAskingOfNoWorldsAndOfAll(t *testing.T) {
	for people := 1; people <= impl.MaxPeople; people++ {
		all := ascending(power(people))
		checkTold(t, people, nil, -1, 0)
		checkTold(t, people, all, -1, -1)
		for who := range people {
			checkLeft(t, people, nil, who, 0, nil, nil)
			checkLeft(t, people, all, who, who, all, nil)
		}
	}
	checkLeft(t, 2, ascending(4), 0, 1, []int{0, 3}, []int{1, 2})
	checkLeft(t, 3, ascending(8), 2, 0, []int{0, 2, 5, 7}, []int{1, 3, 4, 6})
	checkLeft(t, 4, ascending(16), 1, 3, []int{0, 1, 4, 5, 10, 11, 14, 15}, []int{2, 3, 6, 7, 8, 9, 12, 13})
}

func TestAskingOfOneWorldAlone(t *testing.T) {
	eachWorld(func(people, world int) {
		tells := tellsIn(people, world)
		if first := slices.Index(tells, true); first >= 0 {
			checkTold(t, people, []int{world}, first, 0)
		} else {
			checkTold(t, people, []int{world}, -1, -1)
		}
		for who := range people {
			for whom := range people {
				if tells[who] == tells[whom] {
					checkLeft(t, people, []int{world}, who, whom, []int{world}, nil)
				} else {
					checkLeft(t, people, []int{world}, who, whom, nil, []int{world})
				}
			}
		}
	})
}

func TestWhoIsKnownAlready(t *testing.T) {
	checkTold(t, 3, []int{2, 3, 6, 7}, 1, 0)
	checkTold(t, 3, []int{4, 5}, 2, 0)
	checkTold(t, 4, []int{8, 9, 10, 11, 12, 13, 14, 15}, 3, 0)
	// Several are known, of whom the least one is told.
	checkTold(t, 2, []int{3}, 0, 0)
	checkTold(t, 3, []int{6, 7}, 1, 0)
	checkTold(t, 4, []int{7, 15}, 0, 0)
	checkTold(t, 4, []int{12, 13, 14}, 2, 0)
	// Each world has a teller, but no two have the same one, or not all have.
	checkTold(t, 2, []int{1, 2}, -1, -1)
	checkTold(t, 3, []int{3, 5, 6}, -1, 1)
	checkTold(t, 3, []int{1, 2, 4}, -1, 2)
	checkTold(t, 4, []int{7, 11, 13, 14}, -1, 1)
	// One world more, in which nobody tells the truth.
	checkTold(t, 3, []int{0, 6, 7}, -1, -1)
	checkTold(t, 4, []int{0, 15}, -1, -1)
}

func TestTablesThatAreTheirOwnOpposites(t *testing.T) {
	eachTable(func(people, table int) {
		opposites := map[int]bool{}
		for _, world := range membersOf(table) {
			opposites[power(people)-1-world] = true
		}
		own := true
		for _, world := range membersOf(table) {
			own = own && opposites[world]
		}
		if own && table != 0 && (impl.LeastAsks(people, table) != -1 || impl.KnownTeller(people, table) != -1) {
			t.Fatal(people, table)
		}
	})
	checkTold(t, 2, []int{1, 2}, -1, -1)
	checkTold(t, 3, []int{2, 5}, -1, -1)
	checkTold(t, 4, []int{1, 7, 8, 14}, -1, -1)
	// A world and its opposite among others are enough.
	checkTold(t, 3, []int{1, 6, 7}, -1, -1)
	checkTold(t, 4, []int{3, 5, 12}, -1, -1)
}

func TestWorldsInWhichMoreTell(t *testing.T) {
	checkTold(t, 1, []int{1}, 0, 0)
	checkTold(t, 2, []int{3}, 0, 0)
	checkTold(t, 3, []int{3, 5, 6, 7}, -1, 1)
	checkTold(t, 3, []int{5, 6, 7}, 2, 0)
	checkTold(t, 3, []int{3, 5, 6}, -1, 1)
	checkTold(t, 3, []int{3, 6}, 1, 0)
	checkTold(t, 4, []int{7, 11, 13, 14, 15}, -1, 1)
	checkTold(t, 4, []int{11, 13, 14, 15}, 3, 0)
	checkTold(t, 4, []int{7, 13, 15}, 0, 0)
	// Where as many may lie, it is another matter.
	checkTold(t, 2, []int{1, 2, 3}, -1, -1)
	checkTold(t, 4, []int{3, 12, 15}, -1, -1)
	checkTold(t, 4, []int{3, 5, 9, 15}, 0, 0)
	checkTold(t, 4, []int{3, 5, 6, 15}, -1, 1)
}

func TestACertainFirstQuestion(t *testing.T) {
	// Just the persons 1 and 2 part these worlds so that somebody is known of each part.
	worlds := []int{3, 5, 8}
	checkTold(t, 4, worlds, -1, 1)
	checkLeft(t, 4, worlds, 1, 2, []int{8}, []int{3, 5})
	checkLeft(t, 4, worlds, 0, 3, nil, worlds)
	checkLeft(t, 4, worlds, 0, 1, []int{3, 8}, []int{5})
	checkTold(t, 4, []int{3, 8}, -1, 1)
	certain := 0
	for table, asks := range asksOfAll(4) {
		if asks < 1 {
			continue
		}
		best := 0
		for whom := range 4 {
			for who := range whom {
				yes := impl.LeastAsks(4, impl.AskedTable(4, table, who, whom, true))
				no := impl.LeastAsks(4, impl.AskedTable(4, table, who, whom, false))
				if yes >= 0 && no >= 0 && 1+max(yes, no) == asks {
					best++
				}
			}
		}
		if best == 0 {
			t.Fatal("no first question", table, asks)
		}
		if best == 1 {
			certain++
		}
	}
	if certain < 100 {
		t.Fatal("too few tables", certain)
	}
}

func TestMoreQuestionsAtWorst(t *testing.T) {
	// One answer may lead to a teller at once, and the other one to further questions.
	checkTold(t, 3, []int{1, 2, 4}, -1, 2)
	checkLeft(t, 3, []int{1, 2, 4}, 0, 1, []int{4}, []int{1, 2})
	checkTold(t, 3, []int{1, 2, 4, 7}, -1, 2)
	checkTold(t, 4, []int{1, 2, 4, 8}, -1, 2)
	checkTold(t, 4, []int{1, 2, 4, 7, 8}, -1, -1)
	checkTold(t, 4, []int{1, 2, 3, 4, 5, 6, 8}, -1, 3)
	checkTold(t, 4, []int{1, 2, 3, 4, 5, 6, 8, 15}, -1, 3)
	checkTold(t, 4, []int{1, 2, 3, 5, 6, 8}, -1, 2)
}

func TestAnswersThatLeaveNoneOrAll(t *testing.T) {
	// In these worlds both tell the truth, or both lie.
	checkLeft(t, 3, []int{0, 3, 4, 7}, 0, 1, []int{0, 3, 4, 7}, nil)
	checkLeft(t, 3, []int{0, 3, 4, 7}, 1, 0, []int{0, 3, 4, 7}, nil)
	checkLeft(t, 3, []int{0, 3, 4, 7}, 0, 2, []int{0, 7}, []int{3, 4})
	// In these just one of both does.
	checkLeft(t, 3, []int{1, 2, 5, 6}, 0, 1, nil, []int{1, 2, 5, 6})
	checkLeft(t, 3, []int{1, 2, 5, 6}, 1, 1, []int{1, 2, 5, 6}, nil)
	// What is asked again, of the other one, too, tells nothing more.
	eachQuestion(func(people, table, who, whom int) {
		yes := impl.AskedTable(people, table, who, whom, true)
		no := impl.AskedTable(people, table, who, whom, false)
		if impl.AskedTable(people, yes, whom, who, true) != yes || impl.AskedTable(people, yes, whom, who, false) != 0 {
			t.Fatal("yes", people, table, who, whom, yes)
		}
		if impl.AskedTable(people, no, whom, who, true) != 0 || impl.AskedTable(people, no, whom, who, false) != no {
			t.Fatal("no", people, table, who, whom, no)
		}
	})
}

func TestAskingRefusesPeople(t *testing.T) {
	for _, people := range wrongPeople {
		for _, table := range append([]int{0, 1, 2, 3, 8, 15, 232, 255, 59520, 65535}, farNumbers...) {
			checkNoTable(t, people, table)
		}
	}
}

func TestAskingRefusesTables(t *testing.T) {
	for people := 1; people <= impl.MaxPeople; people++ {
		all := power(power(people))
		for _, table := range append([]int{all, all + 1, all + power(power(people)-1), 2 * all, all * all}, farNumbers...) {
			checkNoTable(t, people, table)
		}
	}
	// A table of more people is none of fewer.
	checkNoTable(t, 1, 8)
	checkNoTable(t, 2, 232)
	checkNoTable(t, 3, 59520)
}

func TestAskingRefusesPersons(t *testing.T) {
	for people := 1; people <= impl.MaxPeople; people++ {
		for _, table := range []int{0, 2, power(power(people)) - 1} {
			for _, nobody := range noPersons(people) {
				for person := range people {
					checkNotAsked(t, people, table, nobody, person)
					checkNotAsked(t, people, table, person, nobody)
				}
				checkNotAsked(t, people, table, nobody, nobody)
			}
		}
	}
}

// Promise 80.
func TestMoreTellersThanLiarsIsNoWorldAndItsOpposite(t *testing.T) {
	for people := 1; people <= impl.MaxPeople; people++ {
		table := impl.MajorityTable(people)
		if !impl.TableOk(people, table) {
			t.Fatal(people, table)
		}
		opposite := impl.OppositeTable(people, table)
		both := append(membersOf(table), membersOf(opposite)...)
		if countDistinct(both) != len(both) {
			t.Error("a world and its opposite", people, table, opposite)
		}
		if people%2 == 1 && len(both) != power(people) {
			t.Error("not all worlds", people, table, opposite)
		}
		if people%2 == 0 && len(both) >= power(people) {
			t.Error("all worlds", people, table, opposite)
		}
	}
}

// Promise 81.
func TestWhoIsKnownStaysKnown(t *testing.T) {
	known, shorter := 0, 0
	eachTable(func(people, table int) {
		person := impl.KnownTeller(people, table)
		if person == -1 {
			return
		}
		known++
		worlds := impl.WorldsIn(people, table)
		for _, world := range worlds {
			if !tellsIn(people, world)[person] {
				t.Fatal("not known", people, table, person, world)
			}
			// Without any one of them somebody is known still, and no greater one.
			if len(worlds) >= 2 {
				shorter++
				if still := impl.KnownTeller(people, withoutMember(table, world)); still < 0 || still > person {
					t.Fatal("known no more", people, table, person, world, still)
				}
			}
		}
	})
	if known < 900 || shorter < 3000 {
		t.Fatal("too few tables", known, shorter)
	}
}

// Promise 82.
func TestYesAndNoPartTheWorlds(t *testing.T) {
	eachQuestion(func(people, table, who, whom int) {
		yes := impl.AskedTable(people, table, who, whom, true)
		no := impl.AskedTable(people, table, who, whom, false)
		both := append(membersOf(yes), membersOf(no)...)
		slices.Sort(both)
		if !slices.Equal(both, membersOf(table)) {
			t.Fatal("parts", people, table, who, whom, yes, no)
		}
		if impl.AskedTable(people, table, whom, who, true) != yes || impl.AskedTable(people, table, whom, who, false) != no {
			t.Fatal("the other one", people, table, who, whom, yes, no)
		}
		for answer, left := range []int{no, yes} {
			for _, world := range impl.WorldsIn(people, left) {
				if impl.AnswerIn(people, who, tellsRow(whom), world) != answer {
					t.Fatal("answer", people, table, who, whom, world, answer)
				}
			}
		}
	})
}

// Promise 83.
func TestWhereTellersAreMoreSomebodyBecomesKnown(t *testing.T) {
	none, more, own := 0, 0, 0
	eachTable(func(people, table int) {
		asks := impl.LeastAsks(people, table)
		if known := impl.KnownTeller(people, table) != -1; (asks == 0) != (known || table == 0) {
			t.Fatal("known", people, table, asks)
		}
		if asks == 0 {
			none++
		}
		if majority := impl.MajorityTable(people); table&^majority == 0 {
			more++
			if asks < 0 || asks >= people {
				t.Fatal("more tell the truth", people, table, asks)
			}
		}
		if table != 0 && impl.OppositeTable(people, table) == table {
			own++
			if asks != -1 {
				t.Fatal("its own opposite", people, table, asks)
			}
		}
	})
	if none < 900 || more != 2+2+16+32 || own != 1+3+15+255 {
		t.Fatal("too few tables", none, more, own)
	}
}

// Promise 84.
func TestWhoKnowsMoreAsksNoMore(t *testing.T) {
	same, fewer := 0, 0
	eachTable(func(people, table int) {
		asks := impl.LeastAsks(people, table)
		if asks == -1 {
			return
		}
		for _, world := range membersOf(table) {
			switch less := impl.LeastAsks(people, withoutMember(table, world)); {
			case less < 0 || less > asks:
				t.Fatal(people, table, world, asks, less)
			case less < asks:
				fewer++
			default:
				same++
			}
		}
	})
	if same < 1000 || fewer < 1000 {
		t.Fatal("too few tables", same, fewer)
	}
}
