package tests

import (
	"math"
	"slices"
	"testing"

	"loop.example/tellersandliars/impl"
)

// wrongPeople are numbers of people that no function takes.
var wrongPeople = []int{math.MinInt, math.MinInt + 1, -64, -5, -4, -1, 0, 5, 6, 16, 31, 32, 63, 64, 65, 1 << 32, math.MaxInt - 1, math.MaxInt}

// farNumbers are neither worlds nor tables of any number of people.
var farNumbers = []int{math.MinInt, math.MinInt + 1, -65536, -16, -2, -1, 1 << 16, 1<<16 + 1, 1 << 17, 1 << 32, 1 << 62, math.MaxInt - 1, math.MaxInt}

// tellsIn reads a world person by person, by division, so that it shares no shift with the program.
func tellsIn(people, world int) []bool {
	row := make([]bool, people)
	for i := range row {
		row[i] = world%2 == 1
		world /= 2
	}
	return row
}

// worldOfRow is the number to which each person who tells adds a number twice as much as that before.
func worldOfRow(row []bool) int {
	world, add := 0, 1
	for _, tells := range row {
		if tells {
			world += add
		}
		add *= 2
	}
	return world
}

// power is 2 to the power of n, for n from 0 on.
func power(n int) int {
	p := 1
	for range n {
		p *= 2
	}
	return p
}

// membersOf lists the bits of a number in ascending order, by division.
func membersOf(number int) []int {
	var list []int
	for i := 0; number > 0; i++ {
		if number%2 == 1 {
			list = append(list, i)
		}
		number /= 2
	}
	return list
}

// eachTable calls f for all tables of all numbers of people.
func eachTable(f func(people, table int)) {
	for people := 1; people <= impl.MaxPeople; people++ {
		for table := range power(power(people)) {
			f(people, table)
		}
	}
}

// eachWorld calls f for all worlds of all numbers of people.
func eachWorld(f func(people, world int)) {
	for people := 1; people <= impl.MaxPeople; people++ {
		for world := range power(people) {
			f(people, world)
		}
	}
}

func reversed(list []int) []int {
	back := slices.Clone(list)
	slices.Reverse(back)
	return back
}

func TestMaxPeople(t *testing.T) {
	if impl.MaxPeople != 4 {
		t.Fatal(impl.MaxPeople)
	}
}

func TestWorldOkNumbers(t *testing.T) {
	for people, count := range []int{0, 2, 4, 8, 16, 0} {
		for world := -40; world <= 300; world++ {
			if got, want := impl.WorldOk(people, world), world >= 0 && world < count; got != want {
				t.Fatal(people, world, got)
			}
		}
	}
}

func TestWorldFunctionsRefuse(t *testing.T) {
	refuse := func(people, world int) {
		t.Helper()
		if impl.WorldOk(people, world) {
			t.Error("WorldOk", people, world)
		}
		if got := impl.TellersIn(people, world); got != -1 {
			t.Error("TellersIn", people, world, got)
		}
		if got := impl.OppositeWorld(people, world); got != -1 {
			t.Error("OppositeWorld", people, world, got)
		}
	}
	for _, people := range wrongPeople {
		for _, world := range append([]int{0, 1, 2, 15, 16}, farNumbers...) {
			refuse(people, world)
		}
	}
	for people := 1; people <= impl.MaxPeople; people++ {
		for _, world := range append([]int{power(people), power(people) + 1, 2 * power(people), 16, 63, 64}, farNumbers...) {
			refuse(people, world)
		}
	}
}

func TestTableFunctionsRefuse(t *testing.T) {
	refuse := func(people, table int) {
		t.Helper()
		if impl.TableOk(people, table) {
			t.Error("TableOk", people, table)
		}
		if got := impl.WorldsIn(people, table); len(got) != 0 {
			t.Error("WorldsIn", people, table, got)
		}
		if got := impl.OppositeTable(people, table); got != -1 {
			t.Error("OppositeTable", people, table, got)
		}
	}
	for _, people := range wrongPeople {
		for _, table := range append([]int{0, 1, 2, 3, 4, 15, 255, 65535}, farNumbers...) {
			refuse(people, table)
		}
	}
	for people := 1; people <= impl.MaxPeople; people++ {
		all := power(power(people))
		for _, table := range append([]int{all, all + 1, 2 * all, all * all}, farNumbers...) {
			refuse(people, table)
		}
	}
}

func TestTableOfWorldsRefuses(t *testing.T) {
	lists := [][]int{nil, {}, {0}, {0, 1}, {0, 0}, {-1}}
	for _, people := range wrongPeople {
		for _, list := range lists {
			if got := impl.TableOfWorlds(people, list); got != -1 {
				t.Error(people, list, got)
			}
		}
	}
	for people := 1; people <= impl.MaxPeople; people++ {
		for _, bad := range append([]int{power(people), power(people) + 1, 16, 31, 32, 63, 64}, farNumbers...) {
			for _, list := range [][]int{{bad}, {bad, 0, 1}, {0, bad, 1}, {0, 1, bad}, {1, 1, bad, 1}, {bad, bad}} {
				if got := impl.TableOfWorlds(people, list); got != -1 {
					t.Error(people, list, got)
				}
			}
		}
	}
}

func TestTellersInExamples(t *testing.T) {
	want := []int{0, 1, 1, 2, 1, 2, 2, 3, 1, 2, 2, 3, 2, 3, 3, 4}
	eachWorld(func(people, world int) {
		if got := impl.TellersIn(people, world); got != want[world] {
			t.Error(people, world, got)
		}
	})
}

func TestOppositeWorldTurnsEverybody(t *testing.T) {
	eachWorld(func(people, world int) {
		row := tellsIn(people, world)
		for i := range row {
			row[i] = !row[i]
		}
		if got := impl.OppositeWorld(people, world); got != worldOfRow(row) {
			t.Error(people, world, got)
		}
	})
}

func TestOnePerson(t *testing.T) {
	if !impl.WorldOk(1, 0) || !impl.WorldOk(1, 1) || impl.WorldOk(1, 2) || impl.TellersIn(1, 0) != 0 || impl.TellersIn(1, 1) != 1 {
		t.Error("worlds")
	}
	if impl.OppositeWorld(1, 0) != 1 || impl.OppositeWorld(1, 1) != 0 {
		t.Error("opposites")
	}
	if !impl.TableOk(1, 3) || impl.TableOk(1, 4) {
		t.Error("tables")
	}
	for table, list := range [][]int{{}, {0}, {1}, {0, 1}} {
		if got := impl.WorldsIn(1, table); !slices.Equal(got, list) {
			t.Error("WorldsIn", table, got)
		}
		if got := impl.TableOfWorlds(1, list); got != table {
			t.Error("TableOfWorlds", list, got)
		}
	}
	for table, want := range []int{0, 2, 1, 3} {
		if got := impl.OppositeTable(1, table); got != want {
			t.Error("OppositeTable", table, got)
		}
	}
}

func TestEmptyAndFullTables(t *testing.T) {
	for people := 1; people <= impl.MaxPeople; people++ {
		if impl.TableOfWorlds(people, nil) != 0 || impl.TableOfWorlds(people, []int{}) != 0 {
			t.Error("no worlds", people)
		}
		if len(impl.WorldsIn(people, 0)) != 0 || impl.OppositeTable(people, 0) != 0 {
			t.Error("the table without worlds", people)
		}
		all := power(power(people)) - 1
		list := impl.WorldsIn(people, all)
		if len(list) != power(people) || impl.TableOfWorlds(people, list) != all || impl.OppositeTable(people, all) != all {
			t.Error("the table of all worlds", people, list)
		}
		for i, world := range list {
			if i != world {
				t.Error("the table of all worlds", people, list)
			}
		}
	}
}

func TestTableExamples(t *testing.T) {
	if got := impl.WorldsIn(2, 9); !slices.Equal(got, []int{0, 3}) {
		t.Error(got)
	}
	if got := impl.WorldsIn(4, 1<<15+1<<8+4); !slices.Equal(got, []int{2, 8, 15}) {
		t.Error(got)
	}
	if got := impl.TableOfWorlds(4, []int{15, 2, 8}); got != 32768+256+4 {
		t.Error(got)
	}
	if got := impl.OppositeTable(2, 3); got != 12 {
		t.Error(got)
	}
	if got := impl.OppositeTable(3, 1+8+16); got != 128+16+8 {
		t.Error(got)
	}
	if got := impl.OppositeTable(4, 1); got != 32768 {
		t.Error(got)
	}
}

// Promise 1.
func TestNobodyAndEverybodyAreWorlds(t *testing.T) {
	for people := -3; people <= 9; people++ {
		want := people >= 1 && people <= 4
		if impl.WorldOk(people, 0) != want || impl.WorldOk(people, power(max(people, 0))-1) != want {
			t.Error(people)
		}
		for world := -20; world <= 40; world++ {
			ok := impl.WorldOk(people, world)
			if impl.WorldOk(people, impl.OppositeWorld(people, world)) != ok {
				t.Error("OppositeWorld", people, world)
			}
			if impl.WorldOk(people, power(max(people, 0))-1-world) != ok {
				t.Error("the other way", people, world)
			}
		}
	}
	for _, people := range wrongPeople {
		if impl.WorldOk(people, 0) || impl.WorldOk(people, 1) {
			t.Error(people)
		}
	}
}

// Promise 2.
func TestTellersAndLiarsAreAll(t *testing.T) {
	eachWorld(func(people, world int) {
		if got := impl.TellersIn(people, world) + impl.TellersIn(people, impl.OppositeWorld(people, world)); got != people {
			t.Error(people, world, got)
		}
		tellers := 0
		for _, tells := range tellsIn(people, world) {
			if tells {
				tellers++
			}
		}
		if got := impl.TellersIn(people, world); got != tellers {
			t.Error(people, world, got)
		}
	})
}

// Promise 3.
func TestOppositeTwiceIsAsBefore(t *testing.T) {
	eachWorld(func(people, world int) {
		opposite := impl.OppositeWorld(people, world)
		if !impl.WorldOk(people, opposite) || opposite == world || impl.OppositeWorld(people, opposite) != world {
			t.Error(people, world, opposite)
		}
	})
}

// Promise 4.
func TestNoWorldsAreATable(t *testing.T) {
	for people := -3; people <= 6; people++ {
		if got, want := impl.TableOk(people, 0), people >= 1 && people <= 4; got != want {
			t.Error(people, got)
		}
	}
	for _, people := range wrongPeople {
		if impl.TableOk(people, 0) {
			t.Error(people)
		}
	}
	for people := 1; people <= impl.MaxPeople; people++ {
		count := power(power(people))
		for table := -3 * count; table <= 3*count; table++ {
			ok := table >= 0 && table < count
			if impl.TableOk(people, table) != ok || impl.TableOk(people, count-1-table) != ok {
				t.Fatal(people, table)
			}
		}
	}
}

// Promise 5.
func TestListedTablesAreTheTables(t *testing.T) {
	eachTable(func(people, table int) {
		list := impl.WorldsIn(people, table)
		if !slices.Equal(list, membersOf(table)) {
			t.Fatal(people, table, list)
		}
		for i, world := range list {
			if !impl.WorldOk(people, world) || i > 0 && list[i-1] >= world {
				t.Fatal(people, table, list)
			}
		}
		if got := impl.TableOfWorlds(people, list); got != table {
			t.Fatal(people, table, got)
		}
	})
}

// Promise 6.
func TestInAnyOrderItIsTheSameTable(t *testing.T) {
	eachTable(func(people, table int) {
		list := membersOf(table)
		back := reversed(list)
		half := len(list) / 2
		turned := slices.Concat(list[half:], list[:half])
		for _, order := range [][]int{list, back, turned, slices.Concat(list, back), slices.Concat(turned, turned, turned)} {
			got := impl.TableOfWorlds(people, order)
			if got != table || !slices.Equal(impl.WorldsIn(people, got), list) {
				t.Fatal(people, order, got)
			}
		}
	})
	if got := impl.TableOfWorlds(4, slices.Repeat([]int{15, 0, 15, 7}, 1000)); got != 32768+128+1 {
		t.Error(got)
	}
}

// Promise 7.
func TestOppositeTablesHaveOppositeWorlds(t *testing.T) {
	eachTable(func(people, table int) {
		opposite := impl.OppositeTable(people, table)
		if !impl.TableOk(people, opposite) || impl.OppositeTable(people, opposite) != table {
			t.Fatal(people, table, opposite)
		}
		want := reversed(membersOf(table))
		for i := range want {
			want[i] = impl.OppositeWorld(people, want[i])
		}
		if got := impl.WorldsIn(people, opposite); !slices.Equal(got, want) {
			t.Fatal(people, table, got)
		}
	})
}

// common lists the members of a list that are in another one too.
func common(list, other []int) []int {
	var both []int
	for _, member := range list {
		if slices.Contains(other, member) {
			both = append(both, member)
		}
	}
	return both
}

// checkCutAndJoined tests promise 8 for two tables.
func checkCutAndJoined(t *testing.T, people, table, other int) {
	t.Helper()
	list, second := impl.WorldsIn(people, table), impl.WorldsIn(people, other)
	joined := slices.Concat(list, second)
	slices.Sort(joined)
	joined = slices.Compact(joined)
	got := impl.TableOfWorlds(people, slices.Concat(list, second))
	if got != table|other || !slices.Equal(impl.WorldsIn(people, got), joined) {
		t.Fatal("joined", people, table, other, got)
	}
	both := common(list, second)
	got = impl.TableOfWorlds(people, both)
	if got != table&other || !slices.Equal(impl.WorldsIn(people, got), both) {
		t.Fatal("cut", people, table, other, got)
	}
}

// Promise 8.
func TestTablesAreCutAndJoinedAsLists(t *testing.T) {
	eachTable(func(people, table int) {
		checkCutAndJoined(t, people, table, impl.OppositeTable(people, table))
	})
	for table := range 256 {
		for other := range 256 {
			checkCutAndJoined(t, 3, table, other)
		}
	}
}

// The general rules: arguments are not written to, and results are new and keep no state.
func TestListsAreNotShared(t *testing.T) {
	list := []int{3, 0, 3, 1}
	if got := impl.TableOfWorlds(2, list[:3]); got != 9 || !slices.Equal(list, []int{3, 0, 3, 1}) {
		t.Error(got, list)
	}
	first := impl.WorldsIn(4, 65535)
	second := impl.WorldsIn(4, 65535)
	spare := first[:cap(first)]
	for i := range spare {
		spare[i] = -7
	}
	if got := impl.WorldsIn(4, 65535); !slices.Equal(second, got) || !slices.Equal(got, membersOf(65535)) {
		t.Error(second, got)
	}
}
