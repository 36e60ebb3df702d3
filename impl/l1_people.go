package impl

import "math/bits"

// MaxPeople is the maximum number of people.
const MaxPeople = 4

// peopleOk keeps every shift by a number of people, or of their worlds, small enough to be exact.
func peopleOk(people int) bool {
	return people >= 1 && people <= MaxPeople
}

// personOk does not look at the number of people: callers check peopleOk, too, or what implies it.
func personOk(people int, who int) bool {
	return who >= 0 && who < people
}

// worldCount is also the first number past the worlds. Callers check peopleOk first: a shift by less than 0 panics.
func worldCount(people int) int {
	return 1 << people
}

// allWorlds is the table of all worlds. Callers check peopleOk first, as for worldCount.
func allWorlds(people int) int {
	return 1<<worldCount(people) - 1
}

// WorldOk reports whether a number tells a world of so many people, in 1..MaxPeople: to it each person who tells the truth adds 1 for the person 0, 2 for 1, and so on, each next one twice as much; from 0 on, and less than 2 to the power of the number of people.
func WorldOk(people int, world int) bool {
	return peopleOk(people) && world >= 0 && world < worldCount(people)
}

// TellersIn returns how many people tell the truth in a world (WorldOk); -1 for others.
func TellersIn(people int, world int) int {
	if !WorldOk(people, world) {
		return -1
	}
	return bits.OnesCount(uint(world))
}

// OppositeWorld returns the world in which everybody is the other way than in a world (WorldOk); -1 for others.
func OppositeWorld(people int, world int) int {
	if !WorldOk(people, world) {
		return -1
	}
	return worldCount(people) - 1 - world
}

// TableOk reports whether a number tells a table of so many people, in 1..MaxPeople: to it each world of the table adds 1 for the world 0, 2 for 1, and so on, each next one twice as much; from 0 on, and less than 2 to the power of the number of worlds.
func TableOk(people int, table int) bool {
	return peopleOk(people) && table >= 0 && table < 1<<worldCount(people)
}

// WorldsIn returns the worlds of a table (TableOk), in ascending order; nil for others.
func WorldsIn(people int, table int) []int {
	if !TableOk(people, table) {
		return nil
	}
	var list []int
	for world := range worldCount(people) {
		if table>>world&1 == 1 {
			list = append(list, world)
		}
	}
	return list
}

// TableOfWorlds returns the table of just these worlds (WorldOk), of so many people, in 1..MaxPeople, in any order, each as often as may be; -1 for others.
func TableOfWorlds(people int, list []int) int {
	if !peopleOk(people) {
		return -1
	}
	table := 0
	for _, world := range list {
		if !WorldOk(people, world) {
			return -1
		}
		table |= 1 << world
	}
	return table
}

// OppositeTable returns the table of the opposites of all worlds of a table (TableOk, OppositeWorld); -1 for others.
func OppositeTable(people int, table int) int {
	if !TableOk(people, table) {
		return -1
	}
	opposite := 0
	for _, world := range WorldsIn(people, table) {
		opposite |= 1 << OppositeWorld(people, world)
	}
	return opposite
}
