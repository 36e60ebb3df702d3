package tests

import (
	"math"
	"slices"
	"strings"
	"testing"

	"loop.example/tellersandliars/impl"
)

// rowsOf are the rows of marks of some terms.
func rowsOf(terms []*tree) [][]impl.Mark {
	var rows [][]impl.Mark
	for _, n := range terms {
		rows = append(rows, n.marks())
	}
	return rows
}

func treeTexts(terms []*tree) []string {
	var list []string
	for _, n := range terms {
		list = append(list, n.text())
	}
	return list
}

// madeOf is the story that is to be made; false if there is none. It tells tellers and liars apart by cases.
func madeOf(people, world int, terms []*tree) ([]said, bool) {
	if len(terms) > people {
		return nil, false
	}
	var story []said
	for who, n := range terms {
		c := said{who, n}
		if c.size() > mostSaid {
			return nil, false
		}
		if !c.may(people, world) {
			c = c.denied()
		}
		if c.size() > mostSaid {
			return nil, false
		}
		story = append(story, c)
	}
	return story, true
}

// eachTerms calls f for no terms, for all rows of few of the shortest terms, and for some of each number of terms and of marks, of all numbers of people.
func eachTerms(f func(people int, terms []*tree)) {
	pick := &picker{state: 59}
	for people := 1; people <= impl.MaxPeople; people++ {
		f(people, nil)
		short := treesOf(people, 2)
		for _, first := range short {
			f(people, []*tree{first})
			for _, second := range short {
				if people >= 2 {
					f(people, []*tree{first, second})
				}
			}
		}
		for count := 1; count <= people; count++ {
			for round := range 300 {
				most := 1 + round%mostSaid
				var terms []*tree
				for range count {
					terms = append(terms, pick.tree(people, 1+pick.below(most)))
				}
				f(people, terms)
				terms = slices.Clone(terms)
				terms[pick.below(count)] = pick.tree(people, mostSaid)
				f(people, terms)
			}
		}
	}
}

func checkNoMadeStory(t *testing.T, people, world int, rows [][]impl.Mark) {
	t.Helper()
	if got, ok := impl.MadeStory(people, world, rows); ok || len(got) != 0 {
		t.Error("MadeStory", people, world, len(rows), got, ok)
	}
}

// checkMadeStory tests the story that is made for a world; false if there is none.
func checkMadeStory(t *testing.T, people, world int, terms []*tree) bool {
	t.Helper()
	want, told := madeOf(people, world, terms)
	if !told {
		checkNoMadeStory(t, people, world, rowsOf(terms))
		return false
	}
	if got, ok := impl.MadeStory(people, world, rowsOf(terms)); !ok || !sameStory(got, claimsOf(want)) {
		t.Error("MadeStory", people, world, treeTexts(terms), got, ok)
	}
	return true
}

func TestMadeStoriesOfAllTerms(t *testing.T) {
	told, untold, denied, fewer := 0, 0, 0, 0
	eachTerms(func(people int, terms []*tree) {
		for world := range power(people) {
			if !checkMadeStory(t, people, world, terms) {
				untold++
				continue
			}
			told++
			story, _ := madeOf(people, world, terms)
			if slices.ContainsFunc(ascending(len(terms)), func(who int) bool { return story[who].says != terms[who] }) {
				denied++
			}
			if len(terms) < people {
				fewer++
			}
		}
		if t.Failed() {
			t.FailNow()
		}
	})
	if told < 1000 || untold < 1000 || denied < 1000 || fewer < 1000 {
		t.Fatal("too few stories", told, untold, denied, fewer)
	}
}

func TestMadeStoryExamples(t *testing.T) {
	for _, x := range []struct {
		people, world int
		terms         []string
		story         []string
		table         int
	}{
		{1, 0, nil, nil, 3}, {1, 1, nil, nil, 3}, {2, 3, nil, nil, 15}, {4, 15, nil, nil, 65535},
		{1, 0, []string{"a"}, []string{"a:a"}, 3}, {1, 1, []string{"a"}, []string{"a:a"}, 3}, {1, 0, []string{"!a"}, []string{"a:!!a"}, 3}, {1, 1, []string{"!a"}, []string{"a:!!a"}, 3},
		{1, 0, []string{"0"}, []string{"a:!0"}, 1}, {1, 1, []string{"0"}, []string{"a:0"}, 2}, {1, 0, []string{"2"}, []string{"a:2"}, 1}, {1, 1, []string{"2"}, []string{"a:!2"}, 2}, {1, 0, []string{"1"}, []string{"a:1"}, 3}, {1, 1, []string{"1"}, []string{"a:1"}, 3},
		{2, 2, []string{"b", "1"}, []string{"a:!b", "b:1"}, 4}, {2, 1, []string{"b", "a"}, []string{"a:!b", "b:!a"}, 6}, {2, 0, []string{"b", "a"}, []string{"a:b", "b:a"}, 9}, {2, 3, []string{"a&b", "!a"}, []string{"a:a&b", "b:!!a"}, 9},
		{2, 0, []string{"a=b", "!b"}, []string{"a:!(a=b)", "b:!!b"}, 3}, {2, 0, []string{"a&b", "1"}, []string{"a:a&b", "b:1"}, 13}, {2, 2, []string{"0"}, []string{"a:!0"}, 5}, {2, 2, []string{"3", "0"}, []string{"a:3", "b:0"}, 4}, {2, 2, []string{"!a&!b"}, []string{"a:!a&!b"}, 4},
		{3, 5, []string{"!b", "a", "3"}, []string{"a:!b", "b:!a", "c:!3"}, 96}, {3, 5, []string{"2|b"}, []string{"a:2|b"}, 185}, {3, 2, []string{"4", "4"}, []string{"a:4", "b:!4"}, 68},
		{4, 10, []string{"c", "a|c", "1&!3", "d=b"}, []string{"a:c", "b:!(a|c)", "c:!(1&!3)", "d:d=b"}, 1028}, {4, 0, []string{"5", "5", "5", "5"}, []string{"a:5", "b:5", "c:5", "d:5"}, 1}, {4, 15, []string{"5", "5", "5", "5"}, []string{"a:!5", "b:!5", "c:!5", "d:!5"}, 32768}, {4, 7, []string{"d", "d", "d"}, []string{"a:!d", "b:!d", "c:!d"}, 384},
	} {
		var rows [][]impl.Mark
		for _, s := range x.terms {
			rows = append(rows, readRow(t, x.people, s))
		}
		got, ok := impl.MadeStory(x.people, x.world, rows)
		if !ok || !sameStory(got, storyOfTexts(t, x.people, x.story)) {
			t.Error("MadeStory", x.people, x.world, x.terms, got, ok)
		}
		if table := impl.StoryTable(x.people, got); table != x.table {
			t.Error("StoryTable", x.people, x.world, x.terms, table)
		}
	}
}

// Whoever says nothing may be either way, and as many as there are terms say something, the first ones.
func TestFewerTermsThanPeople(t *testing.T) {
	eachWorld(func(people, world int) {
		for count := range people + 1 {
			var terms []*tree
			for who := range count {
				terms = append(terms, sameTree(personTree(who), personTree(people-1)))
			}
			if !checkMadeStory(t, people, world, terms) {
				t.Fatal(people, world, count)
			}
			story, ok := impl.MadeStory(people, world, rowsOf(terms))
			if !ok || len(story) != count {
				t.Fatal(people, world, count, story, ok)
			}
			for who, c := range story {
				if c.Who != who {
					t.Error("who says it", people, world, count, story)
				}
			}
		}
		for _, terms := range [][][]impl.Mark{nil, {}} {
			if story, ok := impl.MadeStory(people, world, terms); !ok || len(story) != 0 {
				t.Error("no terms", people, world, story, ok)
			}
		}
	})
}

// What always holds is said by tellers and denied by liars, and what never does the other way: so all who say it are known.
func TestMadeOfTermsThatAlwaysOrNeverHold(t *testing.T) {
	eachWorld(func(people, world int) {
		a := personTree(people - 1)
		for _, always := range []*tree{countTree(0), notTree(countTree(people + 1)), orTree(a, notTree(a)), sameTree(a, a)} {
			for _, never := range []bool{false, true} {
				n := always
				if never {
					n = notTree(always)
				}
				terms := slices.Repeat([]*tree{n}, people)
				checkMadeStory(t, people, world, terms)
				story, ok := impl.MadeStory(people, world, rowsOf(terms))
				if got := impl.StoryTable(people, story); !ok || got != power(world) {
					t.Error(people, world, n.text(), story, got)
				}
				for who, tells := range tellsIn(people, world) {
					want := said{who, n}
					if tells == never {
						want = want.denied()
					}
					if !sameClaim(story[who], want.claim()) {
						t.Error(people, world, n.text(), who, story)
					}
				}
			}
		}
	})
}

// Everybody says to tell the truth, whatever the world, and denies to be a liar.
func TestMadeOfTermsOfOneself(t *testing.T) {
	eachWorld(func(people, world int) {
		for count := range mostSaid + 1 {
			var terms []*tree
			var want []said
			for who := range people {
				n := nots(count, personTree(who))
				terms = append(terms, n)
				want = append(want, said{who, nots(count+count%2, personTree(who))})
			}
			if count == mostSaid {
				checkNoMadeStory(t, people, world, rowsOf(terms))
				continue
			}
			got, ok := impl.MadeStory(people, world, rowsOf(terms))
			if !ok || !sameStory(got, claimsOf(want)) || impl.StoryTable(people, got) != everyWorld(people) {
				t.Error(people, world, count, got, ok)
			}
		}
	})
}

// A term of as many marks as a claim may say is said where it may be, and has no denial where it may not; with a mark less both are told, and with a mark more none.
func TestMostMarksOfMadeStories(t *testing.T) {
	whole, denied := 0, 0
	eachWorld(func(people, world int) {
		for who, tells := range tellsIn(people, world) {
			for size := 1; size <= 40; size++ {
				terms := slices.Repeat([]*tree{personTree(0)}, people)
				terms[who] = nots(size-1, countTree(0))
				// An even number of not leaves what always holds, which tellers say.
				maySay := tells == (size%2 == 1)
				want := size < mostSaid || size == mostSaid && maySay
				if got := checkMadeStory(t, people, world, terms); got != want {
					t.Fatal(people, world, who, size, got)
				}
				if size == mostSaid && want {
					whole++
				}
				if size == mostSaid-1 && !maySay {
					denied++
				}
			}
			for kind := impl.MarkAnd; kind <= impl.MarkSame; kind++ {
				for _, left := range []bool{true, false} {
					for _, count := range []int{6, 7, 8, 9} {
						terms := slices.Repeat([]*tree{personTree(0)}, people)
						terms[who] = chain(kind, count, left)
						checkMadeStory(t, people, world, terms)
						terms[who] = notTree(terms[who])
						checkMadeStory(t, people, world, terms)
					}
				}
			}
		}
	})
	if whole < 30 || denied < 30 {
		t.Fatal("too few terms", whole, denied)
	}
}

func TestMadeStoriesRefuse(t *testing.T) {
	a := tellsRow(0)
	for _, people := range wrongPeople {
		for _, rows := range [][][]impl.Mark{nil, {}, {nil}, {a}, {a, a}, {countRow(0)}, slices.Repeat([][]impl.Mark{a}, 7)} {
			for _, world := range []int{-1, 0, 1, 2, 15, 16, 31, people, math.MaxInt} {
				checkNoMadeStory(t, people, world, rows)
			}
		}
	}
	for people := 1; people <= impl.MaxPeople; people++ {
		for _, world := range append([]int{-3, -4, power(people), power(people) + 1, 2 * power(people), 16, 17, 31, 63, 64, 65}, farNumbers...) {
			for count := range people + 2 {
				checkNoMadeStory(t, people, world, slices.Repeat([][]impl.Mark{a}, count))
				checkNoMadeStory(t, people, world, slices.Repeat([][]impl.Mark{countRow(0)}, count))
			}
		}
	}
	noClaims := [][][]impl.Mark{nil}
	for people := 1; people <= impl.MaxPeople; people++ {
		tooLong := rowsOf([]*tree{nots(mostSaid, personTree(0)), nots(mostSaid, countTree(0)), nots(mostSaid+1, countTree(0)), nots(mostSaid+2, personTree(0))})
		noClaims = append(noClaims, append(noTerms(people), tooLong...))
	}
	eachWorld(func(people, world int) {
		for _, more := range []int{1, 2, 3, 4, 5000} {
			checkNoMadeStory(t, people, world, slices.Repeat([][]impl.Mark{a}, people+more))
			checkNoMadeStory(t, people, world, slices.Repeat([][]impl.Mark{countRow(1)}, people+more))
		}
		for _, none := range noClaims[people] {
			for count := 1; count <= people; count++ {
				for place := range count {
					rows := slices.Repeat([][]impl.Mark{a}, count)
					rows[place] = none
					checkNoMadeStory(t, people, world, rows)
				}
			}
		}
		for _, nobody := range noPersons(people) {
			checkNoMadeStory(t, people, world, [][]impl.Mark{tellsRow(nobody)})
			checkNoMadeStory(t, people, world, [][]impl.Mark{append(tellsRow(nobody), impl.Mark{Kind: impl.MarkNot})})
		}
	})
}

func TestMadeStoriesOfAllShortRows(t *testing.T) {
	marks := []impl.Mark{{Kind: 0}, {Kind: 0, At: 1}, {Kind: 1}, {Kind: 2}, {Kind: 3}, {Kind: 4}, {Kind: 5}}
	for people := 1; people <= 2; people++ {
		eachRow(marks, 4, func(row []impl.Mark) {
			is := termByRule(people, row)
			for world := range power(people) {
				for who := range people {
					rows := slices.Repeat([][]impl.Mark{countRow(1)}, people)
					rows[who] = row
					if !is {
						checkNoMadeStory(t, people, world, rows)
					} else if got, ok := impl.MadeStory(people, world, rows); !ok || len(got) != people || !impl.MaySay(people, got[who], world) {
						t.Fatal(people, world, who, row, got, ok)
					}
				}
			}
		})
	}
}

func link(who, whom int, tells bool) impl.Link {
	return impl.Link{Who: who, Whom: whom, Tells: tells}
}

// linkOf reads a text: the letters of who says it and of whom, with a colon between, and a sign of exclamation for a liar.
func linkOf(s string) impl.Link {
	return link(int(s[0]-'a'), int(s[len(s)-1]-'a'), !strings.Contains(s, "!"))
}

func linksOf(texts ...string) []impl.Link {
	var links []impl.Link
	for _, s := range texts {
		links = append(links, linkOf(s))
	}
	return links
}

// linksByRule looks at one number after the other.
func linksByRule(people int, links []impl.Link) bool {
	ok := 1 <= people && people <= 4 && len(links) <= 6
	for _, l := range links {
		ok = ok && 0 <= l.Who && l.Who < people && 0 <= l.Whom && l.Whom < people
	}
	return ok
}

// saidLinks are the claims of links, as they hang together.
func saidLinks(links []impl.Link) []said {
	var story []said
	for _, l := range links {
		story = append(story, kindOf(l.Who, l.Whom, l.Tells))
	}
	return story
}

// agreeing lists the worlds in which all links tell rightly who is of the same kind.
func agreeing(people int, links []impl.Link) []int {
	var worlds []int
	for world := range power(people) {
		tells := tellsIn(people, world)
		if !slices.ContainsFunc(links, func(l impl.Link) bool { return (tells[l.Who] == tells[l.Whom]) != l.Tells }) {
			worlds = append(worlds, world)
		}
	}
	return worlds
}

// leastLinked goes from a person along the links to ever more people, where the program merges labels.
func leastLinked(people int, links []impl.Link, person int) int {
	met := make([]bool, people)
	met[person] = true
	for range people {
		for _, l := range links {
			if met[l.Who] || met[l.Whom] {
				met[l.Who], met[l.Whom] = true, true
			}
		}
	}
	return slices.Index(met, true)
}

func groupsOf(people int, links []impl.Link) []int {
	var groups []int
	for person := range people {
		groups = append(groups, leastLinked(people, links, person))
	}
	return groups
}

// countDistinct is how many groups there are.
func countDistinct(groups []int) int {
	sorted := slices.Sorted(slices.Values(groups))
	return len(slices.Compact(sorted))
}

// allLinks are all links of people from the least one to the last one.
func allLinks(least, last int) []impl.Link {
	var list []impl.Link
	for who := least; who <= last; who++ {
		for whom := least; whom <= last; whom++ {
			list = append(list, link(who, whom, true), link(who, whom, false))
		}
	}
	return list
}

// link picks a link, of oneself now and then.
func (p *picker) link(people int) impl.Link {
	return link(p.below(people), p.below(people), p.below(2) == 0)
}

// linksIn picks links that agree in some world.
func (p *picker) linksIn(people, count int) []impl.Link {
	tells := tellsIn(people, p.below(power(people)))
	var links []impl.Link
	for range count {
		l := p.link(people)
		l.Tells = tells[l.Who] == tells[l.Whom]
		links = append(links, l)
	}
	return links
}

// eachLinkRow calls f for all rows of at most so many of some links.
func eachLinkRow(kinds []impl.Link, most int, f func(links []impl.Link)) {
	for count := range most + 1 {
		for number := range powerOf(len(kinds), count) {
			var links []impl.Link
			for _, digit := range digitsOf(len(kinds), count, number) {
				links = append(links, kinds[digit])
			}
			f(links)
		}
	}
}

// eachLinks calls f for all rows of few links, and for some of each number of links, of all numbers of people.
func eachLinks(f func(people int, links []impl.Link)) {
	pick := &picker{state: 61}
	for people, most := range []int{0, 6, 4, 3, 2} {
		if people == 0 {
			continue
		}
		eachLinkRow(allLinks(0, people-1), most, func(links []impl.Link) { f(people, links) })
		for count := 1; count <= impl.MaxClaims; count++ {
			for range 300 {
				f(people, pick.linksIn(people, count))
				var free []impl.Link
				for range count {
					free = append(free, pick.link(people))
				}
				f(people, free)
			}
		}
	}
}

func checkNoLinks(t *testing.T, people int, links []impl.Link) {
	t.Helper()
	if impl.LinksOk(people, links) {
		t.Error("LinksOk", people, links)
	}
	if got, ok := impl.LinkStory(people, links); ok || len(got) != 0 {
		t.Error("LinkStory", people, links, got, ok)
	}
	if got := impl.LinkGroups(people, links); len(got) != 0 {
		t.Error("LinkGroups", people, links, got)
	}
	if got := impl.LinkWorlds(people, links); got != -1 {
		t.Error("LinkWorlds", people, links, got)
	}
}

// checkLinks tests what is told of links: their claims, the groups and how many worlds there are.
func checkLinks(t *testing.T, people int, links []impl.Link, story []impl.Claim, groups []int, worlds int) {
	t.Helper()
	if !impl.LinksOk(people, links) {
		t.Error("LinksOk", people, links)
	}
	if got, ok := impl.LinkStory(people, links); !ok || !sameStory(got, story) {
		t.Error("LinkStory", people, links, got, ok)
	}
	if got := impl.LinkGroups(people, links); !slices.Equal(got, groups) {
		t.Error("LinkGroups", people, links, got)
	}
	if got := impl.LinkWorlds(people, links); got != worlds {
		t.Error("LinkWorlds", people, links, got)
	}
}

func TestAllLinks(t *testing.T) {
	none, more, alone := 0, 0, 0
	eachLinks(func(people int, links []impl.Link) {
		worlds, groups := agreeing(people, links), groupsOf(people, links)
		checkLinks(t, people, links, claimsOf(saidLinks(links)), groups, len(worlds))
		if got := impl.StoryTable(people, claimsOf(saidLinks(links))); !slices.Equal(membersOf(got), worlds) {
			t.Error("StoryTable", people, links, got)
		}
		if t.Failed() {
			t.FailNow()
		}
		if len(worlds) == 0 {
			none++
		} else {
			more++
		}
		if countDistinct(groups) > 1 {
			alone++
		}
	})
	if none < 1000 || more < 1000 || alone < 1000 {
		t.Fatal("too few links", none, more, alone)
	}
}

func TestLinkExamples(t *testing.T) {
	for _, x := range []struct {
		people int
		texts  []string
		groups []int
		worlds int
	}{
		{1, nil, []int{0}, 2}, {2, nil, []int{0, 1}, 4}, {3, nil, []int{0, 1, 2}, 8}, {4, nil, []int{0, 1, 2, 3}, 16},
		{1, []string{"a:a"}, []int{0}, 2}, {1, []string{"a:!a"}, []int{0}, 0}, {1, []string{"a:a", "a:!a"}, []int{0}, 0}, {2, []string{"b:b"}, []int{0, 1}, 4}, {2, []string{"b:!b"}, []int{0, 1}, 0}, {4, []string{"d:d"}, []int{0, 1, 2, 3}, 16}, {4, []string{"c:!c"}, []int{0, 1, 2, 3}, 0},
		{2, []string{"a:b"}, []int{0, 0}, 2}, {2, []string{"b:a"}, []int{0, 0}, 2}, {2, []string{"a:!b"}, []int{0, 0}, 2}, {2, []string{"b:!a"}, []int{0, 0}, 2},
		{2, []string{"a:b", "a:b"}, []int{0, 0}, 2}, {2, []string{"a:!b", "a:!b"}, []int{0, 0}, 2}, {2, []string{"a:b", "a:!b"}, []int{0, 0}, 0}, {2, []string{"a:b", "b:a"}, []int{0, 0}, 2}, {2, []string{"a:!b", "b:!a"}, []int{0, 0}, 2}, {2, []string{"a:b", "b:!a"}, []int{0, 0}, 0},
		{3, []string{"b:c"}, []int{0, 1, 1}, 4}, {3, []string{"c:a"}, []int{0, 1, 0}, 4}, {3, []string{"c:b", "b:!c"}, []int{0, 1, 1}, 0}, {3, []string{"a:b", "b:c"}, []int{0, 0, 0}, 2}, {3, []string{"c:b", "c:a"}, []int{0, 0, 0}, 2}, {3, []string{"a:!c", "b:c"}, []int{0, 0, 0}, 2},
		{3, []string{"a:b", "b:c", "c:a"}, []int{0, 0, 0}, 2}, {3, []string{"a:!b", "b:!c", "c:a"}, []int{0, 0, 0}, 2}, {3, []string{"a:!b", "b:!c", "c:!a"}, []int{0, 0, 0}, 0}, {3, []string{"a:b", "b:c", "c:!a"}, []int{0, 0, 0}, 0}, {3, []string{"a:b", "c:!c"}, []int{0, 0, 2}, 0},
		{4, []string{"a:c", "b:!d"}, []int{0, 1, 0, 1}, 4}, {4, []string{"d:c"}, []int{0, 1, 2, 2}, 8}, {4, []string{"d:c", "c:b"}, []int{0, 1, 1, 1}, 4}, {4, []string{"a:d", "b:c"}, []int{0, 1, 1, 0}, 4}, {4, []string{"c:d", "b:c", "a:b"}, []int{0, 0, 0, 0}, 2}, {4, []string{"c:d", "a:b", "d:b"}, []int{0, 0, 0, 0}, 2}, {4, []string{"b:!d", "d:!a"}, []int{0, 0, 2, 0}, 4},
		{4, []string{"a:!b", "b:!c", "c:!d", "d:!a"}, []int{0, 0, 0, 0}, 2}, {4, []string{"a:!b", "b:!c", "c:!d", "d:a"}, []int{0, 0, 0, 0}, 0}, {4, []string{"a:!a", "b:c"}, []int{0, 1, 1, 3}, 0},
		{4, []string{"a:b", "a:c", "a:d", "b:c", "b:d", "c:d"}, []int{0, 0, 0, 0}, 2}, {4, []string{"a:b", "a:c", "a:d", "b:c", "b:d", "c:!d"}, []int{0, 0, 0, 0}, 0}, {4, []string{"a:!b", "a:!c", "a:!d", "b:c", "b:d", "c:d"}, []int{0, 0, 0, 0}, 2}, {4, []string{"b:c", "c:b", "b:c", "c:b", "b:b", "d:d"}, []int{0, 1, 1, 3}, 8},
	} {
		checkLinks(t, x.people, linksOf(x.texts...), storyOfTexts(t, x.people, x.texts), x.groups, x.worlds)
	}
}

// To be of one's own kind tells nothing, and not to be of it leaves no world; both link nobody to others.
func TestLinksOfOneself(t *testing.T) {
	for people := 1; people <= impl.MaxPeople; people++ {
		for who := range people {
			for count := 1; count <= impl.MaxClaims; count++ {
				truths := slices.Repeat([]impl.Link{link(who, who, true)}, count)
				checkLinks(t, people, truths, claimsOf(saidLinks(truths)), ascending(people), power(people))
				for place := range count {
					links := slices.Clone(truths)
					links[place].Tells = false
					checkLinks(t, people, links, claimsOf(saidLinks(links)), ascending(people), 0)
				}
			}
		}
	}
}

// Two links of the same two people agree, or clash, whoever says them.
func TestTwoLinksOfTheSameTwo(t *testing.T) {
	for people := 2; people <= impl.MaxPeople; people++ {
		for _, first := range allLinks(0, people-1) {
			for _, turned := range []bool{false, true} {
				for _, tells := range []bool{false, true} {
					second := first
					second.Tells = tells
					if turned {
						second.Who, second.Whom = first.Whom, first.Who
					}
					groups, worlds := ascending(people), power(people)
					if first.Who != first.Whom {
						groups[max(first.Who, first.Whom)] = min(first.Who, first.Whom)
						worlds /= 2
					}
					if tells != first.Tells || first.Who == first.Whom && !tells {
						worlds = 0
					}
					links := []impl.Link{first, second}
					checkLinks(t, people, links, claimsOf(saidLinks(links)), groups, worlds)
				}
			}
		}
	}
}

// Links in a row leave one group of those in it, in two worlds; one that closes the round agrees just if an even number of all tell of liars.
func TestLinksInRowsAndRounds(t *testing.T) {
	agree, clash := 0, 0
	for people := 2; people <= impl.MaxPeople; people++ {
		for _, order := range allOrders(people) {
			for length := 2; length <= people; length++ {
				row := order[:length]
				groups := ascending(people)
				for _, person := range row {
					groups[person] = slices.Min(row)
				}
				for number := range power(2 * (length - 1)) {
					links, lies := rowOfLinks(row, number)
					worlds := power(people - length + 1)
					checkLinks(t, people, links, claimsOf(saidLinks(links)), groups, worlds)
					closing := link(row[length-1], row[0], lies%2 == 0)
					round := append(slices.Clone(links), closing)
					checkLinks(t, people, round, claimsOf(saidLinks(round)), groups, worlds)
					agree++
					round[length-1].Tells = !closing.Tells
					checkLinks(t, people, round, claimsOf(saidLinks(round)), groups, 0)
					clash++
				}
				if t.Failed() {
					t.FailNow()
				}
			}
		}
	}
	if agree < 1000 || clash < 1000 {
		t.Fatal("too few rounds", agree, clash)
	}
}

// rowOfLinks links each one of a row to the next one, in the direction and of the kind that two digits of a number tell, and counts the liars told of.
func rowOfLinks(row []int, number int) ([]impl.Link, int) {
	digits := digitsOf(2, 2*(len(row)-1), number)
	var links []impl.Link
	lies := 0
	for place := range len(row) - 1 {
		l := link(row[place], row[place+1], digits[2*place] == 0)
		if digits[2*place+1] == 1 {
			l.Who, l.Whom = l.Whom, l.Who
		}
		if !l.Tells {
			lies++
		}
		links = append(links, l)
	}
	return links, lies
}

// Groups are merged whole, however the links between them come.
func TestGroupsOfGroups(t *testing.T) {
	for _, order := range allOrders(4) {
		a, b, c, d := order[0], order[1], order[2], order[3]
		for _, last := range [][2]int{{a, c}, {a, d}, {b, c}, {b, d}, {c, a}, {d, b}} {
			for number := range 8 {
				kinds := tellsIn(3, number)
				links := []impl.Link{link(a, b, kinds[0]), link(c, d, kinds[1])}
				groups := make([]int, 4)
				groups[a], groups[b], groups[c], groups[d] = min(a, b), min(a, b), min(c, d), min(c, d)
				checkLinks(t, 4, links, claimsOf(saidLinks(links)), groups, 4)
				links = append(links, link(last[0], last[1], kinds[2]))
				checkLinks(t, 4, links, claimsOf(saidLinks(links)), []int{0, 0, 0, 0}, 2)
			}
		}
	}
}

func TestMostLinks(t *testing.T) {
	for people := 1; people <= impl.MaxPeople; people++ {
		for _, l := range allLinks(0, people-1) {
			for count := range 20 {
				links := slices.Repeat([]impl.Link{l}, count)
				if count > 6 {
					checkNoLinks(t, people, links)
				} else {
					checkLinks(t, people, links, claimsOf(saidLinks(links)), groupsOf(people, links), len(agreeing(people, links)))
				}
			}
			checkNoLinks(t, people, slices.Repeat([]impl.Link{l}, 5000))
		}
	}
}

func TestLinksRefuse(t *testing.T) {
	is := link(0, 0, true)
	for _, people := range wrongPeople {
		for _, links := range [][]impl.Link{nil, {}, {is}, {{}}, {is, is}, {link(1, 0, false)}, {link(people-1, people-1, true)}, slices.Repeat([]impl.Link{is}, 6), slices.Repeat([]impl.Link{is}, 7)} {
			checkNoLinks(t, people, links)
		}
	}
	for people := 1; people <= impl.MaxPeople; people++ {
		for _, nobody := range noPersons(people) {
			for who := range people {
				for _, tells := range []bool{true, false} {
					for _, none := range []impl.Link{link(nobody, who, tells), link(who, nobody, tells), link(nobody, nobody, tells)} {
						for count := 1; count <= impl.MaxClaims; count++ {
							for place := range count {
								links := slices.Repeat([]impl.Link{is}, count)
								links[place] = none
								checkNoLinks(t, people, links)
							}
						}
					}
				}
			}
		}
	}
}

// Links of some people are none of fewer.
func TestLinksOfOtherPeople(t *testing.T) {
	for people := 2; people <= impl.MaxPeople; people++ {
		last := people - 1
		for fewer := 1; fewer < people; fewer++ {
			for _, tells := range []bool{true, false} {
				checkNoLinks(t, fewer, []impl.Link{link(0, last, tells)})
				checkNoLinks(t, fewer, []impl.Link{link(last, 0, tells)})
				checkNoLinks(t, fewer, []impl.Link{link(0, 0, true), link(last, last, tells)})
			}
		}
	}
	eachLinks(func(people int, links []impl.Link) {
		if people == impl.MaxPeople {
			return
		}
		groups, worlds := impl.LinkGroups(people, links), impl.LinkWorlds(people, links)
		if got := impl.LinkGroups(people+1, links); !slices.Equal(got, append(groups, people)) {
			t.Fatal("LinkGroups with one person more", people, links, got)
		}
		if got := impl.LinkWorlds(people+1, links); got != 2*worlds {
			t.Fatal("LinkWorlds with one person more", people, links, got)
		}
	})
}

// Made of terms that people tell the truth, a story is one of links, each of which is as the world has it.
func TestMadeStoriesOfKinds(t *testing.T) {
	eachWorld(func(people, world int) {
		tells := tellsIn(people, world)
		for number := range powerOf(people, people) {
			var terms []*tree
			var links []impl.Link
			for who, whom := range digitsOf(people, people, number) {
				terms = append(terms, personTree(whom))
				links = append(links, link(who, whom, tells[who] == tells[whom]))
			}
			made, ok := impl.MadeStory(people, world, rowsOf(terms))
			linked, okLinked := impl.LinkStory(people, links)
			if !ok || !okLinked || !sameStory(made, linked) {
				t.Error(people, world, links, made, linked)
			}
		}
	})
}

// Promise 74.
func TestForEachWorldThereIsAStory(t *testing.T) {
	whole, denied := 0, 0
	eachTerms(func(people int, terms []*tree) {
		rows := rowsOf(terms)
		for world := range power(people) {
			story, ok := impl.MadeStory(people, world, rows)
			if !ok {
				continue
			}
			if !impl.StoryOk(people, story) || len(story) != len(terms) {
				t.Fatal(people, world, treeTexts(terms), story)
			}
			if worlds := impl.WorldsIn(people, impl.StoryTable(people, story)); !slices.Contains(worlds, world) {
				t.Fatal("worlds", people, world, treeTexts(terms), worlds)
			}
			for who, c := range story {
				not := append(slices.Clone(rows[who]), impl.Mark{Kind: impl.MarkNot})
				switch {
				case c.Who == who && slices.Equal(c.Says, rows[who]):
					whole++
				case c.Who == who && slices.Equal(c.Says, not):
					denied++
				default:
					t.Fatal("claim", people, world, treeTexts(terms), c)
				}
			}
		}
	})
	if whole < 1000 || denied < 1000 {
		t.Fatal("too few claims", whole, denied)
	}
}

// Promise 75.
func TestNoLinksAreLinks(t *testing.T) {
	for people := -1; people <= 6; people++ {
		is := people >= 1 && people <= 4
		if impl.LinksOk(people, nil) != is || impl.LinksOk(people, []impl.Link{}) != is {
			t.Error(people)
		}
	}
	for _, people := range wrongPeople {
		checkNoLinks(t, people, nil)
		checkNoLinks(t, people, []impl.Link{})
	}
	is, not := 0, 0
	checkExchanged := func(people int, links []impl.Link) {
		exchanged := slices.Clone(links)
		for place, l := range links {
			exchanged[place].Who, exchanged[place].Whom = l.Whom, l.Who
		}
		want := linksByRule(people, links)
		if impl.LinksOk(people, links) != want || impl.LinksOk(people, exchanged) != want {
			t.Fatal(people, links, want)
		}
		if want {
			is++
		} else {
			not++
		}
	}
	for people := range 6 {
		eachLinkRow(allLinks(-1, people), 2, func(links []impl.Link) { checkExchanged(people, links) })
	}
	eachLinks(checkExchanged)
	if is < 1000 || not < 1000 {
		t.Fatal("too few links", is, not)
	}
}

// Promise 76.
func TestFromLinksAloneNoStoryHasOneAnswer(t *testing.T) {
	none, some := 0, 0
	eachLinks(func(people int, links []impl.Link) {
		story, ok := impl.LinkStory(people, links)
		if !ok || !impl.StoryOk(people, story) || len(story) != len(links) {
			t.Fatal(people, links, story, ok)
		}
		table := impl.StoryTable(people, story)
		if !impl.TableOk(people, table) || impl.OppositeTable(people, table) != table {
			t.Fatal("opposite", people, links, table)
		}
		if world, ok := impl.OnlyWorld(people, story); ok || world != -1 {
			t.Fatal("only", people, links, world)
		}
		if table == 0 {
			none++
		} else {
			some++
		}
	})
	if none < 1000 || some < 1000 {
		t.Fatal("too few stories", none, some)
	}
}

// Promise 77.
func TestGroupsAreThoseOfLinks(t *testing.T) {
	pick := &picker{state: 67}
	linked, others := 0, 0
	eachLinks(func(people int, links []impl.Link) {
		groups := impl.LinkGroups(people, links)
		if len(groups) != people {
			t.Fatal(people, links, groups)
		}
		for _, l := range links {
			if groups[l.Who] != groups[l.Whom] {
				t.Fatal("two groups", people, links, groups)
			}
		}
		for person, least := range groups {
			if least < 0 || least > person || groups[least] != least {
				t.Fatal("not told by the least one", people, links, groups)
			}
			if least < person {
				linked++
			} else {
				others++
			}
		}
		turned := slices.Clone(links)
		slices.Reverse(turned)
		for range 2 {
			if got := impl.LinkGroups(people, turned); !slices.Equal(got, groups) {
				t.Fatal("other order", people, links, turned, got, groups)
			}
			if got := impl.LinkWorlds(people, turned); got != impl.LinkWorlds(people, links) {
				t.Fatal("other order", people, links, turned, got)
			}
			for place := range turned {
				other := pick.below(place + 1)
				turned[place], turned[other] = turned[other], turned[place]
			}
		}
	})
	if linked < 1000 || others < 1000 {
		t.Fatal("too few people", linked, others)
	}
}

// Promise 78.
func TestEachGroupHasTwoWorldsOrNone(t *testing.T) {
	counts := map[int]int{}
	eachLinks(func(people int, links []impl.Link) {
		worlds := impl.LinkWorlds(people, links)
		if all := power(countDistinct(impl.LinkGroups(people, links))); worlds != 0 && worlds != all {
			t.Fatal(people, links, worlds, all)
		}
		story, ok := impl.LinkStory(people, links)
		if list := impl.WorldsIn(people, impl.StoryTable(people, story)); !ok || len(list) != worlds {
			t.Fatal("worlds", people, links, worlds, list)
		}
		counts[worlds]++
	})
	if len(counts) != 5 || counts[0] < 1000 || counts[2] < 1000 || counts[4] < 1000 || counts[8] < 100 || counts[16] < 10 {
		t.Fatal("too few links", counts)
	}
}

// Promise 79.
func TestLinksThatCloseARoundAgreeOrClash(t *testing.T) {
	same, none, half, full := 0, 0, 0, 0
	eachLinks(func(people int, links []impl.Link) {
		groups, worlds := impl.LinkGroups(people, links), impl.LinkWorlds(people, links)
		for _, l := range allLinks(0, people-1) {
			longer := append(slices.Clone(links), l)
			got := impl.LinkWorlds(people, longer)
			switch {
			case len(longer) > impl.MaxClaims:
				full++
				checkNoLinks(t, people, longer)
			case groups[l.Who] == groups[l.Whom]:
				// Of both kinds one agrees, and the other one clashes.
				l.Tells = !l.Tells
				other := impl.LinkWorlds(people, append(slices.Clone(links), l))
				if got != worlds && got != 0 || got+other != worlds {
					t.Fatal("one group", people, longer, worlds, got, other)
				}
				if got == 0 {
					none++
				} else {
					same++
				}
			default:
				half++
				if 2*got != worlds {
					t.Fatal("two groups", people, longer, worlds, got)
				}
			}
		}
		if t.Failed() {
			t.FailNow()
		}
	})
	if same < 1000 || none < 1000 || half < 1000 || full < 1000 {
		t.Fatal("too few links", same, none, half, full)
	}
}

// The general rules: rows of terms and the terms are not written to, and what is made of them is new, and stays, whatever becomes of them.
func TestMadeStoriesAreNotShared(t *testing.T) {
	for world := range 8 {
		row, allMarks := withSpare(readRow(t, 3, "b|1"))
		other, otherMarks := withSpare(readRow(t, 3, "!2"))
		marksBefore, otherBefore := slices.Clone(allMarks), slices.Clone(otherMarks)
		// Some of the terms share one row, which the claims of a result may not.
		all := [][]impl.Mark{row, row, other, {{Kind: 7}}, {{Kind: 8}}}
		terms := all[:3]
		story, _ := madeOf(3, world, []*tree{treeOfRow(row), treeOfRow(row), treeOfRow(other)})
		want := claimsOf(story)
		first, _ := impl.MadeStory(3, world, terms)
		second, _ := impl.MadeStory(3, world, terms)
		spoilStory(first)
		if !slices.Equal(allMarks, marksBefore) || !slices.Equal(otherMarks, otherBefore) {
			t.Error("a term is written to", world, allMarks, otherMarks)
		}
		if &all[0][0] != &row[0] || &all[1][0] != &row[0] || &all[2][0] != &other[0] || !slices.Equal(all[3], []impl.Mark{{Kind: 7}}) || !slices.Equal(all[4], []impl.Mark{{Kind: 8}}) {
			t.Error("the row of terms is written to", world, all)
		}
		if !sameStory(second, want) {
			t.Fatal("two results share memory", world, second)
		}
		for place := range second {
			spoil(second[place].Says)
			for later := place + 1; later < 3; later++ {
				if !sameClaim(second[later], want[later]) {
					t.Error("two claims of a result share memory", world, second)
				}
			}
		}
		third, _ := impl.MadeStory(3, world, terms)
		spoil(row)
		spoil(other)
		all[0], all[1], all[2] = nil, nil, nil
		if !sameStory(third, want) {
			t.Error("a result follows the argument", world, third)
		}
		checkNoMadeStory(t, 3, world, terms)
	}
}

// The general rules: links are not written to, and what is told of them is new, and stays, whatever becomes of them.
func TestLinksAreNotShared(t *testing.T) {
	given := linksOf("d:b", "d:b", "c:!d")
	all := append(slices.Clone(given), linksOf("a:a", "b:!b")...)
	links := all[:3]
	before := slices.Clone(all)
	wantStory, wantGroups := claimsOf(saidLinks(given)), []int{0, 1, 1, 1}
	first, _ := impl.LinkStory(4, links)
	second, _ := impl.LinkStory(4, links)
	groups, otherGroups := impl.LinkGroups(4, links), impl.LinkGroups(4, links)
	if !impl.LinksOk(4, links) || impl.LinkWorlds(4, links) != 4 {
		t.Error(links)
	}
	spoilStory(first)
	spare := groups[:cap(groups)]
	for place := range spare {
		spare[place] = -7
	}
	if !slices.Equal(all, before) {
		t.Error("an argument is written to", all)
	}
	if !sameStory(second, wantStory) || !slices.Equal(otherGroups, wantGroups) {
		t.Fatal("two results share memory", second, otherGroups)
	}
	spoil(second[0].Says)
	if !sameClaim(second[1], wantStory[1]) || !sameClaim(second[2], wantStory[2]) {
		t.Error("two claims of a result share memory", second)
	}
	third, _ := impl.LinkStory(4, links)
	links[0], links[1], links[2] = link(9, 0, true), link(0, -1, true), link(0, 0, true)
	if !sameStory(third, wantStory) || !slices.Equal(otherGroups, wantGroups) {
		t.Error("a result follows the argument", third, otherGroups)
	}
	checkNoLinks(t, 4, links)
	checkLinks(t, 4, given, wantStory, wantGroups, 4)
}
