package tests

import (
	"slices"
	"testing"

	"loop.example/tellersandliars/impl"
)

// said is a claim that says a term as it hangs together, so that its worlds are told without the program.
type said struct {
	who  int
	says *tree
}

func (c said) claim() impl.Claim {
	return impl.Claim{Who: c.who, Says: c.says.marks()}
}

func (c said) text() string {
	return "abcd"[c.who:c.who+1] + ":" + c.says.text()
}

func (c said) size() int {
	return len(c.says.marks())
}

func (c said) denied() said {
	return said{c.who, notTree(c.says)}
}

func (c said) mirrored(people int) said {
	return said{c.who, c.says.mirrored(people)}
}

// may tells tellers and liars apart by cases, where the program compares two values.
func (c said) may(people, world int) bool {
	tells := tellsIn(people, world)
	if tells[c.who] {
		return c.says.holds(tells)
	}
	return !c.says.holds(tells)
}

func (c said) table(people int) int {
	return tableOfAll(people, []said{c})
}

// tableOfAll looks through all claims in each world, where the program goes through them claim by claim.
func tableOfAll(people int, story []said) int {
	var row []bool
	for world := range power(people) {
		row = append(row, !slices.ContainsFunc(story, func(c said) bool { return !c.may(people, world) }))
	}
	return worldOfRow(row)
}

func claimsOf(story []said) []impl.Claim {
	var list []impl.Claim
	for _, c := range story {
		list = append(list, c.claim())
	}
	return list
}

func textsOf(story []said) []string {
	var list []string
	for _, c := range story {
		list = append(list, c.text())
	}
	return list
}

func everyWorld(people int) int {
	return power(power(people)) - 1
}

// mostSaid is MaxMarks less 2.
const mostSaid = 13

// eachClaim calls f for all claims of short terms, and for some of each number of marks that a claim may have, of all numbers of people.
func eachClaim(f func(people int, c said)) {
	pick := &picker{state: 7}
	for people := 1; people <= impl.MaxPeople; people++ {
		for _, n := range treesOf(people, 3) {
			for who := range people {
				f(people, said{who, n})
			}
		}
		for size := 1; size <= mostSaid; size++ {
			for range 300 {
				n := pick.tree(people, size)
				for who := range people {
					f(people, said{who, n})
				}
			}
		}
	}
}

// claim picks a claim of at most MaxMarks less 2 marks.
func (p *picker) claim(people int) said {
	return said{p.below(people), p.tree(people, 1+p.below(mostSaid))}
}

// story picks a story that has a world, if each claim or its denial is short enough to be one.
func (p *picker) story(people, count int) []said {
	world := p.below(power(people))
	var story []said
	for range count {
		c := p.claim(people)
		if !c.may(people, world) && c.size() < mostSaid {
			c = c.denied()
		}
		story = append(story, c)
	}
	return story
}

// eachStory calls f for the story without claims, for all stories of one or two claims of the shortest terms, and for some of each number of claims, of all numbers of people.
func eachStory(f func(people int, story []said)) {
	pick := &picker{state: 11}
	for people := 1; people <= impl.MaxPeople; people++ {
		f(people, nil)
		var short []said
		for _, n := range treesOf(people, 2) {
			for who := range people {
				short = append(short, said{who, n})
			}
		}
		for _, first := range short {
			f(people, []said{first})
			for _, second := range short {
				f(people, []said{first, second})
			}
		}
		for count := 1; count <= impl.MaxClaims; count++ {
			for range 250 {
				f(people, pick.story(people, count))
				var free []said
				for range count {
					free = append(free, pick.claim(people))
				}
				f(people, free)
			}
		}
	}
}

// saysText is the claim that says a text's term, which has to be one.
func saysText(t *testing.T, people, who int, s string) impl.Claim {
	t.Helper()
	return impl.Claim{Who: who, Says: readRow(t, people, s)}
}

// storyOfTexts reads texts with the letter of who says it, and a colon, ahead.
func storyOfTexts(t *testing.T, people int, texts []string) []impl.Claim {
	t.Helper()
	var story []impl.Claim
	for _, s := range texts {
		story = append(story, saysText(t, people, int(s[0]-'a'), s[2:]))
	}
	return story
}

func sameClaim(a, b impl.Claim) bool {
	return a.Who == b.Who && slices.Equal(a.Says, b.Says)
}

// checkNoClaim tests what is returned for what is no claim, alone and in a story with others.
func checkNoClaim(t *testing.T, people int, c impl.Claim) {
	t.Helper()
	if impl.ClaimOk(people, c) {
		t.Error("ClaimOk", people, c)
	}
	for _, world := range []int{-1, 0, 1, 2, 3, 15, 16} {
		if impl.MaySay(people, c, world) {
			t.Error("MaySay", people, c, world)
		}
	}
	if got := impl.ClaimTerm(people, c); len(got) != 0 {
		t.Error("ClaimTerm", people, c, got)
	}
	if got := impl.ClaimTable(people, c); got != -1 {
		t.Error("ClaimTable", people, c, got)
	}
	if got, ok := impl.DenyClaim(people, c); ok || got.Who != 0 || len(got.Says) != 0 {
		t.Error("DenyClaim", people, c, got, ok)
	}
	checkNothingOdd(t, people, c)
	checkNotByKinds(t, people, c)
	is := impl.Claim{Says: tellsRow(0)}
	for _, story := range [][]impl.Claim{{c}, {c, c}, {c, is}, {is, c}, {is, c, is}, {c, is, is, is, is, is}, {is, is, is, is, is, c}} {
		checkNoStory(t, people, story)
	}
}

func checkNoStory(t *testing.T, people int, story []impl.Claim) {
	t.Helper()
	if impl.StoryOk(people, story) {
		t.Error("StoryOk", people, story)
	}
	if got := impl.StoryTable(people, story); got != -1 {
		t.Error("StoryTable", people, story, got)
	}
	checkNoAnswers(t, people, story)
	checkNoSpies(t, people, story)
}

func TestMaxClaims(t *testing.T) {
	if impl.MaxClaims != 6 || impl.MaxMarks-2 != mostSaid {
		t.Fatal("constants")
	}
}

func TestAllClaims(t *testing.T) {
	eachClaim(func(people int, c said) {
		claim := c.claim()
		if !impl.ClaimOk(people, claim) {
			t.Fatal("ClaimOk", people, c.text())
		}
		for world := range power(people) {
			if got := impl.MaySay(people, claim, world); got != c.may(people, world) {
				t.Fatal("MaySay", people, c.text(), world, got)
			}
		}
		if got := impl.ClaimTerm(people, claim); !slices.Equal(got, sameTree(personTree(c.who), c.says).marks()) {
			t.Fatal("ClaimTerm", people, c.text(), got)
		}
		if got := impl.ClaimTable(people, claim); got != c.table(people) {
			t.Fatal("ClaimTable", people, c.text(), got)
		}
		got, ok := impl.DenyClaim(people, claim)
		if c.size() == mostSaid {
			if ok || got.Who != 0 || len(got.Says) != 0 {
				t.Fatal("DenyClaim", people, c.text(), got, ok)
			}
		} else if !ok || !sameClaim(got, c.denied().claim()) {
			t.Fatal("DenyClaim", people, c.text(), got, ok)
		}
	})
}

func TestClaimExamples(t *testing.T) {
	for _, x := range []struct {
		people, who int
		s           string
		term        string
		table       int
	}{
		{1, 0, "a", "a=a", 3}, {1, 0, "!a", "a=!a", 0}, {1, 0, "0", "a=0", 2}, {1, 0, "1", "a=1", 3}, {1, 0, "2", "a=2", 1}, {1, 0, "a=a", "a=(a=a)", 2}, {1, 0, "a&!a", "a=a&!a", 1},
		{2, 0, "b", "a=b", 9}, {2, 1, "a", "b=a", 9}, {2, 0, "!b", "a=!b", 6}, {2, 1, "b", "b=b", 15}, {2, 1, "!b", "b=!b", 0}, {2, 0, "!a&!b", "a=!a&!b", 4}, {2, 0, "!a|!b", "a=!a|!b", 2},
		{2, 0, "a=b", "a=(a=b)", 12}, {2, 1, "a=b", "b=(a=b)", 10}, {2, 0, "!(a=b)", "a=!(a=b)", 3}, {2, 0, "0", "a=0", 10}, {2, 1, "0", "b=0", 12}, {2, 0, "3", "a=3", 5}, {2, 0, "1", "a=1", 11}, {2, 0, "2", "a=2", 13},
		{3, 0, "b=c", "a=(b=c)", 150}, {3, 2, "4", "c=4", 15}, {3, 2, "c", "c=c", 255}, {3, 0, "!b&!c", "a=!b&!c", 86},
		{4, 3, "d", "d=d", 65535}, {4, 3, "!d", "d=!d", 0}, {4, 2, "0", "c=0", 61680}, {4, 3, "5", "d=5", 255},
	} {
		c := saysText(t, x.people, x.who, x.s)
		if !impl.ClaimOk(x.people, c) {
			t.Error("ClaimOk", x.people, x.who, x.s)
		}
		if got := impl.TermText(x.people, impl.ClaimTerm(x.people, c)); got != x.term {
			t.Error("ClaimTerm", x.people, x.who, x.s, got)
		}
		if got := impl.ClaimTable(x.people, c); got != x.table {
			t.Error("ClaimTable", x.people, x.who, x.s, got)
		}
		denied, ok := impl.DenyClaim(x.people, c)
		if got := impl.ClaimTable(x.people, denied); !ok || got != everyWorld(x.people)-x.table {
			t.Error("DenyClaim", x.people, x.who, x.s, got, ok)
		}
	}
}

func TestClaimsOfOneself(t *testing.T) {
	for people := 1; people <= impl.MaxPeople; people++ {
		for who := range people {
			for count := range mostSaid {
				c := said{who, nots(count, personTree(who))}
				want := everyWorld(people)
				if count%2 == 1 {
					want = 0
				}
				if got := impl.ClaimTable(people, c.claim()); got != want {
					t.Error("ClaimTable", people, c.text(), got)
				}
				if got := impl.StoryTable(people, []impl.Claim{c.claim()}); got != want {
					t.Error("StoryTable", people, c.text(), got)
				}
				for world := range power(people) {
					if got := impl.MaySay(people, c.claim(), world); got != (want != 0) {
						t.Error("MaySay", people, c.text(), world, got)
					}
				}
			}
		}
	}
}

// What always holds is said by tellers alone, and what never does by liars alone.
func TestClaimsThatAlwaysOrNeverHold(t *testing.T) {
	for people := 1; people <= impl.MaxPeople; people++ {
		for who := range people {
			tellers := personTree(who).table(people)
			a := personTree(people - 1)
			for _, always := range []*tree{countTree(0), notTree(countTree(people + 1)), orTree(a, notTree(a)), sameTree(a, a)} {
				c := said{who, always}
				if got := impl.ClaimTable(people, c.claim()); got != tellers {
					t.Error(people, c.text(), got)
				}
				if got := impl.ClaimTable(people, c.denied().claim()); got != everyWorld(people)-tellers {
					t.Error(people, c.denied().text(), got)
				}
			}
		}
	}
}

func TestMostMarksOfClaims(t *testing.T) {
	for people := 1; people <= impl.MaxPeople; people++ {
		for who := range people {
			for size := 1; size <= 40; size++ {
				n := nots(size-1, countTree(people+1))
				checkSizeOfClaim(t, people, said{who, n})
			}
			for kind := impl.MarkAnd; kind <= impl.MarkSame; kind++ {
				for _, left := range []bool{true, false} {
					for _, count := range []int{6, 7, 8, 9, 500} {
						checkSizeOfClaim(t, people, said{who, chain(kind, count, left)})
						checkSizeOfClaim(t, people, said{who, notTree(chain(kind, count, left))})
					}
				}
			}
		}
	}
}

func checkSizeOfClaim(t *testing.T, people int, c said) {
	t.Helper()
	if c.size() > mostSaid {
		checkNoClaim(t, people, c.claim())
		return
	}
	if !impl.ClaimOk(people, c.claim()) || impl.ClaimTable(people, c.claim()) != c.table(people) || len(impl.ClaimTerm(people, c.claim())) != c.size()+2 {
		t.Error(people, c.text())
	}
	if denied, ok := impl.DenyClaim(people, c.claim()); ok != (c.size() < mostSaid) || impl.ClaimOk(people, denied) != ok {
		t.Error("DenyClaim", people, c.text(), denied, ok)
	}
}

func TestClaimsRefuse(t *testing.T) {
	a, not := impl.Mark{}, impl.Mark{Kind: impl.MarkNot}
	for _, people := range wrongPeople {
		for _, says := range [][]impl.Mark{nil, tellsRow(0), countRow(0), countRow(1)} {
			for _, who := range []int{0, 1, -1, people - 1} {
				checkNoClaim(t, people, impl.Claim{Who: who, Says: says})
			}
		}
	}
	for people := 1; people <= impl.MaxPeople; people++ {
		for _, who := range append([]int{-4, -3, people, people + 1, 4, 5, 8, 16, 63, 64, 65}, farNumbers...) {
			checkNoClaim(t, people, impl.Claim{Who: who})
			checkNoClaim(t, people, impl.Claim{Who: who, Says: tellsRow(0)})
			checkNoClaim(t, people, impl.Claim{Who: who, Says: countRow(0)})
			checkNoClaim(t, people, impl.Claim{Who: who, Says: []impl.Mark{a, not}})
		}
		for who := range people {
			checkNoClaim(t, people, impl.Claim{Who: who})
			for _, says := range [][]impl.Mark{{}, {not}, {not, a}, {a, a}, {a, a, not}, tellsRow(people), tellsRow(-1), countRow(people + 2), countRow(-1), {{Kind: 6}}, {{Kind: -1}}, {a, {Kind: impl.MarkNot, At: 1}}, {a, {Kind: impl.MarkSame}}, {a, a, a, {Kind: impl.MarkSame}}} {
				checkNoClaim(t, people, impl.Claim{Who: who, Says: says})
			}
			for _, number := range farNumbers {
				checkNoClaim(t, people, impl.Claim{Who: who, Says: tellsRow(number)})
				checkNoClaim(t, people, impl.Claim{Who: who, Says: countRow(number)})
				checkNoClaim(t, people, impl.Claim{Who: who, Says: []impl.Mark{{Kind: number}}})
			}
		}
	}
}

func TestClaimsOfAllShortRows(t *testing.T) {
	marks := []impl.Mark{{Kind: 0}, {Kind: 0, At: 1}, {Kind: 1}, {Kind: 2}, {Kind: 3}, {Kind: 4}, {Kind: 5}}
	for people := 1; people <= 2; people++ {
		eachRow(marks, 5, func(row []impl.Mark) {
			for who := -1; who <= 2; who++ {
				c := impl.Claim{Who: who, Says: row}
				is := termByRule(people, row) && who >= 0 && who < people
				if impl.ClaimOk(people, c) != is || (impl.ClaimTable(people, c) != -1) != is || (len(impl.ClaimTerm(people, c)) != 0) != is {
					t.Fatal(people, c)
				}
				if denied, ok := impl.DenyClaim(people, c); ok != is || !ok && (denied.Who != 0 || len(denied.Says) != 0) {
					t.Fatal("DenyClaim", people, c, denied, ok)
				}
				if impl.StoryOk(people, []impl.Claim{c}) != is || !is && (impl.MaySay(people, c, 0) || impl.MaySay(people, c, 1)) {
					t.Fatal(people, c)
				}
			}
		})
	}
}

// A claim of some people may be none of fewer, and its worlds may be none of theirs.
func TestClaimsOfOtherPeople(t *testing.T) {
	for people := 1; people <= impl.MaxPeople; people++ {
		last := people - 1
		for _, world := range append([]int{power(people), power(people) + 1, 16, 31, 63, 64, 65}, farNumbers...) {
			for _, n := range []*tree{personTree(last), countTree(0), countTree(people + 1), notTree(personTree(last))} {
				if c := (said{last, n}); impl.MaySay(people, c.claim(), world) {
					t.Error(people, c.text(), world)
				}
			}
		}
		if !impl.MaySay(people, said{last, countTree(0)}.claim(), power(people)-1) || impl.MaySay(people, said{last, countTree(0)}.claim(), 0) {
			t.Error(people)
		}
		for fewer := 1; fewer < people; fewer++ {
			checkNoClaim(t, fewer, said{last, countTree(0)}.claim())
			checkNoClaim(t, fewer, said{0, personTree(last)}.claim())
			checkNoClaim(t, fewer, said{0, countTree(people + 1)}.claim())
		}
	}
}

func TestStoryExamples(t *testing.T) {
	for _, x := range []struct {
		people int
		texts  []string
		table  int
	}{
		{1, nil, 3}, {2, nil, 15}, {3, nil, 255}, {4, nil, 65535},
		{1, []string{"a:a"}, 3}, {1, []string{"a:!a"}, 0}, {1, []string{"a:0"}, 2}, {1, []string{"a:2"}, 1}, {1, []string{"a:0", "a:2"}, 0}, {1, []string{"a:1", "a:a", "a:0"}, 2},
		{2, []string{"a:!a&!b"}, 4}, {2, []string{"a:!a&!b", "b:0"}, 4}, {2, []string{"a:b", "b:!a"}, 0}, {2, []string{"a:b", "b:a"}, 9}, {2, []string{"a:!b", "b:!a"}, 6}, {2, []string{"a:0", "b:3"}, 2}, {2, []string{"a:a", "b:b"}, 15},
		{2, []string{"a:b", "a:b"}, 9}, {2, []string{"a:b", "a:!b"}, 0}, {2, []string{"a:a", "a:!a"}, 0}, {2, []string{"a:b", "a:a&b"}, 9}, {2, []string{"a:b", "a:0"}, 8},
		{3, []string{"a:!b", "b:!c"}, 36}, {3, []string{"a:!b", "b:!c", "c:!a"}, 0}, {3, []string{"a:!b&!c", "b:a", "c:!a|!b"}, 16}, {3, []string{"a:b", "b:c", "c:a"}, 129},
		{4, []string{"a:1&!2", "b:2&!3", "c:3&!4", "d:4"}, 3}, {4, []string{"a:b", "b:c", "c:d", "d:a"}, 32769}, {4, []string{"a:0", "b:0", "c:0", "d:0", "a:a", "b:b"}, 32768}, {4, []string{"a:5", "b:5", "c:5", "d:5", "a:a", "d:0"}, 0},
	} {
		story := storyOfTexts(t, x.people, x.texts)
		if !impl.StoryOk(x.people, story) {
			t.Error("StoryOk", x.people, x.texts)
		}
		if got := impl.StoryTable(x.people, story); got != x.table {
			t.Error("StoryTable", x.people, x.texts, got)
		}
	}
}

func TestAllStories(t *testing.T) {
	none, one, more := 0, 0, 0
	eachStory(func(people int, story []said) {
		claims := claimsOf(story)
		if !impl.StoryOk(people, claims) {
			t.Fatal("StoryOk", people, textsOf(story))
		}
		want := tableOfAll(people, story)
		if got := impl.StoryTable(people, claims); got != want {
			t.Fatal("StoryTable", people, textsOf(story), got)
		}
		switch len(membersOf(want)) {
		case 0:
			none++
		case 1:
			one++
		default:
			more++
		}
	})
	if none < 1000 || one < 1000 || more < 1000 {
		t.Fatal("too few stories", none, one, more)
	}
}

func TestMostClaims(t *testing.T) {
	for people := 1; people <= impl.MaxPeople; people++ {
		for count := range 20 {
			story := slices.Repeat([]impl.Claim{said{people - 1, personTree(0)}.claim()}, count)
			if count > 6 {
				checkNoStory(t, people, story)
			} else if !impl.StoryOk(people, story) || count > 0 && impl.StoryTable(people, story) != impl.ClaimTable(people, story[0]) {
				t.Error(people, count)
			}
		}
		checkNoStory(t, people, slices.Repeat([]impl.Claim{said{0, personTree(0)}.claim()}, 5000))
	}
}

// Each place of a story counts: a claim there that is never made takes all worlds, whatever stands at the others.
func TestEachClaimOfAStoryCounts(t *testing.T) {
	for people := 1; people <= impl.MaxPeople; people++ {
		for count := 1; count <= impl.MaxClaims; count++ {
			for place := range count {
				story := slices.Repeat([]impl.Claim{said{0, personTree(0)}.claim()}, count)
				if got := impl.StoryTable(people, story); got != everyWorld(people) {
					t.Error(people, count, got)
				}
				story[place] = said{people - 1, countTree(0)}.claim()
				if got := impl.StoryTable(people, story); got != personTree(people-1).table(people) {
					t.Error(people, count, place, got)
				}
				story[place] = said{people - 1, notTree(personTree(people - 1))}.claim()
				if got := impl.StoryTable(people, story); got != 0 {
					t.Error(people, count, place, got)
				}
			}
		}
	}
}

func TestStoriesRefuse(t *testing.T) {
	is := impl.Claim{Says: tellsRow(0)}
	for _, people := range wrongPeople {
		for _, story := range [][]impl.Claim{nil, {}, {is}, {is, is}, slices.Repeat([]impl.Claim{is}, 7)} {
			checkNoStory(t, people, story)
		}
	}
	for people := 1; people <= impl.MaxPeople; people++ {
		for _, none := range []impl.Claim{{}, {Who: -1, Says: tellsRow(0)}, {Who: people, Says: tellsRow(0)}, {Says: tellsRow(people)}, {Says: countRow(people + 2)}, said{0, nots(mostSaid, personTree(0))}.claim()} {
			for count := 1; count <= impl.MaxClaims; count++ {
				for place := range count {
					story := slices.Repeat([]impl.Claim{is}, count)
					story[place] = none
					checkNoStory(t, people, story)
					// What is no story has no table, even if a claim of it is never made.
					story[0] = said{0, notTree(personTree(0))}.claim()
					story[place] = none
					checkNoStory(t, people, story)
				}
			}
		}
	}
}

// Promise 22.
func TestEverybodyCanSayToTellTheTruth(t *testing.T) {
	for people := 1; people <= impl.MaxPeople; people++ {
		for who := range people {
			for whom := range people {
				if !impl.ClaimOk(people, impl.Claim{Who: who, Says: tellsRow(whom)}) {
					t.Error(people, who, whom)
				}
			}
			if got := impl.ClaimTable(people, impl.Claim{Who: who, Says: tellsRow(who)}); got != everyWorld(people) {
				t.Error(people, who, got)
			}
			checkNoClaim(t, people, impl.Claim{Who: who, Says: tellsRow(people)})
		}
		checkNoClaim(t, people, impl.Claim{Who: people, Says: tellsRow(people - 1)})
	}
	eachClaim(func(people int, c said) {
		if !impl.ClaimOk(people, c.claim()) || !impl.ClaimOk(people, impl.Claim{Who: c.who, Says: countRow(0)}) {
			t.Fatal(people, c.text())
		}
	})
}

// Promise 23.
func TestEitherItIsSaidOrItIsDenied(t *testing.T) {
	denials, mirrors := 0, 0
	eachClaim(func(people int, c said) {
		denied, isDenied := impl.DenyClaim(people, c.claim())
		says, told := impl.MirrorTerm(people, c.claim().Says)
		mirrored := impl.Claim{Who: c.who, Says: says}
		isMirrored := told && impl.ClaimOk(people, mirrored)
		for world := range power(people) {
			may := impl.MaySay(people, c.claim(), world)
			if isDenied && impl.MaySay(people, denied, world) == may {
				t.Fatal("denied", people, c.text(), world)
			}
			if isMirrored && impl.MaySay(people, mirrored, impl.OppositeWorld(people, world)) == may {
				t.Fatal("mirrored", people, c.text(), world)
			}
		}
		if isDenied {
			denials++
		}
		if isMirrored {
			mirrors++
		}
	})
	if denials < 1000 || mirrors < 1000 {
		t.Fatal("too few claims", denials, mirrors)
	}
}

// Promise 24.
func TestAClaimIsAnEquivalence(t *testing.T) {
	eachClaim(func(people int, c said) {
		term := impl.ClaimTerm(people, c.claim())
		if !impl.TermOk(people, term) {
			t.Fatal(people, c.text(), term)
		}
		for world := range power(people) {
			if impl.HoldsIn(people, term, world) != impl.MaySay(people, c.claim(), world) {
				t.Fatal(people, c.text(), world)
			}
		}
	})
}

// Promise 25.
func TestSaidAndDeniedAreAllWorlds(t *testing.T) {
	told, refused := 0, 0
	eachClaim(func(people int, c said) {
		table := impl.ClaimTable(people, c.claim())
		if !impl.TableOk(people, table) || table != impl.TableOf(people, impl.ClaimTerm(people, c.claim())) {
			t.Fatal(people, c.text(), table)
		}
		denied, is := impl.DenyClaim(people, c.claim())
		if !is {
			refused++
			return
		}
		told++
		if got := impl.ClaimTable(people, denied); got != everyWorld(people)-table {
			t.Fatal("denied", people, c.text(), got)
		}
	})
	if told < 1000 || refused < 1000 {
		t.Fatal("too few claims", told, refused)
	}
}

// Promise 26.
func TestDeniedTwiceItIsTheSame(t *testing.T) {
	once, twice := 0, 0
	eachClaim(func(people int, c said) {
		claim := c.claim()
		denied, ok := impl.DenyClaim(people, claim)
		if ok != (c.size() < mostSaid) {
			t.Fatal(people, c.text(), ok)
		}
		if !ok {
			return
		}
		once++
		if !impl.ClaimOk(people, denied) || denied.Who != c.who || len(denied.Says) != c.size()+1 || !slices.Equal(denied.Says[:c.size()], claim.Says) || denied.Says[c.size()] != (impl.Mark{Kind: impl.MarkNot}) {
			t.Fatal(people, c.text(), denied)
		}
		again, ok := impl.DenyClaim(people, denied)
		if ok != (c.size() < mostSaid-1) {
			t.Fatal("again", people, c.text(), ok)
		}
		if ok {
			twice++
			if impl.ClaimTable(people, again) != impl.ClaimTable(people, claim) {
				t.Fatal("again", people, c.text(), again)
			}
		}
	})
	if twice < 1000 || once-twice < 1000 {
		t.Fatal("too few claims", once, twice)
	}
}

// Promise 27.
func TestStoriesWithoutClaimsAreStories(t *testing.T) {
	for people := 1; people <= impl.MaxPeople; people++ {
		if !impl.StoryOk(people, nil) || !impl.StoryOk(people, []impl.Claim{}) {
			t.Error(people)
		}
	}
	for _, people := range wrongPeople {
		checkNoStory(t, people, nil)
		checkNoStory(t, people, []impl.Claim{})
	}
	eachStory(func(people int, story []said) {
		claims := claimsOf(story)
		for count := len(claims); count >= 0; count-- {
			if !impl.StoryOk(people, claims[:count]) {
				t.Fatal(people, textsOf(story), count)
			}
		}
	})
}

// Promise 28.
func TestStoriesAreToldInAnyOrder(t *testing.T) {
	for people := 1; people <= impl.MaxPeople; people++ {
		if impl.StoryTable(people, nil) != everyWorld(people) || impl.StoryTable(people, []impl.Claim{}) != everyWorld(people) {
			t.Error(people)
		}
	}
	eachStory(func(people int, story []said) {
		claims := claimsOf(story)
		table := impl.StoryTable(people, claims)
		for world := range power(people) {
			inAll := !slices.ContainsFunc(claims, func(c impl.Claim) bool {
				return !slices.Contains(membersOf(impl.ClaimTable(people, c)), world)
			})
			if slices.Contains(membersOf(table), world) != inAll {
				t.Fatal(people, textsOf(story), table, world)
			}
		}
		slices.Reverse(claims)
		if got := impl.StoryTable(people, claims); got != table {
			t.Fatal("back", people, textsOf(story), got, table)
		}
		for range claims {
			claims = append(claims[1:], claims[0])
			if got := impl.StoryTable(people, claims); got != table {
				t.Fatal("turned", people, textsOf(story), got, table)
			}
		}
	})
}

// The same claim twice is that claim, and beside its denial it leaves no world.
func TestAClaimTwiceOrDenied(t *testing.T) {
	eachClaim(func(people int, c said) {
		claim := c.claim()
		if got := impl.StoryTable(people, []impl.Claim{claim, claim}); got != c.table(people) {
			t.Fatal(people, c.text(), got)
		}
		if denied, is := impl.DenyClaim(people, claim); is && (impl.StoryTable(people, []impl.Claim{claim, denied}) != 0 || impl.StoryTable(people, []impl.Claim{denied, claim}) != 0) {
			t.Fatal("denied", people, c.text())
		}
	})
}

// Promise 29.
func TestTwoClaimsByOnePersonAreOneOfBothOrNone(t *testing.T) {
	told, who := 0, 0
	eachPair(func(people int, a, b *tree) {
		who = (who + 1) % people
		first, second := said{who, a}, said{who, b}
		if first.size() > mostSaid || second.size() > mostSaid {
			checkNoStory(t, people, claimsOf([]said{first, second}))
			return
		}
		told++
		got := impl.StoryTable(people, claimsOf([]said{first, second}))
		one, other := impl.TableOf(people, a.marks()), impl.TableOf(people, b.marks())
		sameTruth := everyWorld(people) - (one ^ other)
		if want := impl.ClaimTable(people, first.claim()) & sameTruth; got != want {
			t.Fatal(people, first.text(), second.text(), got, want)
		}
	})
	if told < 1000 {
		t.Fatal("too few pairs", told)
	}
}

// Promise 30.
func TestMirroredClaimsAreDeniedInOppositeWorlds(t *testing.T) {
	told, untold, tooLong := 0, 0, 0
	eachClaim(func(people int, c said) {
		says, is := impl.MirrorTerm(people, c.claim().Says)
		mirrored := impl.Claim{Who: c.who, Says: says}
		switch {
		case !is:
			untold++
			checkNoClaim(t, people, mirrored)
		case len(says) > mostSaid:
			tooLong++
			checkNoClaim(t, people, mirrored)
		default:
			told++
			table, turned := impl.ClaimTable(people, c.claim()), impl.OppositeTable(people, impl.ClaimTable(people, mirrored))
			if table&turned != 0 || table|turned != everyWorld(people) || !sameClaim(mirrored, c.mirrored(people).claim()) {
				t.Fatal(people, c.text(), table, turned)
			}
		}
	})
	if told < 1000 || untold < 1000 || tooLong < 1000 {
		t.Fatal("too few claims", told, untold, tooLong)
	}
}

// The general rules: claims are not written to, and what is told of them is new.
func TestClaimsAreNotShared(t *testing.T) {
	row, all := withSpare(orTree(personTree(0), countTree(1)).marks())
	before := slices.Clone(all)
	c := impl.Claim{Who: 1, Says: row}
	story := []impl.Claim{c, {Who: 0, Says: row}, {Who: 7, Says: row}}
	if !impl.ClaimOk(2, c) || !impl.MaySay(2, c, 0) || impl.ClaimTable(2, c) != 13 || !impl.StoryOk(2, story[:2]) || impl.StoryTable(2, story[:2]) != 9 {
		t.Error(c)
	}
	term, otherTerm := impl.ClaimTerm(2, c), impl.ClaimTerm(2, c)
	denied, _ := impl.DenyClaim(2, c)
	otherDenied, _ := impl.DenyClaim(2, c)
	if !slices.Equal(all, before) || c.Who != 1 || story[0].Who != 1 || story[1].Who != 0 || story[2].Who != 7 {
		t.Error("an argument is written to", all, story)
	}
	spoil(term)
	spoil(denied.Says)
	if !slices.Equal(all, before) {
		t.Error("a result shares memory with the argument", all)
	}
	if impl.TermText(2, otherTerm) != "b=a|1" || otherDenied.Who != 1 || impl.TermText(2, otherDenied.Says) != "!(a|1)" {
		t.Error("two results share memory", otherTerm, otherDenied)
	}
	if impl.TermText(2, impl.ClaimTerm(2, c)) != "b=a|1" || impl.StoryTable(2, story[:2]) != 9 {
		t.Error("state is kept")
	}
}
