package tests

import (
	"slices"
	"testing"

	"loop.example/tellersandliars/impl"
)

// leaveOut is a story without the claim at a place.
func leaveOut(story []said, place int) []said {
	return slices.Concat(story[:place], story[place+1:])
}

// neededBeside looks for a world that just this claim takes away, where the program compares tables.
func neededBeside(people int, others []said, c said) bool {
	for _, world := range membersOf(tableOfAll(people, others)) {
		if !c.may(people, world) {
			return true
		}
	}
	return false
}

func needlessOf(people int, story []said) []int {
	var places []int
	for place, c := range story {
		if !neededBeside(people, leaveOut(story, place), c) {
			places = append(places, place)
		}
	}
	return places
}

// leastOf holds each claim against those before it that were kept, and all behind it.
func leastOf(people int, story []said) []said {
	var kept []said
	for place, c := range story {
		if neededBeside(people, slices.Concat(kept, story[place+1:]), c) {
			kept = append(kept, c)
		}
	}
	return kept
}

// knownOf counts the worlds in which each person tells the truth, where the program folds the worlds as numbers.
func knownOf(people int, worlds []int) []int {
	if len(worlds) == 0 {
		return nil
	}
	tellings := make([]int, people)
	for _, world := range worlds {
		for person, tells := range tellsIn(people, world) {
			if tells {
				tellings[person]++
			}
		}
	}
	known := make([]int, people)
	for person, count := range tellings {
		switch count {
		case len(worlds):
			known[person] = 1
		case 0:
		default:
			known[person] = -1
		}
	}
	return known
}

// onlyOf is the only world of some, or -1.
func onlyOf(worlds []int) int {
	if len(worlds) == 1 {
		return worlds[0]
	}
	return -1
}

func sameStory(a, b []impl.Claim) bool {
	return slices.EqualFunc(a, b, sameClaim)
}

// eachTold calls f for the stories of eachStory, and for some in which few claims, and their denials, are made again and again.
func eachTold(f func(people int, story []said)) {
	eachStory(f)
	pick := &picker{state: 13}
	for people := 1; people <= impl.MaxPeople; people++ {
		for count := 2; count <= impl.MaxClaims; count++ {
			for range 250 {
				few := pick.story(people, 1+pick.below(3))
				var story []said
				for range count {
					c := few[pick.below(len(few))]
					if pick.below(10) == 0 && c.size() < mostSaid {
						c = c.denied()
					}
					story = append(story, c)
				}
				f(people, story)
			}
		}
	}
}

// thereTree holds in one world alone. That nobody tells the truth is told by a count, as it is too long for a claim of MaxPeople people else.
func thereTree(people, world int) *tree {
	if world == 0 {
		return notTree(countTree(1))
	}
	var there *tree
	for person, tells := range tellsIn(people, world) {
		part := personTree(person)
		if !tells {
			part = notTree(part)
		}
		if there == nil {
			there = part
		} else {
			there = andTree(there, part)
		}
	}
	return there
}

// withoutWorld is a claim that may be made in all worlds but one: who says it says that to tell the truth is the same as not to be there.
func withoutWorld(people, who, world int) said {
	return said{who, sameTree(personTree(who), notTree(thereTree(people, world)))}
}

// checkNoAnswers tests what is returned for what is no story.
func checkNoAnswers(t *testing.T, people int, story []impl.Claim) {
	t.Helper()
	if impl.ClashOk(people, story) {
		t.Error("ClashOk", people, story)
	}
	if got, ok := impl.OnlyWorld(people, story); ok || got != -1 {
		t.Error("OnlyWorld", people, story, got, ok)
	}
	if got := impl.KnownPeople(people, story); len(got) != 0 {
		t.Error("KnownPeople", people, story, got)
	}
	if got := impl.NeedlessClaims(people, story); len(got) != 0 {
		t.Error("NeedlessClaims", people, story, got)
	}
	if got, ok := impl.LeastStory(people, story); ok || len(got) != 0 {
		t.Error("LeastStory", people, story, got, ok)
	}
}

// answers are what the five functions are to tell of a story.
type answers struct {
	clash    bool
	only     int
	known    []int
	needless []int
	least    []impl.Claim
}

func checkAnswers(t *testing.T, people int, story []impl.Claim, texts []string, want answers) {
	t.Helper()
	if got := impl.ClashOk(people, story); got != want.clash {
		t.Error("ClashOk", people, texts, got)
	}
	if got, ok := impl.OnlyWorld(people, story); got != want.only || ok != (want.only != -1) {
		t.Error("OnlyWorld", people, texts, got, ok)
	}
	if got := impl.KnownPeople(people, story); !slices.Equal(got, want.known) {
		t.Error("KnownPeople", people, texts, got)
	}
	if got := impl.NeedlessClaims(people, story); !slices.Equal(got, want.needless) {
		t.Error("NeedlessClaims", people, texts, got)
	}
	if got, ok := impl.LeastStory(people, story); !ok || !sameStory(got, want.least) {
		t.Error("LeastStory", people, texts, got, ok)
	}
}

func TestAnswersOfAllStories(t *testing.T) {
	kinds := map[string]int{}
	eachTold(func(people int, story []said) {
		table := tableOfAll(people, story)
		worlds := membersOf(table)
		least := leastOf(people, story)
		want := answers{table == 0, onlyOf(worlds), knownOf(people, worlds), needlessOf(people, story), claimsOf(least)}
		checkAnswers(t, people, claimsOf(story), textsOf(story), want)
		if t.Failed() {
			t.FailNow()
		}
		count := func(kind string, is bool) {
			if is {
				kinds[kind]++
			}
		}
		count("no world", len(worlds) == 0)
		count("one world", len(worlds) == 1)
		count("several worlds", len(worlds) > 1 && table != everyWorld(people))
		count("all worlds", table == everyWorld(people))
		count("known beside unknown", slices.Contains(want.known, 1) && slices.Contains(want.known, -1))
		count("none needless", len(story) > 0 && len(want.needless) == 0)
		count("all needless, but not together", len(story) > 0 && len(want.needless) == len(story) && len(least) > 0)
		count("some needed once others are left out", len(want.needless) > len(story)-len(least))
		count("shortened without a world", table == 0 && len(least) < len(story))
	})
	if len(kinds) != 9 {
		t.Fatal(kinds)
	}
	for kind, count := range kinds {
		if count < 500 {
			t.Error("too few stories", kind, count)
		}
	}
}

func TestAnswerExamples(t *testing.T) {
	for _, x := range []struct {
		people   int
		texts    []string
		clash    bool
		only     int
		known    []int
		needless []int
		least    []string
	}{
		{1, nil, false, -1, []int{-1}, nil, nil},
		{1, []string{"a:a"}, false, -1, []int{-1}, []int{0}, nil},
		{1, []string{"a:!a"}, true, -1, nil, nil, []string{"a:!a"}},
		{1, []string{"a:0"}, false, 1, []int{1}, nil, []string{"a:0"}},
		{1, []string{"a:2"}, false, 0, []int{0}, nil, []string{"a:2"}},
		{1, []string{"a:0", "a:2"}, true, -1, nil, nil, []string{"a:0", "a:2"}},
		{1, []string{"a:!a", "a:0"}, true, -1, nil, []int{1}, []string{"a:!a"}},
		{1, []string{"a:0", "a:2", "a:!a"}, true, -1, nil, []int{0, 1, 2}, []string{"a:!a"}},
		{1, []string{"a:!a", "a:0", "a:2"}, true, -1, nil, []int{0, 1, 2}, []string{"a:0", "a:2"}},
		{1, []string{"a:0", "a:a", "a:0"}, false, 1, []int{1}, []int{0, 1, 2}, []string{"a:0"}},

		{2, nil, false, -1, []int{-1, -1}, nil, nil},
		{2, []string{"a:a", "b:b"}, false, -1, []int{-1, -1}, []int{0, 1}, nil},
		{2, []string{"a:!a&!b", "b:0"}, false, 2, []int{0, 1}, []int{1}, []string{"a:!a&!b"}},
		{2, []string{"b:0", "a:!a&!b"}, false, 2, []int{0, 1}, []int{0}, []string{"a:!a&!b"}},
		{2, []string{"b:0"}, false, -1, []int{-1, 1}, nil, []string{"b:0"}},
		{2, []string{"b:3"}, false, -1, []int{-1, 0}, nil, []string{"b:3"}},
		{2, []string{"a:0", "b:3"}, false, 1, []int{1, 0}, nil, []string{"a:0", "b:3"}},
		{2, []string{"a:!a|!b"}, false, 1, []int{1, 0}, nil, []string{"a:!a|!b"}},
		{2, []string{"a:b"}, false, -1, []int{-1, -1}, nil, []string{"a:b"}},
		{2, []string{"a:b", "b:a"}, false, -1, []int{-1, -1}, []int{0, 1}, []string{"b:a"}},
		{2, []string{"a:b", "b:!a"}, true, -1, nil, nil, []string{"a:b", "b:!a"}},
		{2, []string{"a:b", "a:!b"}, true, -1, nil, nil, []string{"a:b", "a:!b"}},
		{2, []string{"a:b", "a:b", "a:!b"}, true, -1, nil, []int{0, 1}, []string{"a:b", "a:!b"}},
		{2, []string{"a:b", "a:b"}, false, -1, []int{-1, -1}, []int{0, 1}, []string{"a:b"}},
		{2, []string{"a:!a|b", "a:0", "b:a"}, false, 3, []int{1, 1}, []int{0, 1, 2}, []string{"a:0", "b:a"}},
		{2, []string{"b:a", "a:0", "a:!a|b"}, false, 3, []int{1, 1}, []int{0, 1, 2}, []string{"a:!a|b"}},

		{3, []string{"a:!a|!b"}, false, -1, []int{1, 0, -1}, nil, []string{"a:!a|!b"}},
		{3, []string{"a:b", "b:c", "c:a"}, false, -1, []int{-1, -1, -1}, []int{0, 1, 2}, []string{"b:c", "c:a"}},
		{3, []string{"a:!b", "b:!c", "c:!a"}, true, -1, nil, nil, []string{"a:!b", "b:!c", "c:!a"}},
		{3, []string{"a:!b&!c", "b:a", "c:!a|!b"}, false, 4, []int{0, 0, 1}, []int{2}, []string{"a:!b&!c", "b:a"}},
		{3, []string{"a:0", "a:b", "a:!c"}, false, 3, []int{1, 1, 0}, nil, []string{"a:0", "a:b", "a:!c"}},
		{3, []string{"a:0", "a:b", "a:c", "b:c", "c:a", "b:a"}, false, 7, []int{1, 1, 1}, []int{1, 2, 3, 4, 5}, []string{"a:0", "c:a", "b:a"}},

		{4, nil, false, -1, []int{-1, -1, -1, -1}, nil, nil},
		{4, []string{"a:0", "b:0", "c:0", "d:0", "a:a", "b:b"}, false, 15, []int{1, 1, 1, 1}, []int{4, 5}, []string{"a:0", "b:0", "c:0", "d:0"}},
		{4, []string{"a:5", "b:5", "c:5", "d:5"}, false, 0, []int{0, 0, 0, 0}, nil, []string{"a:5", "b:5", "c:5", "d:5"}},
		{4, []string{"d:0", "b:5"}, false, -1, []int{-1, 0, -1, 1}, nil, []string{"d:0", "b:5"}},
		{4, []string{"a:b", "b:c", "c:d", "d:a"}, false, -1, []int{-1, -1, -1, -1}, []int{0, 1, 2, 3}, []string{"b:c", "c:d", "d:a"}},
	} {
		want := answers{x.clash, x.only, x.known, x.needless, storyOfTexts(t, x.people, x.least)}
		checkAnswers(t, x.people, storyOfTexts(t, x.people, x.texts), x.texts, want)
	}
}

// Each table that at most MaxClaims claims without one world each leave: all of two people at most, and of three all with two worlds at least.
func TestAnswersOfAllTables(t *testing.T) {
	tables, most := 0, 0
	for people := 1; people <= 3; people++ {
		for table := range power(power(people)) {
			var story []said
			for _, world := range membersOf(everyWorld(people) - table) {
				story = append(story, withoutWorld(people, world%people, world))
			}
			claims, worlds := claimsOf(story), membersOf(table)
			if len(story) > impl.MaxClaims {
				checkNoStory(t, people, claims)
				continue
			}
			tables++
			if len(story) == impl.MaxClaims {
				most++
				checkNoStory(t, people, append(slices.Clone(claims), claims[0]))
			}
			want := answers{table == 0, onlyOf(worlds), knownOf(people, worlds), nil, claims}
			checkAnswers(t, people, claims, textsOf(story), want)
		}
	}
	if tables != 4+16+256-9 || most != 28 {
		t.Fatal(tables, most)
	}
}

func TestClaimsThatSayNothingAreNeedless(t *testing.T) {
	for people := 1; people <= impl.MaxPeople; people++ {
		for who := range people {
			unknown := slices.Repeat([]int{-1}, people)
			nothing := said{who, personTree(who)}
			for count := 1; count <= impl.MaxClaims; count++ {
				story := slices.Repeat([]said{nothing}, count)
				want := answers{false, -1, unknown, ascending(count), nil}
				checkAnswers(t, people, claimsOf(story), textsOf(story), want)
			}
			for place := range impl.MaxClaims {
				story := slices.Repeat([]said{nothing}, impl.MaxClaims)
				story[place] = said{who, countTree(0)}
				needless := slices.DeleteFunc(ascending(impl.MaxClaims), func(p int) bool { return p == place })
				known := slices.Clone(unknown)
				known[who] = 1
				only := -1
				if people == 1 {
					only = 1
				}
				checkAnswers(t, people, claimsOf(story), textsOf(story), answers{false, only, known, needless, claimsOf(story[place : place+1])})
			}
		}
	}
}

// ascending are the first numbers from 0 on.
func ascending(count int) []int {
	var list []int
	for i := range count {
		list = append(list, i)
	}
	return list
}

// At least nobody is said by tellers alone, and at least one more than all by liars alone.
func TestKnownByCountsThatAlwaysOrNeverHold(t *testing.T) {
	for people := 1; people <= impl.MaxPeople; people++ {
		for world := range power(people) {
			known := make([]int, people)
			var story []said
			for person, tells := range tellsIn(people, world) {
				count := people + 1
				if tells {
					count, known[person] = 0, 1
				}
				story = append(story, said{person, countTree(count)})
			}
			claims := claimsOf(story)
			checkAnswers(t, people, claims, textsOf(story), answers{false, world, known, nil, claims})
			// The last person is unknown without the claim by that person, beside all others who are known.
			known[people-1] = -1
			checkAnswers(t, people, claims[:people-1], textsOf(story[:people-1]), answers{false, -1, known, nil, claims[:people-1]})
		}
	}
}

func TestTheSameClaimAgain(t *testing.T) {
	made, denials := 0, 0
	eachClaim(func(people int, c said) {
		table := c.table(people)
		worlds := membersOf(table)
		claim := c.claim()
		for count := 2; count <= 3; count++ {
			want := answers{table == 0, onlyOf(worlds), knownOf(people, worlds), ascending(count), []impl.Claim{claim}}
			if table == everyWorld(people) {
				want.least = nil
			}
			checkAnswers(t, people, slices.Repeat([]impl.Claim{claim}, count), []string{c.text(), "again"}, want)
		}
		made++
		if c.size() < mostSaid && table != 0 && table != everyWorld(people) {
			denials++
			beside := []impl.Claim{claim, c.denied().claim()}
			checkAnswers(t, people, beside, []string{c.text(), "denied"}, answers{true, -1, nil, nil, beside})
			again := append([]impl.Claim{claim}, beside...)
			checkAnswers(t, people, again, []string{c.text(), "again, and denied"}, answers{true, -1, nil, []int{0, 1}, beside})
		}
		if t.Failed() {
			t.FailNow()
		}
	})
	if made < 1000 || denials < 1000 {
		t.Fatal("too few claims", made, denials)
	}
}

func TestMostClaimsAgain(t *testing.T) {
	for people := 1; people <= impl.MaxPeople; people++ {
		c := said{people - 1, countTree(0)}
		known := slices.Repeat([]int{-1}, people)
		known[people-1] = 1
		only := -1
		if people == 1 {
			only = 1
		}
		for _, count := range []int{impl.MaxClaims - 1, impl.MaxClaims} {
			story := slices.Repeat([]said{c}, count)
			checkAnswers(t, people, claimsOf(story), textsOf(story), answers{false, only, known, ascending(count), []impl.Claim{c.claim()}})
		}
		checkNoAnswers(t, people, slices.Repeat([]impl.Claim{c.claim()}, impl.MaxClaims+1))
	}
}

// A claim is needless beside a second one, and needed without it.
func TestNeedlessAsLongAsAnotherClaimStands(t *testing.T) {
	story := storyOfTexts(t, 2, []string{"b:0", "a:!a&!b"})
	if got := impl.NeedlessClaims(2, story); !slices.Equal(got, []int{0}) {
		t.Error(got)
	}
	if got := impl.NeedlessClaims(2, story[:1]); len(got) != 0 {
		t.Error(got)
	}
	found := 0
	eachTold(func(people int, all []said) {
		for _, place := range impl.NeedlessClaims(people, claimsOf(all)) {
			for other := place + 1; other < len(all); other++ {
				fewer := leaveOut(all, other)
				is := slices.Contains(impl.NeedlessClaims(people, claimsOf(fewer)), place)
				if is == neededBeside(people, leaveOut(fewer, place), all[place]) {
					t.Fatal(people, textsOf(all), place, other, is)
				}
				if !is {
					found++
				}
			}
		}
	})
	if found < 1000 {
		t.Fatal("too few claims", found)
	}
}

// The claims of one person tell the same worlds as all: those of the others are needless, and if they come first, just some of the one person are left.
func TestWorldsToldByOnePersonAlone(t *testing.T) {
	told := 0
	pick := &picker{state: 17}
	for people := 2; people <= impl.MaxPeople; people++ {
		for range 1000 {
			who := pick.below(people)
			var alone, others []said
			for range 1 + pick.below(3) {
				alone = append(alone, said{who, pick.tree(people, 1+pick.below(mostSaid))})
			}
			table := tableOfAll(people, alone)
			for len(others) < 3 {
				c := pick.claim(people)
				if c.who != who && table&^c.table(people) == 0 {
					others = append(others, c)
				}
				if pick.below(200) == 0 {
					break
				}
			}
			story := slices.Concat(others, alone)
			claims := claimsOf(story)
			for place := range others {
				if !slices.Contains(impl.NeedlessClaims(people, claims), place) {
					t.Fatal(people, textsOf(story), place)
				}
			}
			least, ok := impl.LeastStory(people, claims)
			if !ok || slices.ContainsFunc(least, func(c impl.Claim) bool { return c.Who != who }) || !sameStory(least, claimsOf(leastOf(people, alone))) {
				t.Fatal(people, textsOf(story), least)
			}
			if len(others) > 0 && len(least) > 0 {
				told++
			}
		}
	}
	if told < 1000 {
		t.Fatal("too few stories", told)
	}
}

func TestAnswersRefuse(t *testing.T) {
	is, clash := said{0, countTree(0)}.claim(), said{0, notTree(personTree(0))}.claim()
	for _, people := range wrongPeople {
		for _, story := range [][]impl.Claim{nil, {}, {is}, {clash}, {is, is}, {{}, {}}} {
			checkNoAnswers(t, people, story)
		}
	}
	for people := 1; people <= impl.MaxPeople; people++ {
		for count := impl.MaxClaims + 1; count <= impl.MaxClaims+3; count++ {
			checkNoAnswers(t, people, slices.Repeat([]impl.Claim{is}, count))
			checkNoAnswers(t, people, slices.Repeat([]impl.Claim{clash}, count))
		}
		for _, none := range []impl.Claim{{}, {Who: -1, Says: tellsRow(0)}, {Who: people, Says: tellsRow(0)}, {Says: tellsRow(people)}, {Says: countRow(people + 2)}, said{0, nots(mostSaid, personTree(0))}.claim()} {
			for _, other := range []impl.Claim{is, clash} {
				for count := 1; count <= impl.MaxClaims; count++ {
					for place := range count {
						story := slices.Repeat([]impl.Claim{other}, count)
						story[place] = none
						checkNoAnswers(t, people, story)
					}
				}
			}
		}
	}
}

// Promise 31.
func TestWhatHasNoWorldStaysSo(t *testing.T) {
	clashes, more := 0, 0
	eachTold(func(people int, story []said) {
		claims := claimsOf(story)
		clash := impl.ClashOk(people, claims)
		if clash != (impl.StoryTable(people, claims) == 0) {
			t.Fatal(people, textsOf(story), clash)
		}
		if len(story) == impl.MaxClaims {
			checkNoStory(t, people, append(claims, claims[0]))
			return
		}
		if len(story) > 0 && clash {
			clashes++
			for _, c := range claims {
				if !impl.ClashOk(people, append(slices.Clone(claims), c)) {
					t.Fatal("one more", people, textsOf(story), c)
				}
			}
		}
		more++
		for who := range people {
			lies := said{who, notTree(personTree(who))}.claim()
			if !impl.ClashOk(people, append(slices.Clone(claims), lies)) || !impl.ClashOk(people, append([]impl.Claim{lies}, claims...)) {
				t.Fatal("to lie", people, textsOf(story), who)
			}
		}
	})
	if clashes < 1000 || more-clashes < 1000 {
		t.Fatal("too few stories", clashes, more)
	}
}

// Promise 32.
func TestTheOnlyWorldIsKnownOfEverybody(t *testing.T) {
	told, untold := 0, 0
	eachTold(func(people int, story []said) {
		claims := claimsOf(story)
		only, ok := impl.OnlyWorld(people, claims)
		known := impl.KnownPeople(people, claims)
		if all := len(known) == people && !slices.Contains(known, -1); ok != all {
			t.Fatal(people, textsOf(story), only, ok, known)
		}
		if !ok {
			untold++
			if only != -1 {
				t.Fatal(people, textsOf(story), only)
			}
			return
		}
		told++
		for world := range power(people) {
			all := !slices.ContainsFunc(claims, func(c impl.Claim) bool { return !impl.MaySay(people, c, world) })
			if all != (world == only) {
				t.Fatal(people, textsOf(story), only, world)
			}
		}
	})
	if told < 1000 || untold < 1000 {
		t.Fatal("too few stories", told, untold)
	}
}

// Promise 33.
func TestWhatIsKnownIsSoInEachWorld(t *testing.T) {
	tells, lies, unknown := 0, 0, 0
	eachTold(func(people int, story []said) {
		claims := claimsOf(story)
		worlds := impl.WorldsIn(people, impl.StoryTable(people, claims))
		known := impl.KnownPeople(people, claims)
		if len(worlds) == 0 {
			if len(known) != 0 {
				t.Fatal(people, textsOf(story), known)
			}
			return
		}
		if len(known) != people {
			t.Fatal(people, textsOf(story), known)
		}
		for person, is := range known {
			somewhere := []bool{false, false}
			for _, world := range worlds {
				if tellsIn(people, world)[person] {
					somewhere[1] = true
				} else {
					somewhere[0] = true
				}
			}
			switch {
			case is == 1 && somewhere[1] && !somewhere[0]:
				tells++
			case is == 0 && somewhere[0] && !somewhere[1]:
				lies++
			case is == -1 && somewhere[0] && somewhere[1]:
				unknown++
			default:
				t.Fatal(people, textsOf(story), person, is)
			}
		}
	})
	if tells < 1000 || lies < 1000 || unknown < 1000 {
		t.Fatal("too few people", tells, lies, unknown)
	}
}

// Promise 34.
func TestAClaimMadeTwiceIsNeedless(t *testing.T) {
	needless, needed, again := 0, 0, 0
	eachTold(func(people int, story []said) {
		claims := claimsOf(story)
		places := impl.NeedlessClaims(people, claims)
		if !slices.IsSorted(places) || len(slices.Compact(slices.Clone(places))) != len(places) {
			t.Fatal(people, textsOf(story), places)
		}
		table := impl.StoryTable(people, claims)
		for place := range claims {
			fewer := impl.StoryTable(people, claimsOf(leaveOut(story, place)))
			if slices.Contains(places, place) {
				needless++
				if fewer != table {
					t.Fatal("needless", people, textsOf(story), place)
				}
			} else {
				needed++
				if fewer == table || fewer&table != table {
					t.Fatal("needed", people, textsOf(story), place)
				}
			}
		}
		if len(places) > 0 && (places[0] < 0 || places[len(places)-1] >= len(story)) {
			t.Fatal(people, textsOf(story), places)
		}
		if len(story) > 0 && len(story) < impl.MaxClaims {
			again++
			places := impl.NeedlessClaims(people, append(claims, claims[0]))
			if !slices.Contains(places, 0) || !slices.Contains(places, len(story)) {
				t.Fatal("again", people, textsOf(story), places)
			}
		}
	})
	if needless < 1000 || needed < 1000 || again < 1000 {
		t.Fatal("too few claims", needless, needed, again)
	}
}

// Promise 35.
func TestLeastStoriesTellTheSameAndNeedAll(t *testing.T) {
	shorter, same := 0, 0
	eachTold(func(people int, story []said) {
		claims := claimsOf(story)
		least, ok := impl.LeastStory(people, claims)
		if !ok || !impl.StoryOk(people, least) || impl.StoryTable(people, least) != impl.StoryTable(people, claims) {
			t.Fatal(people, textsOf(story), least, ok)
		}
		if got := impl.NeedlessClaims(people, least); len(got) != 0 {
			t.Fatal(people, textsOf(story), least, got)
		}
		if again, ok := impl.LeastStory(people, least); !ok || !sameStory(again, least) {
			t.Fatal("again", people, textsOf(story), again, ok)
		}
		if len(impl.NeedlessClaims(people, claims)) > 0 {
			shorter++
			if len(least) >= len(claims) {
				t.Fatal(people, textsOf(story), least)
			}
		} else {
			same++
			if !sameStory(least, claims) {
				t.Fatal(people, textsOf(story), least)
			}
		}
	})
	if shorter < 1000 || same < 1000 {
		t.Fatal("too few stories", shorter, same)
	}
}

// Promise 36.
func TestWhatIsKnownHasBeenTold(t *testing.T) {
	pick := &picker{state: 19}
	only, kept, learned := 0, 0, 0
	eachTold(func(people int, story []said) {
		claims := claimsOf(story)
		known := impl.KnownPeople(people, claims)
		if world, ok := impl.OnlyWorld(people, claims); ok {
			only++
			for person, tells := range tellsIn(people, world) {
				if tells != (known[person] == 1) {
					t.Fatal(people, textsOf(story), world, known)
				}
			}
		}
		if len(story) == impl.MaxClaims {
			return
		}
		for _, c := range slices.Concat(story, []said{pick.claim(people)}) {
			more := append(slices.Clone(claims), c.claim())
			if impl.ClashOk(people, more) {
				continue
			}
			after := impl.KnownPeople(people, more)
			if len(after) != people {
				t.Fatal("more", people, textsOf(story), c.text(), after)
			}
			for person := range people {
				switch {
				case known[person] == after[person]:
					kept++
				case known[person] == -1:
					learned++
				default:
					t.Fatal("more", people, textsOf(story), c.text(), known, after)
				}
			}
		}
	})
	if only < 1000 || kept < 1000 || learned < 1000 {
		t.Fatal("too few stories", only, kept, learned)
	}
}

// spoilStory writes over a story, its spare capacity, and what all of its claims say.
func spoilStory(story []impl.Claim) {
	for _, c := range story {
		spoil(c.Says)
	}
	spare := story[:cap(story)]
	for i := range spare {
		spare[i] = impl.Claim{Who: 9}
	}
}

// The general rules: stories are not written to, and those that are told are new, with what their claims say.
func TestStoriesAreNotShared(t *testing.T) {
	for _, x := range []struct{ texts, least []string }{
		{[]string{"a:b|1", "c:b|1"}, []string{"a:b|1", "c:b|1"}},
		{[]string{"a:b|1", "a:b|1", "c:b|1"}, []string{"a:b|1", "c:b|1"}},
		{[]string{"a:b|1", "c:b|1", "c:b|1", "a:b|1"}, []string{"c:b|1", "a:b|1"}},
	} {
		row, allMarks := withSpare(readRow(t, 3, "b|1"))
		marksBefore := slices.Clone(allMarks)
		story := storyOfTexts(t, 3, x.texts)
		for i := range story {
			story[i].Says = row // All claims share one row, which those of a result may not.
		}
		story = append(story, impl.Claim{Who: 7}, impl.Claim{Who: 8})[:len(x.texts)]
		first, _ := impl.LeastStory(3, story)
		second, _ := impl.LeastStory(3, story)
		impl.ClashOk(3, story)
		impl.OnlyWorld(3, story)
		impl.KnownPeople(3, story)
		impl.NeedlessClaims(3, story)
		spoilStory(first)
		spare := story[:len(x.texts)+2]
		if !slices.Equal(allMarks, marksBefore) || !sameStory(story, storyOfTexts(t, 3, x.texts)) || spare[len(x.texts)].Who != 7 || spare[len(x.texts)+1].Who != 8 {
			t.Error("the given story is changed", x.texts, spare)
		}
		if !sameStory(second, storyOfTexts(t, 3, x.least)) {
			t.Fatal("two results share memory", x.texts, second)
		}
		spoil(second[0].Says)
		if !sameClaim(second[1], storyOfTexts(t, 3, x.least)[1]) {
			t.Error("two claims of a result share memory", x.texts, second)
		}
		if third, ok := impl.LeastStory(3, story); !ok || !sameStory(third, storyOfTexts(t, 3, x.least)) {
			t.Error("state is kept", x.texts, third)
		}
	}
}

func TestListsOfStoriesAreNotShared(t *testing.T) {
	story := storyOfTexts(t, 2, []string{"a:!a&!b", "b:0", "b:0"})
	known, needless := impl.KnownPeople(2, story), impl.NeedlessClaims(2, story)
	for _, list := range [][]int{known, needless} {
		spare := list[:cap(list)]
		for i := range spare {
			spare[i] = 9
		}
	}
	if got := impl.KnownPeople(2, story); !slices.Equal(got, []int{0, 1}) {
		t.Error(got)
	}
	if got := impl.NeedlessClaims(2, story); !slices.Equal(got, []int{1, 2}) {
		t.Error(got)
	}
}
