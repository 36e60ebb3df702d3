package tests

import (
	"slices"
	"testing"

	"loop.example/tellersandliars/impl"
)

// rowsOfKinds are all rows of kinds of so many people.
func rowsOfKinds(people int) [][]int {
	var rows [][]int
	for number := range powerOf(3, people) {
		rows = append(rows, digitsOf(3, people, number))
	}
	return rows
}

// eachKinds calls f for all rows of kinds, of all numbers of people.
func eachKinds(f func(kinds []int)) {
	for people := 1; people <= impl.MaxPeople; people++ {
		for _, kinds := range rowsOfKinds(people) {
			f(kinds)
		}
	}
}

// allOf is a row in which all are of one kind.
func allOf(kind, people int) []int {
	return slices.Repeat([]int{kind}, people)
}

// tellsByKinds are the tellers of a row, and so no spies.
func tellsByKinds(kinds []int) []bool {
	var row []bool
	for _, kind := range kinds {
		row = append(row, kind == impl.KindTeller)
	}
	return row
}

func countOf(kinds []int, kind int) int {
	count := 0
	for _, k := range kinds {
		if k == kind {
			count++
		}
	}
	return count
}

// changed is a row with another kind of one person.
func changed(kinds []int, person, kind int) []int {
	row := slices.Clone(kinds)
	row[person] = kind
	return row
}

// mayBy goes by the three kinds of who makes a claim, where the program asks for a world.
func (c said) mayBy(kinds []int) bool {
	holds := c.says.holds(tellsByKinds(kinds))
	switch kinds[c.who] {
	case impl.KindLiar:
		return !holds
	case impl.KindTeller:
		return holds
	}
	return true
}

func allMayBy(kinds []int, story []said) bool {
	return !slices.ContainsFunc(story, func(c said) bool { return !c.mayBy(kinds) })
}

// rowsBySpies has for each number of spies how many rows there are by which a story may be told. It goes through the sets of spies, and then through the worlds of the others' claims in which no spy tells the truth, where the program counts rows of kinds.
func rowsBySpies(people int, story []said) []int {
	rows := make([]int, people+1)
	var tables []int
	for _, c := range story {
		tables = append(tables, c.table(people))
	}
	for set := range power(people) {
		spies, left := tellsIn(people, set), everyWorld(people)
		for place, c := range story {
			if !spies[c.who] {
				left &= tables[place]
			}
		}
		for _, world := range membersOf(left) {
			if world&set == 0 {
				rows[tellersOf(spies)]++
			}
		}
	}
	return rows
}

// choose is in how many ways so many of some are chosen.
func choose(of, count int) int {
	if count < 0 || count > of {
		return 0
	}
	if count == 0 || count == of {
		return 1
	}
	return choose(of-1, count-1) + choose(of-1, count)
}

// allRows has for each number of spies how many rows there are at all.
func allRows(people int) []int {
	var rows []int
	for spies := range people + 1 {
		rows = append(rows, choose(people, spies)*power(people-spies))
	}
	return rows
}

// someRows are rows of so many, who may be too many or nobody, of each kind alone, and of all kinds.
func someRows(people int) [][]int {
	if people < 0 || people > 100 {
		return nil
	}
	mixed := make([]int, people)
	for person := range mixed {
		mixed[person] = (person + 2) % 3
	}
	return [][]int{allOf(impl.KindLiar, people), allOf(impl.KindTeller, people), allOf(impl.KindSpy, people), mixed}
}

// checkNotByKinds tests what is returned for what is no claim: not even spies make it.
func checkNotByKinds(t *testing.T, people int, c impl.Claim) {
	t.Helper()
	for _, kinds := range someRows(people) {
		if impl.SpySays(kinds, c) {
			t.Error("SpySays", kinds, c)
		}
	}
}

// checkNoSpies tests what is returned for what is no story.
func checkNoSpies(t *testing.T, people int, story []impl.Claim) {
	t.Helper()
	for _, kinds := range someRows(people) {
		if impl.SpyStory(kinds, story) {
			t.Error("SpyStory", kinds, story)
		}
	}
	if got := impl.FewestSpies(people, story); got != -1 {
		t.Error("FewestSpies", people, story, got)
	}
	for spies := -1; spies <= impl.MaxPeople+1; spies++ {
		checkNoRows(t, people, story, spies)
	}
}

func checkNoRows(t *testing.T, people int, story []impl.Claim, spies int) {
	t.Helper()
	if got := impl.SpyRows(people, story, spies); got != -1 {
		t.Error("SpyRows", people, story, spies, got)
	}
}

// checkNoKinds tests what is returned for what is no row of kinds.
func checkNoKinds(t *testing.T, kinds []int) {
	t.Helper()
	if impl.KindsOk(kinds) {
		t.Error("KindsOk", kinds)
	}
	if got := impl.WorldOfKinds(kinds); got != -1 {
		t.Error("WorldOfKinds", kinds, got)
	}
	for _, who := range []int{-1, 0, 1, len(kinds) - 1, len(kinds)} {
		for _, says := range [][]impl.Mark{nil, tellsRow(0), liesRow(0), countRow(0), countRow(1)} {
			c := impl.Claim{Who: who, Says: says}
			if impl.SpySays(kinds, c) {
				t.Error("SpySays", kinds, c)
			}
			if impl.SpyStory(kinds, []impl.Claim{c}) || impl.SpyStory(kinds, []impl.Claim{c, c}) {
				t.Error("SpyStory", kinds, c)
			}
		}
	}
	if impl.SpyStory(kinds, nil) || impl.SpyStory(kinds, []impl.Claim{}) {
		t.Error("SpyStory", kinds)
	}
}

// checkSpies tests how many rows there are for each number of spies, and the fewest ones.
func checkSpies(t *testing.T, people int, story []impl.Claim, texts []string, rows []int) {
	t.Helper()
	for spies, want := range rows {
		if got := impl.SpyRows(people, story, spies); got != want {
			t.Error("SpyRows", people, texts, spies, got, want)
		}
	}
	checkNoRows(t, people, story, -1)
	checkNoRows(t, people, story, people+1)
	fewest := slices.IndexFunc(rows, func(count int) bool { return count > 0 })
	if got := impl.FewestSpies(people, story); got != fewest {
		t.Error("FewestSpies", people, texts, got, fewest)
	}
}

func checkSaid(t *testing.T, people int, story []said, rows []int) {
	t.Helper()
	checkSpies(t, people, claimsOf(story), textsOf(story), rows)
}

func TestKindNumbers(t *testing.T) {
	if impl.KindLiar != 0 || impl.KindTeller != 1 || impl.KindSpy != 2 {
		t.Fatal("constants")
	}
}

func TestAllShortRowsOfKinds(t *testing.T) {
	rows := 0
	for count := range 6 {
		for number := range powerOf(6, count) {
			kinds := digitsOf(6, count, number)
			for person := range kinds {
				kinds[person] -= 2
			}
			if count == 0 || count > 4 || slices.Min(kinds) < 0 || slices.Max(kinds) > 2 {
				checkNoKinds(t, kinds)
				continue
			}
			rows++
			if got := impl.WorldOfKinds(kinds); !impl.KindsOk(kinds) || got != worldOfRow(tellsByKinds(kinds)) {
				t.Error(kinds, got)
			}
		}
		if t.Failed() {
			t.FailNow()
		}
	}
	if rows != 3+9+27+81 {
		t.Fatal(rows)
	}
}

func TestKindsExamples(t *testing.T) {
	for _, x := range []struct {
		kinds []int
		world int
	}{
		{[]int{0}, 0}, {[]int{1}, 1}, {[]int{2}, 0},
		{[]int{0, 0}, 0}, {[]int{1, 0}, 1}, {[]int{0, 1}, 2}, {[]int{1, 1}, 3}, {[]int{2, 1}, 2}, {[]int{1, 2}, 1}, {[]int{2, 2}, 0},
		{[]int{1, 2, 1}, 5}, {[]int{0, 1, 2}, 2}, {[]int{2, 0, 1}, 4}, {[]int{1, 1, 1}, 7},
		{[]int{1, 1, 1, 1}, 15}, {[]int{2, 2, 2, 2}, 0}, {[]int{0, 0, 0, 0}, 0}, {[]int{2, 1, 0, 1}, 10}, {[]int{1, 0, 2, 1}, 9}, {[]int{2, 2, 2, 1}, 8},
	} {
		if got := impl.WorldOfKinds(x.kinds); !impl.KindsOk(x.kinds) || got != x.world {
			t.Error(x.kinds, got)
		}
	}
}

func TestKindsRefuse(t *testing.T) {
	checkNoKinds(t, nil)
	checkNoKinds(t, []int{})
	for kind := range 3 {
		for _, count := range []int{5, 6, 7, 8, 15, 16, 31, 32, 63, 64, 65, 5000} {
			checkNoKinds(t, allOf(kind, count))
		}
	}
	numbers := append([]int{-3, 3, 4, 5, 6, 7, 8, 9, 16, 63, 64, 65, 256, 257, 258}, farNumbers...)
	eachKinds(func(kinds []int) {
		for person := range kinds {
			for _, number := range numbers {
				checkNoKinds(t, changed(kinds, person, number))
			}
		}
		if t.Failed() {
			t.FailNow()
		}
	})
}

func TestClaimsOfAllByAllKinds(t *testing.T) {
	bySpies, yes, no := 0, 0, 0
	eachClaim(func(people int, c said) {
		claim := c.claim()
		for _, kinds := range rowsOfKinds(people) {
			want := c.mayBy(kinds)
			if got := impl.SpySays(kinds, claim); got != want {
				t.Fatal("SpySays", kinds, c.text(), got)
			}
			switch {
			case kinds[c.who] == impl.KindSpy:
				bySpies++
			case want:
				yes++
			default:
				no++
			}
		}
	})
	if bySpies < 1000 || yes < 1000 || no < 1000 {
		t.Fatal("too few claims", bySpies, yes, no)
	}
}

func TestSpySaysExamples(t *testing.T) {
	for _, x := range []struct {
		kinds []int
		text  string
		want  bool
	}{
		{[]int{0}, "a:a", true}, {[]int{1}, "a:a", true}, {[]int{2}, "a:a", true}, {[]int{0}, "a:!a", false}, {[]int{1}, "a:!a", false}, {[]int{2}, "a:!a", true},
		{[]int{0}, "a:0", false}, {[]int{1}, "a:0", true}, {[]int{2}, "a:0", true}, {[]int{0}, "a:2", true}, {[]int{1}, "a:2", false}, {[]int{2}, "a:2", true},
		{[]int{1, 2}, "a:b", false}, {[]int{1, 2}, "a:!b", true}, {[]int{0, 2}, "a:b", true}, {[]int{0, 2}, "a:!b", false}, {[]int{2, 2}, "a:b", true}, {[]int{2, 2}, "a:!b", true},
		{[]int{2, 1}, "b:a", false}, {[]int{2, 1}, "b:!a", true}, {[]int{2, 0}, "b:a", true}, {[]int{2, 0}, "b:!a", false}, {[]int{2, 1}, "a:b", true}, {[]int{2, 1}, "a:!b", true},
		{[]int{1, 2}, "a:1", true}, {[]int{1, 2}, "a:2", false}, {[]int{0, 2}, "a:1", true}, {[]int{0, 2}, "a:!1", false}, {[]int{1, 1}, "a:2", true}, {[]int{2, 2}, "b:2", true}, {[]int{2, 2}, "b:!2", true},
		{[]int{1, 2}, "a:a=b", false}, {[]int{0, 2}, "a:a=b", false}, {[]int{0, 2}, "a:!(a=b)", true}, {[]int{2, 0}, "a:a=b", true},
		{[]int{1, 2, 0}, "a:!b&!c", true}, {[]int{1, 2, 0}, "c:!b&!a", true}, {[]int{1, 2, 0}, "c:a|b", false}, {[]int{1, 2, 0}, "b:a&!a", true},
		{[]int{2, 2, 2, 1}, "d:1&!2", true}, {[]int{2, 2, 2, 1}, "d:2", false}, {[]int{2, 2, 2, 0}, "d:1", true}, {[]int{2, 2, 2, 0}, "c:4", true},
	} {
		people := len(x.kinds)
		story := storyOfTexts(t, people, []string{x.text})
		if got := impl.SpySays(x.kinds, story[0]); got != x.want {
			t.Error("SpySays", x.kinds, x.text, got)
		}
		if got := impl.SpyStory(x.kinds, story); got != x.want {
			t.Error("SpyStory", x.kinds, x.text, got)
		}
	}
}

// What others say of a spy is as of a liar.
func TestNobodyTellsOfASpyAsOfATeller(t *testing.T) {
	tested := 0
	eachKind(func(people, who, whom int, tells bool) {
		for _, kinds := range rowsOfKinds(people) {
			if kinds[whom] != impl.KindSpy || kinds[who] == impl.KindSpy {
				continue
			}
			tested++
			want := tells == (kinds[who] == impl.KindLiar)
			if got := impl.SpySays(kinds, kindOf(who, whom, tells).claim()); got != want {
				t.Error(kinds, who, whom, tells, got)
			}
		}
	})
	if tested < 500 {
		t.Fatal("too few claims", tested)
	}
}

// Spies are not counted as people who tell the truth.
func TestSpiesAreNotCounted(t *testing.T) {
	eachKinds(func(kinds []int) {
		tellers := countOf(kinds, impl.KindTeller)
		for who, kind := range kinds {
			for at := range len(kinds) + 2 {
				c := impl.Claim{Who: who, Says: countRow(at)}
				want := kind == impl.KindSpy || (tellers >= at) == (kind == impl.KindTeller)
				if got := impl.SpySays(kinds, c); got != want {
					t.Error(kinds, who, at, got)
				}
			}
		}
	})
}

// checkNeeds tests a story that may be told just if these people, who are told as a world is, are spies: of the others all kinds are left.
func checkNeeds(t *testing.T, people int, story []said, needed int) {
	t.Helper()
	spies := tellsIn(people, needed)
	for _, kinds := range rowsOfKinds(people) {
		want := true
		for person, is := range spies {
			want = want && (!is || kinds[person] == impl.KindSpy)
		}
		if got := impl.SpyStory(kinds, claimsOf(story)); got != want {
			t.Error("SpyStory", kinds, textsOf(story), got)
		}
	}
	count := tellersOf(spies)
	checkSaid(t, people, story, append(make([]int, count), allRows(people-count)...))
}

func TestStoriesWithoutClaimsNeedNoSpies(t *testing.T) {
	for people := 1; people <= impl.MaxPeople; people++ {
		checkNeeds(t, people, nil, 0)
		checkNeeds(t, people, []said{}, 0)
	}
	for people, rows := range [][]int{{1}, {2, 1}, {4, 4, 1}, {8, 12, 6, 1}, {16, 32, 24, 8, 1}} {
		if people > 0 {
			checkSpies(t, people, nil, nil, rows)
		}
	}
}

// A claim that is never made needs its person for a spy, and one that always is needs nobody.
func TestSpiesForClaimsNeverOrAlwaysMade(t *testing.T) {
	for people := 1; people <= impl.MaxPeople; people++ {
		for who := range people {
			for count := range mostSaid {
				needed := 0
				if count%2 == 1 {
					needed = power(who)
				}
				c := said{who, nots(count, personTree(who))}
				checkNeeds(t, people, []said{c}, needed)
				checkNeeds(t, people, slices.Repeat([]said{c}, impl.MaxClaims), needed)
			}
			self := personTree(who)
			checkNeeds(t, people, []said{{who, sameTree(self, countTree(0))}}, 0)
			checkNeeds(t, people, []said{{who, sameTree(self, countTree(people+1))}}, power(who))
		}
	}
}

// Each one who says to be a liar, or says and denies the same, is a spy, so each number of spies may be needed.
func TestStoriesThatNeedMoreSpies(t *testing.T) {
	eachWorld(func(people, needed int) {
		var liars, deniers []said
		for _, who := range membersOf(needed) {
			liars = append(liars, kindOf(who, who, false))
			c := kindOf(who, (who+1)%people, true)
			deniers = append(deniers, c, c.denied())
		}
		checkNeeds(t, people, liars, needed)
		checkNeeds(t, people, append(liars, kindOf(0, 0, true)), needed)
		if len(deniers) <= impl.MaxClaims {
			checkNeeds(t, people, deniers, needed)
		} else {
			checkNoSpies(t, people, claimsOf(deniers))
		}
	})
}

func TestSpyExamples(t *testing.T) {
	for _, x := range []struct {
		people int
		texts  []string
		rows   []int
	}{
		{1, nil, []int{2, 1}}, {1, []string{"a:a"}, []int{2, 1}}, {1, []string{"a:!a"}, []int{0, 1}}, {1, []string{"a:0"}, []int{1, 1}}, {1, []string{"a:2"}, []int{1, 1}}, {1, []string{"a:0", "a:2"}, []int{0, 1}}, {1, []string{"a:1", "a:a"}, []int{2, 1}},
		{2, nil, []int{4, 4, 1}}, {2, []string{"a:!a"}, []int{0, 2, 1}}, {2, []string{"a:!a", "b:!b"}, []int{0, 0, 1}}, {2, []string{"a:b"}, []int{2, 3, 1}}, {2, []string{"a:b", "a:b"}, []int{2, 3, 1}}, {2, []string{"a:b", "b:a"}, []int{2, 2, 1}}, {2, []string{"a:b", "b:!a"}, []int{0, 2, 1}},
		{2, []string{"a:b", "a:!b"}, []int{0, 2, 1}}, {2, []string{"a:0", "b:3"}, []int{1, 2, 1}}, {2, []string{"a:2", "b:2"}, []int{2, 2, 1}}, {2, []string{"a:!a|!b"}, []int{1, 3, 1}}, {2, []string{"a:!a&!b", "b:0"}, []int{1, 1, 1}},
		{3, []string{"a:!b", "b:!c", "c:!a"}, []int{0, 3, 3, 1}}, {3, []string{"a:!a", "b:!b"}, []int{0, 0, 2, 1}}, {3, []string{"a:!a", "b:!b", "c:!c"}, []int{0, 0, 0, 1}}, {3, []string{"a:b", "a:!b"}, []int{0, 4, 4, 1}}, {3, []string{"a:b", "b:c", "c:a"}, []int{2, 3, 3, 1}},
		{4, nil, []int{16, 32, 24, 8, 1}}, {4, []string{"d:!d"}, []int{0, 8, 12, 6, 1}}, {4, []string{"a:b", "b:c", "c:d", "d:!a"}, []int{0, 4, 6, 4, 1}}, {4, []string{"a:!a", "b:!b", "c:!c", "d:!d"}, []int{0, 0, 0, 0, 1}},
		{4, []string{"a:!a", "b:!b", "c:!c", "d:!d", "a:0", "b:0"}, []int{0, 0, 0, 0, 1}}, {4, []string{"a:b", "a:!b", "c:d", "c:!d", "b:0", "d:0"}, []int{0, 0, 1, 2, 1}}, {4, []string{"a:0", "b:0", "c:0", "d:0", "a:a", "b:b"}, []int{1, 4, 6, 4, 1}},
	} {
		checkSpies(t, x.people, storyOfTexts(t, x.people, x.texts), x.texts, x.rows)
	}
}

// eachSpied calls f for the stories of eachTold, and for some in which some of the people say to be liars, so that many spies are needed.
func eachSpied(f func(people int, story []said)) {
	eachTold(f)
	pick := &picker{state: 43}
	for people := 1; people <= impl.MaxPeople; people++ {
		for count := 1; count <= impl.MaxClaims; count++ {
			for range 250 {
				story := pick.story(people, count)
				for place := range story {
					if who := pick.below(people); pick.below(2) == 0 {
						story[place] = kindOf(who, who, false)
					}
				}
				f(people, story)
			}
		}
	}
}

func TestSpiesOfAllStories(t *testing.T) {
	var fewest [impl.MaxPeople + 1]int
	eachSpied(func(people int, story []said) {
		rows := rowsBySpies(people, story)
		checkSaid(t, people, story, rows)
		if t.Failed() {
			t.FailNow()
		}
		fewest[slices.IndexFunc(rows, func(count int) bool { return count > 0 })]++
	})
	for spies, count := range fewest {
		if count < 20 {
			t.Error("too few stories", spies, count)
		}
	}
}

func TestStoriesByAllKinds(t *testing.T) {
	may, not := 0, 0
	eachSpied(func(people int, story []said) {
		claims := claimsOf(story)
		for _, kinds := range rowsOfKinds(people) {
			want := allMayBy(kinds, story)
			if got := impl.SpyStory(kinds, claims); got != want {
				t.Fatal("SpyStory", kinds, textsOf(story), got)
			}
			if want {
				may++
			} else {
				not++
			}
		}
	})
	if may < 1000 || not < 1000 {
		t.Fatal("too few rows", may, not)
	}
}

// Each place of a story counts: a claim there that is never made needs a spy, whatever stands at the others.
func TestSpiesForEachClaimOfAStory(t *testing.T) {
	for people := 1; people <= impl.MaxPeople; people++ {
		for count := 1; count <= impl.MaxClaims; count++ {
			for place := range count {
				story := slices.Repeat([]said{kindOf(0, 0, true)}, count)
				checkNeeds(t, people, story, 0)
				for who := range people {
					story[place] = kindOf(who, who, false)
					checkNeeds(t, people, story, power(who))
				}
			}
		}
	}
}

// The same claim again changes nothing, up to MaxClaims claims; one more is no story, even for spies.
func TestSpiesForTheSameClaimAgain(t *testing.T) {
	pick := &picker{state: 37}
	for people := 1; people <= impl.MaxPeople; people++ {
		for range 100 {
			c := pick.claim(people)
			rows := rowsBySpies(people, []said{c})
			for count := 1; count <= impl.MaxClaims; count++ {
				checkSaid(t, people, slices.Repeat([]said{c}, count), rows)
			}
			for count := impl.MaxClaims + 1; count <= impl.MaxClaims+3; count++ {
				checkNoSpies(t, people, slices.Repeat([]impl.Claim{c.claim()}, count))
			}
		}
	}
}

// In any order a story needs the same spies.
func TestSpiesInAnyOrder(t *testing.T) {
	pick := &picker{state: 41}
	for people := 1; people <= impl.MaxPeople; people++ {
		for range 100 {
			story := pick.story(people, impl.MaxClaims)
			rows := rowsBySpies(people, story)
			for range story {
				story = append(story[1:], story[0])
				checkSaid(t, people, story, rows)
			}
			slices.Reverse(story)
			checkSaid(t, people, story, rows)
		}
	}
}

func TestSpiesRefuse(t *testing.T) {
	is, never := kindOf(0, 0, true).claim(), kindOf(0, 0, false).claim()
	for _, people := range wrongPeople {
		for _, story := range [][]impl.Claim{nil, {}, {is}, {never}, {is, never}, {{}}, slices.Repeat([]impl.Claim{is}, 7)} {
			checkNoSpies(t, people, story)
			checkNoRows(t, people, story, people)
		}
		for _, c := range []impl.Claim{is, never, {}} {
			checkNotByKinds(t, people, c)
		}
	}
	for people := 1; people <= impl.MaxPeople; people++ {
		for _, story := range [][]impl.Claim{nil, {is}, {never}, {is, never}} {
			for _, spies := range append([]int{-5, -4, -3, people + 1, people + 2, 5, 6, 8, 16, 31, 32, 63, 64, 65}, farNumbers...) {
				checkNoRows(t, people, story, spies)
			}
		}
		for _, none := range []impl.Claim{{}, {Who: people, Says: tellsRow(0)}, {Who: -1, Says: tellsRow(0)}, {Says: tellsRow(people)}, {Says: countRow(people + 2)}, said{0, nots(mostSaid, personTree(0))}.claim()} {
			checkNotByKinds(t, people, none)
			for _, other := range []impl.Claim{is, never} {
				for place := range impl.MaxClaims {
					story := slices.Repeat([]impl.Claim{other}, impl.MaxClaims)
					story[place] = none
					checkNoSpies(t, people, story)
				}
			}
		}
	}
}

// A claim of some people may be none of as many as a row has, even if these are all spies.
func TestClaimsOfOtherPeopleThanKinds(t *testing.T) {
	eachKinds(func(kinds []int) {
		for people := len(kinds) + 1; people <= impl.MaxPeople; people++ {
			for _, c := range []said{{people - 1, countTree(0)}, {people - 1, personTree(0)}, {0, personTree(people - 1)}, {0, countTree(people + 1)}} {
				if impl.SpySays(kinds, c.claim()) || impl.SpyStory(kinds, []impl.Claim{c.claim()}) || !impl.SpySays(allOf(impl.KindSpy, people), c.claim()) {
					t.Error(kinds, c.text())
				}
			}
		}
	})
}

// A rule of marks alone tells which rows spies may say.
func TestSpiesSayJustClaims(t *testing.T) {
	marks := []impl.Mark{{Kind: 0}, {Kind: 0, At: 1}, {Kind: 1}, {Kind: 2}, {Kind: 3}, {Kind: 4}, {Kind: 5}}
	for people := 1; people <= 2; people++ {
		spies := allOf(impl.KindSpy, people)
		eachRow(marks, 5, func(row []impl.Mark) {
			c := impl.Claim{Who: people - 1, Says: row}
			want := termByRule(people, row)
			if impl.SpySays(spies, c) != want || impl.SpyStory(spies, []impl.Claim{c}) != want || (impl.FewestSpies(people, []impl.Claim{c}) != -1) != want {
				t.Fatal(people, c)
			}
		})
	}
}

// Promise 53.
func TestOneLiarIsARowOfKinds(t *testing.T) {
	for _, kinds := range [][]int{{impl.KindLiar}, {impl.KindTeller}, {impl.KindSpy}} {
		if !impl.KindsOk(kinds) {
			t.Error(kinds)
		}
	}
	is, not := 0, 0
	for count := range 7 {
		for number := range powerOf(4, count) {
			kinds := digitsOf(4, count, number)
			ok := impl.KindsOk(kinds)
			if impl.KindsOk(reversed(kinds)) != ok {
				t.Fatal(kinds, ok)
			}
			if ok {
				is++
			} else {
				not++
			}
		}
	}
	if is != 120 || not < 1000 {
		t.Fatal(is, not)
	}
}

// Promise 54.
func TestSpiesAreNoTellers(t *testing.T) {
	eachKinds(func(kinds []int) {
		people, world := len(kinds), impl.WorldOfKinds(kinds)
		if !impl.WorldOk(people, world) || impl.TellersIn(people, world) != countOf(kinds, impl.KindTeller) {
			t.Error(kinds, world)
		}
		liars := slices.Clone(kinds)
		for person, kind := range kinds {
			if kind == impl.KindSpy {
				liars[person] = impl.KindLiar
			}
		}
		if got := impl.WorldOfKinds(liars); got != world {
			t.Error(kinds, liars, got, world)
		}
	})
}

// Promise 55.
func TestSpiesSayEachClaimAndDenyIt(t *testing.T) {
	both, one, untold := 0, 0, 0
	eachClaim(func(people int, c said) {
		claim := c.claim()
		denied, told := impl.DenyClaim(people, claim)
		if !told {
			untold++
		}
		for _, kinds := range rowsOfKinds(people) {
			may, mayDeny := impl.SpySays(kinds, claim), impl.SpySays(kinds, denied)
			if kinds[c.who] == impl.KindSpy {
				both++
				if !may || mayDeny != told {
					t.Fatal(kinds, c.text(), may, mayDeny)
				}
				continue
			}
			one++
			if may != impl.MaySay(people, claim, impl.WorldOfKinds(kinds)) || told && mayDeny == may || !told && mayDeny {
				t.Fatal(kinds, c.text(), may, mayDeny)
			}
		}
	})
	if both < 1000 || one < 1000 || untold < 1000 {
		t.Fatal("too few claims", both, one, untold)
	}
}

// Promise 56.
func TestWithoutSpiesKindsAreWorlds(t *testing.T) {
	may, not := 0, 0
	eachTold(func(people int, story []said) {
		claims := claimsOf(story)
		worlds := tellsIn(power(people), impl.StoryTable(people, claims))
		for number := range power(people) {
			kinds := digitsOf(2, people, number)
			got := impl.SpyStory(kinds, claims)
			if got != worlds[impl.WorldOfKinds(kinds)] {
				t.Fatal(kinds, textsOf(story), got)
			}
			if got {
				may++
			} else {
				not++
			}
		}
		if !impl.SpyStory(allOf(impl.KindSpy, people), claims) {
			t.Fatal("all are spies", people, textsOf(story))
		}
	})
	if may < 1000 || not < 1000 {
		t.Fatal("too few rows", may, not)
	}
}

// Promise 57.
func TestStoriesWithoutWorldsNeedSpies(t *testing.T) {
	none, some, more := 0, 0, 0
	eachSpied(func(people int, story []said) {
		claims := claimsOf(story)
		fewest := impl.FewestSpies(people, claims)
		speakers := map[int]bool{}
		for _, c := range story {
			speakers[c.who] = true
		}
		if fewest < 0 || fewest > len(speakers) || (fewest == 0) == impl.ClashOk(people, claims) {
			t.Fatal(people, textsOf(story), fewest)
		}
		if fewest == 0 {
			none++
		} else {
			some++
		}
		if len(story) == 0 {
			return
		}
		without := impl.FewestSpies(people, claims[:len(claims)-1])
		if without < 0 || without > fewest {
			t.Fatal("without the last claim", people, textsOf(story), without, fewest)
		}
		if without < fewest {
			more++
		}
	})
	if none < 1000 || some < 1000 || more < 1000 {
		t.Fatal("too few stories", none, some, more)
	}
}

// Promise 58.
func TestRowsAreCountedByTheirSpies(t *testing.T) {
	fewer := 0
	eachSpied(func(people int, story []said) {
		claims := claimsOf(story)
		worlds := impl.WorldsIn(people, impl.StoryTable(people, claims))
		if got := impl.SpyRows(people, claims, 0); got != len(worlds) {
			t.Fatal("no spies", people, textsOf(story), got)
		}
		if got := impl.SpyRows(people, claims, people); got != 1 {
			t.Fatal("all are spies", people, textsOf(story), got)
		}
		fewest := impl.FewestSpies(people, claims)
		for spies := range fewest {
			fewer++
			if got := impl.SpyRows(people, claims, spies); got != 0 {
				t.Fatal("fewer spies", people, textsOf(story), spies, got)
			}
		}
		if impl.SpyRows(people, claims, fewest) < 1 {
			t.Fatal("fewest spies", people, textsOf(story), fewest)
		}
	})
	if fewer < 1000 {
		t.Fatal("too few stories", fewer)
	}
}

// Promise 59.
func TestWithASpyMoreNoStoryIsWorse(t *testing.T) {
	kept := 0
	eachSpied(func(people int, story []said) {
		claims := claimsOf(story)
		for _, kinds := range rowsOfKinds(people) {
			if !impl.SpyStory(kinds, claims) {
				continue
			}
			for person, kind := range kinds {
				if kind != impl.KindLiar {
					continue
				}
				kept++
				if more := changed(kinds, person, impl.KindSpy); !impl.SpyStory(more, claims) {
					t.Fatal(kinds, more, textsOf(story))
				}
			}
		}
	})
	if kept < 1000 {
		t.Fatal("too few rows", kept)
	}
}

// With a teller who becomes a spy a story may be worse, as others tell of a teller what they cannot tell of a spy.
func TestASpyIsLessThanATeller(t *testing.T) {
	story := []impl.Claim{kindOf(0, 1, true).claim()}
	for _, x := range []struct {
		kinds []int
		want  bool
	}{
		{[]int{1, 1}, true}, {[]int{1, 2}, false}, {[]int{0, 2}, true}, {[]int{2, 2}, true}, {[]int{0, 1}, false}, {[]int{2, 1}, true},
	} {
		if got := impl.SpyStory(x.kinds, story); got != x.want {
			t.Error(x.kinds, got)
		}
	}
}

// The general rules: rows and stories are not written to, and what was told of them stays, whatever becomes of them.
func TestSpiesDoNotWrite(t *testing.T) {
	row, allMarks := withSpare(orTree(notTree(personTree(1)), countTree(2)).marks())
	marksBefore := slices.Clone(allMarks)
	allKinds := []int{impl.KindTeller, impl.KindSpy, 7, 8}
	kinds := allKinds[:2]
	allClaims := []impl.Claim{{Who: 1, Says: row}, {Who: 0, Says: row}, {Who: 7, Says: row}, {Who: 8}}
	story := allClaims[:2]
	type told struct {
		ok, says, all bool
		world, fewest int
		rows          [3]int
	}
	tell := func() told {
		got := told{ok: impl.KindsOk(kinds), says: impl.SpySays(kinds, story[1]), all: impl.SpyStory(kinds, story), world: impl.WorldOfKinds(kinds), fewest: impl.FewestSpies(2, story)}
		for spies := range got.rows {
			got.rows[spies] = impl.SpyRows(2, story, spies)
		}
		return got
	}
	want := told{true, true, true, 1, 0, [3]int{1, 1, 1}}
	first := tell()
	if first != want || tell() != want {
		t.Error(first)
	}
	if !slices.Equal(allMarks, marksBefore) || !slices.Equal(allKinds, []int{1, 2, 7, 8}) {
		t.Error("an argument is written to", allMarks, allKinds)
	}
	for place, who := range []int{1, 0, 7, 8} {
		if allClaims[place].Who != who || (len(allClaims[place].Says) != len(row)) != (place == 3) {
			t.Error("an argument is written to", allClaims)
		}
	}
	kinds[0] = impl.KindLiar
	other := tell()
	if other == want || other.all || first != want {
		t.Error("what was told is kept", other, first)
	}
	kinds[0] = impl.KindTeller
	if tell() != want {
		t.Error("state is kept")
	}
	spoilStory(story)
	if got := tell(); got.fewest != -1 || got.all || first != want {
		t.Error("what was told is kept", got, first)
	}
}
