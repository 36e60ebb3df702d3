package tests

import (
	"slices"
	"testing"

	"loop.example/tellersandliars/impl"
)

// saidOf is the claim by a person that a claim may be made.
func saidOf(who int, c said) said {
	return said{who, sameTree(personTree(c.who), c.says)}
}

// kindOf is the claim by a person that one of the people tells the truth, or lies.
func kindOf(who, whom int, tells bool) said {
	if tells {
		return said{who, personTree(whom)}
	}
	return said{who, notTree(personTree(whom))}
}

// justInWorld is a claim that may be made in one world alone.
func justInWorld(people, who, world int) said {
	return said{who, sameTree(personTree(who), thereTree(people, world))}
}

// liesRow is the term that a person lies.
func liesRow(at int) []impl.Mark {
	return append(tellsRow(at), impl.Mark{Kind: impl.MarkNot})
}

// eachKind calls f for all claims of kinds, of all numbers of people.
func eachKind(f func(people, who, whom int, tells bool)) {
	for people := 1; people <= impl.MaxPeople; people++ {
		for who := range people {
			for whom := range people {
				f(people, who, whom, true)
				f(people, who, whom, false)
			}
		}
	}
}

// noPersons are numbers of nobody among so many people.
func noPersons(people int) []int {
	return append([]int{-4, -3, people, people + 1, 4, 5, 8, 16, 31, 32, 63, 64, 65}, farNumbers...)
}

// checkNothingOdd tests what is returned for what is no claim.
func checkNothingOdd(t *testing.T, people int, c impl.Claim) {
	t.Helper()
	if got := impl.SayCount(people, c); got != -1 {
		t.Error("SayCount", people, c, got)
	}
	if impl.NeverSaid(people, c) {
		t.Error("NeverSaid", people, c)
	}
	if impl.AlwaysSaid(people, c) {
		t.Error("AlwaysSaid", people, c)
	}
	for who := -1; who <= impl.MaxPeople; who++ {
		checkNotNested(t, people, who, c)
	}
}

func checkNotNested(t *testing.T, people, who int, c impl.Claim) {
	t.Helper()
	if got, ok := impl.NestedClaim(people, who, c); ok || got.Who != 0 || len(got.Says) != 0 {
		t.Error("NestedClaim", people, who, c, got, ok)
	}
}

func checkNoKind(t *testing.T, people, who, whom int) {
	t.Helper()
	for _, tells := range []bool{true, false} {
		if got, ok := impl.KindClaim(people, who, whom, tells); ok || got.Who != 0 || len(got.Says) != 0 {
			t.Error("KindClaim", people, who, whom, tells, got, ok)
		}
	}
}

// checkCount tests in how many worlds a claim may be made, and whether it may in none, and in all.
func checkCount(t *testing.T, people int, c said, want int) {
	t.Helper()
	if got := impl.SayCount(people, c.claim()); got != want {
		t.Error("SayCount", people, c.text(), got)
	}
	if got := impl.NeverSaid(people, c.claim()); got != (want == 0) {
		t.Error("NeverSaid", people, c.text(), got)
	}
	if got := impl.AlwaysSaid(people, c.claim()); got != (want == power(people)) {
		t.Error("AlwaysSaid", people, c.text(), got)
	}
}

// checkNested tests the claim of a claim, which is none if it has too many marks.
func checkNested(t *testing.T, people, who int, c said) {
	t.Helper()
	if c.size()+2 > mostSaid {
		checkNotNested(t, people, who, c.claim())
		return
	}
	if got, ok := impl.NestedClaim(people, who, c.claim()); !ok || !sameClaim(got, saidOf(who, c).claim()) {
		t.Error("NestedClaim", people, who, c.text(), got, ok)
	}
}

func TestCountsOfAllClaims(t *testing.T) {
	var counts [impl.MaxPeople + 1][17]int
	eachClaim(func(people int, c said) {
		want := len(membersOf(c.table(people)))
		checkCount(t, people, c, want)
		if t.Failed() {
			t.FailNow()
		}
		counts[people][want]++
	})
	for people := 1; people <= impl.MaxPeople; people++ {
		if counts := counts[people][:power(people)+1]; slices.Contains(counts, 0) {
			t.Error("no claim of so many worlds", people, counts)
		}
	}
}

func TestCountExamples(t *testing.T) {
	for _, x := range []struct {
		people, who int
		s           string
		count       int
	}{
		{1, 0, "a", 2}, {1, 0, "!a", 0}, {1, 0, "!!a", 2}, {1, 0, "0", 1}, {1, 0, "1", 2}, {1, 0, "!1", 0}, {1, 0, "2", 1}, {1, 0, "a=a", 1}, {1, 0, "a&!a", 1},
		{2, 0, "a", 4}, {2, 0, "!a", 0}, {2, 1, "b", 4}, {2, 1, "!b", 0}, {2, 0, "b", 2}, {2, 0, "!b", 2}, {2, 1, "a", 2}, {2, 0, "a=b", 2}, {2, 0, "!(a=b)", 2}, {2, 0, "0", 2}, {2, 0, "3", 2},
		{2, 0, "1", 3}, {2, 0, "2", 3}, {2, 0, "!1", 1}, {2, 0, "!2", 1}, {2, 0, "a|b", 3}, {2, 0, "a&b", 3}, {2, 0, "!a|!b", 1}, {2, 0, "!a&!b", 1}, {2, 0, "a&1", 4}, {2, 0, "!(a&1)", 0}, {2, 0, "a|2", 4},
		{3, 0, "4", 4}, {3, 2, "0", 4}, {3, 2, "c", 8}, {3, 2, "!c", 0}, {3, 0, "1", 5}, {3, 1, "2", 6}, {3, 2, "3", 5}, {3, 0, "!b&!c", 4}, {3, 0, "a=3", 1}, {3, 0, "a=!3", 7},
		{4, 3, "d", 16}, {4, 3, "!d", 0}, {4, 3, "5", 8}, {4, 3, "0", 8}, {4, 0, "1", 9}, {4, 0, "2", 11}, {4, 0, "3", 11}, {4, 0, "4", 9}, {4, 0, "a=4", 1}, {4, 0, "a=!4", 15}, {4, 0, "a=1", 15}, {4, 0, "a=!1", 1},
	} {
		c := saysText(t, x.people, x.who, x.s)
		if got := impl.SayCount(x.people, c); got != x.count {
			t.Error("SayCount", x.people, x.who, x.s, got)
		}
		if impl.NeverSaid(x.people, c) != (x.count == 0) {
			t.Error("NeverSaid", x.people, x.who, x.s)
		}
		if impl.AlwaysSaid(x.people, c) != (x.count == power(x.people)) {
			t.Error("AlwaysSaid", x.people, x.who, x.s)
		}
	}
}

// A claim that may be made in one world alone, or in all but one, is neither never nor always said, whichever world it is.
func TestOneWorldAloneAndAllButOne(t *testing.T) {
	eachWorld(func(people, world int) {
		for who := range people {
			just, but := justInWorld(people, who, world), withoutWorld(people, who, world)
			if just.table(people) != power(world) || but.table(people) != everyWorld(people)-power(world) {
				t.Fatal(people, just.text(), but.text())
			}
			checkCount(t, people, just, 1)
			checkCount(t, people, but, power(people)-1)
			for other := range people {
				checkNested(t, people, other, just)
				checkNested(t, people, other, but)
			}
		}
	})
}

// In between there are the worlds in which it is told truly, and those in which it is told falsely.
func TestCountsAreTrulyAndFalselyTogether(t *testing.T) {
	eachClaim(func(people int, c said) {
		truly, falsely := 0, 0
		for world := range power(people) {
			holds := impl.HoldsIn(people, c.claim().Says, world)
			switch tells := tellsIn(people, world)[c.who]; {
			case tells && holds:
				truly++
			case !tells && !holds:
				falsely++
			}
		}
		if got := impl.SayCount(people, c.claim()); got != truly+falsely {
			t.Fatal(people, c.text(), got, truly, falsely)
		}
	})
}

// To tell the truth and to lie, said of oneself with more and more of not, up to the most marks.
func TestOddClaimsOfOneself(t *testing.T) {
	for people := 1; people <= impl.MaxPeople; people++ {
		for who := range people {
			for count := range mostSaid {
				c := said{who, nots(count, personTree(who))}
				want := power(people)
				if count%2 == 1 {
					want = 0
				}
				checkCount(t, people, c, want)
				for other := range people {
					checkNested(t, people, other, c)
				}
			}
			checkNoClaim(t, people, said{who, nots(mostSaid, personTree(who))}.claim())
		}
	}
}

// At least nobody is said in half of all worlds, by tellers, and at least one more than all in the other half, by liars.
func TestOddClaimsOfCounts(t *testing.T) {
	for people := 1; people <= impl.MaxPeople; people++ {
		for who := range people {
			nobody, tooMany := said{who, countTree(0)}, said{who, countTree(people + 1)}
			checkCount(t, people, nobody, power(people-1))
			checkCount(t, people, tooMany, power(people-1))
			for other := range people {
				checkNested(t, people, other, nobody)
				checkNested(t, people, other, tooMany)
			}
			if people == 1 {
				checkCount(t, people, said{who, countTree(1)}, 2)
			}
		}
	}
}

// What one may say at most, and one mark less, has a count as all claims have; just the latter can be denied.
func TestOddClaimsOfMostMarks(t *testing.T) {
	pick := &picker{state: 23}
	for people := 1; people <= impl.MaxPeople; people++ {
		for range 200 {
			most := said{pick.below(people), pick.tree(people, mostSaid)}
			less := said{pick.below(people), pick.tree(people, mostSaid-1)}
			for _, c := range []said{most, less} {
				checkCount(t, people, c, len(membersOf(c.table(people))))
				for who := range people {
					checkNotNested(t, people, who, c.claim())
				}
			}
			if denied, ok := impl.DenyClaim(people, most.claim()); ok || impl.SayCount(people, denied) != -1 {
				t.Fatal(people, most.text(), denied, ok)
			}
			denied, ok := impl.DenyClaim(people, less.claim())
			if !ok || impl.SayCount(people, denied) != power(people)-impl.SayCount(people, less.claim()) {
				t.Fatal(people, less.text(), denied, ok)
			}
		}
	}
}

func TestNestedOfAllClaims(t *testing.T) {
	eachClaim(func(people int, c said) {
		for who := range people {
			checkNested(t, people, who, c)
		}
		if t.Failed() {
			t.FailNow()
		}
	})
}

func TestNestedExamples(t *testing.T) {
	for _, x := range []struct {
		people, who, by int
		s               string
		says            string
		table           int
	}{
		{1, 0, 0, "a", "a=a", 2}, {1, 0, 0, "!a", "a=!a", 1}, {1, 0, 0, "0", "a=0", 3}, {1, 0, 0, "2", "a=2", 0},
		{2, 0, 0, "!a", "a=!a", 5}, {2, 1, 0, "!a", "a=!a", 3}, {2, 0, 0, "a", "a=a", 10}, {2, 1, 0, "a", "a=a", 12},
		{2, 0, 1, "a", "b=a", 12}, {2, 0, 1, "!a", "b=!a", 3}, {2, 1, 0, "b", "a=b", 10}, {2, 0, 1, "b", "b=b", 10}, {2, 0, 1, "0", "b=0", 9}, {2, 0, 1, "3", "b=3", 6}, {2, 0, 0, "0", "a=0", 15}, {2, 0, 0, "3", "a=3", 0},
		{2, 0, 1, "a=b", "b=(a=b)", 15}, {2, 0, 1, "!a|!b", "b=!a|!b", 1}, {2, 1, 1, "a=b&a", "b=(a=b&a)", 13},
		{3, 2, 0, "b", "a=b", 150}, {3, 0, 1, "c", "b=c", 150}, {4, 3, 0, "b", "a=b", 0x9966}, {4, 3, 3, "0", "d=0", 65535}, {4, 3, 3, "5", "d=5", 0},
	} {
		c := saysText(t, x.people, x.by, x.s)
		got, ok := impl.NestedClaim(x.people, x.who, c)
		if s := impl.TermText(x.people, got.Says); !ok || got.Who != x.who || s != x.says {
			t.Error("NestedClaim", x.people, x.who, x.by, x.s, got, s, ok)
		}
		if table := impl.ClaimTable(x.people, got); table != x.table {
			t.Error("ClaimTable", x.people, x.who, x.by, x.s, table)
		}
	}
}

// A term of as many marks as a claim may say is one that is said, and one of a mark more is not, whatever it is made of.
func TestMostMarksOfNestedClaims(t *testing.T) {
	for people := 1; people <= impl.MaxPeople; people++ {
		for who := range people {
			for by := range people {
				for size := 1; size <= 40; size++ {
					c := said{by, nots(size-1, countTree(people+1))}
					if size > mostSaid {
						checkNothingOdd(t, people, c.claim())
						continue
					}
					checkNested(t, people, who, c)
					got, ok := impl.NestedClaim(people, who, c.claim())
					if ok != (size <= 11) || ok && len(impl.ClaimTerm(people, c.claim())) != len(got.Says) {
						t.Error(people, who, c.text(), got, ok)
					}
				}
				for kind := impl.MarkAnd; kind <= impl.MarkSame; kind++ {
					for _, left := range []bool{true, false} {
						eleven, thirteen := chain(kind, 6, left), chain(kind, 7, left)
						for _, n := range []*tree{eleven, notTree(eleven), thirteen} {
							checkNested(t, people, who, said{by, n})
						}
						checkNothingOdd(t, people, said{by, notTree(thirteen)}.claim())
					}
				}
			}
		}
	}
}

// Claims of claims of claims, each two marks longer than the one before, by the same person and by others in turn.
func TestClaimsOfClaimsOfClaims(t *testing.T) {
	for people := 1; people <= impl.MaxPeople; people++ {
		for _, n := range slices.Concat(leavesOf(people), []*tree{notTree(personTree(people - 1)), notTree(countTree(1))}) {
			for first := range people {
				for step := range people {
					checkDeepClaim(t, people, step, said{first, n})
				}
			}
		}
	}
}

func checkDeepClaim(t *testing.T, people, step int, inner said) {
	t.Helper()
	got, want, who, depth := inner.claim(), inner, inner.who, 0
	for {
		who = (who + step) % people
		next, ok := impl.NestedClaim(people, who, got)
		if !ok {
			checkNotNested(t, people, who, got)
			break
		}
		got, want = next, saidOf(who, want)
		depth++
		if !sameClaim(got, want.claim()) || impl.ClaimTable(people, got) != want.table(people) {
			t.Fatal(people, step, want.text(), got)
		}
		checkCount(t, people, want, len(membersOf(want.table(people))))
	}
	if left := mostSaid - inner.size(); depth != left/2 {
		t.Error(people, step, inner.text(), depth)
	}
}

// Who says to be able to make a claim oneself says just what it claims.
func TestNestedByTheSamePerson(t *testing.T) {
	told := 0
	eachClaim(func(people int, c said) {
		nested, ok := impl.NestedClaim(people, c.who, c.claim())
		if !ok {
			return
		}
		told++
		if got := impl.ClaimTable(people, nested); got != impl.TableOf(people, c.claim().Says) {
			t.Fatal(people, c.text(), got)
		}
	})
	if told < 1000 {
		t.Fatal("too few claims", told)
	}
}

func TestAllKinds(t *testing.T) {
	eachKind(func(people, who, whom int, tells bool) {
		want := kindOf(who, whom, tells)
		got, ok := impl.KindClaim(people, who, whom, tells)
		if !ok || !sameClaim(got, want.claim()) || !impl.ClaimOk(people, got) {
			t.Error("KindClaim", people, who, whom, tells, got, ok)
		}
		var worlds []int
		for world := range power(people) {
			if row := tellsIn(people, world); (row[who] == row[whom]) == tells {
				worlds = append(worlds, world)
			}
		}
		if table := impl.ClaimTable(people, got); !slices.Equal(membersOf(table), worlds) {
			t.Error("ClaimTable", people, who, whom, tells, table)
		}
		checkCount(t, people, want, len(worlds))
		for other := range people {
			checkNested(t, people, other, want)
		}
	})
}

func TestKindExamples(t *testing.T) {
	for _, x := range []struct {
		people, who, whom int
		tells             bool
		says              string
		table             int
	}{
		{1, 0, 0, true, "a", 3}, {1, 0, 0, false, "!a", 0},
		{2, 0, 0, true, "a", 15}, {2, 0, 0, false, "!a", 0}, {2, 1, 1, true, "b", 15}, {2, 1, 1, false, "!b", 0}, {2, 0, 1, true, "b", 9}, {2, 0, 1, false, "!b", 6}, {2, 1, 0, true, "a", 9}, {2, 1, 0, false, "!a", 6},
		{3, 0, 1, true, "b", 153}, {3, 0, 1, false, "!b", 102}, {3, 2, 1, true, "b", 195}, {3, 2, 2, false, "!c", 0},
		{4, 3, 3, true, "d", 65535}, {4, 3, 3, false, "!d", 0}, {4, 0, 3, true, "d", 0xaa55}, {4, 3, 0, false, "!a", 0x55aa},
	} {
		got, ok := impl.KindClaim(x.people, x.who, x.whom, x.tells)
		if s := impl.TermText(x.people, got.Says); !ok || got.Who != x.who || s != x.says {
			t.Error("KindClaim", x, got, s, ok)
		}
		if table := impl.ClaimTable(x.people, got); table != x.table {
			t.Error("ClaimTable", x, table)
		}
	}
}

func TestOddClaimsRefuse(t *testing.T) {
	claims := []impl.Claim{{}, {Says: tellsRow(0)}, {Says: countRow(0)}, {Says: liesRow(0)}, {Who: -1, Says: tellsRow(0)}, {Who: 1, Says: tellsRow(1)}}
	for _, people := range wrongPeople {
		for _, c := range claims {
			checkNothingOdd(t, people, c)
		}
		for _, who := range []int{-1, 0, 1, 3, 4, people - 1, people} {
			checkNotNested(t, people, who, claims[1])
			for _, whom := range []int{-1, 0, 1, 3, 4, people - 1, people} {
				checkNoKind(t, people, who, whom)
			}
		}
	}
	for people := 1; people <= impl.MaxPeople; people++ {
		for _, nobody := range noPersons(people) {
			for who := range people {
				checkNothingOdd(t, people, impl.Claim{Who: nobody, Says: tellsRow(who)})
				checkNothingOdd(t, people, impl.Claim{Who: who, Says: tellsRow(nobody)})
				checkNotNested(t, people, nobody, said{who, personTree(who)}.claim())
				checkNotNested(t, people, nobody, said{who, notTree(personTree(who))}.claim())
				checkNoKind(t, people, nobody, who)
				checkNoKind(t, people, who, nobody)
			}
			checkNoKind(t, people, nobody, nobody)
		}
		for _, says := range [][]impl.Mark{nil, {}, liesRow(0)[1:], append(tellsRow(0), tellsRow(0)...), countRow(people + 2), countRow(-1), {{Kind: 6}}, {{}, {Kind: impl.MarkNot, At: 1}}, nots(mostSaid, personTree(0)).marks(), nots(5000, personTree(0)).marks()} {
			checkNothingOdd(t, people, impl.Claim{Says: says})
		}
	}
}

// A person of some people is nobody of fewer.
func TestOddClaimsOfOtherPeople(t *testing.T) {
	for people := 2; people <= impl.MaxPeople; people++ {
		last := people - 1
		for fewer := 1; fewer < people; fewer++ {
			checkNoKind(t, fewer, last, 0)
			checkNoKind(t, fewer, 0, last)
			checkNoKind(t, fewer, last, last)
			checkNotNested(t, fewer, last, kindOf(0, 0, true).claim())
			checkNothingOdd(t, fewer, kindOf(last, 0, true).claim())
			checkNothingOdd(t, fewer, kindOf(0, last, false).claim())
			checkNothingOdd(t, fewer, said{0, countTree(people + 1)}.claim())
		}
	}
}

// Promise 37.
func TestSaidAndDeniedHaveAllWorlds(t *testing.T) {
	told, refused, never, always := 0, 0, 0, 0
	eachClaim(func(people int, c said) {
		count := impl.SayCount(people, c.claim())
		if count < 0 || count > power(people) || len(impl.WorldsIn(people, impl.ClaimTable(people, c.claim()))) != count {
			t.Fatal(people, c.text(), count)
		}
		if impl.NeverSaid(people, c.claim()) != (count == 0) || impl.AlwaysSaid(people, c.claim()) != (count == power(people)) {
			t.Fatal("never or always", people, c.text(), count)
		}
		switch count {
		case 0:
			never++
		case power(people):
			always++
		}
		denied, ok := impl.DenyClaim(people, c.claim())
		if !ok {
			refused++
			return
		}
		told++
		if got := impl.SayCount(people, denied); got+count != power(people) {
			t.Fatal("denied", people, c.text(), got, count)
		}
		if impl.NeverSaid(people, denied) != impl.AlwaysSaid(people, c.claim()) || impl.AlwaysSaid(people, denied) != impl.NeverSaid(people, c.claim()) {
			t.Fatal("denied", people, c.text())
		}
	})
	if told < 1000 || refused < 1000 || never < 500 || always < 500 {
		t.Fatal("too few claims", told, refused, never, always)
	}
}

// Promise 38.
func TestNobodySaysToBeALiar(t *testing.T) {
	for people := 1; people <= impl.MaxPeople; people++ {
		for who := range people {
			lie, ok := impl.KindClaim(people, who, who, false)
			if !ok || !impl.NeverSaid(people, lie) || impl.AlwaysSaid(people, lie) || impl.SayCount(people, lie) != 0 {
				t.Error(people, who, lie, ok)
			}
		}
	}
	never, others := 0, 0
	eachClaim(func(people int, c said) {
		is := impl.SameOk(people, c.claim().Says, liesRow(c.who))
		if impl.NeverSaid(people, c.claim()) != is {
			t.Fatal(people, c.text(), is)
		}
		if is {
			never++
		} else {
			others++
		}
	})
	if never < 500 || others < 1000 {
		t.Fatal("too few claims", never, others)
	}
}

// Promise 39.
func TestThatOneTellsTheTruthTellsNothing(t *testing.T) {
	for people := 1; people <= impl.MaxPeople; people++ {
		for who := range people {
			truth, ok := impl.KindClaim(people, who, who, true)
			if !ok || !impl.AlwaysSaid(people, truth) || impl.NeverSaid(people, truth) || impl.SayCount(people, truth) != power(people) {
				t.Error(people, who, truth, ok)
			}
		}
	}
	always, others := 0, 0
	eachClaim(func(people int, c said) {
		is := impl.SameOk(people, c.claim().Says, tellsRow(c.who))
		if impl.AlwaysSaid(people, c.claim()) != is {
			t.Fatal(people, c.text(), is)
		}
		if is {
			always++
		} else {
			others++
		}
	})
	if always < 500 || others < 1000 {
		t.Fatal("too few claims", always, others)
	}
}

// Promise 40.
func TestClaimsOfClaimsAreEquivalencesOfThree(t *testing.T) {
	oneself, others, refused := 0, 0, 0
	eachClaim(func(people int, c said) {
		for who := range people {
			nested, ok := impl.NestedClaim(people, who, c.claim())
			if !ok {
				refused++
				continue
			}
			if who == c.who {
				oneself++
			} else {
				others++
			}
			for world := range power(people) {
				row := tellsIn(people, world)
				holds := impl.HoldsIn(people, c.claim().Says, world)
				want := row[who] == row[c.who] && holds || row[who] != row[c.who] && !holds
				if impl.MaySay(people, nested, world) != want {
					t.Fatal(people, who, c.text(), world)
				}
			}
		}
	})
	if oneself < 1000 || others < 1000 || refused < 1000 {
		t.Fatal("too few claims", oneself, others, refused)
	}
}

// Promise 41.
func TestClaimsOfKindsGoBothWays(t *testing.T) {
	eachKind(func(people, who, whom int, tells bool) {
		there, ok := impl.KindClaim(people, who, whom, tells)
		back, okBack := impl.KindClaim(people, whom, who, tells)
		if !ok || !okBack || there.Who != who || back.Who != whom || impl.ClaimTable(people, there) != impl.ClaimTable(people, back) {
			t.Error(people, who, whom, tells, there, back)
		}
		if got := impl.SayCount(people, there); who != whom && got != power(people)/2 {
			t.Error("SayCount", people, who, whom, tells, got)
		}
	})
}

// Promise 42.
func TestWhoSaysSomebodyIsLikeOneselfSaysThatSomebodyTellsTheTruth(t *testing.T) {
	eachKind(func(people, who, whom int, tells bool) {
		want := impl.TableOf(people, tellsRow(whom))
		if !tells {
			want = impl.TableOf(people, liesRow(whom))
		}
		like := said{who, sameTree(personTree(who), kindOf(who, whom, tells).says)}
		if got := impl.ClaimTable(people, like.claim()); got != want {
			t.Error(people, like.text(), got)
		}
		there, _ := impl.KindClaim(people, who, whom, tells)
		back, _ := impl.KindClaim(people, whom, who, tells)
		for _, c := range []impl.Claim{there, back} {
			nested, ok := impl.NestedClaim(people, who, c)
			if got := impl.ClaimTable(people, nested); !ok || got != want {
				t.Error(people, who, whom, tells, nested, got, ok)
			}
		}
	})
}

// The general rules: claims are not written to, and claims of them are new, with what they say.
func TestOddClaimsAreNotShared(t *testing.T) {
	row, all := withSpare(orTree(personTree(0), countTree(1)).marks())
	before := slices.Clone(all)
	c := impl.Claim{Who: 1, Says: row}
	if impl.SayCount(2, c) != 3 || impl.NeverSaid(2, c) || impl.AlwaysSaid(2, c) {
		t.Error(c)
	}
	first, _ := impl.NestedClaim(2, 0, c)
	second, _ := impl.NestedClaim(2, 0, c)
	outer, _ := impl.NestedClaim(2, 1, second)
	if !slices.Equal(all, before) || c.Who != 1 {
		t.Error("an argument is written to", all, c)
	}
	first.Who = 1
	spoil(first.Says)
	spoil(outer.Says)
	if !slices.Equal(all, before) || c.Who != 1 || impl.TermText(2, c.Says) != "a|1" {
		t.Error("a result shares memory with the argument", all, c)
	}
	if second.Who != 0 || impl.TermText(2, second.Says) != "b=a|1" {
		t.Error("two results share memory", second)
	}
	spoil(row)
	if impl.TermText(2, second.Says) != "b=a|1" {
		t.Error("a result follows the argument", second)
	}
	for _, tells := range []bool{true, false} {
		first, _ := impl.KindClaim(2, 0, 1, tells)
		second, _ := impl.KindClaim(2, 0, 1, tells)
		spoil(first.Says)
		third, _ := impl.KindClaim(2, 0, 1, tells)
		if want := kindOf(0, 1, tells).claim(); !sameClaim(second, want) || !sameClaim(third, want) {
			t.Error("claims of kinds share memory", tells, second, third)
		}
	}
}
