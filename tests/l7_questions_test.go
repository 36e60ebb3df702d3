package tests

import (
	"slices"
	"testing"

	"loop.example/tellersandliars/impl"
)

// answerOf tells tellers and liars apart by cases, where the program compares two values.
func answerOf(who int, n *tree, tells []bool) int {
	switch holds := n.holds(tells); {
	case tells[who] && holds:
		return 1
	case tells[who]:
		return 0
	case holds:
		return 0
	}
	return 1
}

// alikeOf looks for a world in which the person would answer the other way by being the other way.
func alikeOf(people, who int, n *tree) bool {
	for world := range power(people) {
		tells := tellsIn(people, world)
		before := answerOf(who, n, tells)
		tells[who] = !tells[who]
		if answerOf(who, n, tells) != before {
			return false
		}
	}
	return true
}

// trickTree is the question whether a term holds just if the person tells the truth.
func trickTree(who int, n *tree) *tree {
	return sameTree(personTree(who), n)
}

// chainTree is made from the first person on, where the program begins with the last one.
func chainTree(list []int, n *tree) *tree {
	if len(list) == 0 {
		return n
	}
	return sameTree(personTree(list[0]), chainTree(list[1:], n))
}

// saidInTurn asks the last person first, then the one before whether that would be said, and so on.
func saidInTurn(list []int, n *tree, tells []bool) bool {
	said := n.holds(tells)
	for _, who := range reversed(list) {
		if !tells[who] {
			said = !said
		}
	}
	return said
}

// oddLiars counts each person as often as in the list.
func oddLiars(list []int, tells []bool) bool {
	liars := 0
	for _, who := range list {
		if !tells[who] {
			liars++
		}
	}
	return liars%2 == 1
}

// list picks so many of the people, each as often as may be.
func (p *picker) list(people, count int) []int {
	var list []int
	for range count {
		list = append(list, p.below(people))
	}
	return list
}

// eachAsked calls f for each person and each term of eachTree.
func eachAsked(f func(people, who int, n *tree)) {
	eachTree(func(people int, n *tree) {
		for who := range people {
			f(people, who, n)
		}
	})
}

// eachChain calls f for all chains of at most 3 people for the shortest terms, and for some of each number of people and of marks that a term may have, and of one person more, of all numbers of people.
func eachChain(f func(people int, list []int, n *tree)) {
	pick := &picker{state: 29}
	for people := 1; people <= impl.MaxPeople; people++ {
		for _, n := range treesOf(people, 2) {
			for count := range 4 {
				for number := range powerOf(people, count) {
					f(people, digitsOf(people, count, number), n)
				}
			}
		}
		for size := 1; size <= impl.MaxMarks; size++ {
			for count := 0; count <= (impl.MaxMarks-size)/2+1; count++ {
				for range 60 {
					f(people, pick.list(people, count), pick.tree(people, size))
				}
			}
		}
	}
}

func powerOf(base, n int) int {
	p := 1
	for range n {
		p *= base
	}
	return p
}

// digitsOf are so many digits of a number in a base, the lowest one first.
func digitsOf(base, count, number int) []int {
	var list []int
	for range count {
		list = append(list, number%base)
		number /= base
	}
	return list
}

func chainIsTold(list []int, n *tree) bool {
	return len(n.marks())+2*len(list) <= impl.MaxMarks
}

// noTerms are rows of marks that are no term for so many people.
func noTerms(people int) [][]impl.Mark {
	a, not := impl.Mark{}, impl.Mark{Kind: impl.MarkNot}
	return [][]impl.Mark{nil, {}, {not}, {not, a}, {a, a}, {a, a, not}, tellsRow(people), tellsRow(-1), countRow(people + 2), countRow(-1), {{Kind: 6}}, {{Kind: -1}}, {a, {Kind: impl.MarkNot, At: 1}}, nots(5000, personTree(0)).marks()}
}

// checkNoQuestion tests what is returned for what is no term, whoever is asked.
func checkNoQuestion(t *testing.T, people int, row []impl.Mark) {
	t.Helper()
	for who := -1; who <= impl.MaxPeople; who++ {
		checkNotAnswered(t, people, who, row)
	}
	for _, list := range [][]int{nil, {}, {0, 0}, {0, 1}, {3, 2, 1}, {0, 0, 0, 0, 0, 0, 0}} {
		checkNoChain(t, people, list, row)
	}
}

// checkNotAnswered tests what is returned for one who is not asked, or not this.
func checkNotAnswered(t *testing.T, people, who int, row []impl.Mark) {
	t.Helper()
	for _, world := range []int{-1, 0, 1, 2, 3, 7, 15, 16} {
		checkNoAnswer(t, people, who, row, world)
	}
	checkNoTrick(t, people, who, row)
	checkNoChain(t, people, []int{who}, row)
	if impl.AlikeOk(people, who, row) {
		t.Error("AlikeOk", people, who, row)
	}
	checkNotSpoken(t, people, who, row)
}

func checkNoAnswer(t *testing.T, people, who int, row []impl.Mark, world int) {
	t.Helper()
	if got := impl.AnswerIn(people, who, row, world); got != -1 {
		t.Error("AnswerIn", people, who, row, world, got)
	}
}

func checkNoTrick(t *testing.T, people, who int, row []impl.Mark) {
	t.Helper()
	if got, ok := impl.TrickTerm(people, who, row); ok || len(got) != 0 {
		t.Error("TrickTerm", people, who, row, got, ok)
	}
}

func checkNoChain(t *testing.T, people int, list []int, row []impl.Mark) {
	t.Helper()
	if got, ok := impl.ChainTerm(people, list, row); ok || len(got) != 0 {
		t.Error("ChainTerm", people, len(list), row, got, ok)
	}
}

// checkAsked tests what a person answers in each world, and whether alike as teller and as liar.
func checkAsked(t *testing.T, people, who int, n *tree) {
	t.Helper()
	marks := n.marks()
	for world := range power(people) {
		if got := impl.AnswerIn(people, who, marks, world); got != answerOf(who, n, tellsIn(people, world)) {
			t.Error("AnswerIn", people, who, n.text(), world, got)
		}
	}
	if got := impl.AlikeOk(people, who, marks); got != alikeOf(people, who, n) {
		t.Error("AlikeOk", people, who, n.text(), got)
	}
}

// checkTrick tests the trick question, which is none if it has too many marks.
func checkTrick(t *testing.T, people, who int, n *tree) {
	t.Helper()
	if len(n.marks())+2 > impl.MaxMarks {
		checkNoTrick(t, people, who, n.marks())
		return
	}
	if got, ok := impl.TrickTerm(people, who, n.marks()); !ok || !slices.Equal(got, trickTree(who, n).marks()) {
		t.Error("TrickTerm", people, who, n.text(), got, ok)
	}
}

// checkChain tests the chain, which is none if it has too many marks, and where it holds.
func checkChain(t *testing.T, people int, list []int, n *tree) {
	t.Helper()
	if !chainIsTold(list, n) {
		checkNoChain(t, people, list, n.marks())
		return
	}
	got, ok := impl.ChainTerm(people, list, n.marks())
	if !ok || !slices.Equal(got, chainTree(list, n).marks()) {
		t.Error("ChainTerm", people, list, n.text(), got, ok)
		return
	}
	for world := range power(people) {
		if impl.HoldsIn(people, got, world) != saidInTurn(list, n, tellsIn(people, world)) {
			t.Error("HoldsIn", people, list, n.text(), world)
		}
	}
}

func TestAnswersOfAllTerms(t *testing.T) {
	eachAsked(func(people, who int, n *tree) {
		checkAsked(t, people, who, n)
		checkTrick(t, people, who, n)
		if t.Failed() {
			t.FailNow()
		}
	})
}

func TestAllChains(t *testing.T) {
	told, refused := 0, 0
	eachChain(func(people int, list []int, n *tree) {
		checkChain(t, people, list, n)
		if t.Failed() {
			t.FailNow()
		}
		if chainIsTold(list, n) {
			told++
		} else {
			refused++
		}
	})
	if told < 1000 || refused < 1000 {
		t.Fatal("too few chains", told, refused)
	}
}

// The worlds in which the answer is yes are told as a table.
func TestQuestionExamples(t *testing.T) {
	for _, x := range []struct {
		people, who int
		s           string
		yes         int
		alike       bool
	}{
		{1, 0, "a", 3, true}, {1, 0, "!a", 0, true}, {1, 0, "!!a", 3, true}, {1, 0, "0", 2, false}, {1, 0, "1", 3, true}, {1, 0, "!1", 0, true}, {1, 0, "2", 1, false}, {1, 0, "a=a", 2, false}, {1, 0, "a&!a", 1, false},
		{2, 0, "a", 15, true}, {2, 1, "b", 15, true}, {2, 0, "!a", 0, true}, {2, 1, "!b", 0, true}, {2, 0, "b", 9, false}, {2, 1, "a", 9, false}, {2, 0, "!b", 6, false}, {2, 1, "!a", 6, false},
		{2, 0, "a=b", 12, true}, {2, 1, "a=b", 10, true}, {2, 0, "!(a=b)", 3, true}, {2, 0, "a=!b", 3, true}, {2, 0, "0", 10, false}, {2, 1, "0", 12, false}, {2, 0, "3", 5, false}, {2, 1, "3", 3, false},
		{2, 0, "a&b", 13, false}, {2, 1, "a&b", 11, false}, {2, 0, "a|b", 11, false}, {2, 0, "1", 11, false}, {2, 0, "2", 13, false}, {2, 0, "a&1", 15, true}, {2, 0, "a=2", 8, false},
		{3, 0, "b=c", 150, false}, {3, 0, "a=(b=c)", 195, true}, {3, 2, "c", 255, true}, {3, 2, "4", 15, false}, {3, 0, "!b&!c", 86, false}, {3, 0, "b=c=a", 195, true},
		{4, 3, "d", 65535, true}, {4, 3, "!d", 0, true}, {4, 2, "0", 61680, false}, {4, 3, "5", 255, false}, {4, 3, "a=d", 0xaaaa, true}, {4, 0, "a=d", 0xff00, true}, {4, 1, "a=d", 0x9966, false},
	} {
		marks := readRow(t, x.people, x.s)
		yes := 0
		for world := range power(x.people) {
			switch got := impl.AnswerIn(x.people, x.who, marks, world); got {
			case 1:
				yes += power(world)
			case 0:
			default:
				t.Error("AnswerIn", x.people, x.who, x.s, world, got)
			}
		}
		if yes != x.yes {
			t.Error("AnswerIn", x.people, x.who, x.s, yes)
		}
		if got := impl.AlikeOk(x.people, x.who, marks); got != x.alike {
			t.Error("AlikeOk", x.people, x.who, x.s, got)
		}
	}
}

func TestTrickExamples(t *testing.T) {
	for _, x := range []struct {
		people, who int
		s           string
		want        string
		alike       bool
	}{
		{1, 0, "a", "a=a", false}, {1, 0, "!a", "a=!a", false}, {1, 0, "0", "a=0", true}, {1, 0, "2", "a=2", true}, {1, 0, "1", "a=1", false},
		{2, 0, "b", "a=b", true}, {2, 1, "b", "b=b", false}, {2, 0, "a=b", "a=(a=b)", false}, {2, 1, "!a", "b=!a", true}, {2, 0, "a&b", "a=a&b", false}, {2, 0, "!(a|b)", "a=!(a|b)", false}, {2, 0, "b&0", "a=b&0", true},
		{3, 2, "a&b", "c=a&b", true}, {3, 1, "a&b", "b=a&b", false}, {3, 0, "b=c=c", "a=(b=c=c)", true}, {3, 0, "2", "a=2", false},
		{4, 3, "!d|5", "d=!d|5", false}, {4, 3, "a&b|c", "d=a&b|c", true}, {4, 1, "b|!b", "b=b|!b", true},
	} {
		marks := readRow(t, x.people, x.s)
		trick, ok := impl.TrickTerm(x.people, x.who, marks)
		if got := impl.TermText(x.people, trick); !ok || got != x.want {
			t.Error("TrickTerm", x.people, x.who, x.s, got, ok)
		}
		for world := range power(x.people) {
			want := 0
			if impl.HoldsIn(x.people, marks, world) {
				want = 1
			}
			if got := impl.AnswerIn(x.people, x.who, trick, world); got != want {
				t.Error("AnswerIn", x.people, x.who, x.want, world, got)
			}
		}
		if got := impl.AlikeOk(x.people, x.who, trick); got != x.alike {
			t.Error("AlikeOk", x.people, x.who, x.want, got)
		}
	}
}

func TestChainExamples(t *testing.T) {
	for _, x := range []struct {
		people int
		list   []int
		s      string
		want   string
		table  int
	}{
		{1, nil, "a", "a", 2}, {1, []int{}, "!a", "!a", 1}, {1, []int{0}, "a", "a=a", 3}, {1, []int{0, 0}, "a", "a=(a=a)", 2}, {1, []int{0, 0, 0, 0, 0, 0, 0}, "a", "a=(a=(a=(a=(a=(a=(a=a))))))", 3},
		{2, nil, "b", "b", 12}, {2, []int{0}, "b", "a=b", 9}, {2, []int{1}, "b", "b=b", 15}, {2, []int{1}, "!b", "b=!b", 0}, {2, []int{0, 1}, "b", "a=(b=b)", 10}, {2, []int{1, 0}, "b", "b=(a=b)", 10},
		{2, []int{0, 0}, "b", "a=(a=b)", 12}, {2, []int{0, 1, 0}, "a", "a=(b=(a=a))", 9}, {2, []int{1, 1, 0}, "a|b", "b=(b=(a=a|b))", 11}, {2, []int{0, 1}, "!b&1", "a=(b=!b&1)", 4}, {2, []int{1, 0}, "0", "b=(a=0)", 9}, {2, []int{0, 1}, "3", "a=(b=3)", 6},
		{3, []int{0, 1, 2}, "4", "a=(b=(c=4))", 105}, {3, []int{2, 0}, "b", "c=(a=b)", 150}, {3, []int{1}, "c=a", "b=(c=a)", 150}, {3, []int{2, 1, 0}, "a=b=c", "c=(b=(a=(a=b=c)))", 255},
		{4, nil, "5", "5", 0}, {4, []int{0, 1, 2, 3}, "0", "a=(b=(c=(d=0)))", 38505}, {4, []int{3, 3, 3}, "d", "d=(d=(d=d))", 65535}, {4, []int{3, 0}, "d", "d=(a=d)", 43690},
	} {
		got, ok := impl.ChainTerm(x.people, x.list, readRow(t, x.people, x.s))
		if s := impl.TermText(x.people, got); !ok || s != x.want {
			t.Error("ChainTerm", x.people, x.list, x.s, s, ok)
		}
		if table := impl.TableOf(x.people, got); table != x.table {
			t.Error("TableOf", x.people, x.want, table)
		}
	}
}

// Asked about oneself, tellers and liars say yes to telling the truth, and no to lying, with more and more of not, up to the most marks.
func TestQuestionsAboutTheOneWhoIsAsked(t *testing.T) {
	for people := 1; people <= impl.MaxPeople; people++ {
		for who := range people {
			for count := range impl.MaxMarks {
				n := nots(count, personTree(who))
				for world := range power(people) {
					if got := impl.AnswerIn(people, who, n.marks(), world); got != 1-count%2 {
						t.Error("AnswerIn", people, who, n.text(), world, got)
					}
				}
				for other := range people {
					if got := impl.AlikeOk(people, other, n.marks()); got != (other == who) {
						t.Error("AlikeOk", people, other, n.text(), got)
					}
					checkAsked(t, people, other, n)
					checkTrick(t, people, other, n)
					checkChain(t, people, []int{who, other}, n)
				}
			}
			checkNoQuestion(t, people, nots(impl.MaxMarks, personTree(who)).marks())
		}
	}
}

// Asked what always or never holds, tellers and liars answer differently; the trick question about it they answer alike.
func TestQuestionsThatAlwaysOrNeverHold(t *testing.T) {
	for people := 1; people <= impl.MaxPeople; people++ {
		last := personTree(people - 1)
		for _, always := range []*tree{countTree(0), notTree(countTree(people + 1)), orTree(last, notTree(last)), sameTree(last, last)} {
			for who := range people {
				for world, tells := range personTree(who).truths(people) {
					yes := impl.AnswerIn(people, who, always.marks(), world)
					no := impl.AnswerIn(people, who, notTree(always).marks(), world)
					if yes+no != 1 || (yes == 1) != tells {
						t.Error(people, who, always.text(), world, yes, no)
					}
				}
				for _, n := range []*tree{always, notTree(always)} {
					if impl.AlikeOk(people, who, n.marks()) || !impl.AlikeOk(people, who, trickTree(who, n).marks()) {
						t.Error("AlikeOk", people, who, n.text())
					}
					checkAsked(t, people, who, n)
					checkTrick(t, people, who, n)
					checkChain(t, people, []int{who}, n)
				}
			}
		}
	}
}

// Of each length of a term there is an answer, and of just those that leave room a trick question, and chains.
func TestMostMarksOfQuestions(t *testing.T) {
	for people := 1; people <= impl.MaxPeople; people++ {
		for size := 1; size <= 40; size++ {
			checkSizeOfQuestion(t, people, nots(size-1, countTree(people)))
		}
		for kind := impl.MarkAnd; kind <= impl.MarkSame; kind++ {
			for _, left := range []bool{true, false} {
				for _, count := range []int{1, 6, 7, 8, 9, 500} {
					checkSizeOfQuestion(t, people, chain(kind, count, left))
					checkSizeOfQuestion(t, people, notTree(chain(kind, count, left)))
				}
			}
		}
	}
}

func checkSizeOfQuestion(t *testing.T, people int, n *tree) {
	t.Helper()
	marks := n.marks()
	if len(marks) > impl.MaxMarks {
		checkNoQuestion(t, people, marks)
		return
	}
	for who := range people {
		checkAsked(t, people, who, n)
		checkTrick(t, people, who, n)
		if _, ok := impl.TrickTerm(people, who, marks); ok != (len(marks) <= 13) {
			t.Error("TrickTerm", people, who, n.text(), ok)
		}
		for count := range 12 {
			list := slices.Repeat([]int{who}, count)
			checkChain(t, people, list, n)
			if _, ok := impl.ChainTerm(people, list, marks); ok != (count <= (15-len(marks))/2) {
				t.Error("ChainTerm", people, who, count, n.text(), ok)
			}
		}
	}
}

func TestChainsOfVeryManyPeople(t *testing.T) {
	many := make([]int, 1000000)
	for people := 1; people <= impl.MaxPeople; people++ {
		for _, count := range []int{7, 8, 9, 10, 100, 1 << 16, len(many)} {
			for _, row := range [][]impl.Mark{tellsRow(people - 1), nots(14, countTree(0)).marks()} {
				got, ok := impl.ChainTerm(people, many[:count], row)
				if want := count == 7 && len(row) == 1; ok != want || ok && len(got) != 15 || !ok && len(got) != 0 {
					t.Error(people, count, len(row), got, ok)
				}
			}
			checkNoChain(t, people, many[:count], nil)
			checkNoChain(t, people, many[:count], tellsRow(people))
		}
		for _, place := range []int{0, 1, len(many) / 2, len(many) - 1} {
			for _, nobody := range []int{-1, people} {
				many[place] = nobody
				checkNoChain(t, people, many, tellsRow(0))
				many[place] = 0
			}
		}
	}
}

// Somebody who is none of the people makes no chain, wherever in the list.
func TestNobodyInChains(t *testing.T) {
	for people := 1; people <= impl.MaxPeople; people++ {
		for count := 1; count <= 7; count++ {
			list := make([]int, count)
			for i := range list {
				list[i] = i % people
			}
			checkChain(t, people, list, personTree(0))
			for place := range list {
				was := list[place]
				for _, nobody := range noPersons(people) {
					list[place] = nobody
					checkNoChain(t, people, list, tellsRow(0))
					checkNoChain(t, people, list, countRow(0))
				}
				list[place] = was
			}
		}
	}
}

// A trick of a trick is one still, by the same person and by others in turn, until it is too long.
func TestTricksOfTricks(t *testing.T) {
	for people := 1; people <= impl.MaxPeople; people++ {
		for _, n := range treesOf(people, 2) {
			for first := range people {
				for step := range people {
					checkDeepTrick(t, people, first, step, n)
				}
			}
		}
	}
}

func checkDeepTrick(t *testing.T, people, who, step int, inner *tree) {
	t.Helper()
	got, want, depth := inner.marks(), inner, 0
	var list []int
	for {
		checkAsked(t, people, who, want)
		next, ok := impl.TrickTerm(people, who, got)
		if !ok {
			checkNoTrick(t, people, who, got)
			break
		}
		got, want, depth = next, trickTree(who, want), depth+1
		list = append([]int{who}, list...)
		chained, ok := impl.ChainTerm(people, list, inner.marks())
		if !slices.Equal(got, want.marks()) || !ok || !slices.Equal(got, chained) {
			t.Fatal(people, list, want.text(), got, chained)
		}
		who = (who + step) % people
	}
	if left := impl.MaxMarks - len(inner.marks()); depth != left/2 {
		t.Error(people, list, inner.text(), depth)
	}
}

// A trick question of one person is answered alike by another one just if the term is.
func TestTrickQuestionsOfOtherPeople(t *testing.T) {
	alike, others := 0, 0
	eachAsked(func(people, who int, n *tree) {
		trick, ok := impl.TrickTerm(people, who, n.marks())
		if !ok {
			return
		}
		for other := range people {
			if other == who {
				continue
			}
			got := impl.AlikeOk(people, other, trick)
			if got != impl.AlikeOk(people, other, n.marks()) {
				t.Fatal(people, who, other, n.text(), got)
			}
			if got {
				alike++
			} else {
				others++
			}
		}
	})
	if alike < 1000 || others < 1000 {
		t.Fatal("too few tricks", alike, others)
	}
}

// What one would say that one says is a chain of one, and the answer is yes just where it holds.
func TestAnswersAreChainsOfOne(t *testing.T) {
	eachAsked(func(people, who int, n *tree) {
		one, ok := impl.ChainTerm(people, []int{who}, n.marks())
		if trick, same := impl.TrickTerm(people, who, n.marks()); ok != same || !slices.Equal(one, trick) {
			t.Fatal(people, who, n.text(), one, trick)
		}
		for world := range power(people) {
			if answer := impl.AnswerIn(people, who, n.marks(), world); ok && impl.HoldsIn(people, one, world) != (answer == 1) {
				t.Fatal(people, who, n.text(), world, answer)
			}
		}
	})
}

func TestQuestionsRefuse(t *testing.T) {
	for _, people := range wrongPeople {
		for _, row := range [][]impl.Mark{nil, tellsRow(0), countRow(0), countRow(1), liesRow(0)} {
			checkNoQuestion(t, people, row)
			for _, who := range []int{people - 1, people} {
				checkNotAnswered(t, people, who, row)
			}
		}
	}
	for people := 1; people <= impl.MaxPeople; people++ {
		for _, row := range [][]impl.Mark{tellsRow(0), countRow(0), liesRow(people - 1), nots(14, countTree(0)).marks()} {
			for _, nobody := range noPersons(people) {
				checkNotAnswered(t, people, nobody, row)
			}
			for who := range people {
				for _, world := range append([]int{power(people), power(people) + 1, 2 * power(people), 16, 31, 32, 63, 64, 65}, farNumbers...) {
					checkNoAnswer(t, people, who, row, world)
				}
			}
		}
		for _, row := range noTerms(people) {
			checkNoQuestion(t, people, row)
		}
	}
}

// Some rows that are no term would be one behind persons and ahead of MarkSame.
func TestQuestionsOfAllShortRows(t *testing.T) {
	marks := []impl.Mark{{Kind: 0}, {Kind: 0, At: 1}, {Kind: 1}, {Kind: 2}, {Kind: 3}, {Kind: 4}, {Kind: 5}}
	would := 0
	for people := 1; people <= 2; people++ {
		eachRow(marks, 5, func(row []impl.Mark) {
			if termByRule(people, row) {
				return
			}
			for _, list := range [][]int{nil, {0}, {0, 0}, {0, 0, 0}} {
				checkNoChain(t, people, list, row)
				around := slices.Concat(slices.Repeat(tellsRow(0), len(list)), row, slices.Repeat([]impl.Mark{{Kind: impl.MarkSame}}, len(list)))
				if termByRule(people, around) {
					would++
				}
			}
			checkNoTrick(t, people, 0, row)
			checkNoAnswer(t, people, 0, row, 1)
			if impl.AlikeOk(people, 0, row) {
				t.Error("AlikeOk", people, row)
			}
			if t.Failed() {
				t.FailNow()
			}
		})
	}
	if would < 100 {
		t.Fatal("too few rows", would)
	}
}

// A person of some people is nobody of fewer, and a world of theirs may be none.
func TestQuestionsOfOtherPeople(t *testing.T) {
	for people := 2; people <= impl.MaxPeople; people++ {
		last := people - 1
		for fewer := 1; fewer < people; fewer++ {
			checkNotAnswered(t, fewer, last, tellsRow(0))
			checkNotAnswered(t, fewer, last, countRow(0))
			checkNoQuestion(t, fewer, tellsRow(last))
			checkNoQuestion(t, fewer, countRow(people+1))
			checkNoChain(t, fewer, []int{0, last}, tellsRow(0))
			checkNoChain(t, fewer, []int{last, 0}, tellsRow(0))
			checkNoAnswer(t, fewer, 0, tellsRow(0), power(people)-1)
		}
	}
}

// Promise 43.
func TestYesIsAClaimAndNoItsDenial(t *testing.T) {
	claims, denied, refused := 0, 0, 0
	eachAsked(func(people, who int, n *tree) {
		c := impl.Claim{Who: who, Says: n.marks()}
		is := impl.ClaimOk(people, c)
		denial, isDenied := impl.DenyClaim(people, c)
		switch {
		case isDenied:
			denied++
		case is:
			claims++
		default:
			refused++
		}
		for world := range power(people) {
			answer, tells := impl.AnswerIn(people, who, c.Says, world), tellsIn(people, world)[who]
			if answer != 0 && answer != 1 || (impl.HoldsIn(people, c.Says, world) == tells) != (answer == 1) {
				t.Fatal(people, who, n.text(), world, answer)
			}
			if is && impl.MaySay(people, c, world) != (answer == 1) || isDenied && impl.MaySay(people, denial, world) != (answer == 0) {
				t.Fatal("claim", people, who, n.text(), world, answer)
			}
		}
	})
	if claims < 1000 || denied < 1000 || refused < 1000 {
		t.Fatal("too few terms", claims, denied, refused)
	}
}

// Promise 44.
func TestOneQuestionToAnybodyIsEnough(t *testing.T) {
	told, refused := 0, 0
	eachAsked(func(people, who int, n *tree) {
		trick, ok := impl.TrickTerm(people, who, n.marks())
		if !ok {
			refused++
			return
		}
		told++
		for world := range power(people) {
			if got := impl.AnswerIn(people, who, trick, world); (got == 1) != impl.HoldsIn(people, n.marks(), world) || got == -1 {
				t.Fatal(people, who, n.text(), world, got)
			}
		}
	})
	if told < 1000 || refused < 1000 {
		t.Fatal("too few tricks", told, refused)
	}
}

// Promise 45.
func TestEachLiarTurnsItRoundOnce(t *testing.T) {
	even, odd := 0, 0
	eachChain(func(people int, list []int, n *tree) {
		got, ok := impl.ChainTerm(people, list, n.marks())
		if !ok {
			return
		}
		for world := range power(people) {
			isOdd := oddLiars(list, tellsIn(people, world))
			if isOdd {
				odd++
			} else {
				even++
			}
			if impl.HoldsIn(people, got, world) == (impl.HoldsIn(people, n.marks(), world) == isOdd) {
				t.Fatal(people, list, n.text(), world)
			}
		}
	})
	if even < 1000 || odd < 1000 {
		t.Fatal("too few chains", even, odd)
	}
	eachTree(func(people int, n *tree) {
		for _, nobody := range [][]int{nil, {}} {
			if got, ok := impl.ChainTerm(people, nobody, n.marks()); !ok || !slices.Equal(got, n.marks()) {
				t.Fatal(people, n.text(), got, ok)
			}
		}
	})
}

// Promise 46.
func TestTricksAreAnsweredAlikeIfTheyAskOfOthers(t *testing.T) {
	alike, oneself, others := 0, 0, 0
	eachAsked(func(people, who int, n *tree) {
		matters := tellsIn(people, impl.MatterIn(people, n.marks()))[who]
		if impl.AlikeOk(people, who, n.marks()) {
			alike++
			if !matters {
				t.Fatal(people, who, n.text())
			}
		}
		trick, ok := impl.TrickTerm(people, who, n.marks())
		if !ok {
			return
		}
		if got := impl.AlikeOk(people, who, trick); got == matters {
			t.Fatal("trick", people, who, n.text(), got)
		}
		if matters {
			oneself++
		} else {
			others++
		}
	})
	if alike < 1000 || oneself < 1000 || others < 1000 {
		t.Fatal("too few terms", alike, oneself, others)
	}
}

// Promise 47.
func TestChainsAreTurnedRoundAsWholes(t *testing.T) {
	told := 0
	eachChain(func(people int, list []int, n *tree) {
		there, ok := impl.ChainTerm(people, list, n.marks())
		back, okBack := impl.ChainTerm(people, reversed(list), n.marks())
		if ok != okBack || impl.SameOk(people, there, back) != ok {
			t.Fatal(people, list, n.text(), there, back)
		}
		if ok && !slices.Equal(there, back) {
			told++
		}
	})
	if told < 1000 {
		t.Fatal("too few chains", told)
	}
}

// Promise 48.
func TestATrickOfATrickIsTheQuestionItself(t *testing.T) {
	told, refused := 0, 0
	eachAsked(func(people, who int, n *tree) {
		once, _ := impl.TrickTerm(people, who, n.marks())
		twice, ok := impl.TrickTerm(people, who, once)
		if impl.SameOk(people, twice, n.marks()) != ok || ok != (len(n.marks())+4 <= impl.MaxMarks) {
			t.Fatal(people, who, n.text(), twice, ok)
		}
		if ok {
			told++
		} else {
			refused++
		}
	})
	if told < 1000 || refused < 1000 {
		t.Fatal("too few tricks", told, refused)
	}
}

// The general rules: terms and lists are not written to, and questions are new.
func TestQuestionsAreNotShared(t *testing.T) {
	row, all := withSpare(orTree(personTree(0), countTree(1)).marks())
	before := slices.Clone(all)
	people := []int{1, 0, 7, 7}
	list := people[:2]
	if impl.AnswerIn(2, 0, row, 2) != 0 || impl.AnswerIn(2, 0, row, 3) != 1 || impl.AlikeOk(2, 0, row) {
		t.Error(row)
	}
	made := map[string]func() ([]impl.Mark, bool){
		"b=a|1":     func() ([]impl.Mark, bool) { return impl.TrickTerm(2, 1, row) },
		"b=(a=a|1)": func() ([]impl.Mark, bool) { return impl.ChainTerm(2, list, row) },
		"a|1":       func() ([]impl.Mark, bool) { return impl.ChainTerm(2, nil, row) },
	}
	for want, question := range made {
		first, _ := question()
		second, ok := question()
		if !slices.Equal(all, before) || !slices.Equal(people, []int{1, 0, 7, 7}) {
			t.Error("an argument is written to", want, all, people)
		}
		spoil(first)
		if !slices.Equal(all, before) || !slices.Equal(people, []int{1, 0, 7, 7}) || impl.TermText(2, row) != "a|1" {
			t.Error("a result shares memory with an argument", want, all, people)
		}
		if !ok || impl.TermText(2, second) != want {
			t.Error("two results share memory", want, second)
		}
		spoil(row)
		people[0], people[1] = 7, 7
		if impl.TermText(2, second) != want {
			t.Error("a result follows an argument", want, second)
		}
		copy(all, before)
		people[0], people[1] = 1, 0
	}
}
