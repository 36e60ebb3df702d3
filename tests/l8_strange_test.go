package tests

import (
	"slices"
	"testing"

	"loop.example/tellersandliars/impl"
)

// wordOf goes by cases through what the word means, where the program compares bits.
func wordOf(who int, n *tree, tells []bool) int {
	switch yes, meansYes := answerOf(who, n, tells) == 1, tells[len(tells)-1]; {
	case yes && meansYes:
		return 1
	case yes:
		return 0
	case meansYes:
		return 0
	}
	return 1
}

// wordsOf are the worlds in which the word is said, as a table.
func wordsOf(people, who int, n *tree) int {
	var row []bool
	for world := range power(people) {
		row = append(row, wordOf(who, n, tellsIn(people, world)) == 1)
	}
	return worldOfRow(row)
}

// strangeTree is the question whether a term holds just if the person tells the truth just if the word means yes.
func strangeTree(people, who int, n *tree) *tree {
	return sameTree(personTree(who), sameTree(personTree(people-1), n))
}

// mostStrange is how many marks a term of which there is a strange question may have.
const mostStrange = 11

// eachSpeaker calls f for each person who may be asked, and how many people there are.
func eachSpeaker(f func(people, who int)) {
	for people := 2; people <= impl.MaxPeople; people++ {
		for who := range people - 1 {
			f(people, who)
		}
	}
}

// eachSpoken calls f for each person who may be asked, and each term of eachTree.
func eachSpoken(f func(people, who int, n *tree)) {
	eachAsked(func(people, who int, n *tree) {
		if who < people-1 {
			f(people, who, n)
		}
	})
}

// checkNotSpoken tests what is returned for one who is not asked, or not this.
func checkNotSpoken(t *testing.T, people, who int, row []impl.Mark) {
	t.Helper()
	for _, world := range []int{-1, 0, 1, 2, 3, 7, 15, 16} {
		checkNoWord(t, people, who, row, world)
	}
	checkNotStrange(t, people, who, row)
	if got := impl.WordTable(people, who, row); got != -1 {
		t.Error("WordTable", people, who, row, got)
	}
}

func checkNoWord(t *testing.T, people, who int, row []impl.Mark, world int) {
	t.Helper()
	if got := impl.WordIn(people, who, row, world); got != -1 {
		t.Error("WordIn", people, who, row, world, got)
	}
}

func checkNotStrange(t *testing.T, people, who int, row []impl.Mark) {
	t.Helper()
	if got, ok := impl.StrangeTerm(people, who, row); ok || len(got) != 0 {
		t.Error("StrangeTerm", people, who, row, got, ok)
	}
}

// checkWords tests in each world whether the word is said, and the table of these worlds.
func checkWords(t *testing.T, people, who int, n *tree) {
	t.Helper()
	marks := n.marks()
	for world := range power(people) {
		if got := impl.WordIn(people, who, marks, world); got != wordOf(who, n, tellsIn(people, world)) {
			t.Error("WordIn", people, who, n.text(), world, got)
		}
	}
	if got := impl.WordTable(people, who, marks); got != wordsOf(people, who, n) {
		t.Error("WordTable", people, who, n.text(), got)
	}
}

// checkStrange tests the strange question, which is none if it has too many marks.
func checkStrange(t *testing.T, people, who int, n *tree) {
	t.Helper()
	if len(n.marks()) > mostStrange {
		checkNotStrange(t, people, who, n.marks())
		return
	}
	if got, ok := impl.StrangeTerm(people, who, n.marks()); !ok || !slices.Equal(got, strangeTree(people, who, n).marks()) {
		t.Error("StrangeTerm", people, who, n.text(), got, ok)
	}
}

func TestWordsOfAllTerms(t *testing.T) {
	eachSpoken(func(people, who int, n *tree) {
		checkWords(t, people, who, n)
		checkStrange(t, people, who, n)
		if t.Failed() {
			t.FailNow()
		}
	})
}

func TestWordExamples(t *testing.T) {
	for _, x := range []struct {
		people, who int
		s           string
		table       int
	}{
		{2, 0, "a", 12}, {2, 0, "!a", 3}, {2, 0, "b", 10}, {2, 0, "!b", 5}, {2, 0, "0", 9}, {2, 0, "3", 6}, {2, 0, "1", 8}, {2, 0, "2", 14}, {2, 0, "!1", 7}, {2, 0, "a=b", 15}, {2, 0, "a=!b", 0},
		{2, 0, "a&b", 14}, {2, 0, "a|b", 8}, {2, 0, "a=(b=a)", 10}, {2, 0, "a=(b=b)", 12}, {2, 0, "a=(b=0)", 15}, {2, 0, "a|!a", 9}, {2, 0, "a&!a", 6},
		{3, 0, "a", 240}, {3, 1, "b", 240}, {3, 0, "b", 150}, {3, 1, "a", 150}, {3, 0, "c", 170}, {3, 1, "c", 204}, {3, 0, "!c", 85}, {3, 0, "0", 165}, {3, 1, "4", 60}, {3, 0, "3", 218}, {3, 1, "2", 212}, {3, 0, "1", 164},
		{3, 0, "a=b", 195}, {3, 1, "a=b", 165}, {3, 0, "a=(c=b)", 204}, {3, 1, "b=(c=a)", 170}, {3, 0, "b&c", 154}, {3, 1, "!(a|c)", 57},
		{4, 0, "a", 0xff00}, {4, 2, "c", 0xff00}, {4, 2, "!c", 0xff}, {4, 0, "d", 0xaaaa}, {4, 1, "!d", 0x3333}, {4, 2, "0", 0xf00f}, {4, 0, "5", 0x55aa}, {4, 1, "4", 0xb3cc}, {4, 2, "2", 0xf118}, {4, 0, "a=(d=b&c)", 0xc0c0}, {4, 1, "b=(d=3)", 0xe880},
	} {
		marks := readRow(t, x.people, x.s)
		if got := impl.WordTable(x.people, x.who, marks); got != x.table {
			t.Error("WordTable", x.people, x.who, x.s, got)
		}
		for world, said := range tellsIn(power(x.people), x.table) {
			if got := impl.WordIn(x.people, x.who, marks, world); got < 0 || got > 1 || (got == 1) != said {
				t.Error("WordIn", x.people, x.who, x.s, world, got)
			}
		}
	}
}

func TestStrangeExamples(t *testing.T) {
	for _, x := range []struct {
		people, who int
		s           string
		want        string
	}{
		{2, 0, "a", "a=(b=a)"}, {2, 0, "b", "a=(b=b)"}, {2, 0, "!a", "a=(b=!a)"}, {2, 0, "0", "a=(b=0)"}, {2, 0, "3", "a=(b=3)"}, {2, 0, "a&b", "a=(b=a&b)"}, {2, 0, "a|1", "a=(b=a|1)"}, {2, 0, "a=b", "a=(b=(a=b))"}, {2, 0, "!(a=b)", "a=(b=!(a=b))"},
		{3, 0, "b", "a=(c=b)"}, {3, 1, "a", "b=(c=a)"}, {3, 1, "c", "b=(c=c)"}, {3, 0, "a=(c=b)", "a=(c=(a=(c=b)))"}, {3, 1, "a=(c=b)", "b=(c=(a=(c=b)))"}, {3, 1, "4", "b=(c=4)"},
		{4, 0, "b&c|!d", "a=(d=b&c|!d)"}, {4, 1, "5", "b=(d=5)"}, {4, 2, "a=b=c", "c=(d=(a=b=c))"},
	} {
		got, ok := impl.StrangeTerm(x.people, x.who, readRow(t, x.people, x.s))
		if s := impl.TermText(x.people, got); !ok || s != x.want {
			t.Error("StrangeTerm", x.people, x.who, x.s, s, ok)
		}
	}
}

// checkAskedAbout asks whether one of the people tells the truth, with more and more of not, up to the most marks: the word is said just as the sign, who is one of them, too, tells the truth, and turned round by each not.
func checkAskedAbout(t *testing.T, people, who, about, sign int) {
	t.Helper()
	for count := range impl.MaxMarks {
		n := nots(count, personTree(about))
		for world := range power(people) {
			tells := tellsIn(people, world)[sign]
			if got := impl.WordIn(people, who, n.marks(), world); (got == 1) != (tells == (count%2 == 0)) {
				t.Error("WordIn", people, who, n.text(), world, got)
			}
		}
		checkWords(t, people, who, n)
		checkStrange(t, people, who, n)
	}
}

// Asked about telling the truth oneself, tellers and liars say the word just if it means yes.
func TestWordsAboutTheOneWhoIsAsked(t *testing.T) {
	eachSpeaker(func(people, who int) {
		checkAskedAbout(t, people, who, who, people-1)
	})
}

// Asked whether the word means yes, tellers say it and liars do not, whatever it means.
func TestWordsAboutTheWordItself(t *testing.T) {
	eachSpeaker(func(people, who int) {
		checkAskedAbout(t, people, who, people-1, who)
	})
}

// Asked what always holds, tellers say the word just if it means yes, and liars just if it means no; asked what never holds, each says the other one.
func TestWordsAboutWhatAlwaysOrNeverHolds(t *testing.T) {
	eachSpeaker(func(people, who int) {
		last := personTree(people - 1)
		for _, always := range []*tree{countTree(0), notTree(countTree(people + 1)), orTree(last, notTree(last)), sameTree(last, last)} {
			never := notTree(always)
			for world := range power(people) {
				tells := tellsIn(people, world)
				said := impl.WordIn(people, who, always.marks(), world)
				other := impl.WordIn(people, who, never.marks(), world)
				if said+other != 1 || (said == 1) != (tells[who] == tells[people-1]) {
					t.Error(people, who, always.text(), world, said, other)
				}
			}
			for _, n := range []*tree{always, never} {
				checkWords(t, people, who, n)
				checkStrange(t, people, who, n)
			}
		}
	})
}

// The last one is counted with the others: where nobody else tells the truth, at least one does just if the word means yes.
func TestWordsOfCounts(t *testing.T) {
	eachSpeaker(func(people, who int) {
		for at := range people + 2 {
			for _, n := range []*tree{countTree(at), notTree(countTree(at))} {
				checkWords(t, people, who, n)
				checkStrange(t, people, who, n)
			}
		}
		strange, _ := impl.StrangeTerm(people, who, countRow(1))
		meansNo, meansYes := 0, power(people-1)
		if impl.WordIn(people, who, strange, meansNo) != 0 || impl.WordIn(people, who, strange, meansYes) != 1 {
			t.Error(people, who, strange)
		}
		if impl.WordIn(people, who, countRow(1), meansNo) != 0 || impl.WordIn(people, who, countRow(1), meansYes) != 0 {
			t.Error(people, who)
		}
	})
}

// Where the last one matters, the word may be said in both lands, or in neither.
func TestWordsOfTermsForWhichTheLastOneMatters(t *testing.T) {
	eachSpeaker(func(people, who int) {
		for world := range power(people - 1) {
			tells := tellsIn(people, world)[who]
			for _, row := range [][]impl.Mark{tellsRow(people - 1), countRow(tellersOf(tellsIn(people, world)) + 1)} {
				here, there := impl.WordIn(people, who, row, world), impl.WordIn(people, who, row, world+power(people-1))
				if here != there || (here == 1) != tells {
					t.Error(people, who, row, world, here, there)
				}
			}
		}
	})
}

// In worlds in which the word means yes, it is said just if the answer is yes, whatever is asked; and else just if it is no.
func TestWordsAreAnswersTurnedRound(t *testing.T) {
	eachSpoken(func(people, who int, n *tree) {
		for world := range power(people) {
			want := impl.AnswerIn(people, who, n.marks(), world)
			if !tellsIn(people, world)[people-1] {
				want = 1 - want
			}
			if got := impl.WordIn(people, who, n.marks(), world); got != want {
				t.Fatal(people, who, n.text(), world, got)
			}
		}
	})
}

// Of each length of a term there is a word, and of just those that leave room for four marks a strange question.
func TestMostMarksOfStrangeQuestions(t *testing.T) {
	pick := &picker{state: 31}
	eachSpeaker(func(people, who int) {
		for size := 1; size <= impl.MaxMarks; size++ {
			checkSizeOfStrange(t, people, who, nots(size-1, countTree(people)))
			checkSizeOfStrange(t, people, who, nots(size-1, personTree(people-1)))
			for range 100 {
				checkSizeOfStrange(t, people, who, pick.tree(people, size))
			}
		}
		for kind := impl.MarkAnd; kind <= impl.MarkSame; kind++ {
			for _, left := range []bool{true, false} {
				for count := 2; count <= 8; count++ {
					checkSizeOfStrange(t, people, who, chain(kind, count, left))
				}
				checkNotSpoken(t, people, who, notTree(chain(kind, 8, left)).marks())
				checkNotSpoken(t, people, who, chain(kind, 9, left).marks())
			}
		}
		checkNotSpoken(t, people, who, nots(impl.MaxMarks, countTree(0)).marks())
	})
}

func checkSizeOfStrange(t *testing.T, people, who int, n *tree) {
	t.Helper()
	checkWords(t, people, who, n)
	checkStrange(t, people, who, n)
	got, ok := impl.StrangeTerm(people, who, n.marks())
	size := len(n.marks())
	if ok != (size <= 11) || ok && len(got) != size+4 {
		t.Error("StrangeTerm", people, who, n.text(), got, ok)
	}
}

// A strange question of a strange question is one still, asked of the same person and of others in turn, until it is too long; who is asked the outer one says the word just if the inner one holds.
func TestStrangeQuestionsOfStrangeQuestions(t *testing.T) {
	eachSpeaker(func(people, first int) {
		for _, n := range treesOf(people, 3) {
			for step := range people - 1 {
				checkDeepStrange(t, people, first, step, n)
			}
		}
	})
}

func checkDeepStrange(t *testing.T, people, who, step int, inner *tree) {
	t.Helper()
	got, want, depth := inner.marks(), inner, 0
	for {
		checkWords(t, people, who, want)
		checkStrange(t, people, who, want)
		next, ok := impl.StrangeTerm(people, who, got)
		if !ok {
			break
		}
		if table := impl.WordTable(people, who, next); table != want.table(people) {
			t.Error("WordTable", people, who, want.text(), table)
		}
		got, want, depth = next, strangeTree(people, who, want), depth+1
		who = (who + step) % (people - 1)
	}
	if !slices.Equal(got, want.marks()) || depth != (impl.MaxMarks-len(inner.marks()))/4 {
		t.Error(people, who, step, inner.text(), got, depth)
	}
}

// The strange question asked twice of the same person is the same as the term.
func TestStrangeQuestionsAskedTwice(t *testing.T) {
	told := 0
	eachSpoken(func(people, who int, n *tree) {
		once, _ := impl.StrangeTerm(people, who, n.marks())
		twice, ok := impl.StrangeTerm(people, who, once)
		if ok != (len(n.marks()) <= 7) || impl.SameOk(people, twice, n.marks()) != ok {
			t.Fatal(people, who, n.text(), twice, ok)
		}
		if ok {
			told++
		}
	})
	if told < 1000 {
		t.Fatal("too few questions", told)
	}
}

// The last one stands for the word and is not asked; so one person alone leaves nobody to ask.
func TestTheLastOneIsNotAsked(t *testing.T) {
	for people := 1; people <= impl.MaxPeople; people++ {
		for _, n := range treesOf(people, 3) {
			checkNotSpoken(t, people, people-1, n.marks())
			for who := range people - 1 {
				checkWords(t, people, who, n)
				checkStrange(t, people, who, n)
			}
		}
	}
	for _, n := range treesOf(1, 3) {
		for _, who := range append([]int{0, 1, 2, 3}, noPersons(1)...) {
			checkNotSpoken(t, 1, who, n.marks())
		}
	}
}

func TestStrangeWordsRefuse(t *testing.T) {
	for _, people := range wrongPeople {
		for _, row := range [][]impl.Mark{nil, tellsRow(0), countRow(0), liesRow(0)} {
			for _, who := range []int{-1, 0, 1, 2, 3, people - 2, people - 1, people} {
				checkNotSpoken(t, people, who, row)
			}
		}
	}
	for people := 1; people <= impl.MaxPeople; people++ {
		for _, row := range [][]impl.Mark{tellsRow(0), tellsRow(people - 1), countRow(0), liesRow(0), nots(14, countTree(0)).marks()} {
			for _, nobody := range noPersons(people) {
				checkNotSpoken(t, people, nobody, row)
			}
			for who := range people {
				for _, world := range append([]int{power(people), power(people) + 1, 2 * power(people), 16, 31, 32, 63, 64, 65}, farNumbers...) {
					checkNoWord(t, people, who, row, world)
				}
			}
		}
		for _, row := range noTerms(people) {
			for who := range people {
				checkNotSpoken(t, people, who, row)
			}
		}
	}
}

// Some rows that are no term would be one behind two persons and ahead of MarkSame twice.
func TestStrangeWordsOfAllShortRows(t *testing.T) {
	marks := []impl.Mark{{Kind: 0}, {Kind: 0, At: 1}, {Kind: 1}, {Kind: 2}, {Kind: 3}, {Kind: 4}, {Kind: 5}}
	would := 0
	eachRow(marks, 5, func(row []impl.Mark) {
		if termByRule(2, row) {
			return
		}
		checkNotSpoken(t, 2, 0, row)
		around := slices.Concat(tellsRow(0), tellsRow(1), row, slices.Repeat([]impl.Mark{{Kind: impl.MarkSame}}, 2))
		if termByRule(2, around) {
			would++
		}
		if t.Failed() {
			t.FailNow()
		}
	})
	if would < 100 {
		t.Fatal("too few rows", would)
	}
}

// Who is asked among some people may be the last one of fewer, or nobody of theirs, and what is asked no term.
func TestStrangeWordsOfOtherPeople(t *testing.T) {
	for people := 2; people <= impl.MaxPeople; people++ {
		for fewer := 1; fewer < people; fewer++ {
			for who := fewer - 1; who < people; who++ {
				checkNotSpoken(t, fewer, who, tellsRow(0))
				checkNotSpoken(t, fewer, who, countRow(0))
			}
			checkNotSpoken(t, fewer, 0, tellsRow(people-1))
			checkNotSpoken(t, fewer, 0, countRow(people+1))
			checkNoWord(t, fewer, 0, tellsRow(0), power(people)-1)
		}
	}
}

// Promise 49.
func TestEachWordMeansTheOtherOneInAnotherLand(t *testing.T) {
	without, with := 0, 0
	eachSpoken(func(people, who int, n *tree) {
		marks := n.marks()
		if tellsIn(people, impl.MatterIn(people, marks))[people-1] {
			with++
			return
		}
		without++
		for world := range power(people - 1) {
			here, there := impl.WordIn(people, who, marks, world), impl.WordIn(people, who, marks, world+power(people-1))
			if here+there != 1 || here != 0 && here != 1 {
				t.Fatal(people, who, n.text(), world, here, there)
			}
		}
	})
	if without < 1000 || with < 1000 {
		t.Fatal("too few terms", without, with)
	}
}

// Promise 50.
func TestOneQuestionInAnyLanguageIsEnough(t *testing.T) {
	told, refused := 0, 0
	eachSpoken(func(people, who int, n *tree) {
		strange, ok := impl.StrangeTerm(people, who, n.marks())
		if !ok {
			refused++
			return
		}
		told++
		for world := range power(people) {
			if got := impl.WordIn(people, who, strange, world); (got == 1) != impl.HoldsIn(people, n.marks(), world) || got == -1 {
				t.Fatal(people, who, n.text(), world, got)
			}
		}
	})
	if told < 1000 || refused < 1000 {
		t.Fatal("too few questions", told, refused)
	}
}

// Promise 51.
func TestWordsAreEquivalencesOfThree(t *testing.T) {
	told, refused := 0, 0
	eachSpoken(func(people, who int, n *tree) {
		table := impl.WordTable(people, who, n.marks())
		for world, said := range tellsIn(power(people), table) {
			tells := tellsIn(people, world)
			if said != (tells[who] == (tells[people-1] == impl.HoldsIn(people, n.marks(), world))) {
				t.Fatal(people, who, n.text(), world, said)
			}
		}
		strange, ok := impl.StrangeTerm(people, who, n.marks())
		if !ok {
			refused++
			return
		}
		told++
		if impl.TableOf(people, strange) != table || !impl.TableOk(people, table) {
			t.Fatal(people, who, n.text(), table)
		}
	})
	if told < 1000 || refused < 1000 {
		t.Fatal("too few questions", told, refused)
	}
}

// Promise 52.
func TestInALanguageThatIsKnownItIsTheTrick(t *testing.T) {
	yes, no := 0, 0
	eachSpoken(func(people, who int, n *tree) {
		trick, _ := impl.TrickTerm(people, who, n.marks())
		strange, ok := impl.StrangeTerm(people, who, n.marks())
		if !ok {
			return
		}
		for world := power(people - 1); world < power(people); world++ {
			word, answer := impl.WordIn(people, who, strange, world), impl.AnswerIn(people, who, trick, world)
			if word != answer || word != 0 && word != 1 || impl.HoldsIn(people, strange, world) != impl.HoldsIn(people, trick, world) {
				t.Fatal(people, who, n.text(), world, word, answer)
			}
			if word == 1 {
				yes++
			} else {
				no++
			}
		}
	})
	if yes < 1000 || no < 1000 {
		t.Fatal("too few answers", yes, no)
	}
}

// The general rules: terms are not written to, and strange questions are new.
func TestStrangeQuestionsAreNotShared(t *testing.T) {
	row, all := withSpare(orTree(personTree(0), countTree(1)).marks())
	before := slices.Clone(all)
	if impl.WordIn(2, 0, row, 3) != 1 || impl.WordIn(2, 0, row, 2) != 0 || impl.WordTable(2, 0, row) != 8 {
		t.Error(row)
	}
	first, _ := impl.StrangeTerm(2, 0, row)
	second, ok := impl.StrangeTerm(2, 0, row)
	if !slices.Equal(all, before) {
		t.Error("the argument is written to", all)
	}
	spoil(first)
	if !slices.Equal(all, before) || impl.TermText(2, row) != "a|1" {
		t.Error("a result shares memory with the argument", all)
	}
	if !ok || impl.TermText(2, second) != "a=(b=a|1)" {
		t.Error("two results share memory", second)
	}
	spoil(row)
	if impl.TermText(2, second) != "a=(b=a|1)" {
		t.Error("a result follows the argument", second)
	}
}
