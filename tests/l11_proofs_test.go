package tests

import (
	"math"
	"slices"
	"strings"
	"testing"

	"loop.example/tellersandliars/impl"
)

// cases is a proof as it hangs together: a case that is closed by what its sign tells, or one that is split by a person, so that rows and texts are made without the program.
type cases struct {
	sign    string
	who     int
	no, yes *cases
}

func closedBy(sign string) *cases {
	return &cases{sign: sign}
}

func splitBy(who int, no, yes *cases) *cases {
	return &cases{who: who, no: no, yes: yes}
}

func (n *cases) text() string {
	if n.sign != "" {
		return n.sign
	}
	return "abcd"[n.who:n.who+1] + "(" + n.no.text() + "," + n.yes.text() + ")"
}

// size is how many splits there are.
func (n *cases) size() int {
	if n.sign != "" {
		return 0
	}
	return 1 + n.no.size() + n.yes.size()
}

// goesOn is where a case goes on to whose splits stand from a place on.
func (n *cases) goesOn(place int) int {
	switch n.sign {
	case "":
		return place
	case "*":
		return -1
	}
	return -2 - int(n.sign[0]-'0')
}

// row has the splits in the order of their letters, from a place on.
func (n *cases) row(place int) []impl.Split {
	if n.sign != "" {
		return nil
	}
	no, yes := place+1, place+1+n.no.size()
	own := impl.Split{Who: n.who, No: n.no.goesOn(no), Yes: n.yes.goesOn(yes)}
	return slices.Concat([]impl.Split{own}, n.no.row(no), n.yes.row(yes))
}

func (n *cases) proof() impl.Proof {
	return impl.Proof{First: n.goesOn(0), Splits: n.row(0)}
}

// allCases are all proofs in which just these people are not known, and cases are closed by some signs, right ones and wrong ones.
func allCases(unknown []int, signs string) []*cases {
	var list []*cases
	for _, sign := range signs {
		list = append(list, closedBy(string(sign)))
	}
	for place, who := range unknown {
		parts := allCases(slices.Delete(slices.Clone(unknown), place, place+1), signs)
		for _, no := range parts {
			for _, yes := range parts {
				list = append(list, splitBy(who, no, yes))
			}
		}
	}
	return list
}

func split(who, no, yes int) impl.Split {
	return impl.Split{Who: who, No: no, Yes: yes}
}

func sameProof(a, b impl.Proof) bool {
	return a.First == b.First && slices.Equal(a.Splits, b.Splits)
}

// toProve is a goal to be proved from a story, with all that the functions take. For each end, Goal first, and then each claim, open has the worlds that it leaves open.
type toProve struct {
	people int
	story  []said
	goal   *tree
	claims []impl.Claim
	marks  []impl.Mark
	worlds [][]bool
	open   [][]bool
}

func newToProve(people int, story []said, goal *tree) toProve {
	x := toProve{people: people, story: story, goal: goal, claims: claimsOf(story), marks: goal.marks()}
	x.open = make([][]bool, 1+len(story))
	for world := range power(people) {
		tells := tellsIn(people, world)
		x.worlds = append(x.worlds, tells)
		x.open[0] = append(x.open[0], !goal.holds(tells))
		for place, c := range story {
			x.open[1+place] = append(x.open[1+place], c.may(people, world))
		}
	}
	return x
}

// toProveTexts reads the texts of a story and of a goal into trees, whose rows are those of the texts.
func toProveTexts(t *testing.T, people int, texts []string, goal string) toProve {
	t.Helper()
	var story []said
	for _, c := range storyOfTexts(t, people, texts) {
		story = append(story, said{c.Who, treeOfRow(c.Says)})
	}
	return newToProve(people, story, treeOfRow(readRow(t, people, goal)))
}

// treeOfRow hangs the parts of a term together again.
func treeOfRow(row []impl.Mark) *tree {
	var stack []*tree
	for _, m := range row {
		n := &tree{mark: m}
		if m.Kind >= impl.MarkAnd {
			n.second = stack[len(stack)-1]
			stack = stack[:len(stack)-1]
		}
		if m.Kind >= impl.MarkNot {
			n.first = stack[len(stack)-1]
			stack = stack[:len(stack)-1]
		}
		stack = append(stack, n)
	}
	return stack[0]
}

func (x toProve) name() string {
	return strings.Join(textsOf(x.story), " ") + " / " + x.goal.text()
}

// nobodyKnown has -1 for each person.
func (x toProve) nobodyKnown() []int {
	return allOf(-1, x.people)
}

// agrees compares a world with what is known: 1 of who tells the truth, 0 of who lies, and -1 of others.
func agrees(tells []bool, known []int) bool {
	for person, is := range known {
		if is == 1 && !tells[person] || is == 0 && tells[person] {
			return false
		}
	}
	return true
}

// closes looks for a world that agrees with what is known, and is left open.
func (x toProve) closes(known []int, end int) bool {
	if end >= 0 || -1-end >= len(x.open) {
		return false
	}
	for world, tells := range x.worlds {
		if agrees(tells, known) && x.open[-1-end][world] {
			return false
		}
	}
	return true
}

// follows looks at the worlds of the story one by one.
func (x toProve) follows() bool {
	for _, world := range membersOf(tableOfAll(x.people, x.story)) {
		if !x.goal.holds(x.worlds[world]) {
			return false
		}
	}
	return true
}

// right reports whether all cases are closed by what their signs tell.
func (x toProve) right(n *cases, known []int) bool {
	if n.sign != "" {
		return x.closes(known, n.goesOn(0))
	}
	return n.who < x.people && known[n.who] == -1 && x.right(n.no, changed(known, n.who, 0)) && x.right(n.yes, changed(known, n.who, 1))
}

// found is what is to be found; nil if there is nothing.
func (x toProve) found(known []int) *cases {
	for place := range x.open {
		if x.closes(known, -1-place) {
			return closedBy("*012345"[place : place+1])
		}
	}
	who := slices.Index(known, -1)
	if who == -1 {
		return nil
	}
	no, yes := x.found(changed(known, who, 0)), x.found(changed(known, who, 1))
	if no == nil || yes == nil {
		return nil
	}
	return splitBy(who, no, yes)
}

// knownAt goes back from a split to the first one, by the one way that leads there, where the program goes on from the first one; false if the ways are not as they are to be.
func (x toProve) knownAt(p impl.Proof, place int) ([]int, bool) {
	ways := 0
	known, ok := x.nobodyKnown(), true
	if p.First == place {
		ways++
		ok = place == 0
	}
	for from, s := range p.Splits {
		for told, next := range []int{s.No, s.Yes} {
			if next != place {
				continue
			}
			ways++
			if ways > 1 || from >= place || s.Who < 0 || s.Who >= x.people {
				return nil, false
			}
			before, beforeOk := x.knownAt(p, from)
			if !beforeOk || before[s.Who] != -1 {
				return nil, false
			}
			known = changed(before, s.Who, told)
		}
	}
	return known, ok && ways == 1
}

// byRule holds each split of a row, and each case that is closed, against the rule, one after the other.
func (x toProve) byRule(p impl.Proof) bool {
	if len(p.Splits) > 15 || p.First >= 0 && len(p.Splits) == 0 || p.First < 0 && (len(p.Splits) > 0 || !x.closes(x.nobodyKnown(), p.First)) {
		return false
	}
	for place, s := range p.Splits {
		known, ok := x.knownAt(p, place)
		if !ok || s.Who < 0 || s.Who >= x.people || known[s.Who] != -1 {
			return false
		}
		for told, next := range []int{s.No, s.Yes} {
			if next >= len(p.Splits) || next < 0 && !x.closes(changed(known, s.Who, told), next) {
				return false
			}
		}
	}
	return true
}

func (x toProve) ok(p impl.Proof) bool {
	return impl.ProofOk(x.people, x.claims, x.marks, p)
}

func (x toProve) find() (impl.Proof, bool) {
	return impl.FindProof(x.people, x.claims, x.marks)
}

func (x toProve) text(p impl.Proof) string {
	return impl.ProofText(x.people, x.claims, x.marks, p)
}

func (x toProve) read(s string) (impl.Proof, bool) {
	return impl.ReadProof(x.people, x.claims, x.marks, s)
}

// goals picks terms of each size, some that follow, and one that says no more than a claim.
func (p *picker) goals(people int, story []said) []*tree {
	list := []*tree{p.tree(people, 1+p.below(impl.MaxMarks)), p.tree(people, 1+p.below(3))}
	if len(story) > 0 {
		c := story[p.below(len(story))]
		list = append(list, sameTree(personTree(c.who), c.says))
	}
	for range 10 {
		n := p.tree(people, 1+p.below(impl.MaxMarks))
		if tableOfAll(people, story)&^n.table(people) == 0 {
			return append(list, n)
		}
	}
	return list
}

// eachToProve calls f for all of the shortest terms with the stories of at most one of the shortest claims, and for some terms with some stories of each number of claims, of all numbers of people.
func eachToProve(f func(x toProve)) {
	pick := &picker{state: 53}
	for people := 1; people <= impl.MaxPeople; people++ {
		short := treesOf(people, 2)
		for _, goal := range short {
			f(newToProve(people, nil, goal))
			for _, says := range short {
				for who := range people {
					f(newToProve(people, []said{{who, says}}, goal))
				}
			}
		}
		for count := range impl.MaxClaims + 1 {
			for range 150 {
				story := pick.story(people, count)
				if pick.below(3) == 0 {
					for place := range story {
						story[place] = pick.claim(people)
					}
				}
				for _, goal := range pick.goals(people, story) {
					f(newToProve(people, story, goal))
				}
			}
		}
	}
}

// someProofs are right, or wrong, as it may be.
var someProofs = []impl.Proof{{}, {First: -1}, {First: -2}, {First: -3}, {Splits: []impl.Split{{No: -1, Yes: -1}}}, {Splits: []impl.Split{{No: -2, Yes: -2}}}, {Splits: []impl.Split{{No: -1, Yes: -2}}}}

// checkNoProof tests what is returned for what is no story, or no term.
func checkNoProof(t *testing.T, people int, story []impl.Claim, row []impl.Mark) {
	t.Helper()
	if impl.FollowsFrom(people, story, row) {
		t.Error("FollowsFrom", people, story, row)
	}
	if p, ok := impl.FindProof(people, story, row); ok || !sameProof(p, impl.Proof{}) {
		t.Error("FindProof", people, story, row, p, ok)
	}
	for _, p := range someProofs {
		if impl.ProofOk(people, story, row, p) {
			t.Error("ProofOk", people, story, row, p)
		}
		if got := impl.ProofText(people, story, row, p); got != "" {
			t.Error("ProofText", people, story, row, p, got)
		}
	}
	for _, s := range []string{"", "*", "0", "1", "a(*,*)", "a(0,0)", "a(*,0)", "b(0,*)"} {
		if p, ok := impl.ReadProof(people, story, row, s); ok || !sameProof(p, impl.Proof{}) {
			t.Error("ReadProof", people, story, row, s, p, ok)
		}
	}
}

// checkWrong tests what is returned for what is no proof.
func (x toProve) checkWrong(t *testing.T, p impl.Proof) {
	t.Helper()
	if x.ok(p) {
		t.Error("ProofOk", x.people, x.name(), p)
	}
	if got := x.text(p); got != "" {
		t.Error("ProofText", x.people, x.name(), p, got)
	}
}

func (x toProve) checkUnread(t *testing.T, s string) {
	t.Helper()
	if p, ok := x.read(s); ok || !sameProof(p, impl.Proof{}) {
		t.Errorf("%d %s %q %v %v", x.people, x.name(), s, p, ok)
	}
}

// checkRight tests a proof, whatever the order of its splits, and its text.
func (x toProve) checkRight(t *testing.T, p impl.Proof, text string) {
	t.Helper()
	if !x.ok(p) {
		t.Error("ProofOk", x.people, x.name(), p)
	}
	if got := x.text(p); got != text {
		t.Error("ProofText", x.people, x.name(), p, got, text)
	}
}

func (x toProve) checkRead(t *testing.T, s string, want impl.Proof) {
	t.Helper()
	if got, ok := x.read(s); !ok || !sameProof(got, want) {
		t.Error("ReadProof", x.people, x.name(), s, got, ok)
	}
}

// checkCases tests a proof with its splits in the order of their letters.
func (x toProve) checkCases(t *testing.T, n *cases, right bool) {
	t.Helper()
	if !right {
		x.checkWrong(t, n.proof())
		x.checkUnread(t, n.text())
		return
	}
	x.checkRight(t, n.proof(), n.text())
	x.checkRead(t, n.text(), n.proof())
}

// checkFound tests what follows, and its proof; nil if there is none.
func (x toProve) checkFound(t *testing.T, n *cases) {
	t.Helper()
	if got := impl.FollowsFrom(x.people, x.claims, x.marks); got != (n != nil) {
		t.Error("FollowsFrom", x.people, x.name(), got)
	}
	p, ok := x.find()
	if n == nil {
		if ok || !sameProof(p, impl.Proof{}) {
			t.Error("FindProof", x.people, x.name(), p, ok)
		}
		return
	}
	if !ok || !sameProof(p, n.proof()) {
		t.Error("FindProof", x.people, x.name(), p, ok, n.text())
	}
	x.checkCases(t, n, true)
}

func TestProofNumbers(t *testing.T) {
	if impl.Goal != -1 || impl.FirstClash != -2 || impl.MaxSplits != 15 {
		t.Fatal(impl.Goal, impl.FirstClash, impl.MaxSplits)
	}
}

func TestProofsOfAllGoals(t *testing.T) {
	kinds := map[string]int{}
	eachToProve(func(x toProve) {
		n := x.found(x.nobodyKnown())
		if (n != nil) != x.follows() {
			t.Fatal("the test's own proof", x.people, x.name())
		}
		x.checkFound(t, n)
		if t.Failed() {
			t.FailNow()
		}
		count := func(kind string, is bool) {
			if is {
				kinds[kind]++
			}
		}
		table := tableOfAll(x.people, x.story)
		count("does not follow", n == nil)
		count("follows without a world", n != nil && table == 0)
		count("follows with a world", n != nil && table != 0)
		count("without claims", len(x.story) == 0 && n != nil)
		count("closed by the goal", n != nil && n.sign == "*")
		count("closed by a claim", n != nil && n.sign != "" && n.sign != "*")
		count("some splits", n != nil && n.size() > 0)
		count("many splits", n != nil && n.size() > 3)
		count("by a claim that is not the first one", n != nil && strings.ContainsAny(n.text(), "12345"))
	})
	if len(kinds) != 9 {
		t.Fatal(kinds)
	}
	for kind, count := range kinds {
		if count < 150 {
			t.Error("too few goals", kind, count)
		}
	}
}

func TestProofExamples(t *testing.T) {
	for _, x := range []struct {
		people int
		story  []string
		goal   string
		proof  *cases
	}{
		{1, nil, "a", nil},
		{1, nil, "0", closedBy("*")},
		{1, nil, "2", nil},
		{1, nil, "a|!a", closedBy("*")},
		{1, []string{"a:!a"}, "a", closedBy("0")},
		{1, []string{"a:!a"}, "0", closedBy("*")},
		{1, []string{"a:!a"}, "2", closedBy("0")},
		{1, []string{"a:0"}, "a", splitBy(0, closedBy("0"), closedBy("*"))},
		{1, []string{"a:0"}, "!a", nil},
		{1, []string{"a:2"}, "!a", splitBy(0, closedBy("*"), closedBy("0"))},
		{1, []string{"a:a"}, "a", nil},
		{1, []string{"a:0", "a:2"}, "2", splitBy(0, closedBy("0"), closedBy("1"))},
		{1, []string{"a:2", "a:0"}, "2", splitBy(0, closedBy("1"), closedBy("0"))},
		{1, []string{"a:a", "a:a", "a:!a"}, "2", closedBy("2")},

		{2, []string{"a:!a&!b"}, "b", splitBy(0, splitBy(1, closedBy("0"), closedBy("*")), closedBy("0"))},
		{2, []string{"a:!a&!b", "b:0"}, "b", splitBy(0, splitBy(1, closedBy("0"), closedBy("*")), closedBy("0"))},
		{2, []string{"b:0", "a:!a&!b"}, "b", splitBy(0, splitBy(1, closedBy("0"), closedBy("*")), closedBy("1"))},
		{2, []string{"a:!a&!b"}, "!a", splitBy(0, closedBy("*"), closedBy("0"))},
		{2, []string{"a:!a&!b"}, "a", nil},
		{2, []string{"a:!a|!b"}, "a&!b", splitBy(0, closedBy("0"), splitBy(1, closedBy("*"), closedBy("0")))},
		{2, []string{"a:b"}, "a", nil},
		{2, []string{"a:b"}, "b=a", splitBy(0, splitBy(1, closedBy("*"), closedBy("0")), splitBy(1, closedBy("0"), closedBy("*")))},
		{2, []string{"a:b", "b:!a"}, "3", splitBy(0, splitBy(1, closedBy("1"), closedBy("0")), splitBy(1, closedBy("0"), closedBy("1")))},
		{2, []string{"b:0"}, "b", splitBy(0, splitBy(1, closedBy("0"), closedBy("*")), splitBy(1, closedBy("0"), closedBy("*")))},
		{2, []string{"b:0"}, "a|b", splitBy(0, splitBy(1, closedBy("0"), closedBy("*")), closedBy("*"))},

		{3, []string{"c:c", "b:b", "a:!a"}, "4", closedBy("2")},
		{3, []string{"a:!b&!c", "b:a", "c:!a|!b"}, "c", splitBy(0, splitBy(1, splitBy(2, closedBy("0"), closedBy("*")), closedBy("1")), splitBy(1, closedBy("1"), closedBy("0")))},
		{4, nil, "0", closedBy("*")},
		{4, nil, "1", nil},
		{4, nil, "5", nil},
		{4, []string{"d:0"}, "d|a", splitBy(0, splitBy(1, splitBy(2, splitBy(3, closedBy("0"), closedBy("*")), splitBy(3, closedBy("0"), closedBy("*"))), splitBy(2, splitBy(3, closedBy("0"), closedBy("*")), splitBy(3, closedBy("0"), closedBy("*")))), closedBy("*"))},
		{4, []string{"a:0", "b:0", "c:0", "d:0"}, "4", splitBy(0, closedBy("0"), splitBy(1, closedBy("1"), splitBy(2, closedBy("2"), splitBy(3, closedBy("3"), closedBy("*")))))},
		{4, []string{"a:5", "b:5", "c:5", "d:5", "a:a", "a:a"}, "!1", splitBy(0, splitBy(1, splitBy(2, splitBy(3, closedBy("*"), closedBy("3")), closedBy("2")), closedBy("1")), closedBy("0"))},
		{4, []string{"a:a", "b:b", "c:c", "d:d", "a:a", "a:!a"}, "5", closedBy("5")},
	} {
		toProveTexts(t, x.people, x.story, x.goal).checkFound(t, x.proof)
	}
}

// What is found is told mark by mark.
func TestRowsOfFoundProofs(t *testing.T) {
	for _, x := range []struct {
		people int
		story  []string
		goal   string
		proof  impl.Proof
		text   string
	}{
		{2, nil, "0", impl.Proof{First: impl.Goal}, "*"},
		{2, []string{"a:a", "b:!b"}, "3", impl.Proof{First: impl.FirstClash - 1}, "1"},
		{2, []string{"a:!a&!b"}, "b", impl.Proof{Splits: []impl.Split{split(0, 1, -2), split(1, -2, -1)}}, "a(b(0,*),0)"},
		{2, []string{"a:b"}, "b=a", impl.Proof{Splits: []impl.Split{split(0, 1, 2), split(1, -1, -2), split(1, -2, -1)}}, "a(b(*,0),b(0,*))"},
		{3, []string{"a:!b&!c", "b:a", "c:!a|!b"}, "c", impl.Proof{Splits: []impl.Split{split(0, 1, 3), split(1, 2, -3), split(2, -2, -1), split(1, -3, -2)}}, "a(b(c(0,*),1),b(1,0))"},
	} {
		y := toProveTexts(t, x.people, x.story, x.goal)
		if p, ok := y.find(); !ok || !sameProof(p, x.proof) {
			t.Error(x.people, x.story, x.goal, p, ok)
		}
		y.checkRight(t, x.proof, x.text)
		y.checkRead(t, x.text, x.proof)
	}
}

// someToProve have claims that are never made, that always may be, and that may be in some worlds.
func someToProve(t *testing.T, people int) []toProve {
	t.Helper()
	var list []toProve
	for _, x := range []struct {
		story []string
		goal  string
	}{
		{nil, "0"}, {nil, "a"}, {[]string{"a:!a"}, "!0"}, {[]string{"a:!a", "a:!a"}, "0"}, {[]string{"a:0", "a:a"}, "a"}, {[]string{"a:0", "a:!0"}, "!1"},
	} {
		list = append(list, toProveTexts(t, people, x.story, x.goal))
	}
	if people >= 2 {
		list = append(list, toProveTexts(t, people, []string{"a:b", "b:!a"}, "a=b"), toProveTexts(t, people, []string{"a:!a&!b"}, "b"))
	}
	return list
}

func TestProofsOfAllCases(t *testing.T) {
	for people, signs := range []string{"", "*012", "*012", "*0"} {
		all := allCases(ascending(people), signs)
		known := map[string]bool{}
		for _, n := range all {
			known[n.text()] = true
		}
		if len(known) != len(all) {
			t.Fatal("two proofs have one text", people)
		}
		if people == 0 {
			continue
		}
		for _, x := range someToProve(t, people) {
			rights := 0
			for _, n := range all {
				right := x.right(n, x.nobodyKnown())
				x.checkCases(t, n, right)
				if right {
					rights++
				}
			}
			if rights > 0 && !x.follows() {
				t.Error("proofs", people, x.name(), rights)
			}
		}
	}
}

// eachSplit calls f for all splits of people from -1 to the number of people, and with places from the least one to the greatest one.
func eachSplit(people, least, greatest int, f func(s impl.Split)) {
	for who := -1; who <= people; who++ {
		for no := least; no <= greatest; no++ {
			for yes := least; yes <= greatest; yes++ {
				f(impl.Split{Who: who, No: no, Yes: yes})
			}
		}
	}
}

func (x toProve) checkByRule(t *testing.T, p impl.Proof) bool {
	t.Helper()
	want := x.byRule(p)
	if got := x.ok(p); got != want {
		t.Fatal("ProofOk", x.people, x.name(), p, got)
	}
	return want
}

func TestAllProofsOfAtMostTwoSplits(t *testing.T) {
	for people := 1; people <= 2; people++ {
		for _, x := range someToProve(t, people) {
			rights := [3]int{}
			count := func(p impl.Proof) {
				if x.checkByRule(t, p) {
					rights[len(p.Splits)]++
				}
			}
			for first := -6; first <= 3; first++ {
				count(impl.Proof{First: first})
				eachSplit(people, -5, 3, func(s impl.Split) {
					count(impl.Proof{First: first, Splits: []impl.Split{s}})
				})
			}
			for first := -1; first <= 1; first++ {
				eachSplit(people, -3, 2, func(s impl.Split) {
					eachSplit(people, -3, 2, func(second impl.Split) {
						count(impl.Proof{First: first, Splits: []impl.Split{s, second}})
					})
				})
			}
			if !x.follows() && rights != [3]int{} || rights[2] > 0 && people == 1 {
				t.Error(people, x.name(), rights)
			}
		}
	}
}

// Of three splits of two people one is first, and goes on to both others, in either order.
func TestAllProofsOfThreeSplits(t *testing.T) {
	x := toProveTexts(t, 2, []string{"a:b"}, "b=a")
	var all []impl.Split
	eachSplit(2, -2, 3, func(s impl.Split) {
		if s.Who >= 0 && s.Who < 2 {
			all = append(all, s)
		}
	})
	rights := 0
	for _, first := range all {
		for _, second := range all {
			for _, third := range all {
				if x.checkByRule(t, impl.Proof{Splits: []impl.Split{first, second, third}}) {
					rights++
				}
			}
		}
	}
	if rights != 4 {
		t.Error(rights)
	}
}

// Each number of a right proof is made another one; the proof may be right still.
func TestProofsWithOneNumberChanged(t *testing.T) {
	rights, wrongs, place := 0, 0, 0
	eachToProve(func(x toProve) {
		place++
		n := x.found(x.nobodyKnown())
		if n == nil || place%5 > 0 {
			return
		}
		p := n.proof()
		numbers := append(ascending(len(p.Splits)+2), -1, -2, -3, -4, -7, -8, -9)
		for _, at := range append(numbersOf(p.Splits), &p.First) {
			before := *at
			for _, number := range numbers {
				*at = number
				if x.checkByRule(t, p) {
					rights++
				} else {
					wrongs++
				}
			}
			*at = before
		}
	})
	if rights < 1000 || wrongs < 1000 {
		t.Fatal("too few proofs", rights, wrongs)
	}
}

// numbersOf are the places of all numbers of splits.
func numbersOf(splits []impl.Split) []*int {
	var list []*int
	for place := range splits {
		s := &splits[place]
		list = append(list, &s.Who, &s.No, &s.Yes)
	}
	return list
}

func TestProofsRefuseFarNumbers(t *testing.T) {
	far := append([]int{15, 16, 31, 32, 63, 64, -10, -17, -33, -64, -65, math.MinInt32, math.MaxInt32, math.MinInt + 2, math.MaxInt - 2}, farNumbers...)
	for people := 1; people <= impl.MaxPeople; people++ {
		for count := range impl.MaxClaims + 1 {
			// All of its cases are closed, whatever closes them.
			x := newToProve(people, slices.Repeat([]said{{0, notTree(personTree(0))}}, count), countTree(0))
			for _, number := range far {
				if number != -2 && number != -1 || number == -2 && count == 0 {
					x.checkWrong(t, impl.Proof{First: number})
				}
				x.checkWrong(t, impl.Proof{Splits: []impl.Split{{Who: number, No: -1, Yes: -1}}})
				if number < -1-count || number >= 0 {
					x.checkWrong(t, impl.Proof{Splits: []impl.Split{{No: number, Yes: -1}}})
					x.checkWrong(t, impl.Proof{Splits: []impl.Split{{No: -1, Yes: number}}})
				}
			}
			for end := -1; end >= -12; end-- {
				if end >= -1-count {
					x.checkRight(t, impl.Proof{First: end}, "*012345"[-1-end:-end])
				} else {
					x.checkWrong(t, impl.Proof{First: end})
				}
			}
		}
	}
}

func TestProofsRefuseSplits(t *testing.T) {
	// All cases of it are closed by the goal and by the claim.
	x := newToProve(3, []said{{0, notTree(personTree(0))}}, countTree(0))
	for _, p := range []impl.Proof{
		{First: -1}, {First: -2}, {Splits: []impl.Split{split(0, -1, -2)}}, {Splits: []impl.Split{split(2, -2, -1)}},
		{Splits: []impl.Split{split(0, 1, 2), split(1, -1, -1), split(2, -1, -1)}}, {Splits: []impl.Split{split(0, 2, 1), split(1, -1, -1), split(2, -1, -1)}},
		{Splits: []impl.Split{split(0, 1, 2), split(1, -1, -1), split(1, -1, -1)}}, {Splits: []impl.Split{split(0, 2, 1), split(1, -1, 3), split(1, -1, -1), split(2, -2, -1)}},
	} {
		if !x.byRule(p) || !x.ok(p) {
			t.Error("right", p)
		}
	}
	for _, p := range []impl.Proof{
		{}, {First: 1}, {First: -3}, {First: -4}, // a First that goes on where there are no splits, or that is a claim which is not there
		{First: -1, Splits: []impl.Split{split(0, -1, -1)}}, {First: -2, Splits: []impl.Split{split(0, -1, -1)}}, {First: 1, Splits: []impl.Split{split(0, -1, -1)}},
		{First: 1, Splits: []impl.Split{split(0, -1, -1), split(1, -1, -1)}}, {First: 1, Splits: []impl.Split{split(0, -1, -1), split(1, 0, -1)}},
		{Splits: []impl.Split{split(-1, -1, -1)}}, {Splits: []impl.Split{split(3, -1, -1)}}, {Splits: []impl.Split{split(4, -1, -1)}}, // nobody
		{Splits: []impl.Split{split(0, 1, -1), split(0, -1, -1)}}, {Splits: []impl.Split{split(0, -1, 1), split(0, -1, -1)}}, {Splits: []impl.Split{split(0, 1, -1), split(1, -1, 2), split(0, -1, -1)}}, // known there
		{Splits: []impl.Split{split(0, 0, -1)}}, {Splits: []impl.Split{split(0, -1, 0)}}, {Splits: []impl.Split{split(0, 1, -1), split(1, 1, -1)}}, {Splits: []impl.Split{split(0, 1, -1), split(1, -1, 1)}}, // itself
		{Splits: []impl.Split{split(0, 1, -1), split(1, 0, -1)}}, {Splits: []impl.Split{split(0, 1, 2), split(1, -1, -1), split(2, -1, 1)}}, {Splits: []impl.Split{split(0, 2, -1), split(1, -1, -1), split(2, 1, -1)}}, // an earlier one
		{Splits: []impl.Split{split(0, 1, -1)}}, {Splits: []impl.Split{split(0, -1, 1)}}, {Splits: []impl.Split{split(0, 1, -1), split(1, 2, -1)}}, {Splits: []impl.Split{split(0, 1, 3), split(1, -1, -1)}}, // past the last one
		{Splits: []impl.Split{split(0, 1, 1), split(1, -1, -1)}}, {Splits: []impl.Split{split(0, 1, 2), split(1, 3, -1), split(1, 3, -1), split(2, -1, -1)}}, {Splits: []impl.Split{split(0, 1, 2), split(1, 2, -1), split(2, -1, -1)}}, // two ways
		{Splits: []impl.Split{split(0, -1, -1), split(1, -1, -1)}}, {Splits: []impl.Split{split(0, 2, -1), split(1, -1, -1), split(1, -1, -1)}}, {Splits: []impl.Split{split(0, -1, 1), split(1, -1, -1), split(2, -1, -1)}}, {Splits: []impl.Split{split(0, -1, -1), split(1, 2, -1), split(2, -1, -1)}}, // none
		{Splits: []impl.Split{split(0, -3, -1)}}, {Splits: []impl.Split{split(0, -1, -3)}}, {Splits: []impl.Split{split(0, -1, -8)}}, // a claim that is not there
	} {
		if x.byRule(p) {
			t.Error("the test's own rule", p)
		}
		x.checkWrong(t, p)
	}
}

// A case is closed just if no world of it is left open: here one is, by the goal, and by the claim.
func TestCasesWithOneWorldLeftOpen(t *testing.T) {
	for people := 1; people <= impl.MaxPeople; people++ {
		for world := range power(people) {
			x := newToProve(people, []said{{0, sameTree(personTree(0), thereTree(people, world))}}, notTree(thereTree(people, world)))
			if !x.open[0][world] || tellersOf(x.open[0]) != 1 || tellersOf(x.open[1]) != 1 {
				t.Fatal("the test's own goal", people, world)
			}
			for _, end := range []int{-1, -2} {
				x.checkWrong(t, impl.Proof{First: end})
			}
			there := newToProve(people, x.story, thereTree(people, world))
			there.checkFound(t, there.found(there.nobodyKnown()))
			if !there.follows() {
				t.Fatal("the only world", people, world)
			}
			for who := range people {
				for _, end := range []int{-1, -2} {
					for _, other := range []int{-1, -2} {
						x.checkWrong(t, impl.Proof{Splits: []impl.Split{split(who, end, other)}})
					}
				}
			}
		}
	}
}

func TestOnePersonProved(t *testing.T) {
	x := toProveTexts(t, 1, []string{"a:0"}, "a")
	for s, right := range map[string]bool{"a(0,*)": true, "a(*,0)": false, "a(0,0)": false, "a(*,*)": false, "*": false, "0": false, "a(0,1)": false, "a(0,a(0,*))": false, "b(0,*)": false} {
		if _, ok := x.read(s); ok != right {
			t.Error(s, ok)
		}
	}
	for _, goal := range []*tree{personTree(0), notTree(personTree(0)), countTree(1), countTree(2)} {
		newToProve(1, nil, goal).checkFound(t, nil)
	}
	newToProve(1, nil, countTree(0)).checkFound(t, closedBy("*"))
}

// Without claims nothing but the goal closes a case, and so just what always holds is proved, by the goal at once, or after any splits.
func TestProofsWithoutClaims(t *testing.T) {
	for people := 1; people <= impl.MaxPeople; people++ {
		always := newToProve(people, nil, countTree(0))
		always.checkFound(t, closedBy("*"))
		newToProve(people, nil, countTree(people+1)).checkFound(t, nil)
		for who := range people {
			always.checkCases(t, splitBy(who, closedBy("*"), closedBy("*")), true)
			always.checkCases(t, splitBy(who, closedBy("0"), closedBy("*")), false)
			newToProve(people, nil, personTree(who)).checkFound(t, nil)
			newToProve(people, nil, orTree(personTree(who), notTree(personTree(who)))).checkFound(t, closedBy("*"))
		}
		always.checkCases(t, fullCases(ascending(people), func(int) string { return "*" }), true)
	}
}

// fullCases splits by all people, in some order, and closes each world by its sign.
func fullCases(order []int, sign func(world int) string) *cases {
	var part func(rest []int, world int) *cases
	part = func(rest []int, world int) *cases {
		if len(rest) == 0 {
			return closedBy(sign(world))
		}
		return splitBy(rest[0], part(rest[1:], world), part(rest[1:], world+power(rest[0])))
	}
	return part(order, 0)
}

// From a story without worlds all is proved, and what never holds by its claims alone.
func TestProofsFromStoriesWithoutWorlds(t *testing.T) {
	for people := 1; people <= impl.MaxPeople; people++ {
		for who := range people {
			lie := said{who, notTree(personTree(who))}
			never, always := newToProve(people, []said{lie}, countTree(people+1)), newToProve(people, []said{lie}, countTree(0))
			never.checkFound(t, closedBy("0"))
			always.checkFound(t, closedBy("*"))
			never.checkCases(t, closedBy("*"), false)
			always.checkCases(t, closedBy("0"), true)
			// No claim of these two is never made, so that a split is needed, after those by all before.
			teller, liar := said{who, countTree(0)}, said{who, countTree(people + 1)}
			both := newToProve(people, []said{teller, liar}, countTree(people+1))
			n := both.found(both.nobodyKnown())
			if n == nil || n.size() != power(who+1)-1 || strings.Contains(n.text(), "*") {
				t.Fatal("the test's own proof", people, who)
			}
			both.checkFound(t, n)
			both.checkCases(t, splitBy(who, closedBy("0"), closedBy("1")), true)
			both.checkCases(t, splitBy(who, closedBy("1"), closedBy("0")), false)
		}
	}
}

// Of two claims that close a case the first one is taken, and each is right.
func TestFirstOfTheSameClaims(t *testing.T) {
	lie, nothing := said{0, notTree(personTree(0))}, said{0, personTree(0)}
	for people := 1; people <= impl.MaxPeople; people++ {
		for first := range impl.MaxClaims {
			for second := first + 1; second < impl.MaxClaims; second++ {
				story := slices.Repeat([]said{nothing}, impl.MaxClaims)
				story[first], story[second] = lie, lie
				x := newToProve(people, story, countTree(people+1))
				x.checkFound(t, closedBy("012345"[first:first+1]))
				for place := range impl.MaxClaims {
					x.checkCases(t, closedBy("012345"[place:place+1]), place == first || place == second)
				}
				story[first], story[second] = said{0, countTree(0)}, said{0, countTree(0)}
				y := newToProve(people, story, personTree(0))
				y.checkFound(t, splitBy(0, closedBy("012345"[first:first+1]), closedBy("*")))
				y.checkCases(t, splitBy(0, closedBy("012345"[second:second+1]), closedBy("*")), true)
			}
		}
	}
}

// evenly is a claim, and a goal, that each hold in every other world, so that no case of two worlds is closed.
func evenly(people int) toProve {
	says, goal := personTree(0), personTree(0)
	for who := 1; who < people; who++ {
		says, goal = sameTree(says, personTree(who)), sameTree(goal, personTree(who))
	}
	return newToProve(people, []said{{0, sameTree(personTree(0), says)}}, goal)
}

func TestMostSplits(t *testing.T) {
	for people := 1; people <= impl.MaxPeople; people++ {
		x := evenly(people)
		sign := func(world int) string {
			if x.open[0][world] {
				return "0"
			}
			return "*"
		}
		n := fullCases(ascending(people), sign)
		if n.size() != power(people)-1 || len(n.text()) != 5*power(people)-4 {
			t.Fatal(n.size(), n.text())
		}
		x.checkFound(t, n)
		for _, order := range allOrders(people) {
			x.checkCases(t, fullCases(order, sign), true)
		}
		x.checkMoreSplits(t, n)
	}
}

// allOrders are all orders of people.
func allOrders(people int) [][]int {
	if people == 0 {
		return [][]int{nil}
	}
	var list [][]int
	for _, order := range allOrders(people - 1) {
		for place := range people {
			list = append(list, slices.Insert(slices.Clone(order), place, people-1))
		}
	}
	return list
}

// checkMoreSplits puts more splits into a proof that has all that there may be.
func (x toProve) checkMoreSplits(t *testing.T, n *cases) {
	t.Helper()
	p := n.proof()
	last := len(p.Splits)
	for who := range x.people + 1 {
		for _, end := range []int{-1, -2} {
			more := impl.Split{Who: who, No: end, Yes: end}
			x.checkWrong(t, impl.Proof{Splits: append(slices.Clone(p.Splits), more)})
			for place := range p.Splits {
				longer := append(slices.Clone(p.Splits), more)
				for _, at := range numbersOf(longer[place : place+1])[1:] {
					before := *at
					*at = last
					x.checkWrong(t, impl.Proof{Splits: longer})
					*at = before
				}
			}
		}
	}
	for _, count := range []int{16, 17, 31, 32, 63, 64, 65, 1000, 1 << 18} {
		var chain []impl.Split
		for place := range count {
			chain = append(chain, impl.Split{Who: place % x.people, No: place + 1, Yes: -1})
		}
		chain[count-1].No = -1
		newToProve(x.people, nil, countTree(0)).checkWrong(t, impl.Proof{Splits: chain})
		x.checkWrong(t, impl.Proof{Splits: slices.Repeat([]impl.Split{{No: -1, Yes: -1}}, count)})
	}
}

// inOrder has at each place the split that was at another one, with all numbers made to fit.
func inOrder(p impl.Proof, order []int) impl.Proof {
	moved := func(next int) int {
		if next < 0 {
			return next
		}
		return slices.Index(order, next)
	}
	q := impl.Proof{First: moved(p.First)}
	for _, place := range order {
		s := p.Splits[place]
		q.Splits = append(q.Splits, impl.Split{Who: s.Who, No: moved(s.No), Yes: moved(s.Yes)})
	}
	return q
}

func TestSplitsInOtherOrders(t *testing.T) {
	rights, wrongs := 0, 0
	pick := &picker{state: 59}
	check := func(x toProve, n *cases, order []int) {
		q := inOrder(n.proof(), order)
		if !x.byRule(q) {
			wrongs++
			x.checkWrong(t, q)
			return
		}
		rights++
		x.checkRight(t, q, n.text())
		x.checkRead(t, n.text(), n.proof())
	}
	eachToProve(func(x toProve) {
		n := x.found(x.nobodyKnown())
		if n == nil || n.size() < 3 {
			return
		}
		if n.size() <= 4 {
			for _, order := range allOrders(n.size()) {
				check(x, n, order)
			}
			return
		}
		check(x, n, wideOrder(n))
		for range 20 {
			check(x, n, pick.laterOrder(n))
		}
	})
	if rights < 1000 || wrongs < 1000 {
		t.Fatal("too few orders", rights, wrongs)
	}
}

// wideOrder has all splits that are come to after fewer splits first, those of Yes before those of No.
func wideOrder(n *cases) []int {
	p := n.proof()
	order := []int{0}
	for at := 0; at < len(order); at++ {
		s := p.Splits[order[at]]
		for _, next := range []int{s.Yes, s.No} {
			if next >= 0 {
				order = append(order, next)
			}
		}
	}
	return order
}

// laterOrder picks an order in which each split still goes on to later ones.
func (p *picker) laterOrder(n *cases) []int {
	proof := n.proof()
	open := []int{0}
	var order []int
	for len(open) > 0 {
		at := p.below(len(open))
		place := open[at]
		open = slices.Delete(open, at, at+1)
		order = append(order, place)
		for _, next := range []int{proof.Splits[place].No, proof.Splits[place].Yes} {
			if next >= 0 {
				open = append(open, next)
			}
		}
	}
	return order
}

// allIsRight is to be proved by each proof that splits nobody twice, and is closed by the goal, and by the first two claims.
func allIsRight(people int) toProve {
	lie := said{people - 1, notTree(personTree(people - 1))}
	return newToProve(people, []said{lie, lie}, countTree(0))
}

func TestReadProofOfAllShortTexts(t *testing.T) {
	x := allIsRight(2)
	proofs := map[string]impl.Proof{}
	for _, n := range allCases(ascending(2), "*01") {
		proofs[n.text()] = n.proof()
	}
	check := func(s string) {
		want, is := proofs[s]
		if got, ok := x.read(s); ok != is || !sameProof(got, want) {
			t.Fatalf("%q %v %v", s, got, ok)
		}
	}
	eachText("ab*01(,)", 6, check)
	eachText("a*2(,) \x00", 6, check)
	for s := range proofs {
		for place := range len(s) + 1 {
			for _, put := range "abcz*0129(,) *)A-\n" {
				check(s[:place] + string(put) + s[place:])
				check(s[:place] + string(put) + s[min(place+1, len(s)):])
			}
			check(s[:place])
			check(s[place:])
			check(s[:place] + s[min(place+1, len(s)):])
		}
		for _, other := range []string{"*", "0", "a(*,*)", ",", " ", "\x00", "\xff"} {
			check(s + other)
			check(other + s)
			check("(" + s + other)
		}
	}
}

func TestReadProofRefuses(t *testing.T) {
	x := allIsRight(4)
	for _, s := range []string{"*", "0", "1", "a(*,0)", "d(1,*)", "a(b(c(d(*,0),1),*),0)"} {
		if p, ok := x.read(s); !ok || x.text(p) != s {
			t.Error(s, p, ok)
		}
	}
	for _, s := range []string{
		"", " ", "\x00", "\xff", "(", ")", ",", "()", "(*)", "(*,*)", "a", "a(", "a(*", "a(*,", "a(*,*", "a*,*)", "a(*,*))", "a(,)", "a(*,)", "a(,*)", "a(*)", "a(**)", "a(*,*,*)", "a()", "a[*,*]", "a{*,*}", "a(*;*)", "a(*.*)",
		"**", "*0", "0*", "* ", " *", "*\n", "a (*,*)", "a( *,*)", "a(*, *)", "a(*,*) ", "a(*,*)*", "a(*,*)0", "a(*,*)b", "a(*,*)b(*,*)", "ab(*,*)", "*(*,*)", "0(*,*)",
		"2", "3", "9", "00", "01", "10", "11", "-1", "-0", "+0", "0.", "0x0", "a(00,*)", "a(*,01)", "a(2,*)", "a(*,10)", "a(*,-1)", "٠", "18446744073709551616", "18446744073709551617", "4294967296", "a(18446744073709551616,*)", "256", "-18446744073709551616",
		"e(*,*)", "z(*,*)", "A(*,*)", "D(*,*)", "`(*,*)", "{(*,*)", "ａ(*,*)", "a(e(*,*),*)", "a(*,z(*,*))", "a(a(*,*),*)", "a(*,a(*,*))", "a(b(*,a(*,*)),*)", "a(b(c(d(*,*),d(*,d(*,*))),*),*)", "a(b(c(d(a(*,*),*),*),*),*)",
		"∗", "×", "?", "#", "a(*,*", "a(b(*,*),*", "a(b(*,*)", "a(b(*,*)*)", "a(b(*,*),*),*",
	} {
		x.checkUnread(t, s)
	}
	for people := 1; people <= impl.MaxPeople; people++ {
		y := allIsRight(people)
		for letter := range 26 {
			s := string(rune('a'+letter)) + "(*,0)"
			if _, ok := y.read(s); ok != (letter < people) {
				t.Error(people, s, ok)
			}
		}
	}
	for count := range impl.MaxClaims + 1 {
		y := newToProve(2, slices.Repeat([]said{{1, notTree(personTree(1))}}, count), countTree(0))
		for place := range 120 {
			s := strings.TrimLeft(string([]byte{byte('0' + place/100), byte('0' + place/10%10), byte('0' + place%10)}), "0")
			if s == "" {
				s = "0"
			}
			for _, text := range []string{s, "a(" + s + ",*)", "a(*," + s + ")"} {
				if _, ok := y.read(text); ok != (place < count) {
					t.Error(count, text, ok)
				}
			}
			y.checkUnread(t, "0"+s)
			y.checkUnread(t, "-"+s)
		}
	}
}

func TestReadProofOfArbitraryBytes(t *testing.T) {
	x := allIsRight(2)
	for put := range 256 {
		sign := string([]byte{byte(put)})
		if _, ok := x.read(sign); ok != (sign == "*" || sign == "0" || sign == "1") {
			t.Errorf("%q %v", sign, ok)
		}
		for _, s := range []string{"a(b(0,*),1)", "*"} {
			for place := range len(s) + 1 {
				for _, other := range []string{s[:place] + sign + s[place:], s[:place] + sign + s[min(place+1, len(s)):]} {
					if p, ok := x.read(other); ok && x.text(p) != other {
						t.Fatalf("%q %v", other, p)
					}
				}
			}
			if put > 127 || put <= ' ' {
				x.checkUnread(t, s+sign)
				x.checkUnread(t, sign+s)
			}
		}
	}
	pick := &picker{state: 61}
	for range 20000 {
		row := make([]byte, pick.below(220))
		for place := range row {
			row[place] = "abcd*0123(,)"[pick.below(12)]
		}
		if p, ok := x.read(string(row)); ok && x.text(p) != string(row) {
			t.Fatalf("%q %v", row, p)
		}
	}
}

// The longest texts of proofs have 76 bytes: MaxSplits splits, and a sign for each world.
func TestLongTextsOfProofs(t *testing.T) {
	x := allIsRight(4)
	signs := []string{"*", "0", "1"}
	for number := range signs {
		n := fullCases(ascending(4), func(world int) string { return signs[(world+number)%3] })
		if len(n.text()) != 76 {
			t.Fatal(n.text())
		}
		x.checkCases(t, n, true)
		x.checkUnread(t, n.text()+"*")
		x.checkUnread(t, n.text()[:75])
		x.checkUnread(t, "a("+n.text()+",*)")
		for _, size := range []int{77, 199, 200, 201, 256, 1 << 16} {
			x.checkUnread(t, n.text()+strings.Repeat(" ", size-76))
			x.checkUnread(t, strings.Repeat("0", size-76)+n.text())
		}
	}
	for count := 1; count < 70; count++ {
		deep := "*"
		for at := range count {
			deep = "abcd"[(count-at)%4:(count-at)%4+1] + "(" + deep + ",*)"
		}
		if _, ok := x.read(deep); ok != (count <= 4) {
			t.Error(deep, ok)
		}
	}
	for _, size := range []int{2, 100, 198, 199, 200, 201, 202, 1000, 1 << 20} {
		for _, s := range []string{strings.Repeat("a(", size/2+1)[:size], strings.Repeat("*", size), strings.Repeat("0", size), strings.Repeat("(", size), strings.Repeat(")", size), "*" + strings.Repeat(" ", size-1), strings.Repeat("0", size-1) + "1", strings.Repeat("\xff", size), strings.Repeat("a(*,", size/4+1)[:size], strings.Repeat("a", size)} {
			if len(s) != size {
				t.Fatal(len(s), size)
			}
			x.checkUnread(t, s)
		}
	}
}

func TestProofsRefuseStoriesAndTerms(t *testing.T) {
	is, lie, always := said{0, countTree(0)}.claim(), said{0, notTree(personTree(0))}.claim(), countRow(0)
	for _, people := range wrongPeople {
		for _, story := range [][]impl.Claim{nil, {}, {is}, {lie}, {lie, is}, {{}}} {
			for _, row := range [][]impl.Mark{nil, always, tellsRow(0), countRow(2)} {
				checkNoProof(t, people, story, row)
			}
		}
	}
	for people := 1; people <= impl.MaxPeople; people++ {
		for _, row := range noTerms(people) {
			for _, story := range [][]impl.Claim{nil, {is}, {lie}, {lie, lie}} {
				checkNoProof(t, people, story, row)
			}
		}
		for count := impl.MaxClaims + 1; count <= impl.MaxClaims+3; count++ {
			for _, c := range []impl.Claim{is, lie} {
				checkNoProof(t, people, slices.Repeat([]impl.Claim{c}, count), always)
			}
		}
		checkNoProof(t, people, slices.Repeat([]impl.Claim{lie}, 70), always)
		for _, none := range []impl.Claim{{}, {Who: -1, Says: tellsRow(0)}, {Who: people, Says: tellsRow(0)}, {Says: tellsRow(people)}, {Says: countRow(people + 2)}, said{0, nots(mostSaid, personTree(0))}.claim()} {
			for count := 1; count <= impl.MaxClaims; count++ {
				for place := range count {
					story := slices.Repeat([]impl.Claim{lie}, count)
					story[place] = none
					checkNoProof(t, people, story, always)
				}
			}
		}
	}
}

// A goal may have two marks more than what a claim says.
func TestGoalsOfMostMarks(t *testing.T) {
	for people := 1; people <= impl.MaxPeople; people++ {
		for size := 1; size <= 17; size++ {
			goal := nots(size-1, countTree(0))
			for _, story := range [][]said{nil, {{0, countTree(0)}}, {{0, notTree(personTree(0))}}} {
				x := newToProve(people, story, goal)
				if size > impl.MaxMarks {
					checkNoProof(t, people, x.claims, x.marks)
				} else {
					x.checkFound(t, x.found(x.nobodyKnown()))
				}
			}
		}
		long := said{0, nots(mostSaid-1, personTree(0))}
		newToProve(people, []said{long}, personTree(0)).checkFound(t, nil)
	}
}

// Promise 68.
func TestFromNothingJustWhatAlwaysHoldsFollows(t *testing.T) {
	always, never := 0, 0
	eachTree(func(people int, n *tree) {
		marks := n.marks()
		got := impl.FollowsFrom(people, nil, marks)
		if got != impl.AlwaysOk(people, marks) || got != impl.FollowsFrom(people, []impl.Claim{}, marks) {
			t.Fatal(people, n.text(), got)
		}
		if got {
			always++
		} else {
			never++
		}
	})
	kept, gained := 0, 0
	eachToProve(func(x toProve) {
		if len(x.claims) == 0 {
			return
		}
		fewer, all := impl.FollowsFrom(x.people, x.claims[:len(x.claims)-1], x.marks), impl.FollowsFrom(x.people, x.claims, x.marks)
		switch {
		case fewer && !all:
			t.Fatal(x.people, x.name())
		case fewer:
			kept++
		case all:
			gained++
		}
	})
	if always < 1000 || never < 1000 || kept < 500 || gained < 500 {
		t.Fatal("too few terms", always, never, kept, gained)
	}
}

// Promise 69.
func TestWhatIsProvedFollows(t *testing.T) {
	proved, more := 0, 0
	pick := &picker{state: 67}
	check := func(x toProve, p impl.Proof) {
		if !x.ok(p) {
			return
		}
		proved++
		if !impl.FollowsFrom(x.people, x.claims, x.marks) || !x.follows() {
			t.Fatal(x.people, x.name(), p)
		}
		further := []impl.Claim{pick.claim(x.people).claim()}
		if len(x.claims) > 0 {
			further = append(further, x.claims[0])
		}
		for _, c := range further {
			longer := append(slices.Clone(x.claims), c)
			is := len(longer) <= impl.MaxClaims
			if got := impl.ProofOk(x.people, longer, x.marks, p); got != is {
				t.Fatal("further", x.people, x.name(), p, c, got)
			}
			if is {
				more++
			}
		}
	}
	place := 0
	eachToProve(func(x toProve) {
		if n := x.found(x.nobodyKnown()); n != nil {
			check(x, n.proof())
		}
		place++
		if x.people <= 2 && place%7 == 0 {
			for _, n := range allCases(ascending(x.people), "*0") {
				check(x, n.proof())
			}
		}
	})
	if proved < 1000 || more < 1000 {
		t.Fatal("too few proofs", proved, more)
	}
}

// Promise 70.
func TestWhatFollowsHasAProof(t *testing.T) {
	found, none := 0, 0
	eachToProve(func(x toProve) {
		p, ok := x.find()
		if ok != impl.FollowsFrom(x.people, x.claims, x.marks) || ok != x.follows() {
			t.Fatal(x.people, x.name(), p, ok)
		}
		if !ok {
			none++
			if x.ok(p) || !sameProof(p, impl.Proof{}) {
				t.Fatal(x.people, x.name(), p)
			}
			return
		}
		found++
		if !x.ok(p) || !x.byRule(p) {
			t.Fatal("no proof", x.people, x.name(), p)
		}
	})
	if found < 1000 || none < 1000 {
		t.Fatal("too few goals", found, none)
	}
}

// Promise 71.
func TestTextsOfProofsAreRead(t *testing.T) {
	pick := &picker{state: 71}
	same, moved := 0, 0
	eachToProve(func(x toProve) {
		n := x.found(x.nobodyKnown())
		if n == nil {
			return
		}
		p := n.proof()
		if n.size() > 0 {
			p = inOrder(p, pick.laterOrder(n))
		}
		text := x.text(p)
		q, ok := x.read(text)
		if text == "" || !ok || x.text(q) != text || len(q.Splits) != len(p.Splits) || !x.ok(q) {
			t.Fatal(x.people, x.name(), p, text, q, ok)
		}
		if sameProof(p, q) {
			same++
		} else {
			moved++
		}
	})
	if same < 1000 || moved < 100 {
		t.Fatal("too few proofs", same, moved)
	}
}

// Promise 72.
func TestReadProofsAreCanonical(t *testing.T) {
	read, unread := 0, 0
	var all [3][]*cases
	for people := 1; people <= 2; people++ {
		all[people] = allCases(ascending(people), "*0")
	}
	place := 0
	eachToProve(func(x toProve) {
		var texts []string
		if n := x.found(x.nobodyKnown()); n != nil {
			texts = append(texts, n.text())
		}
		place++
		if x.people <= 2 && place%7 == 0 {
			for _, n := range all[x.people] {
				texts = append(texts, n.text())
			}
		}
		for _, s := range texts {
			p, ok := x.read(s)
			if !ok {
				unread++
				continue
			}
			read++
			if x.text(p) != s || !x.ok(p) {
				t.Fatal(x.people, x.name(), s, p)
			}
			x.checkUnread(t, s+"*")
		}
	})
	if read < 1000 || unread < 1000 {
		t.Fatal("too few texts", read, unread)
	}
}

// Promise 73.
func TestFromAClashAllFollows(t *testing.T) {
	clashes, worlds := 0, 0
	eachToProve(func(x toProve) {
		opposite := notTree(x.goal).marks()
		p, ok := x.find()
		q, oppositeOk := impl.FindProof(x.people, x.claims, opposite)
		if len(opposite) > impl.MaxMarks {
			if oppositeOk || !sameProof(q, impl.Proof{}) {
				t.Fatal("no term", x.people, x.name(), q)
			}
			return
		}
		clash := impl.ClashOk(x.people, x.claims)
		if (ok && oppositeOk) != clash || clash && (!x.ok(p) || !impl.ProofOk(x.people, x.claims, opposite, q)) {
			t.Fatal(x.people, x.name(), p, q, clash)
		}
		if clash {
			clashes++
		} else {
			worlds++
		}
	})
	if clashes < 500 || worlds < 1000 {
		t.Fatal("too few stories", clashes, worlds)
	}
}

func spoilSplits(splits []impl.Split) {
	spare := splits[:cap(splits)]
	for place := range spare {
		spare[place] = impl.Split{Who: 9, No: 9, Yes: 9}
	}
}

// The general rules: proofs that are told are new, and share no memory, spare capacity among it; what they were made of may be changed afterwards.
func TestProofsAreNotShared(t *testing.T) {
	x := toProveTexts(t, 3, []string{"a:!b&!c", "b:a", "c:!a|!b"}, "c")
	text := "a(b(c(0,*),1),b(1,0))"
	want := impl.Proof{Splits: []impl.Split{split(0, 1, 3), split(1, 2, -3), split(2, -2, -1), split(1, -3, -2)}}
	for _, tell := range []func() (impl.Proof, bool){x.find, func() (impl.Proof, bool) { return x.read(text) }} {
		first, _ := tell()
		second, _ := tell()
		spoilSplits(first.Splits)
		third, ok := tell()
		if !sameProof(second, want) || !sameProof(third, want) || !ok {
			t.Error("two proofs share memory", second, third, ok)
		}
	}
	found, _ := x.find()
	read, _ := x.read(text)
	told := x.text(found)
	spoilStory(x.claims)
	spoil(x.marks)
	if !sameProof(found, want) || !sameProof(read, want) || told != text {
		t.Error("what was told is kept", found, read, told)
	}
	checkNoProof(t, 3, x.claims, x.marks)
}

// The general rules: stories, rows and splits are not written to.
func TestProofsDoNotWrite(t *testing.T) {
	row, allSaid := withSpare(readRow(t, 2, "!a&!b"))
	goal, allGoal := withSpare(readRow(t, 2, "b"))
	allClaims := []impl.Claim{{Who: 0, Says: row}, {Who: 1, Says: row}, {Who: 7, Says: row}, {Who: 8}}
	allSplits := []impl.Split{split(0, 1, -2), split(1, -2, -1), split(7, 7, 7), split(8, 8, 8)}
	story, p := allClaims[:1], impl.Proof{Splits: allSplits[:2]}
	saidBefore, goalBefore, splitsBefore := slices.Clone(allSaid), slices.Clone(allGoal), slices.Clone(allSplits)
	for range 2 {
		q, ok := impl.FindProof(2, story, goal)
		r, readOk := impl.ReadProof(2, story, goal, "a(b(0,*),0)")
		if !impl.FollowsFrom(2, story, goal) || !impl.ProofOk(2, story, goal, p) || impl.ProofText(2, story, goal, p) != "a(b(0,*),0)" || !ok || !sameProof(p, q) || !readOk || !sameProof(p, r) {
			t.Error(q, ok, r, readOk)
		}
		if impl.ProofOk(2, story, goal, impl.Proof{Splits: allSplits[:3]}) || impl.ProofText(2, story, goal, impl.Proof{First: 1, Splits: allSplits[:2]}) != "" {
			t.Error("wrong proofs")
		}
	}
	if !slices.Equal(allSaid, saidBefore) || !slices.Equal(allGoal, goalBefore) || !slices.Equal(allSplits, splitsBefore) {
		t.Error("an argument is written to", allSaid, allGoal, allSplits)
	}
	for place, who := range []int{0, 1, 7, 8} {
		if allClaims[place].Who != who || (len(allClaims[place].Says) != len(row)) != (place == 3) {
			t.Error("an argument is written to", allClaims)
		}
	}
	text := impl.ProofText(2, story, goal, p)
	allSplits[1].No = -1
	if impl.ProofOk(2, story, goal, p) || impl.ProofText(2, story, goal, p) != "" || text != "a(b(0,*),0)" {
		t.Error("state is kept")
	}
	allSplits[1].No = -2
	if !impl.ProofOk(2, story, goal, p) {
		t.Error("state is kept")
	}
}
