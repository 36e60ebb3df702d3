package tests

import (
	"slices"
	"strings"
	"testing"

	"loop.example/tellersandliars/impl"
)

// tree is a term as it hangs together, so that texts and rows of marks are made without the program.
type tree struct {
	mark          impl.Mark
	first, second *tree
}

func personTree(at int) *tree {
	return &tree{mark: impl.Mark{Kind: impl.MarkTells, At: at}}
}

func countTree(at int) *tree {
	return &tree{mark: impl.Mark{Kind: impl.MarkCount, At: at}}
}

func notTree(part *tree) *tree {
	return &tree{mark: impl.Mark{Kind: impl.MarkNot}, first: part}
}

func joinTree(kind int, first, second *tree) *tree {
	return &tree{mark: impl.Mark{Kind: kind}, first: first, second: second}
}

func andTree(first, second *tree) *tree {
	return joinTree(impl.MarkAnd, first, second)
}

func orTree(first, second *tree) *tree {
	return joinTree(impl.MarkOr, first, second)
}

func sameTree(first, second *tree) *tree {
	return joinTree(impl.MarkSame, first, second)
}

// nots puts so many MarkNot behind a part.
func nots(count int, part *tree) *tree {
	for range count {
		part = notTree(part)
	}
	return part
}

// marks has the parts before each mark.
func (n *tree) marks() []impl.Mark {
	var row []impl.Mark
	if n.first != nil {
		row = append(row, n.first.marks()...)
	}
	if n.second != nil {
		row = append(row, n.second.marks()...)
	}
	return append(row, n.mark)
}

// bracketed are the last marks of a first and of a second part that need brackets, as the document lists them.
var bracketed = map[int][2][]int{
	impl.MarkSame: {{}, {impl.MarkSame}},
	impl.MarkOr:   {{impl.MarkSame}, {impl.MarkOr, impl.MarkSame}},
	impl.MarkAnd:  {{impl.MarkOr, impl.MarkSame}, {impl.MarkAnd, impl.MarkOr, impl.MarkSame}},
	impl.MarkNot:  {{impl.MarkAnd, impl.MarkOr, impl.MarkSame}, {}},
}

var signs = map[int]string{impl.MarkSame: "=", impl.MarkOr: "|", impl.MarkAnd: "&"}

func (n *tree) text() string {
	part := func(which int, p *tree) string {
		if slices.Contains(bracketed[n.mark.Kind][which], p.mark.Kind) {
			return "(" + p.text() + ")"
		}
		return p.text()
	}
	switch n.mark.Kind {
	case impl.MarkTells:
		return "abcd"[n.mark.At : n.mark.At+1]
	case impl.MarkCount:
		return "012345"[n.mark.At : n.mark.At+1]
	case impl.MarkNot:
		return "!" + part(0, n.first)
	}
	return part(0, n.first) + signs[n.mark.Kind] + part(1, n.second)
}

func (n *tree) mirrored(people int) *tree {
	switch n.mark.Kind {
	case impl.MarkTells:
		return notTree(personTree(n.mark.At))
	case impl.MarkCount:
		return notTree(countTree(people + 1 - n.mark.At))
	case impl.MarkNot:
		return notTree(n.first.mirrored(people))
	}
	return joinTree(n.mark.Kind, n.first.mirrored(people), n.second.mirrored(people))
}

// leavesOf are all terms of one mark.
func leavesOf(people int) []*tree {
	var list []*tree
	for at := range people {
		list = append(list, personTree(at))
	}
	for at := range people + 2 {
		list = append(list, countTree(at))
	}
	return list
}

// treesOf are all terms of 1 to most marks.
func treesOf(people, most int) []*tree {
	bySize := [][]*tree{nil, leavesOf(people)}
	for size := 2; size <= most; size++ {
		var list []*tree
		for _, part := range bySize[size-1] {
			list = append(list, notTree(part))
		}
		for left := 1; left <= size-2; left++ {
			for _, first := range bySize[left] {
				for _, second := range bySize[size-1-left] {
					list = append(list, sameTree(first, second), orTree(first, second), andTree(first, second))
				}
			}
		}
		bySize = append(bySize, list)
	}
	return slices.Concat(bySize...)
}

// picker picks the same numbers in each run.
type picker struct {
	state uint64
}

func (p *picker) below(n int) int {
	p.state = p.state*6364136223846793005 + 1442695040888963407
	return int(p.state>>33) % n
}

// tree picks a term of just so many marks.
func (p *picker) tree(people, size int) *tree {
	if size == 1 {
		leaves := leavesOf(people)
		return leaves[p.below(len(leaves))]
	}
	if size == 2 || p.below(4) == 0 {
		return notTree(p.tree(people, size-1))
	}
	left := 1 + p.below(size-2)
	kind := impl.MarkAnd + p.below(3)
	return joinTree(kind, p.tree(people, left), p.tree(people, size-1-left))
}

// eachTree calls f for all short terms, and for some of each number of marks, of all numbers of people.
func eachTree(f func(people int, n *tree)) {
	pick := &picker{state: 2}
	for people := 1; people <= impl.MaxPeople; people++ {
		for _, n := range treesOf(people, 5-people/3) {
			f(people, n)
		}
		for size := 1; size <= impl.MaxMarks; size++ {
			for range 600 {
				f(people, pick.tree(people, size))
			}
		}
	}
}

// startOfPart goes back from the end of a part to its start, by the last mark first; -1 if there is no part.
func startOfPart(people int, row []impl.Mark, end int) int {
	if end < 1 {
		return -1
	}
	m := row[end-1]
	switch {
	case m.Kind == 0 && 0 <= m.At && m.At < people, m.Kind == 1 && 0 <= m.At && m.At <= people+1:
		return end - 1
	case m.Kind == 2 && m.At == 0:
		return startOfPart(people, row, end-1)
	case m.Kind >= 3 && m.Kind <= 5 && m.At == 0:
		return startOfPart(people, row, startOfPart(people, row, end-1))
	}
	return -1
}

func termByRule(people int, row []impl.Mark) bool {
	return people >= 1 && people <= 4 && len(row) >= 1 && len(row) <= 15 && startOfPart(people, row, len(row)) == 0
}

// eachRow calls f for all rows of at most so many of some marks. The row is used again after f.
func eachRow(marks []impl.Mark, most int, f func(row []impl.Mark)) {
	row := make([]impl.Mark, 0, most)
	var grow func()
	grow = func() {
		f(row)
		if len(row) == most {
			return
		}
		for _, m := range marks {
			row = append(row, m)
			grow()
			row = row[:len(row)-1]
		}
	}
	grow()
}

// checkRefused tests what is returned for what is no term.
func checkRefused(t *testing.T, people int, row []impl.Mark) {
	t.Helper()
	if impl.TermOk(people, row) {
		t.Error("TermOk", people, row)
	}
	if got := impl.TermText(people, row); got != "" {
		t.Error("TermText", people, row, got)
	}
	if got := impl.PeopleRead(people, row); got != -1 {
		t.Error("PeopleRead", people, row, got)
	}
	if got, ok := impl.MirrorTerm(people, row); ok || len(got) != 0 {
		t.Error("MirrorTerm", people, row, got, ok)
	}
}

func checkUnread(t *testing.T, people int, s string) {
	t.Helper()
	if got, ok := impl.ReadTerm(people, s); ok || len(got) != 0 {
		t.Errorf("%d %q %v %v", people, s, got, ok)
	}
}

func TestMarkNumbers(t *testing.T) {
	if impl.MarkTells != 0 || impl.MarkCount != 1 || impl.MarkNot != 2 || impl.MarkAnd != 3 || impl.MarkOr != 4 || impl.MarkSame != 5 || impl.MaxMarks != 15 {
		t.Fatal("constants")
	}
}

func TestTermOkOfAllShortRows(t *testing.T) {
	check := func(people int, row []impl.Mark) {
		if got, want := impl.TermOk(people, row), termByRule(people, row); got != want {
			t.Fatal(people, row, got)
		}
	}
	for people := 0; people <= impl.MaxPeople+1; people++ {
		var marks []impl.Mark
		for kind := -1; kind <= 6; kind++ {
			for at := -1; at <= people+2; at++ {
				marks = append(marks, impl.Mark{Kind: kind, At: at})
			}
		}
		eachRow(marks, 3, func(row []impl.Mark) { check(people, row) })
	}
	proper := []impl.Mark{{Kind: 0}, {Kind: 1, At: 2}, {Kind: 2}, {Kind: 3}, {Kind: 4}, {Kind: 5}}
	eachRow(proper, 7, func(row []impl.Mark) { check(1, row) })
}

func TestOneMarkAlone(t *testing.T) {
	for people := 1; people <= impl.MaxPeople; people++ {
		for kind := -3; kind <= 9; kind++ {
			for at := -7; at <= 70; at++ {
				want := kind == 0 && at >= 0 && at < people || kind == 1 && at >= 0 && at <= people+1
				row := []impl.Mark{{Kind: kind, At: at}}
				if got := impl.TermOk(people, row); got != want {
					t.Error(people, row, got)
				}
				if !want {
					checkRefused(t, people, row)
				}
			}
		}
	}
}

func TestTermsRefuse(t *testing.T) {
	a, same := impl.Mark{}, impl.Mark{Kind: impl.MarkSame}
	far := append([]int{255, 256, 257, 258, 1<<32 + 2, 1<<62 + 3}, farNumbers...)
	for _, people := range wrongPeople {
		for _, row := range [][]impl.Mark{nil, {a}, {{Kind: impl.MarkCount}}, {a, a, same}} {
			checkRefused(t, people, row)
		}
		checkUnread(t, people, "")
		checkUnread(t, people, "a")
		checkUnread(t, people, "0")
		checkUnread(t, people, "a=0")
	}
	for people := 1; people <= impl.MaxPeople; people++ {
		checkRefused(t, people, nil)
		checkRefused(t, people, []impl.Mark{})
		for _, number := range far {
			checkRefused(t, people, []impl.Mark{{Kind: number}})
			checkRefused(t, people, []impl.Mark{a, {Kind: number}})
			checkRefused(t, people, []impl.Mark{a, a, {Kind: number}})
			checkRefused(t, people, []impl.Mark{a, {Kind: number}, same})
			for kind := range 6 {
				m := impl.Mark{Kind: kind, At: number}
				checkRefused(t, people, []impl.Mark{m})
				checkRefused(t, people, []impl.Mark{a, m})
				checkRefused(t, people, []impl.Mark{a, a, m})
				checkRefused(t, people, []impl.Mark{a, m, same})
			}
		}
	}
}

func TestPartsMissingOrLeftOver(t *testing.T) {
	a, one, not := impl.Mark{}, impl.Mark{Kind: impl.MarkCount, At: 1}, impl.Mark{Kind: impl.MarkNot}
	checkRefused(t, 2, []impl.Mark{not})
	checkRefused(t, 2, []impl.Mark{not, a})
	checkRefused(t, 2, []impl.Mark{a, one})
	checkRefused(t, 2, []impl.Mark{a, one, not})
	for kind := impl.MarkAnd; kind <= impl.MarkSame; kind++ {
		join := impl.Mark{Kind: kind}
		for _, row := range [][]impl.Mark{{join}, {a, join}, {join, a}, {join, a, one}, {a, join, one}, {a, a, a, join}, {a, one, join, join}, {a, not, join}, {a, one, join, one}, {a, join, one, one, join}} {
			checkRefused(t, 2, row)
		}
	}
}

// chain joins so many persons 0, hanging to the left or to the right.
func chain(kind, count int, left bool) *tree {
	n := personTree(0)
	for range count - 1 {
		if left {
			n = joinTree(kind, n, personTree(0))
		} else {
			n = joinTree(kind, personTree(0), n)
		}
	}
	return n
}

func TestMostMarks(t *testing.T) {
	for people := 1; people <= impl.MaxPeople; people++ {
		for size := 1; size <= 40; size++ {
			row := nots(size-1, countTree(people+1)).marks()
			if got := impl.TermOk(people, row); got != (size <= 15) {
				t.Error(people, size, got)
			}
			if size > 15 {
				checkRefused(t, people, row)
			}
		}
		for kind := impl.MarkAnd; kind <= impl.MarkSame; kind++ {
			for _, left := range []bool{true, false} {
				most := chain(kind, 8, left)
				if !impl.TermOk(people, most.marks()) || impl.PeopleRead(people, most.marks()) != 1 {
					t.Error(people, kind, left)
				}
				checkRefused(t, people, notTree(most).marks())
				checkRefused(t, people, chain(kind, 9, left).marks())
				checkRefused(t, people, chain(kind, 500, left).marks())
			}
		}
	}
}

func TestTermTextExamples(t *testing.T) {
	a, b, c, d := personTree(0), personTree(1), personTree(2), personTree(3)
	for _, x := range []struct {
		n    *tree
		want string
	}{
		{a, "a"}, {b, "b"}, {c, "c"}, {d, "d"},
		{countTree(0), "0"}, {countTree(4), "4"}, {countTree(5), "5"},
		{notTree(a), "!a"}, {nots(2, a), "!!a"}, {nots(3, countTree(0)), "!!!0"},
		{notTree(andTree(a, b)), "!(a&b)"}, {notTree(orTree(a, b)), "!(a|b)"}, {notTree(sameTree(a, b)), "!(a=b)"}, {nots(2, sameTree(a, b)), "!!(a=b)"},
		{andTree(notTree(a), notTree(b)), "!a&!b"}, {andTree(a, nots(2, b)), "a&!!b"},
		{andTree(andTree(a, b), c), "a&b&c"}, {andTree(orTree(a, b), c), "(a|b)&c"}, {andTree(sameTree(a, b), c), "(a=b)&c"},
		{andTree(a, andTree(b, c)), "a&(b&c)"}, {andTree(a, orTree(b, c)), "a&(b|c)"}, {andTree(a, sameTree(b, c)), "a&(b=c)"},
		{orTree(andTree(a, b), c), "a&b|c"}, {orTree(orTree(a, b), c), "a|b|c"}, {orTree(sameTree(a, b), c), "(a=b)|c"},
		{orTree(a, andTree(b, c)), "a|b&c"}, {orTree(a, orTree(b, c)), "a|(b|c)"}, {orTree(a, sameTree(b, c)), "a|(b=c)"},
		{sameTree(andTree(a, b), c), "a&b=c"}, {sameTree(orTree(a, b), c), "a|b=c"}, {sameTree(sameTree(a, b), c), "a=b=c"},
		{sameTree(a, andTree(b, c)), "a=b&c"}, {sameTree(a, orTree(b, c)), "a=b|c"}, {sameTree(a, sameTree(b, c)), "a=(b=c)"},
		{sameTree(andTree(notTree(orTree(a, b)), countTree(1)), b), "!(a|b)&1=b"},
	} {
		if got := impl.TermText(4, x.n.marks()); got != x.want {
			t.Error(got, x.want)
		}
		if got, ok := impl.ReadTerm(4, x.want); !ok || !slices.Equal(got, x.n.marks()) {
			t.Error(x.want, got, ok)
		}
	}
}

func TestTermTextOfAllTerms(t *testing.T) {
	eachTree(func(people int, n *tree) {
		if got := impl.TermText(people, n.marks()); got != n.text() {
			t.Fatal(people, n.marks(), got, n.text())
		}
	})
}

// eachText calls f for all texts of at most so many bytes of some signs.
func eachText(alphabet string, most int, f func(s string)) {
	row := make([]byte, 0, most)
	var grow func()
	grow = func() {
		f(string(row))
		if len(row) == most {
			return
		}
		for i := range len(alphabet) {
			row = append(row, alphabet[i])
			grow()
			row = row[:len(row)-1]
		}
	}
	grow()
}

// A term has no more marks than its text has bytes, so the terms of so many marks have all texts of so many bytes.
func TestReadTermOfAllShortTexts(t *testing.T) {
	for _, x := range []struct {
		people   int
		alphabet string
		most     int
	}{
		{1, "a1!&|=()", 7},
		{1, "ab0123!&=() \x00", 5},
		{2, "abc34!|=()A", 5},
		{4, "de56!&() ", 5},
	} {
		terms := map[string][]impl.Mark{}
		for _, n := range treesOf(x.people, x.most) {
			if _, twice := terms[n.text()]; twice {
				t.Fatal("two terms have the text", n.text())
			}
			terms[n.text()] = n.marks()
		}
		eachText(x.alphabet, x.most, func(s string) {
			want, is := terms[s]
			if got, ok := impl.ReadTerm(x.people, s); ok != is || !slices.Equal(got, want) {
				t.Fatalf("%d %q %v %v, not %v", x.people, s, got, ok, want)
			}
		})
	}
}

func TestReadTermRefuses(t *testing.T) {
	for _, s := range []string{
		"", " ", "a ", " a", "a =b", "a= b", "a\n", "\ta", "a\x00", "\x00", "\xff", "a\xc3\xa4", "ａ", "!", "!!", "&", "=", "|", "()", "(", ")", "(a", "a)", "((a))",
		"a!", "a!b", "ab", "a1", "1a", "11", "a&", "&a", "a&&b", "a||b", "a==b", "a=&b", "a|=b", "a&|b", "(a)", "(1)", "(!a)", "!(a)", "!(!a)", "!((a=b))", "(a=b)", "(a=b)=c", "(a|b)|c", "(a&b)&c", "(a&b)|c", "(a&b)=c", "(a|b)=c", "a|(b&c)", "a=(b&c)", "a=(b|c)", "(!a)&b", "a&(!b)", "a=(b=c", "a=b=c)", "a=(b)",
		"00", "01", "05", "6", "7", "9", "10", "-1", "+1", "1.", "a=01", "e", "z", "A", "D", "`", "{", "/", ":", "a,b", "[a=b]", "{a}", "a~b", "a^b", "a∧b", "¬a",
	} {
		checkUnread(t, 4, s)
	}
	for people := 1; people <= impl.MaxPeople; people++ {
		for i := range 26 {
			s := string(rune('a' + i))
			if _, ok := impl.ReadTerm(people, s); ok != (i < people) {
				t.Error(people, s, ok)
			}
			if i >= people {
				checkUnread(t, people, s+"=a")
				checkUnread(t, people, "a&!("+s+"|a)")
			}
		}
		for i := range 10 {
			s := string(rune('0' + i))
			if _, ok := impl.ReadTerm(people, s); ok != (i <= people+1) {
				t.Error(people, s, ok)
			}
			checkUnread(t, people, "0"+s)
			checkUnread(t, people, s+"0")
			if i > people+1 {
				checkUnread(t, people, "a|"+s)
			}
		}
	}
}

func TestReadTermOfArbitraryBytes(t *testing.T) {
	for x := range 256 {
		for y := range 257 {
			s := string([]byte{byte(x), byte(y)}[:min(2, 257-y)])
			want := s == "a" || s == "b" || s >= "0" && s <= "3" && len(s) == 1 || len(s) == 2 && s[0] == '!' && strings.Contains("ab0123", s[1:])
			if got, ok := impl.ReadTerm(2, s); ok != want {
				t.Fatalf("%q %v %v", s, got, ok)
			}
		}
		checkChanged(t, "!(a|b)&1=b", byte(x))
	}
	pick := &picker{state: 3}
	for range 20000 {
		row := make([]byte, pick.below(70))
		for i := range row {
			row[i] = byte(pick.below(256))
		}
		if got, ok := impl.ReadTerm(4, string(row)); ok && impl.TermText(4, got) != string(row) {
			t.Fatalf("%q %v", row, got)
		}
	}
}

// checkChanged puts a byte into each place of a text; what is read then has to have that text.
func checkChanged(t *testing.T, s string, put byte) {
	t.Helper()
	for i := range len(s) + 1 {
		for _, changed := range []string{s[:i] + string([]byte{put}) + s[i:], s[:i] + string([]byte{put}) + s[min(i+1, len(s)):]} {
			if got, ok := impl.ReadTerm(2, changed); ok && impl.TermText(2, got) != changed {
				t.Fatalf("%q %v", changed, got)
			}
		}
	}
	if put > 127 || put <= ' ' {
		checkUnread(t, 2, s+string([]byte{put}))
		checkUnread(t, 2, string([]byte{put})+s)
	}
}

// The longest texts have 27 bytes: MaxMarks marks, and brackets around all signs between parts but one.
func TestLongTexts(t *testing.T) {
	for kind := impl.MarkAnd; kind <= impl.MarkSame; kind++ {
		n := chain(kind, 8, false)
		if got, ok := impl.ReadTerm(1, n.text()); len(n.text()) != 27 || !ok || !slices.Equal(got, n.marks()) {
			t.Error(n.text(), got, ok)
		}
		checkUnread(t, 1, chain(kind, 9, false).text())
		for count := 1; count <= 61; count++ {
			s := chain(kind, count, true).text()
			if _, ok := impl.ReadTerm(1, s); ok != (count <= 8) {
				t.Error(s, ok)
			}
		}
	}
	for count := range 61 {
		s := strings.Repeat("!", count) + "a"
		if _, ok := impl.ReadTerm(1, s); ok != (count <= 14) {
			t.Error(s, ok)
		}
	}
	for _, size := range []int{59, 60, 61, 62, 1000, 1 << 20} {
		for _, s := range []string{strings.Repeat("!", size-1) + "a", "a" + strings.Repeat("&a", size/2)[:size-1], strings.Repeat("(", size), strings.Repeat("(", size/2-1) + "a=b" + strings.Repeat(")", size-size/2-2), strings.Repeat("a", size), "a=b" + strings.Repeat(" ", size-3), strings.Repeat("0", size), strings.Repeat("\xff", size)} {
			if len(s) != size {
				t.Fatal(len(s), size)
			}
			checkUnread(t, 2, s)
		}
	}
}

func TestPeopleReadAndMirrorExamples(t *testing.T) {
	for _, x := range []struct {
		people int
		s      string
		read   int
		mirror string
	}{
		{1, "a", 1, "!a"}, {1, "0", 0, "!2"}, {1, "1", 0, "!1"}, {1, "2", 0, "!0"},
		{2, "b", 2, "!b"}, {2, "a|1", 1, "!a|!2"}, {2, "!(a|b)&1=b", 3, "!(!a|!b)&!2=!b"}, {2, "3", 0, "!0"},
		{3, "0=(c=4)", 4, "!4=(!c=!0)"}, {3, "a&a&c", 5, "!a&!a&!c"}, {3, "!!b", 2, "!!!b"},
		{4, "d", 8, "!d"}, {4, "0&1&2|3|5", 0, "!5&!4&!3|!2|!0"}, {4, "d=c|b&a", 15, "!d=!c|!b&!a"}, {4, "4=d", 8, "!1=!d"},
	} {
		row, ok := impl.ReadTerm(x.people, x.s)
		if !ok {
			t.Fatal(x.s)
		}
		if got := impl.PeopleRead(x.people, row); got != x.read {
			t.Error("PeopleRead", x.s, got)
		}
		mirror, ok := impl.MirrorTerm(x.people, row)
		if got := impl.TermText(x.people, mirror); !ok || got != x.mirror {
			t.Error("MirrorTerm", x.s, got, ok)
		}
	}
}

// A mirrored term of just MaxMarks marks is told, and none of more.
func TestMirroredMost(t *testing.T) {
	for people := 1; people <= impl.MaxPeople; people++ {
		for _, leaf := range leavesOf(people) {
			for leaves := 1; leaves <= 8; leaves++ {
				n := leaf
				for range leaves - 1 {
					n = orTree(n, leaf)
				}
				for ; len(n.marks()) <= impl.MaxMarks; n = notTree(n) {
					got, ok := impl.MirrorTerm(people, n.marks())
					fits := len(n.marks())+leaves <= 15
					if ok != fits || fits && !slices.Equal(got, n.mirrored(people).marks()) || !fits && len(got) != 0 {
						t.Fatal(people, n.text(), got, ok)
					}
				}
			}
		}
	}
}

// Promise 9.
func TestOnePersonIsATerm(t *testing.T) {
	a, not, same := impl.Mark{Kind: impl.MarkTells}, impl.Mark{Kind: impl.MarkNot}, impl.Mark{Kind: impl.MarkSame}
	for people := 1; people <= impl.MaxPeople; people++ {
		for at := range people {
			if !impl.TermOk(people, []impl.Mark{{Kind: impl.MarkTells, At: at}}) {
				t.Error(people, at)
			}
		}
		if !impl.TermOk(people, []impl.Mark{{Kind: impl.MarkCount}}) || !impl.TermOk(people, []impl.Mark{{Kind: impl.MarkCount, At: people + 1}}) {
			t.Error("counts", people)
		}
		if impl.TermOk(people, []impl.Mark{{Kind: impl.MarkTells, At: people}}) || impl.TermOk(people, []impl.Mark{{Kind: impl.MarkCount, At: people + 2}}) {
			t.Error("past the people", people)
		}
	}
	eachTree(func(people int, n *tree) {
		row := n.marks()
		if !impl.TermOk(people, row) {
			t.Fatal(people, row)
		}
		if impl.TermOk(people, slices.Concat(row, []impl.Mark{a, same})) != (len(row) <= 13) || impl.TermOk(people, slices.Concat(row, []impl.Mark{not})) != (len(row) <= 14) {
			t.Fatal(people, row)
		}
	})
}

// Promise 10.
func TestTextsOfTermsAreRead(t *testing.T) {
	eachTree(func(people int, n *tree) {
		row := n.marks()
		if got, ok := impl.ReadTerm(people, impl.TermText(people, row)); !ok || !slices.Equal(got, row) {
			t.Fatal(people, row, got, ok)
		}
	})
}

// Promise 11.
func TestReadTextsAreCanonical(t *testing.T) {
	check := func(people int, s string) bool {
		row, ok := impl.ReadTerm(people, s)
		if !ok {
			return false
		}
		if got := impl.TermText(people, row); got != s {
			t.Fatalf("%d %q %q", people, s, got)
		}
		checkUnread(t, people, "("+s+")")
		return true
	}
	eachTree(func(people int, n *tree) {
		if !check(people, n.text()) {
			t.Fatal(people, n.text())
		}
	})
	for people := 1; people <= impl.MaxPeople; people++ {
		eachText("ab2!&|=()", 5, func(s string) { check(people, s) })
	}
}

// Promise 12.
func TestEachPersonWhoIsReadHasALetter(t *testing.T) {
	eachTree(func(people int, n *tree) {
		row := n.marks()
		read, s := impl.PeopleRead(people, row), impl.TermText(people, row)
		if !impl.WorldOk(people, read) {
			t.Fatal(people, s, read)
		}
		for at, is := range tellsIn(people, read) {
			if is != strings.Contains(s, "abcd"[at:at+1]) || is != slices.Contains(row, impl.Mark{Kind: impl.MarkTells, At: at}) {
				t.Fatal(people, s, read, at)
			}
		}
	})
}

// ofLeaves counts the marks of people and of counts.
func ofLeaves(row []impl.Mark) int {
	count := 0
	for _, m := range row {
		if m.Kind == impl.MarkTells || m.Kind == impl.MarkCount {
			count++
		}
	}
	return count
}

// Promise 13. Twice as many marks are those of people and counts with the MarkNot behind each of them.
func TestMirroredTermsReadTheSamePeople(t *testing.T) {
	told := 0
	eachTree(func(people int, n *tree) {
		row := n.marks()
		leaves := ofLeaves(row)
		got, ok := impl.MirrorTerm(people, row)
		if ok != (len(row)+leaves <= impl.MaxMarks) {
			t.Fatal(people, n.text(), ok)
		}
		if !ok {
			if len(got) != 0 {
				t.Fatal(people, n.text(), got)
			}
			return
		}
		told++
		if !impl.TermOk(people, got) || impl.PeopleRead(people, got) != impl.PeopleRead(people, row) {
			t.Fatal(people, n.text(), got)
		}
		if ofLeaves(got) != leaves || len(got)-2*leaves != len(row)-leaves || !slices.Equal(got, n.mirrored(people).marks()) {
			t.Fatal(people, n.text(), got)
		}
	})
	if told < 1000 {
		t.Fatal("too few mirrored terms", told)
	}
}

// withSpare is a row with spare capacity that is marked, and all of its memory.
func withSpare(row []impl.Mark) ([]impl.Mark, []impl.Mark) {
	all := append(slices.Clone(row), slices.Repeat([]impl.Mark{{Kind: 7, At: 7}}, 50)...)
	return all[:len(row)], all
}

// spoil writes over a list and its spare capacity.
func spoil(list []impl.Mark) {
	spare := list[:cap(list)]
	for i := range spare {
		spare[i] = impl.Mark{Kind: 9, At: 9}
	}
}

// The general rules: rows are not written to, and those that are told are new.
func TestTermsAreNotShared(t *testing.T) {
	row, all := withSpare(orTree(personTree(0), countTree(1)).marks())
	before := slices.Clone(all)
	if !impl.TermOk(2, row) || impl.TermText(2, row) != "a|1" || impl.PeopleRead(2, row) != 1 {
		t.Error(row)
	}
	first, _ := impl.MirrorTerm(2, row)
	second, _ := impl.MirrorTerm(2, row)
	readFirst, _ := impl.ReadTerm(2, "a|1")
	readSecond, _ := impl.ReadTerm(2, "a|1")
	spoil(first)
	spoil(readFirst)
	if !slices.Equal(all, before) {
		t.Error("the argument is written to", all)
	}
	if impl.TermText(2, second) != "!a|!2" || impl.TermText(2, readSecond) != "a|1" {
		t.Error("two results share memory", second, readSecond)
	}
	if again, ok := impl.ReadTerm(2, "a|1"); !ok || !slices.Equal(again, readSecond) {
		t.Error("state is kept", again, ok)
	}
}
