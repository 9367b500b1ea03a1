package tests

import (
	"fmt"
	"math"
	"regexp"
	"slices"
	"strconv"
	"strings"
	"testing"

	"loop.example/g01115/impl"
)

func deskOf(list []int, cells []int) impl.Desk {
	return impl.Desk{List: list, Table: tableOf(cells)}
}

func firstDeskByHand() impl.Desk {
	return deskOf([]int{0}, freeByHand(7))
}

func isDeskByHand(d impl.Desk) bool {
	return isParkingByHand(d.List) && len(d.List) <= 8 && (len(d.List) == 0 || slices.Min(d.List) >= 0) && isTableByHand(d.Table.Cells)
}

func sameDesk(a impl.Desk, b impl.Desk) bool {
	return slices.Equal(a.List, b.List) && slices.Equal(a.Table.Cells, b.Table.Cells)
}

func cloneDesk(d impl.Desk) impl.Desk {
	return deskOf(slices.Clone(d.List), slices.Clone(d.Table.Cells))
}

// A lineForm is a row of the document's table: what the line looks like, and the calls it names.
type lineForm struct {
	form string
	run  func(d impl.Desk, words []string) (impl.Desk, string, bool)
}

func numberByHand(word string) int {
	number, err := strconv.Atoi(word)
	if err != nil {
		panic(word)
	}
	return number
}

func listByHand(word string) []int {
	var list []int
	if word != "-" {
		for _, part := range strings.Split(word, ",") {
			list = append(list, numberByHand(part))
		}
	}
	return list
}

func withListByHand(d impl.Desk, list []int, ok bool) (impl.Desk, string, bool) {
	d.List = list
	return d, "ok", ok
}

func withTableByHand(d impl.Desk, table impl.Table, reply string, ok bool) (impl.Desk, string, bool) {
	d.Table = table
	return d, reply, ok
}

// formsOfList are the lines that need the List, or change it.
var formsOfList = []lineForm{
	{"take L", func(d impl.Desk, words []string) (impl.Desk, string, bool) {
		list := listByHand(words[0])
		isParking, _ := impl.IsParking(list)
		return withListByHand(d, list, isParking)
	}},
	{"next", func(d impl.Desk, words []string) (impl.Desk, string, bool) {
		list, ok := impl.NextParking(d.List)
		return withListByHand(d, list, ok)
	}},
	{"at N R", func(d impl.Desk, words []string) (impl.Desk, string, bool) {
		list, ok := impl.ParkingAt(numberByHand(words[0]), numberByHand(words[1]))
		return withListByHand(d, list, ok)
	}},
	{"join L", func(d impl.Desk, words []string) (impl.Desk, string, bool) {
		list, ok := impl.JoinParking(d.List, listByHand(words[0]))
		return withListByHand(d, list, ok)
	}},
	{"cars", func(d impl.Desk, words []string) (impl.Desk, string, bool) {
		stands, ok := impl.DriveCars(d.List, len(d.List))
		return d, wordsByHand(stands), ok || len(d.List) == 0
	}},
	{"far", func(d impl.Desk, words []string) (impl.Desk, string, bool) {
		distances, ok := impl.DistancesOf(d.List, len(d.List))
		return d, wordsByHand(distances), ok || len(d.List) == 0
	}},
	{"cuts", func(d impl.Desk, words []string) (impl.Desk, string, bool) {
		cuts, ok := impl.CutsOf(d.List)
		return d, wordsByHand(cuts), ok
	}},
	{"rank", func(d impl.Desk, words []string) (impl.Desk, string, bool) {
		rank, ok := impl.RankParking(d.List)
		return d, fmt.Sprint(rank), ok
	}},
	{"list", func(d impl.Desk, words []string) (impl.Desk, string, bool) {
		return d, wordsByHand(d.List), true
	}},
}

// formsOfNeither are the lines that need neither the List nor the Table.
var formsOfNeither = []lineForm{
	{"count N", func(d impl.Desk, words []string) (impl.Desk, string, bool) {
		count, ok := impl.CountParking(numberByHand(words[0]))
		return d, fmt.Sprint(count), ok
	}},
	{"class L", func(d impl.Desk, words []string) (impl.Desk, string, bool) {
		list, _, ok := impl.ParkingOfClass(listByHand(words[0]))
		return d, wordsByHand(list), ok
	}},
	{"back N", func(d impl.Desk, words []string) (impl.Desk, string, bool) {
		count, ok := impl.CountBack(3, numberByHand(words[0]))
		return d, fmt.Sprint(count), ok
	}},
}

// formsOfTable are the lines that need the Table, or change it.
var formsOfTable = []lineForm{
	{"new N", func(d impl.Desk, words []string) (impl.Desk, string, bool) {
		table, ok := impl.EmptyTable(numberByHand(words[0]))
		return withTableByHand(d, table, "ok", ok)
	}},
	{"put N", func(d impl.Desk, words []string) (impl.Desk, string, bool) {
		table, cell, ok := impl.InsertKey(d.Table, numberByHand(words[0]))
		return withTableByHand(d, table, fmt.Sprint(cell), ok)
	}},
	{"drop N", func(d impl.Desk, words []string) (impl.Desk, string, bool) {
		table, ok := impl.RemoveKey(d.Table, numberByHand(words[0]))
		return withTableByHand(d, table, "ok", ok)
	}},
	{"find N", func(d impl.Desk, words []string) (impl.Desk, string, bool) {
		cell, cost, ok := impl.FindKey(d.Table, numberByHand(words[0]))
		return d, fmt.Sprintf("%d %d", cell, cost), ok
	}},
	{"table", func(d impl.Desk, words []string) (impl.Desk, string, bool) {
		text, ok := impl.TableText(d.Table)
		return d, text, ok
	}},
	{"cost", func(d impl.Desk, words []string) (impl.Desk, string, bool) {
		cost, ok := impl.CostOf(d.Table)
		return d, fmt.Sprint(cost), ok
	}},
}

var lineForms = slices.Concat(formsOfList, formsOfNeither, formsOfTable)

// patternsByHand are what the lines of the forms look like, in the same order.
var patternsByHand = func() []*regexp.Regexp {
	number := `(?:0|[1-9][0-9]{0,5})`
	var patterns []*regexp.Regexp
	for _, f := range lineForms {
		s := f.form
		s = strings.ReplaceAll(s, " L", " (-|"+number+"(?:,"+number+")*)")
		s = strings.ReplaceAll(s, " N", " ("+number+")")
		s = strings.ReplaceAll(s, " R", " ("+number+")")
		patterns = append(patterns, regexp.MustCompile(`\A`+s+`\z`))
	}
	return patterns
}()

// lineByHand returns the desk behind a line and its reply, as the document's table tells them.
func lineByHand(d impl.Desk, line string) (impl.Desk, string) {
	for i, f := range lineForms {
		found := patternsByHand[i].FindStringSubmatch(line)
		if found == nil {
			continue
		}
		behind, reply, ok := f.run(cloneDesk(d), found[1:])
		if !ok {
			return d, "no"
		}
		return behind, reply
	}
	return d, "what"
}

func expectDesk(t *testing.T, what string, got impl.Desk, ok bool, want impl.Desk) {
	t.Helper()
	expectList(t, what+": list", got.List, ok, want.List)
	expectTable(t, what+": table", got.Table, ok, want.Table.Cells)
}

func expectNoDesk(t *testing.T, what string, got impl.Desk, ok bool) {
	t.Helper()
	expectNoList(t, what+": list", got.List, ok)
	expectNoTable(t, what+": table", got.Table, ok)
}

func expectReplies(t *testing.T, what string, got []string, ok bool, want []string) {
	t.Helper()
	if !ok || !slices.Equal(got, want) {
		t.Errorf("%s: got %q, %v, want %q", what, got, ok, want)
	}
}

// expectLine returns the desk behind the line.
func expectLine(t *testing.T, d impl.Desk, line string) impl.Desk {
	t.Helper()
	what := fmt.Sprintf("line %.80q on %v", line, d)
	want, wantReply := lineByHand(d, line)
	got, reply, ok := impl.DeskLine(d, line)
	expectDesk(t, what, got, ok, want)
	if reply != wantReply {
		t.Errorf("%s: got the reply %q, want %q", what, reply, wantReply)
	}
	if !impl.IsDesk(got) {
		t.Errorf("%s: what is behind it is no desk", what)
	}
	return got
}

func expectNoLine(t *testing.T, d impl.Desk, line string) {
	t.Helper()
	what := fmt.Sprintf("line %.80q on %v", line, d)
	got, reply, ok := impl.DeskLine(d, line)
	expectNoDesk(t, what, got, ok)
	if reply != "" {
		t.Errorf("%s: a failure with the reply %q", what, reply)
	}
}

// expectScript runs the lines one by one, too.
func expectScript(t *testing.T, lines []string) []string {
	t.Helper()
	s := strings.Join(append(slices.Clone(lines), ""), "\n")
	what := fmt.Sprintf("script %.200q", s)
	d := firstDeskByHand()
	replies := []string{}
	var failed []int
	for i, line := range lines {
		_, reply := lineByHand(d, line)
		d = expectLine(t, d, line)
		replies = append(replies, reply)
		if reply == "no" || reply == "what" {
			failed = append(failed, i+1)
		}
	}
	gotReplies, ok := impl.RunScript(s)
	expectReplies(t, what, gotReplies, ok, replies)
	gotDesk, ok := impl.DeskAfter(s)
	expectDesk(t, what, gotDesk, ok, d)
	gotFailed, ok := impl.FailedLines(s)
	expectList(t, what+": failed lines", gotFailed, ok, failed)
	return replies
}

func expectNoScript(t *testing.T, s string) {
	t.Helper()
	what := fmt.Sprintf("text %.80q of %d bytes", s, len(s))
	replies, ok := impl.RunScript(s)
	if ok || len(replies) != 0 {
		t.Errorf("%s: got %q, %v, want a failure without replies", what, replies, ok)
	}
	d, ok := impl.DeskAfter(s)
	expectNoDesk(t, what, d, ok)
	failed, ok := impl.FailedLines(s)
	expectNoList(t, what, failed, ok)
}

func TestFirstDesk(t *testing.T) {
	d := impl.FirstDesk()
	expectDesk(t, "first desk", d, true, firstDeskByHand())
	if !impl.IsDesk(d) {
		t.Error("the first desk is no desk")
	}
	scribble(d.List)
	scribble(d.Table.Cells)
	expectDesk(t, "another first desk", impl.FirstDesk(), true, firstDeskByHand())
}

func TestDesks(t *testing.T) {
	lists := append(strangeLists(), notParking...)
	for n := range 4 {
		eachList(n, n+1, func(list []int) { lists = append(lists, list) })
	}
	tables := append(tablesAndOthers()[:40], notTables...)
	tables = append(tables, greatTables...)
	for _, list := range lists {
		for _, cells := range tables {
			d := deskOf(list, cells)
			if got, want := impl.IsDesk(d), isDeskByHand(d); got != want {
				t.Errorf("is %v a desk: got %v, want %v", d, got, want)
			}
		}
	}
	for _, d := range []impl.Desk{
		deskOf(nil, freeByHand(2)), deskOf([]int{}, freeByHand(12)), deskOf(make([]int, 8), greatTables[8]), deskOf([]int{7, 6, 5, 4, 3, 2, 1, 0}, []int{9, 14, -1, -1, 4}),
	} {
		if !impl.IsDesk(d) {
			t.Errorf("%v is a desk", d)
		}
	}
	for _, d := range notDesks() {
		if impl.IsDesk(d) {
			t.Errorf("%v is no desk", d)
		}
	}
}

// notDesks have a List that is no parking function, a Table that is none, or both.
func notDesks() []impl.Desk {
	desks := []impl.Desk{{}, deskOf([]int{0}, nil), deskOf(nil, []int{0, 1})}
	for i, list := range notParking {
		desks = append(desks, deskOf(list, freeByHand(7)), deskOf(list, notTables[i]))
	}
	for _, cells := range notTables {
		desks = append(desks, deskOf(nil, cells), deskOf([]int{0}, cells))
	}
	return desks
}

func TestScriptExample(t *testing.T) {
	lines := []string{"take 1,0,1", "cars", "far", "put 9", "put 2", "find 2", "fly"}
	want := []string{"ok", "1,0,2", "0,0,1", "2", "3", "3 1", "what"}
	s := "take 1,0,1\ncars\nfar\nput 9\nput 2\nfind 2\nfly\n"
	got, ok := impl.RunScript(s)
	expectReplies(t, "example", got, ok, want)
	expectReplies(t, "example by hand", expectScript(t, lines), true, want)
	d, ok := impl.DeskAfter(s)
	expectDesk(t, "desk behind the example", d, ok, deskOf([]int{1, 0, 1}, []int{-1, -1, 9, 2, -1, -1, -1}))
	failed, ok := impl.FailedLines(s)
	expectList(t, "failed lines of the example", failed, ok, []int{7})
}

// expectDialogue is given lines, each with a bar and its reply behind it.
func expectDialogue(t *testing.T, dialogue ...string) {
	t.Helper()
	var lines, want []string
	for _, entry := range dialogue {
		line, reply, ok := strings.Cut(entry, " | ")
		if !ok {
			t.Fatalf("%q has no reply", entry)
		}
		lines = append(lines, line)
		want = append(want, reply)
	}
	got := expectScript(t, lines)
	for i := range lines {
		if got[i] != want[i] {
			t.Errorf("line %d, %q: got the reply %q, want %q", i+1, lines[i], got[i], want[i])
		}
	}
}

func TestDialogueOfOneCar(t *testing.T) {
	expectDialogue(t, "list | 0", "cars | 0", "far | 0", "cuts | -", "rank | 0", "next | no", "list | 0", "table | . . . . . . .", "cost | 0")
}

func TestDialogueOfNoCars(t *testing.T) {
	expectDialogue(t, "take - | ok", "list | -", "cars | -", "far | -", "cuts | -", "rank | 0", "next | no", "list | -",
		"join - | ok", "list | -", "join 0,1,0 | ok", "list | 0,1,0", "join - | ok", "list | 0,1,0",
		"at 0 0 | ok", "list | -", "at 0 1 | no", "list | -", "class - | -")
}

func TestDialogueOfLists(t *testing.T) {
	expectDialogue(t, "take 1,0,1 | ok", "list | 1,0,1", "cars | 1,0,2", "far | 0,0,1", "cuts | 1", "rank | 9",
		"next | ok", "list | 1,0,2", "rank | 10", "cuts | 1,2", "next | ok", "list | 1,1,0", "far | 0,1,0", "cars | 1,2,0",
		"take 1,2,2 | no", "list | 1,1,0", "take 1 | no", "take 0,999999 | no", "take 0,0,0,0,0,0,0,0,0 | no", "list | 1,1,0",
		"at 3 15 | ok", "list | 2,1,0", "next | no", "list | 2,1,0", "at 3 16 | no", "at 9 0 | no", "at 999999 0 | no", "list | 2,1,0", "at 3 0 | ok", "list | 0,0,0", "far | 0,1,2",
		"join 0,0 | ok", "list | 0,0,0,3,3", "cuts | 3", "join 1 | no", "join 0,0,0,0 | no", "list | 0,0,0,3,3", "join 2,1,0 | ok", "list | 0,0,0,3,3,7,6,5", "cuts | 3,5,6,7", "join 0 | no", "join - | ok", "list | 0,0,0,3,3,7,6,5")
}

func TestDialogueOfManyCars(t *testing.T) {
	expectDialogue(t, "take 0,0,0,0,0,0,0,0 | ok", "cars | 0,1,2,3,4,5,6,7", "far | 0,1,2,3,4,5,6,7", "cuts | -", "rank | 0", "next | ok", "list | 0,0,0,0,0,0,0,1", "rank | 1",
		"take 7,6,5,4,3,2,1,0 | ok", "cars | 7,6,5,4,3,2,1,0", "far | 0,0,0,0,0,0,0,0", "cuts | 1,2,3,4,5,6,7", "rank | 4782968", "next | no", "list | 7,6,5,4,3,2,1,0",
		// The rank has one digit too many for a line, though not for a reply.
		"at 8 4782968 | what", "at 8 999999 | ok", "rank | 999999", "at 7 262143 | ok", "list | 6,5,4,3,2,1,0", "at 7 262144 | no")
}

func TestDialogueOfCounts(t *testing.T) {
	expectDialogue(t, "count 0 | 1", "count 1 | 1", "count 2 | 3", "count 3 | 16", "count 4 | 125", "count 8 | 4782969", "count 9 | no", "count 999999 | no",
		"class 2,2 | 0,0", "class 0 | 0", "class 1 | 0", "class 2 | no", "class 3,0,1 | 0,1,2", "class 3,0 | no", "class 8,8,8,8,8,8,8,8 | 0,0,0,0,0,0,0,0", "class 0,0,0,0,0,0,0,0,0 | no", "class 999999 | no",
		"back 0 | 16", "back 8 | 27", "back 9 | no", "back 999999 | no", "list | 0", "table | . . . . . . .")
}

func TestDialogueOfTables(t *testing.T) {
	expectDialogue(t, "new 4 | ok", "table | . . . .", "cost | 0", "put 1 | 1", "put 5 | 2", "put 2 | 3", "table | . 1 5 2", "cost | 2", "find 1 | 1 0", "find 5 | 2 1", "find 2 | 3 1", "find 6 | no", "find 0 | no",
		"put 3 | no", "put 5 | no", "drop 9 | no", "table | . 1 5 2", "drop 1 | ok", "table | . 5 2 .", "cost | 0", "find 1 | no", "put 5 | no", "drop 1 | no", "put 1 | 3", "cost | 2", "find 1 | 3 2",
		"new 1 | no", "new 0 | no", "new 13 | no", "new 999999 | no", "table | . 5 2 1", "new 12 | ok", "put 999 | 3", "put 0 | 0", "put 1000 | no", "put 999999 | no", "find 1000 | no", "drop 1000 | no", "find 999999 | no", "drop 999999 | no",
		"table | 0 . . 999 . . . . . . . .", "list | 0", "new 2 | ok", "put 0 | 0", "put 1 | no", "table | 0 .", "drop 0 | ok", "table | . .", "drop 0 | no")
}

// TestDialogueAcrossTheEnd removes keys so that those behind the first cell come back to the last one.
func TestDialogueAcrossTheEnd(t *testing.T) {
	expectDialogue(t, "new 5 | ok", "put 4 | 4", "put 9 | 0", "put 14 | 1", "put 1 | 2", "table | 9 14 1 . 4", "cost | 4", "find 14 | 1 2", "drop 4 | ok", "table | 14 1 . . 9", "cost | 1", "find 9 | 4 0", "find 14 | 0 1",
		"put 0 | 2", "find 0 | 2 2", "drop 9 | ok", "table | 0 1 . . 14", "cost | 0", "drop 14 | ok", "table | 0 1 . . .")
}

// TestLineBack counts the lists of 3 favourites by hand.
func TestLineBack(t *testing.T) {
	for back := range 9 {
		count := 0
		eachList(3, 3, func(list []int) {
			if !slices.Contains(backByHand(list, 3, back), -1) {
				count++
			}
		})
		line := fmt.Sprint("back ", back)
		_, reply, ok := impl.DeskLine(firstDeskByHand(), line)
		if !ok || reply != fmt.Sprint(count) {
			t.Errorf("%s: got %q, %v, want %d", line, reply, ok, count)
		}
	}
}

// TestLinesOfLists drives each parking function of few cars by hand.
func TestLinesOfLists(t *testing.T) {
	for n := range 5 {
		all := parkingFunctions(n)
		for rank, list := range all {
			next := "no"
			if rank+1 < len(all) {
				next = wordsByHand(all[rank+1])
			}
			replies, ok := impl.RunScript(fmt.Sprintf("take %s\nlist\ncars\nfar\ncuts\nrank\nat %d %d\nlist\nnext\nlist\n", wordsByHand(list), n, rank))
			want := []string{"ok", wordsByHand(list), "-", "-", wordsByHand(cutsByHand(list)), fmt.Sprint(rank), "ok", wordsByHand(list), "ok", next}
			if n > 0 {
				want[2], want[3] = wordsByHand(drivenByHand(list, n)), wordsByHand(distancesByHand(list, n))
			}
			if next == "no" {
				want[8], want[9] = "no", wordsByHand(list)
			}
			expectReplies(t, "lines of "+wordsByHand(list), replies, ok, want)
		}
	}
}

// expectReply has a line whose desk and reply are told by the test itself.
func expectReply(t *testing.T, d impl.Desk, line string, want impl.Desk, wantReply string) {
	t.Helper()
	what := fmt.Sprintf("line %.80q on %v", line, d)
	got, reply, ok := impl.DeskLine(d, line)
	expectDesk(t, what, got, ok, want)
	if reply != wantReply {
		t.Errorf("%s: got the reply %q, want %q", what, reply, wantReply)
	}
}

// TestLinesOfTables finds each key of a table by hand, removes it and puts it back.
func TestLinesOfTables(t *testing.T) {
	list := []int{1, 0, 1}
	eachTable(func(cells []int) {
		d := deskOf(list, cells)
		expectReply(t, d, "table", d, tableTextByHand(cells))
		expectReply(t, d, "cost", d, fmt.Sprint(sumOf(costsByHand(cells))))
		for _, key := range keysByHand(cells) {
			without := deskOf(list, removeByHand(cells, key))
			again, cell := insertByHand(without.Table.Cells, key)
			put, drop, find := fmt.Sprint("put ", key), fmt.Sprint("drop ", key), fmt.Sprint("find ", key)
			expectReply(t, d, find, d, fmt.Sprint(slices.Index(cells, key), " ", costByHand(cells, key)))
			expectReply(t, d, put, d, "no")
			expectReply(t, d, drop, without, "ok")
			expectReply(t, without, find, without, "no")
			expectReply(t, without, drop, without, "no")
			expectReply(t, without, put, deskOf(list, again), fmt.Sprint(cell))
		}
	})
}

var someDesks = []impl.Desk{
	firstDeskByHand(), deskOf(nil, freeByHand(2)), deskOf([]int{1, 0, 1}, []int{-1, 1, 5, 2}), deskOf([]int{2, 1, 0}, []int{9, 14, -1, -1, 4}),
	deskOf([]int{0, 0, 2, 2, 4, 4, 6, 6}, []int{0, 1, 2, 3, 4, 5, 6, 7, 8, 9, 10, -1}), deskOf([]int{7, 6, 5, 4, 3, 2, 1, 0}, []int{999, -1, 998}),
}

// Names of lines, and others that the document's table has not.
var namesAndOthers = []string{
	"take", "next", "at", "join", "cars", "far", "cuts", "rank", "count", "class", "back", "new", "put", "drop", "find", "table", "cost", "list",
	"", "fly", "Take", "TAKE", "LIST", "List", "lisT", "tak", "takes", "ta", "ke", "atat", "ok", "no", "what", "-", "0", ".", "?", "exit", "take,", "list\t", "list\r", "list\x00", "\x00", "\xff", "l\u00efst", "\u0430t",
}

// Words that are numbers or lists, and others.
var wordsAndOthers = []string{
	"0", "1", "2", "3", "4", "5", "7", "8", "9", "12", "13", "14", "15", "16", "998", "999", "1000", "9999", "99999", "100000", "999999", "-", "0,0", "1,0", "0,1", "1,2", "0,1,0", "1,2,2", "2,2,2", "3,3,3", "8,8,8,8,8,8,8,8", "0,0,0,0,0,0,0,0", "0,0,0,0,0,0,0,0,0", "0,999999", "999999,999999", "100000,0",
	"", "1000000", "9999999", "0000000", "9223372036854775807", "9223372036854775808", "18446744073709551616", "99999999999999999999999", "00", "01", "007", "000001", "-1", "-0", "+1", "+0", "--", "-,", ",-", "-,-", "0,-", "-,0", "0-", "-999999",
	",", ",,", "0,", ",0", "0,,0", "0,0,", ",0,0", "0,1000000", "1000000,0", "0,01", "00,0", "0,-1", "0,+1", "0.0", "0;0", "0:0", "1.0", "1e0", "0x1", "1_0", "0b1", "x", "zero", "ok", "take", ".", "?", "*", "\t", "0\t", "\t0", "0\r", "0\x00", "\x000", "\xff", "\u0660", "\u00a00", "\uff11", "\"0\"", "[0]", "(0)",
}

func TestWords(t *testing.T) {
	for _, name := range namesAndOthers {
		for i, d := range someDesks {
			expectLine(t, d, name)
			for j, word := range wordsAndOthers {
				expectLine(t, d, name+" "+word)
				expectLine(t, d, name+" 3 "+word)
				if i == 2 && (name == "at" || j%5 == 0) {
					for _, other := range wordsAndOthers {
						expectLine(t, d, name+" "+word+" "+other)
					}
				}
			}
		}
	}
}

// TestOtherNumbersOfWords has too few and too many words for each line, and empty ones everywhere.
func TestOtherNumbersOfWords(t *testing.T) {
	for _, f := range lineForms {
		line := strings.NewReplacer(" L", " 0", " N", " 3", " R", " 0").Replace(f.form)
		words := strings.Split(line, " ")
		for _, d := range someDesks {
			if _, reply, ok := impl.DeskLine(d, line); !ok || reply == "what" {
				t.Errorf("line %q on %v: got %q, %v, though it has the right words", line, d, reply, ok)
			}
			for n := range 6 {
				others := append(slices.Clone(words[:min(n, len(words))]), slices.Repeat([]string{"0"}, max(n-len(words), 0))...)
				if n != len(words) {
					expectReply(t, d, strings.Join(others, " "), d, "what")
				}
			}
			for i := range len(words) + 1 {
				for _, word := range []string{"", "0", "-", f.form} {
					expectReply(t, d, strings.Join(slices.Insert(slices.Clone(words), i, word), " "), d, "what")
				}
			}
			for _, other := range []string{strings.ToUpper(line), line + ",", line + ";", line + "\t", line + "\r", "\t" + line, "  " + line, line + "  ", line + " ", " " + line, strings.Replace(line+" ", " ", "  ", 1)} {
				expectReply(t, d, other, d, "what")
			}
		}
	}
}

// TestNumbersOfLines has all numbers of lines up to the limits of their functions, and some up to the greatest one.
func TestNumbersOfLines(t *testing.T) {
	numbers := append(numbersByHand(1100), 9999, 10000, 99999, 100000, 999998, 999999, 1000000, 1000001, 9999999, 10000000, math.MaxInt)
	for _, name := range []string{"count", "back", "new", "put", "drop", "find", "take", "join", "class"} {
		for _, number := range numbers {
			for _, d := range someDesks[2:4] {
				expectLine(t, d, fmt.Sprint(name, " ", number))
			}
		}
	}
	for n := range 11 {
		for _, rank := range numbers {
			expectLine(t, someDesks[2], fmt.Sprint("at ", n, " ", rank))
			expectLine(t, someDesks[2], fmt.Sprint("at ", rank, " ", n))
		}
	}
}

func TestListsOfLines(t *testing.T) {
	visit := func(list []int) {
		for _, name := range []string{"take", "join", "class"} {
			for _, d := range someDesks {
				expectLine(t, d, name+" "+wordsByHand(list))
			}
		}
	}
	for n := range 5 {
		eachList(n, n+2, visit)
	}
	for _, list := range greatParking()[:40] {
		visit(list)
	}
	for cars := range 20 {
		visit(make([]int, cars))
		visit(numbersByHand(cars))
	}
}

// TestSpoiltLines puts lines that fail between others, whose replies and desk stay as they are.
func TestSpoiltLines(t *testing.T) {
	lines := []string{"take 1,0,1", "next", "join 0,0", "put 9", "put 2", "put 16", "drop 9", "find 16", "table", "list", "cars", "far", "cuts", "rank", "cost"}
	d := firstDeskByHand()
	for _, line := range lines {
		d = expectLine(t, d, line)
	}
	replies := expectScript(t, lines)
	for _, spoilt := range []string{
		"", " ", "fly", "take", "take 1", "take 1,0,", "join 1", "join 0,0,0,0,0,0,0,0", "at 3 16", "at 9 0", "at 3", "at 0 0 0", "next 1", "next ", " next", "new 1", "new 13", "new", "put 1000", "put 01", "put 1000000", "drop 999", "drop -1", "find 998", "count 9", "class 9", "back 9", "cars 0", "TAKE 0",
	} {
		var mixed []string
		for _, line := range lines {
			mixed = append(mixed, spoilt, line, spoilt)
		}
		mixed = mixed[:45]
		got := expectScript(t, mixed)
		after, ok := impl.DeskAfter(strings.Join(mixed, "\n") + "\n")
		expectDesk(t, fmt.Sprintf("desk behind lines with %q between", spoilt), after, ok, d)
		for i, reply := range replies {
			if got[3*i+1] != reply {
				t.Errorf("line %q between others with %q: got %q, want %q", lines[i], spoilt, got[3*i+1], reply)
			}
			if ahead, behind := got[3*i], got[3*i+2]; ahead != "no" && ahead != "what" || behind != ahead {
				t.Errorf("line %q: got %q and %q", spoilt, ahead, behind)
			}
		}
	}
}

// eachScript visits scripts of different lines, most of which do not fail.
func eachScript(visit func(lines []string)) {
	pool := []string{
		"take 0", "take 1,0,1", "take -", "take 0,0,0", "take 2,1,0", "take 1", "next", "next", "next", "at 3 5", "at 4 124", "at 0 0", "at 2 3", "join 0", "join 0,0", "join -", "join 1,0", "cars", "far", "cuts", "rank", "list", "count 5", "class 2,2", "class 3", "back 1", "back 9",
		"new 4", "new 5", "new 12", "new 13", "put 4", "put 9", "put 14", "put 0", "put 1", "put 2", "put 7", "put 8", "put 999", "put 1000", "drop 4", "drop 9", "drop 14", "drop 0", "drop 1", "drop 2", "drop 7", "find 4", "find 9", "find 14", "find 0", "find 1", "table", "table", "cost", "fly", "", "take  0",
	}
	for seed := range 300 {
		var lines []string
		x := seed*7919 + 1
		for range seed % 51 {
			x = (x*1103515245 + 12345) % 2147483648
			lines = append(lines, pool[x/65536%len(pool)])
		}
		visit(lines)
	}
}

func TestScripts(t *testing.T) {
	eachScript(func(lines []string) { expectScript(t, lines) })
}

func TestEmptyScript(t *testing.T) {
	replies, ok := impl.RunScript("")
	expectReplies(t, "empty script", replies, ok, nil)
	d, ok := impl.DeskAfter("")
	expectDesk(t, "empty script", d, ok, firstDeskByHand())
	failed, ok := impl.FailedLines("")
	expectList(t, "empty script", failed, ok, nil)
	expectScript(t, nil)
	expectScript(t, []string{""})
	expectScript(t, []string{"", "", "list", ""})
}

func TestNumberOfLines(t *testing.T) {
	for _, line := range []string{"", "list", "next", "put 8", "fly"} {
		for n := range 53 {
			lines := slices.Repeat([]string{line}, n)
			s := strings.Repeat(line+"\n", n)
			if n > 50 {
				expectNoScript(t, s)
				continue
			}
			expectScript(t, lines)
			expectNoScript(t, s+"list")
			expectNoScript(t, s+" ")
		}
	}
	failed, ok := impl.FailedLines(strings.Repeat("\n", 50))
	want := numbersByHand(51)[1:]
	expectList(t, "failed lines of 50 empty ones", failed, ok, want)
	expectNoScript(t, strings.Repeat("\n", 3000))
	expectNoScript(t, strings.Repeat("\n", 51))
}

func TestLengthOfScript(t *testing.T) {
	zeros := "take " + strings.Repeat("0,", 1496) + "0"
	for _, c := range []struct {
		lines []string
		want  []string
	}{
		{[]string{zeros + "0"}, []string{"what"}},
		{[]string{zeros, ""}, []string{"no", "what"}},
		{[]string{"", "take 0,0", zeros[:2978], "list", "put 9"}, []string{"what", "ok", "no", "0,0", "2"}},
		{[]string{strings.Repeat("x", 2999)}, []string{"what"}},
		{slices.Repeat([]string{strings.Repeat(" ", 59)}, 50), slices.Repeat([]string{"what"}, 50)},
	} {
		s := strings.Join(c.lines, "\n") + "\n"
		if len(s) != 3000 {
			t.Fatalf("a script of %d bytes", len(s))
		}
		expectReplies(t, "replies of 3000 bytes", expectScript(t, c.lines), true, c.want)
		expectNoScript(t, "x"+s)
		expectNoScript(t, s[:2999]+"0\n")
		expectNoScript(t, s+"\n")
		expectNoScript(t, s[:2999]+"0")
	}
	for _, n := range []int{3001, 3002, 6000, 100000} {
		expectNoScript(t, strings.Repeat("x", n-1)+"\n")
		expectNoScript(t, strings.Repeat("0", n))
	}
}

func TestNoScript(t *testing.T) {
	for _, s := range []string{" ", "x", "list", "list\nlist", "\nlist", "\n ", "list\n\r", "list\r", "list\n\x00", "take 0\nfly", "\v", "\u2028", "list\\n"} {
		expectNoScript(t, s)
	}
	// Only the byte 10 ends a line.
	expectScript(t, []string{"list\r"})
	expectScript(t, []string{"list\rlist", "list\u2028", "list\v"})
}

func TestLinesForDeskLine(t *testing.T) {
	zeros := "take " + strings.Repeat("0,", 1497) + "0"
	for _, d := range someDesks {
		for _, line := range []string{"\n", "list\n", "\nlist", "list\nlist", "list\nlist\n", "take 0\n", "take\n0", "take 0,\n0", "\n\n", "fly\n", zeros[:2999] + "\n"} {
			expectNoLine(t, d, line)
		}
		expectReply(t, d, zeros, d, "no")
		expectReply(t, d, "class"+zeros[4:2998], d, "no")
		for _, line := range []string{strings.Repeat(" ", 3000), strings.Repeat("x", 3000), "put " + strings.Repeat("0", 2996), "put " + strings.Repeat("9", 2996), "list" + strings.Repeat(" ", 2996), "take " + strings.Repeat(",", 2995), "take " + strings.Repeat("-", 2995)} {
			expectReply(t, d, line, d, "what")
			expectNoLine(t, d, line+" ")
			expectNoLine(t, d, line+line)
			expectNoLine(t, d, "x"+line)
		}
		expectNoLine(t, d, zeros+"0")
		expectNoLine(t, d, zeros+",0")
	}
}

func TestLinesOnNoDesk(t *testing.T) {
	for _, d := range notDesks() {
		for _, line := range []string{"", "fly", "list", "table", "take 0", "take 1", "new 7", "count 3", "put 0", "next", "cars", "cost", "list\n"} {
			expectNoLine(t, d, line)
		}
	}
}
