package tests

import (
	"fmt"
	"slices"
	"strings"
	"testing"

	"loop.example/g01115/impl"
)

func deskResult(d impl.Desk, reply string, ok bool) result {
	return result{lists: [][]int{d.List, d.Table.Cells}, text: reply, ok: ok}
}

// lineCall makes a call whose two lists are the List and the cells.
func lineCall(line string) call {
	return call{fmt.Sprintf("DeskLine of %.80q", line), func(l ...[]int) result {
		return deskResult(impl.DeskLine(deskOf(l[0], l[1]), line))
	}}
}

func isDeskCall() call {
	return call{"IsDesk", func(l ...[]int) result { return result{ok: impl.IsDesk(deskOf(l[0], l[1]))} }}
}

func callsOfScript(s string) []call {
	of := fmt.Sprintf(" of %.200q", s)
	return []call{
		listResult("FailedLines"+of, func() ([]int, bool) { return impl.FailedLines(s) }),
		{"DeskAfter" + of, func(...[]int) result {
			d, ok := impl.DeskAfter(s)
			return deskResult(d, "", ok)
		}},
		{"RunScript" + of, func(...[]int) result {
			replies, ok := impl.RunScript(s)
			text := strings.Join(replies, "\n")
			// Replies that are kept from call to call would show in the next one.
			for i := range replies[:cap(replies)] {
				replies[:cap(replies)][i] = "written over"
			}
			return result{text: text, ok: ok}
		}},
	}
}

// expectText runs any text, a script or not.
func expectText(t *testing.T, s string) {
	t.Helper()
	lines := strings.Split(s, "\n")
	last := len(lines) - 1
	if lines[last] == "" && last <= 50 && len(s) <= 3000 {
		expectScript(t, lines[:last])
	} else {
		expectNoScript(t, s)
	}
}

// linesOfAllForms has a line of each form that succeeds on most desks, one that fails, and one that is not understood.
func linesOfAllForms() []string {
	var lines []string
	for _, f := range lineForms {
		for _, number := range []string{"0", "3", "14", "999999", "01"} {
			lines = append(lines, strings.NewReplacer(" L", " "+number, " N", " "+number, " R", " 0").Replace(f.form))
		}
	}
	slices.Sort(lines)
	return append(slices.Compact(lines), "", " ", "fly", "list ", "take -", "take 1,0,1", "join 1,0", "join 0,0,0", "class 2,2", "at 3 5", "put 5", "put 9", "drop 4", "drop 9", "find 9", "list\n", "\n", strings.Repeat("x", 3000), strings.Repeat("x", 3001), "\x00", "\xff\xfe", "take \xf0\x9f")
}

func TestAnyLines(t *testing.T) {
	lists := append(strangeLists(), notParking...)
	tables := append(greatTables, freeByHand(7), freeByHand(2), freeByHand(12), []int{-1, 1, 5, 2})
	for _, line := range linesOfAllForms() {
		c := lineCall(line)
		for i, list := range lists {
			expectDecent(t, c, list, freeByHand(7))
			expectDecent(t, c, list, notTables[i%len(notTables)])
			expectDecent(t, c, list, tables[i%len(tables)])
		}
		for i, cells := range append(tables, notTables...) {
			expectDecent(t, c, []int{1, 0, 1}, cells)
			expectDecent(t, c, lists[i%len(lists)], cells)
		}
		for _, d := range someDesks {
			expectDecent(t, c, d.List, d.Table.Cells)
		}
	}
	for _, list := range lists {
		for _, cells := range append(tables, notTables...) {
			expectDecent(t, isDeskCall(), list, cells)
		}
	}
}

// TestOneArrayForBoth has a desk whose List is the beginning of its cells: the desk behind a line shares nothing with it, nor with itself.
func TestOneArrayForBoth(t *testing.T) {
	for _, line := range linesOfAllForms() {
		cells := []int{0, 1, -1}
		both := guarded(cells)
		d := deskOf(both[:2:2], both)
		want, wantReply := lineByHand(d, line)
		got, reply, ok := impl.DeskLine(d, line)
		if !ok {
			if !strings.Contains(line, "\n") && len(line) <= 3000 {
				t.Errorf("line %.80q on %v fails", line, d)
			}
			continue
		}
		expectDesk(t, fmt.Sprintf("line %.80q on %v", line, d), got, ok, want)
		if reply != wantReply {
			t.Errorf("line %.80q on %v: got the reply %q, want %q", line, d, reply, wantReply)
		}
		scribble(got.List)
		expectTable(t, fmt.Sprintf("cells of the desk behind %.80q, its List written over", line), got.Table, true, want.Table.Cells)
		scribble(got.Table.Cells)
		if !isIntact(both, cells) {
			t.Errorf("line %.80q changes its desk, or gives it out", line)
		}
	}
}

// TestDesksBehindLines keeps all desks of a script and writes over each one when those behind it are there.
func TestDesksBehindLines(t *testing.T) {
	eachScript(func(lines []string) {
		desks := []impl.Desk{impl.FirstDesk()}
		var copies []impl.Desk
		for i, line := range lines {
			d, _, ok := impl.DeskLine(desks[i], line)
			if !ok {
				t.Fatalf("line %q fails on %v", line, desks[i])
			}
			desks = append(desks, d)
		}
		for _, d := range desks {
			copies = append(copies, cloneDesk(d))
		}
		for i, d := range desks {
			scribble(d.List)
			scribble(d.Table.Cells)
			for j := i + 1; j < len(desks); j++ {
				if !sameDesk(desks[j], copies[j]) {
					t.Fatalf("the desk behind %d of the lines %q shares memory with that behind %d", j, lines, i)
				}
			}
		}
	})
}

func TestAnyScripts(t *testing.T) {
	scripts := []string{"", "\n", "list", "take 1,0,1\nput 9\n", strings.Repeat("put 9\n", 50), strings.Repeat("put 9\n", 51), strings.Repeat("x", 3000), strings.Repeat("x", 2999) + "\n", strings.Repeat("x", 3000) + "\n", "\x00\n", "\xff\n\xfe\n"}
	eachScript(func(lines []string) { scripts = append(scripts, strings.Join(append(slices.Clone(lines), ""), "\n")) })
	for _, s := range scripts {
		for _, c := range callsOfScript(s) {
			expectDecent(t, c)
		}
		expectText(t, s)
	}
	expectDecent(t, call{"FirstDesk", func(...[]int) result { return deskResult(impl.FirstDesk(), "", true) }})
}

func TestAnyBytesInScripts(t *testing.T) {
	for first := range 256 {
		for second := range 256 {
			s := string([]byte{byte(first), byte(second)})
			expectText(t, s)
			expectText(t, s+"\n")
			expectText(t, "take "+s+"\n")
		}
	}
	for _, s := range []string{"", "\n", "put 9\ntake 0,0\n\nfar\n", "at 3 5\nlist\n"} {
		eachOtherText(s, func(s string) { expectText(t, s) })
	}
}

func TestAnyBytesInLines(t *testing.T) {
	for i, f := range lineForms {
		line := strings.NewReplacer(" L", " 1,0,1", " N", " 3", " R", " 10").Replace(f.form)
		eachOtherText(line, func(s string) {
			d := someDesks[2+i%2]
			if strings.Contains(s, "\n") {
				expectNoLine(t, d, s)
			} else {
				expectLine(t, d, s)
			}
		})
	}
}
