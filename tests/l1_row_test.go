package tests

import (
	"fmt"
	"math"
	"slices"
	"strings"
	"testing"

	"loop.example/g00305/impl"
)

func row(cells ...int) impl.Row {
	return impl.Row{Cells: cells}
}

func rowsUpTo(longest int, cells ...int) []impl.Row {
	var out []impl.Row
	for _, l := range listsUpTo(longest, cells) {
		out = append(out, impl.Row{Cells: l})
	}
	return out
}

func goodRows() []impl.Row {
	rows := rowsUpTo(3, -impl.MaxCell, -1, 0, 1, impl.MaxCell)
	return append(rows,
		row(0, 0, 0, 0, 0, 0),
		row(1, 2, 3, 4, 5, 6),
		row(-1, -256, -65536, 255, 65535, 65536),
		row(impl.MaxCell, impl.MaxCell, impl.MaxCell, impl.MaxCell, impl.MaxCell, impl.MaxCell),
		row(-impl.MaxCell, -impl.MaxCell, -impl.MaxCell, -impl.MaxCell, -impl.MaxCell, -impl.MaxCell))
}

func badRows() []impl.Row {
	return []impl.Row{
		row(0, 0, 0, 0, 0, 0, 0),
		row(1, 2, 3, 4, 5, 6, 7),
		row(make([]int, 1000)...),
		row(impl.MaxCell + 1),
		row(-impl.MaxCell - 1),
		row(0, impl.MaxCell+1),
		row(0, 0, 0, 0, 0, -impl.MaxCell-1),
		row(math.MaxInt),
		row(math.MinInt),
		row(0, math.MinInt, 0),
	}
}

func TestRowConstants(t *testing.T) {
	if impl.MaxColumns != 6 || impl.MaxCell != 100000 {
		t.Error(impl.MaxColumns, impl.MaxCell)
	}
}

func TestGoodRow(t *testing.T) {
	for _, r := range goodRows() {
		if !impl.GoodRow(r) {
			t.Errorf("%v is good", r)
		}
	}
	for _, r := range badRows() {
		if impl.GoodRow(r) {
			t.Errorf("%v is not good", r)
		}
	}
	if !impl.GoodRow(row([]int{}...)) {
		t.Error("the empty list is as nil")
	}
}

func TestCompareRowsAsLists(t *testing.T) {
	rows := goodRows()
	for _, a := range rows {
		for _, b := range rows {
			n, ok := impl.CompareRows(a, b)
			if want := slices.Compare(a.Cells, b.Cells); n != want || !ok {
				t.Fatalf("CompareRows(%v, %v) = %d, %v, not %d", a, b, n, ok, want)
			}
		}
	}
}

func TestCompareRowsEdges(t *testing.T) {
	low := -impl.MaxCell
	for _, c := range []struct {
		a, b impl.Row
		want int
	}{
		{row(), row(), 0},
		{row(), row([]int{}...), 0},
		{row(), row(low), -1},
		{row(low), row(), 1},
		{row(1), row(1, low), -1},
		{row(1, 2), row(1), 1},
		{row(2), row(1, 9), 1},
		{row(low), row(low, low, low, low, low, low), -1},
		{row(1, 2, 3, 4, 5, 6), row(1, 2, 3, 4, 5, 7), -1},
		{row(1, 2, 3, 4, 5, 6), row(1, 2, 3, 4, 5), 1},
		{row(-1), row(0), -1},
	} {
		if n, ok := impl.CompareRows(c.a, c.b); n != c.want || !ok {
			t.Errorf("CompareRows(%v, %v) = %d, %v, not %d", c.a, c.b, n, ok, c.want)
		}
	}
}

func TestCompareRowsRefusesBadRows(t *testing.T) {
	for _, bad := range badRows() {
		for _, other := range append(goodRows()[:8], bad) {
			if n, ok := impl.CompareRows(bad, other); n != 0 || ok {
				t.Errorf("CompareRows(%v, %v) = %d, %v", bad, other, n, ok)
			}
			if n, ok := impl.CompareRows(other, bad); n != 0 || ok {
				t.Errorf("CompareRows(%v, %v) = %d, %v", other, bad, n, ok)
			}
		}
	}
}

func TestRowBytesAsTold(t *testing.T) {
	for _, c := range []struct {
		r    impl.Row
		want string
	}{
		{row(), "\x00"},
		{row(0), "\x01\x01\x86\xa0"},
		{row(-impl.MaxCell), "\x01\x00\x00\x00"},
		{row(impl.MaxCell), "\x01\x03\x0d\x40"},
		{row(1, 2), "\x02\x01\x86\xa1\x01\x86\xa2"},
		{row(-99999, -99744, -34464, 0, 0, 100000), "\x06\x00\x00\x01\x00\x01\x00\x01\x00\x00\x01\x86\xa0\x01\x86\xa0\x03\x0d\x40"},
	} {
		if s, ok := impl.RowBytes(c.r); s != c.want || !ok {
			t.Errorf("RowBytes(%v) = %x, %v, not %x", c.r, s, ok, c.want)
		}
	}
}

// Promise 1: rows come back from their bytes.
func TestRowsComeBackFromTheirBytes(t *testing.T) {
	rows := goodRows()
	for cell := -impl.MaxCell; cell <= impl.MaxCell; cell += 7 {
		rows = append(rows, row(cell), row(cell, -cell, cell, 0, -cell, cell))
	}
	whose := map[string]impl.Row{}
	for _, r := range rows {
		s, ok := impl.RowBytes(r)
		if !ok || len(s) != 1+3*len(r.Cells) {
			t.Fatalf("RowBytes(%v) = %x, %v", r, s, ok)
		}
		if other, seen := whose[s]; seen && !slices.Equal(other.Cells, r.Cells) {
			t.Fatalf("%v and %v have the same bytes", other, r)
		}
		whose[s] = r
		back, ok := impl.ReadRow(s)
		if !ok || !slices.Equal(back.Cells, r.Cells) {
			t.Fatalf("ReadRow(RowBytes(%v)) = %v, %v", r, back, ok)
		}
	}
}

func TestRowBytesRefusesBadRows(t *testing.T) {
	for _, bad := range badRows() {
		if s, ok := impl.RowBytes(bad); s != "" || ok {
			t.Errorf("RowBytes(%v) = %x, %v", bad, s, ok)
		}
	}
}

func TestReadRowAsksForTheLength(t *testing.T) {
	for count := range 256 {
		for length := range 3*256 + 8 {
			s := string([]byte{byte(count)}) + strings.Repeat("\x00", length)
			good := count <= impl.MaxColumns && length == 3*count
			r, ok := impl.ReadRow(s)
			if ok != good || good && len(r.Cells) != count || !good && len(r.Cells) != 0 {
				t.Fatalf("ReadRow: %d cells, %d bytes behind: %v, %v", count, length, r, ok)
			}
		}
	}
	if r, ok := impl.ReadRow(""); ok || len(r.Cells) != 0 {
		t.Error(r, ok)
	}
}

func TestReadRowAsksForGoodCells(t *testing.T) {
	for raised := 0; raised < 1<<24; raised += 1 + raised/150000*17 {
		three := string([]byte{byte(raised >> 16), byte(raised >> 8), byte(raised)})
		good := raised <= 2*impl.MaxCell
		r, ok := impl.ReadRow("\x01" + three)
		if ok != good || good && r.Cells[0] != raised-impl.MaxCell || !good && len(r.Cells) != 0 {
			t.Fatalf("ReadRow of a cell %x: %v, %v", three, r, ok)
		}
	}
	for _, s := range []string{
		"\x01\x03\x0d\x41",
		"\x01\xff\xff\xff",
		"\x02\x01\x86\xa0\x03\x0d\x41",
		"\x02\x03\x0d\x41\x01\x86\xa0",
		"\x01\x01\x86\xa0\n",
		"1,2",
	} {
		if r, ok := impl.ReadRow(s); ok || len(r.Cells) != 0 {
			t.Errorf("ReadRow(%x) = %v, %v", s, r, ok)
		}
	}
}

func TestPickCells(t *testing.T) {
	r := row(10, 20, 30, 40, 50, 60)
	for _, c := range []struct {
		r       impl.Row
		columns []int
		want    []int
	}{
		{r, nil, nil},
		{r, []int{}, nil},
		{row(), nil, nil},
		{r, []int{0}, []int{10}},
		{r, []int{5, 0}, []int{60, 10}},
		{r, []int{2, 2}, []int{30, 30}},
		{r, []int{5, 4, 3, 2, 1, 0}, []int{60, 50, 40, 30, 20, 10}},
		{r, []int{1, 1, 1, 1, 1, 1}, []int{20, 20, 20, 20, 20, 20}},
		{row(impl.MaxCell, -impl.MaxCell), []int{1, 0, 1}, []int{-impl.MaxCell, impl.MaxCell, -impl.MaxCell}},
	} {
		if got, ok := impl.PickCells(c.r, c.columns); !slices.Equal(got.Cells, c.want) || !ok {
			t.Errorf("PickCells(%v, %v) = %v, %v, not %v", c.r, c.columns, got, ok, c.want)
		}
	}
}

func TestPickCellsRefuses(t *testing.T) {
	r := row(10, 20, 30)
	for _, c := range []struct {
		r       impl.Row
		columns []int
	}{
		{r, []int{3}},
		{r, []int{-1}},
		{r, []int{0, 1, 2, 3}},
		{r, []int{0, math.MaxInt}},
		{r, []int{math.MinInt, 0}},
		{r, []int{0, 0, 0, 0, 0, 0, 0}},
		{r, make([]int, 1000)},
		{row(), []int{0}},
	} {
		if got, ok := impl.PickCells(c.r, c.columns); len(got.Cells) != 0 || ok {
			t.Errorf("PickCells(%v, %v) = %v, %v", c.r, c.columns, got, ok)
		}
	}
	for _, bad := range badRows() {
		for _, columns := range [][]int{nil, {0}} {
			if got, ok := impl.PickCells(bad, columns); len(got.Cells) != 0 || ok {
				t.Errorf("PickCells(%v, %v) = %v, %v", bad, columns, got, ok)
			}
		}
	}
}

func TestJoinRowsAsTold(t *testing.T) {
	six := row(1, 2, 3, 4, 5, 6)
	for _, c := range []struct {
		a, b  impl.Row
		pairs [][]int
		want  []int
	}{
		{row(), row(), nil, nil},
		{row(), row(), [][]int{}, nil},
		{row(1), row(), nil, []int{1}},
		{row(), row(1), nil, []int{1}},
		{row(1, 2), row(2, 7), [][]int{{1, 0}}, []int{1, 2, 7}},
		{row(1, 2), row(7, 2, 8), [][]int{{1, 1}}, []int{1, 2, 7, 8}},
		{row(1, 2, 3), row(4, 5, 6), nil, []int{1, 2, 3, 4, 5, 6}},
		{six, six, [][]int{{0, 0}, {1, 1}, {2, 2}, {3, 3}, {4, 4}, {5, 5}}, []int{1, 2, 3, 4, 5, 6}},
		{six, row(6, 5), [][]int{{5, 0}, {4, 1}}, []int{1, 2, 3, 4, 5, 6}},
		{six, row(), nil, []int{1, 2, 3, 4, 5, 6}},
		{row(3, 3), row(3, 9), [][]int{{0, 0}, {1, 0}}, []int{3, 3, 9}},
		{row(3), row(3, 9, 3), [][]int{{0, 0}, {0, 2}}, []int{3, 9}},
		{row(3), row(3, 9), [][]int{{0, 0}, {0, 0}, {0, 0}, {0, 0}, {0, 0}, {0, 0}}, []int{3, 9}},
		{row(3, 8), row(3, 3), [][]int{{0, 1}}, []int{3, 8, 3}},
		{row(-impl.MaxCell), row(-impl.MaxCell, impl.MaxCell), [][]int{{0, 0}}, []int{-impl.MaxCell, impl.MaxCell}},
	} {
		if got, ok := impl.JoinRows(c.a, c.b, c.pairs); !slices.Equal(got.Cells, c.want) || !ok {
			t.Errorf("JoinRows(%v, %v, %v) = %v, %v, not %v", c.a, c.b, c.pairs, got, ok, c.want)
		}
	}
}

func TestJoinRowsRefuses(t *testing.T) {
	a, b, six := row(1, 2), row(2, 7), row(1, 2, 3, 4, 5, 6)
	same := []int{1, 0}
	for _, c := range []struct {
		a, b  impl.Row
		pairs [][]int
	}{
		{a, row(3, 7), [][]int{{1, 0}}},
		{a, b, [][]int{{1, 0}, {0, 1}}},
		{a, b, [][]int{{2, 0}}},
		{a, b, [][]int{{1, 2}}},
		{a, b, [][]int{{-1, 0}}},
		{a, b, [][]int{{1, -1}}},
		{a, b, [][]int{{math.MaxInt, math.MinInt}}},
		{a, b, [][]int{nil}},
		{a, b, [][]int{{}}},
		{a, b, [][]int{{1}}},
		{a, b, [][]int{{1, 0, 0}}},
		{a, b, [][]int{{1, 0}, {1}}},
		{a, b, [][]int{same, same, same, same, same, same, same}},
		{row(), b, [][]int{{0, 0}}},
		{a, row(), [][]int{{0, 0}}},
		{six, row(7), nil},
		{row(7), six, nil},
		{six, row(1, 7), [][]int{{0, 0}}},
		{row(1, 2, 3, 4), row(4, 5, 6, 7), [][]int{{3, 0}}},
	} {
		if got, ok := impl.JoinRows(c.a, c.b, c.pairs); len(got.Cells) != 0 || ok {
			t.Errorf("JoinRows(%v, %v, %v) = %v, %v", c.a, c.b, c.pairs, got, ok)
		}
	}
	for _, bad := range badRows() {
		for _, other := range []impl.Row{row(), row(0), bad} {
			for _, pairs := range [][][]int{nil, {{0, 0}}} {
				if got, ok := impl.JoinRows(bad, other, pairs); len(got.Cells) != 0 || ok {
					t.Errorf("JoinRows(%v, %v, %v) = %v, %v", bad, other, pairs, got, ok)
				}
				if got, ok := impl.JoinRows(other, bad, pairs); len(got.Cells) != 0 || ok {
					t.Errorf("JoinRows(%v, %v, %v) = %v, %v", other, bad, pairs, got, ok)
				}
			}
		}
	}
}

// joinByHand says again, with other means, what a join of good rows by lists of two is.
func joinByHand(a, b impl.Row, pairs [][]int) ([]int, bool) {
	of := map[int]bool{}
	for _, p := range pairs {
		if p[0] < 0 || p[0] >= len(a.Cells) || p[1] < 0 || p[1] >= len(b.Cells) || a.Cells[p[0]] != b.Cells[p[1]] {
			return nil, false
		}
		of[p[1]] = true
	}
	out := slices.Clone(a.Cells)
	for i, cell := range b.Cells {
		if !of[i] {
			out = append(out, cell)
		}
	}
	if len(out) > impl.MaxColumns {
		return nil, false
	}
	return out, true
}

func pairListsUpToTwo(places ...int) [][][]int {
	var ones [][]int
	for _, i := range places {
		for _, j := range places {
			ones = append(ones, []int{i, j})
		}
	}
	lists := [][][]int{nil}
	for _, one := range ones {
		lists = append(lists, [][]int{one})
		for _, other := range ones {
			lists = append(lists, [][]int{one, other})
		}
	}
	return lists
}

// Promise 1: a row that is joined has the cells of both, those of pairs once.
func TestJoinedRowsHaveTheCellsOfBoth(t *testing.T) {
	rows := append(rowsUpTo(3, 1, 2), row(2, 2, 1, 1), row(1, 2, 1, 2, 1, 2))
	lists := pairListsUpToTwo(-1, 0, 1, 2, 3, 5, 6)
	joins := 0
	for _, a := range rows {
		for _, b := range rows {
			for _, pairs := range lists {
				want, good := joinByHand(a, b, pairs)
				got, ok := impl.JoinRows(a, b, pairs)
				if ok != good || !slices.Equal(got.Cells, want) {
					t.Fatalf("JoinRows(%v, %v, %v) = %v, %v, not %v, %v", a, b, pairs, got, ok, want, good)
				}
				if good {
					joins++
				}
			}
		}
	}
	if joins < 1000 {
		t.Errorf("only %d joins were good", joins)
	}
}

func TestRowText(t *testing.T) {
	for _, c := range []struct {
		r    impl.Row
		want string
	}{
		{row(), ""},
		{row(0), "0"},
		{row(-5, 0), "-5,0"},
		{row(impl.MaxCell, -impl.MaxCell), "100000,-100000"},
		{row(1, 2, 3, 4, 5, 60), "1,2,3,4,5,60"},
	} {
		if s, ok := impl.RowText(c.r); s != c.want || !ok {
			t.Errorf("RowText(%v) = %q, %v, not %q", c.r, s, ok, c.want)
		}
	}
	for _, r := range goodRows() {
		want := strings.ReplaceAll(strings.Trim(fmt.Sprint(r.Cells), "[]"), " ", ",")
		if s, ok := impl.RowText(r); s != want || !ok {
			t.Errorf("RowText(%v) = %q, %v, not %q", r, s, ok, want)
		}
	}
	for _, bad := range badRows() {
		if s, ok := impl.RowText(bad); s != "" || ok {
			t.Errorf("RowText(%v) = %q, %v", bad, s, ok)
		}
	}
}

// Promise 19: each function of rows answers at any arguments, the same each time, and writes into none.
func TestRowFunctionsAnswerAndWriteNothing(t *testing.T) {
	var rows []impl.Row
	for _, r := range append(goodRows()[:40], badRows()...) {
		rows = append(rows, impl.Row{Cells: guarded(r.Cells...)})
	}
	columns := [][]int{nil, guarded(), guarded(0), guarded(1, 0), guarded(0, 0, 0, 0, 0, 0, 0), guarded(math.MinInt), guarded(math.MaxInt, 0)}
	pairs := [][][]int{nil, {}, {nil}, {guarded(0, 0)}, {guarded(1, 0), guarded(0, 1)}, {guarded(0)}, {guarded(0, 0, 0)}, {guarded(math.MinInt, math.MaxInt)}, make([][]int, 1000)}
	for _, a := range rows {
		for _, b := range rows {
			for i := range columns {
				checkRowCalls(t, a, b, columns[i], nil)
			}
			for i := range pairs {
				checkRowCalls(t, a, b, nil, pairs[i])
			}
		}
	}
}

func checkRowCalls(t *testing.T, a, b impl.Row, columns []int, pairs [][]int) {
	t.Helper()
	lists := append([][]int{a.Cells, b.Cells, columns}, pairs...)
	same := watch(lists...)
	first := rowAnswers(a, b, columns, pairs)
	if !same() {
		t.Fatalf("a call writes into %v, %v, %v or %v", a, b, columns, pairs)
	}
	if second := rowAnswers(a, b, columns, pairs); first != second {
		t.Fatalf("%v, %v, %v, %v: first %s, then %s", a, b, columns, pairs, first, second)
	}
}

func rowAnswers(a, b impl.Row, columns []int, pairs [][]int) string {
	n, compared := impl.CompareRows(a, b)
	s, told := impl.RowBytes(a)
	back, read := impl.ReadRow(s)
	picked, pick := impl.PickCells(a, columns)
	joined, join := impl.JoinRows(a, b, pairs)
	text, said := impl.RowText(a)
	return fmt.Sprint(impl.GoodRow(a), n, compared, []byte(s), told, back, read, picked, pick, joined, join, text, said)
}

// Every answer is new memory, and does not hang on what lies behind a list's length.
func TestRowAnswersAreNewMemory(t *testing.T) {
	cells, other := guarded(1, 2, 3), guarded(3, 4)
	columns := guarded(2, 0)
	pair := guarded(2, 0)
	a, b := impl.Row{Cells: cells}, impl.Row{Cells: other}

	picked, ok := impl.PickCells(a, columns)
	if !ok || !slices.Equal(picked.Cells, []int{3, 1}) {
		t.Error(picked, ok)
	}
	checkNewMemory(t, "PickCells", picked.Cells, cells, columns)

	all, ok := impl.PickCells(a, []int{0, 1, 2})
	if !ok || !slices.Equal(all.Cells, []int{1, 2, 3}) {
		t.Error(all, ok)
	}
	checkNewMemory(t, "PickCells", all.Cells, cells)

	joined, ok := impl.JoinRows(a, b, [][]int{pair})
	if !ok || !slices.Equal(joined.Cells, []int{1, 2, 3, 4}) {
		t.Error(joined, ok)
	}
	checkNewMemory(t, "JoinRows", joined.Cells, cells, other, pair)

	for _, empty := range [][2]impl.Row{{a, row()}, {row(), a}} {
		joined, ok = impl.JoinRows(empty[0], empty[1], nil)
		if !ok || !slices.Equal(joined.Cells, []int{1, 2, 3}) {
			t.Error(joined, ok)
		}
		checkNewMemory(t, "JoinRows", joined.Cells, cells)
	}

	one, _ := impl.ReadRow("\x01\x01\x86\xa0")
	two, _ := impl.ReadRow("\x01\x01\x86\xa0")
	checkNewMemory(t, "ReadRow", one.Cells, two.Cells)
}
