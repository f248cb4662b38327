package tests

import (
	"fmt"
	"math"
	"slices"
	"testing"

	"loop.example/g00305/impl"
)

const maxTests = 8

func test(kind, column, value int) impl.Test {
	return impl.Test{Kind: kind, Column: column, Value: value}
}

func eq(column, value int) impl.Test   { return test(impl.TestEq, column, value) }
func lt(column, value int) impl.Test   { return test(impl.TestLt, column, value) }
func gt(column, value int) impl.Test   { return test(impl.TestGt, column, value) }
func same(column, other int) impl.Test { return test(impl.TestSame, column, other) }

// squareTables has all tables of two columns with the cells 1 and 2 and one of these weights for each row, or none where it is 0.
func squareTables(weights ...int) []impl.Table {
	cells := [][]int{{1, 1}, {1, 2}, {2, 1}, {2, 2}}
	var out []impl.Table
	for _, l := range listsUpTo(len(cells), weights) {
		if len(l) < len(cells) {
			continue
		}
		t := impl.Table{Columns: 2}
		for i, weight := range l {
			if weight != 0 {
				t.Rows = append(t.Rows, weighted(weight, cells[i]...))
			}
		}
		out = append(out, t)
	}
	return out
}

func algebraTables() []impl.Table {
	most := impl.MaxWeight
	tables := append(goodTables(), squareTables(-1, 0, 2)...)
	return append(tables,
		table(2, weighted(most, 1, 1), weighted(most, 2, 1)),
		table(2, weighted(most, 1, 1), weighted(1-most, 2, 1)),
		table(3, weighted(-1, 0, 1, 1), weighted(1, 1, 0, 1), weighted(4, 1, 1, 1)),
		table(3, weighted(2, 1, 2, 3), weighted(-2, 2, 2, 3), weighted(5, 3, 2, 1)))
}

// testByHand says again, with other means, whether a good test is true of cells.
func testByHand(one impl.Test, cells []int) bool {
	other := one.Value
	if one.Kind == 4 {
		other = cells[one.Value]
	}
	sign := []int{0, 0, -1, 1, 0}[one.Kind]
	switch difference := cells[one.Column] - other; {
	case difference < 0:
		return sign == -1
	case difference > 0:
		return sign == 1
	}
	return sign == 0
}

func selectByHand(t impl.Table, l []impl.Test) impl.Table {
	out := impl.Table{Columns: t.Columns}
	for _, one := range t.Rows {
		if !slices.ContainsFunc(l, func(x impl.Test) bool { return !testByHand(x, one.Row.Cells) }) {
			out.Rows = append(out.Rows, one)
		}
	}
	return out
}

func projectByHand(t impl.Table, columns []int) (impl.Table, bool) {
	if len(columns) > 6 || slices.ContainsFunc(columns, func(n int) bool { return n < 0 || n >= t.Columns }) {
		return impl.Table{}, false
	}
	var picked []impl.Weighted
	for _, one := range t.Rows {
		var cells []int
		for _, column := range columns {
			cells = append(cells, one.Row.Cells[column])
		}
		picked = append(picked, weighted(one.Weight, cells...))
	}
	return sumByHand(len(columns), picked)
}

// joinTablesByHand takes lists of two.
func joinTablesByHand(a, b impl.Table, pairs [][]int) (impl.Table, bool) {
	shape, good := joinByHand(row(make([]int, a.Columns)...), row(make([]int, b.Columns)...), pairs)
	if !good || len(pairs) > 6 {
		return impl.Table{}, false
	}
	return sumByHand(len(shape), pairUpByHand(a.Rows, b.Rows, pairs))
}

// pairUpByHand has the joins of all rows of both that belong together, as they come.
func pairUpByHand(a, b []impl.Weighted, pairs [][]int) []impl.Weighted {
	var joined []impl.Weighted
	for _, x := range a {
		for _, y := range b {
			if cells, alike := joinByHand(x.Row, y.Row, pairs); alike {
				joined = append(joined, weighted(x.Weight*y.Weight, cells...))
			}
		}
	}
	return joined
}

func isAbove(t impl.Table, r impl.Row) bool {
	return slices.ContainsFunc(t.Rows, func(one impl.Weighted) bool {
		return one.Weight > 0 && slices.Equal(one.Row.Cells, r.Cells)
	})
}

// onceByHand has, once each, the rows of t with weights above 0 for which keep is true.
func onceByHand(t impl.Table, keep func(impl.Row) bool) impl.Table {
	out := impl.Table{Columns: t.Columns}
	for _, one := range t.Rows {
		if one.Weight > 0 && keep(one.Row) {
			out.Rows = append(out.Rows, impl.Weighted{Row: one.Row, Weight: 1})
		}
	}
	return out
}

func TestTestConstants(t *testing.T) {
	if impl.TestEq != 1 || impl.TestLt != 2 || impl.TestGt != 3 || impl.TestSame != 4 {
		t.Error(impl.TestEq, impl.TestLt, impl.TestGt, impl.TestSame)
	}
}

func TestGoodTests(t *testing.T) {
	top, low := impl.MaxCell, -impl.MaxCell
	for _, c := range []struct {
		l       []impl.Test
		columns int
		want    bool
	}{
		{nil, 0, true},
		{nil, 6, true},
		{[]impl.Test{}, 2, true},
		{[]impl.Test{eq(0, 0)}, 1, true},
		{[]impl.Test{eq(0, low), lt(0, low), gt(0, low)}, 1, true},
		{[]impl.Test{eq(0, top), lt(0, top), gt(0, top)}, 1, true},
		{[]impl.Test{eq(5, 1), lt(5, 1), gt(5, 1), same(5, 5), same(0, 5), same(5, 0)}, 6, true},
		{slices.Repeat([]impl.Test{eq(1, 7)}, maxTests), 2, true},
		{slices.Repeat([]impl.Test{eq(1, 7)}, maxTests+1), 2, false},
		{slices.Repeat([]impl.Test{same(0, 0)}, 1000), 2, false},
		{[]impl.Test{eq(0, 0)}, 0, false},
		{[]impl.Test{same(0, 0)}, 0, false},
		{[]impl.Test{eq(2, 0)}, 2, false},
		{[]impl.Test{lt(6, 0)}, 6, false},
		{[]impl.Test{gt(-1, 0)}, 2, false},
		{[]impl.Test{eq(math.MaxInt, 0)}, 2, false},
		{[]impl.Test{eq(math.MinInt, 0)}, 2, false},
		{[]impl.Test{same(2, 0)}, 2, false},
		{[]impl.Test{same(-1, 0)}, 2, false},
		{[]impl.Test{same(0, 2)}, 2, false},
		{[]impl.Test{same(0, -1)}, 2, false},
		{[]impl.Test{same(0, top)}, 2, false},
		{[]impl.Test{same(0, math.MinInt)}, 2, false},
		{[]impl.Test{same(0, math.MaxInt)}, 2, false},
		{[]impl.Test{eq(0, top+1)}, 1, false},
		{[]impl.Test{eq(0, low-1)}, 1, false},
		{[]impl.Test{lt(0, top+1)}, 1, false},
		{[]impl.Test{lt(0, low-1)}, 1, false},
		{[]impl.Test{gt(0, top+1)}, 1, false},
		{[]impl.Test{gt(0, low-1)}, 1, false},
		{[]impl.Test{gt(0, math.MaxInt)}, 1, false},
		{[]impl.Test{lt(0, math.MinInt)}, 1, false},
		{[]impl.Test{{}}, 1, false},
		{[]impl.Test{test(0, 0, 0)}, 6, false},
		{[]impl.Test{test(5, 0, 0)}, 6, false},
		{[]impl.Test{test(-1, 0, 0)}, 6, false},
		{[]impl.Test{test(math.MaxInt, 0, 0)}, 6, false},
		{[]impl.Test{test(math.MinInt, 0, 0)}, 6, false},
		{[]impl.Test{eq(0, 0), eq(0, 0), test(5, 0, 0)}, 6, false},
		{[]impl.Test{eq(6, 0), eq(0, 0)}, 6, false},
	} {
		if got := impl.GoodTests(c.l, c.columns); got != c.want {
			t.Errorf("GoodTests(%v, %d) = %v", c.l, c.columns, got)
		}
	}
}

// The chapter bounds no number of columns: tests are good or not by themselves.
func TestGoodTestsAtAnyColumns(t *testing.T) {
	beyond, last := impl.MaxColumns+1, math.MaxInt-1
	for _, c := range []struct {
		l       []impl.Test
		columns int
		want    bool
	}{
		{nil, beyond, true},
		{nil, math.MaxInt, true},
		{nil, -1, true},
		{[]impl.Test{}, -1, true},
		{nil, math.MinInt, true},
		{[]impl.Test{eq(0, 0)}, beyond, true},
		{[]impl.Test{eq(6, 0), lt(6, 0), gt(6, 0), same(6, 0), same(0, 6), same(6, 6)}, beyond, true},
		{slices.Repeat([]impl.Test{same(6, 6)}, maxTests), beyond, true},
		{[]impl.Test{eq(last, 0), same(0, last), same(last, last)}, math.MaxInt, true},
		{slices.Repeat([]impl.Test{same(6, 6)}, maxTests+1), beyond, false},
		{make([]impl.Test, maxTests+1), -1, false},
		{[]impl.Test{eq(7, 0)}, beyond, false},
		{[]impl.Test{eq(-1, 0)}, beyond, false},
		{[]impl.Test{same(7, 0)}, beyond, false},
		{[]impl.Test{same(0, 7)}, beyond, false},
		{[]impl.Test{same(0, -1)}, beyond, false},
		{[]impl.Test{eq(6, impl.MaxCell+1)}, beyond, false},
		{[]impl.Test{lt(6, -impl.MaxCell-1)}, beyond, false},
		{[]impl.Test{test(0, 6, 0)}, beyond, false},
		{[]impl.Test{test(5, 6, 0)}, beyond, false},
		{[]impl.Test{eq(math.MaxInt, 0)}, math.MaxInt, false},
		{[]impl.Test{same(0, math.MaxInt)}, math.MaxInt, false},
		{[]impl.Test{eq(0, 0)}, -1, false},
		{[]impl.Test{eq(-1, 0)}, -1, false},
		{[]impl.Test{eq(-2, 0)}, -1, false},
		{[]impl.Test{same(-2, -2)}, -1, false},
		{[]impl.Test{eq(math.MinInt, 0)}, math.MinInt, false},
	} {
		if got := impl.GoodTests(c.l, c.columns); got != c.want {
			t.Errorf("GoodTests(%v, %d) = %v", c.l, c.columns, got)
		}
	}
}

// SelectRows bounds columns by its table, so a number of columns that suits tests does not make a table good.
func TestSelectRowsOfTooManyColumns(t *testing.T) {
	for _, columns := range []int{math.MinInt, -1, impl.MaxColumns + 1, math.MaxInt} {
		for _, l := range [][]impl.Test{nil, {eq(0, 0)}, {eq(6, 0)}, {same(0, 6)}} {
			if got, ok := impl.SelectRows(impl.Table{Columns: columns}, l); ok || !isNoTable(got) {
				t.Errorf("SelectRows of %d columns by %v = %v, %v", columns, l, got, ok)
			}
		}
	}
}

func TestSelectRowsAsTold(t *testing.T) {
	top, low := impl.MaxCell, -impl.MaxCell
	a := table(2, weighted(3, low, low), weighted(-2, 0, 1), weighted(1, 1, 1), weighted(4, 1, top), weighted(-7, top, low))
	for _, c := range []struct {
		l    []impl.Test
		want []impl.Weighted
	}{
		{nil, a.Rows},
		{[]impl.Test{}, a.Rows},
		{[]impl.Test{eq(0, 1)}, a.Rows[2:4]},
		{[]impl.Test{eq(0, low)}, a.Rows[:1]},
		{[]impl.Test{eq(1, top)}, a.Rows[3:4]},
		{[]impl.Test{lt(0, low)}, nil},
		{[]impl.Test{gt(0, low)}, a.Rows[1:]},
		{[]impl.Test{lt(0, top)}, a.Rows[:4]},
		{[]impl.Test{gt(0, top)}, nil},
		{[]impl.Test{lt(0, 1)}, a.Rows[:2]},
		{[]impl.Test{gt(0, 0)}, a.Rows[2:]},
		{[]impl.Test{same(0, 1)}, []impl.Weighted{a.Rows[0], a.Rows[2]}},
		{[]impl.Test{same(1, 0)}, []impl.Weighted{a.Rows[0], a.Rows[2]}},
		{[]impl.Test{same(1, 1)}, a.Rows},
		{[]impl.Test{gt(0, low), lt(1, top), gt(1, low)}, a.Rows[1:3]},
		{[]impl.Test{gt(0, 0), lt(0, 1)}, nil},
		{slices.Repeat([]impl.Test{eq(0, 1)}, maxTests), a.Rows[2:4]},
		{append(slices.Repeat([]impl.Test{same(0, 0)}, maxTests-1), eq(1, top)), a.Rows[3:4]},
	} {
		if got, ok := impl.SelectRows(a, c.l); !ok || !sameTables(got, table(2, c.want...)) {
			t.Errorf("SelectRows(%v, %v) = %v, %v, not %v", a, c.l, got, ok, c.want)
		}
	}
	six := table(6, weighted(2, 1, 2, 3, 4, 5, 1), weighted(3, 1, 2, 3, 4, 5, 6))
	if got, ok := impl.SelectRows(six, []impl.Test{same(0, 5)}); !ok || !sameTables(got, table(6, six.Rows[0])) {
		t.Error(got, ok)
	}
}

func testLists() [][]impl.Test {
	var ones []impl.Test
	for kind := impl.TestEq; kind <= impl.TestSame; kind++ {
		for column := range 2 {
			for value := -1; value <= 2; value++ {
				ones = append(ones, test(kind, column, value))
			}
		}
	}
	lists := [][]impl.Test{nil}
	for i, one := range ones {
		lists = append(lists, []impl.Test{one}, []impl.Test{one, ones[(i*7+3)%len(ones)]})
	}
	return append(lists,
		slices.Repeat([]impl.Test{gt(0, 0)}, maxTests),
		slices.Repeat([]impl.Test{gt(0, 0)}, maxTests+1),
		[]impl.Test{test(0, 0, 0)},
		[]impl.Test{test(5, 0, 0)},
		[]impl.Test{same(0, 5)},
		[]impl.Test{eq(5, 6)},
		[]impl.Test{eq(0, impl.MaxCell)},
		[]impl.Test{eq(0, impl.MaxCell+1)})
}

func TestSelectRowsByHand(t *testing.T) {
	for _, a := range algebraTables() {
		for _, l := range testLists() {
			want, good := impl.Table{}, impl.GoodTests(l, a.Columns)
			if good {
				want = selectByHand(a, l)
			}
			if got, ok := impl.SelectRows(a, l); ok != good || !sameTables(got, want) {
				t.Fatalf("SelectRows(%v, %v) = %v, %v, not %v, %v", a, l, got, ok, want, good)
			}
		}
	}
	for _, bad := range badTables() {
		for _, l := range [][]impl.Test{nil, {eq(0, 1)}, {same(0, 0)}} {
			if got, ok := impl.SelectRows(bad, l); ok || !isNoTable(got) {
				t.Errorf("SelectRows(%v, %v) = %v, %v", bad, l, got, ok)
			}
		}
	}
}

func TestProjectTableAsTold(t *testing.T) {
	most := impl.MaxWeight
	a := table(2, weighted(3, 1, 7), weighted(-3, 2, 7), weighted(5, 2, 8))
	six := table(6, weighted(2, 1, 2, 3, 4, 5, 6))
	for _, c := range []struct {
		t       impl.Table
		columns []int
		want    impl.Table
	}{
		{a, []int{0, 1}, a},
		{a, []int{1, 0}, table(2, weighted(3, 7, 1), weighted(-3, 7, 2), weighted(5, 8, 2))},
		{a, []int{0}, table(1, weighted(3, 1), weighted(2, 2))},
		{a, []int{1}, table(1, weighted(5, 8))},
		{a, nil, table(0, weighted(5))},
		{a, []int{}, table(0, weighted(5))},
		{a, []int{0, 0}, table(2, weighted(3, 1, 1), weighted(2, 2, 2))},
		{a, []int{0, 1, 0, 1, 0, 1}, table(6, weighted(3, 1, 7, 1, 7, 1, 7), weighted(-3, 2, 7, 2, 7, 2, 7), weighted(5, 2, 8, 2, 8, 2, 8))},
		{table(2, weighted(3, 1, 7), weighted(-3, 2, 7)), nil, table(0)},
		{six, []int{5, 4, 3, 2, 1, 0}, table(6, weighted(2, 6, 5, 4, 3, 2, 1))},
		{six, []int{5, 5, 5, 5, 5, 5}, table(6, weighted(2, 6, 6, 6, 6, 6, 6))},
		{table(3), []int{2}, table(1)},
		{table(3), nil, table(0)},
		{table(1), []int{0, 0, 0, 0, 0, 0}, table(6)},
		{table(0), nil, table(0)},
		{table(0, weighted(4)), nil, table(0, weighted(4))},
		{table(2, weighted(most-1, 1, 1), weighted(1, 2, 1)), []int{1}, table(1, weighted(most, 1))},
		{table(2, weighted(-most, 1, 1), weighted(-most, 2, 1), weighted(most, 3, 1)), []int{1}, table(1, weighted(-most, 1))},
		{table(1, countedRows(impl.MaxRows, 0, 1)...), nil, table(0, weighted(impl.MaxRows))},
		{table(1, countedRows(impl.MaxRows, 0, 1)...), []int{0}, table(1, countedRows(impl.MaxRows, 0, 1)...)},
	} {
		if got, ok := impl.ProjectTable(c.t, c.columns); !ok || !sameTables(got, c.want) {
			t.Errorf("ProjectTable(%v, %v) = %v, %v, not %v", c.t, c.columns, got, ok, c.want)
		}
	}
}

func TestProjectTableRefuses(t *testing.T) {
	most := impl.MaxWeight
	a := table(2, weighted(3, 1, 7), weighted(-3, 2, 7))
	for _, c := range []struct {
		t       impl.Table
		columns []int
	}{
		{a, []int{2}},
		{a, []int{-1}},
		{a, []int{0, 1, 2}},
		{a, []int{math.MaxInt}},
		{a, []int{0, math.MinInt}},
		{a, []int{0, 0, 0, 0, 0, 0, 0}},
		{a, make([]int, 1000)},
		{table(2), []int{2}},
		{table(2), []int{-1}},
		{table(2), []int{0, 0, 0, 0, 0, 0, 0}},
		{table(0), []int{0}},
		{table(0, weighted(1)), []int{0}},
		{table(2, weighted(most, 1, 1), weighted(1, 2, 1)), []int{1}},
		{table(2, weighted(-most, 1, 1), weighted(-1, 2, 1)), nil},
	} {
		if got, ok := impl.ProjectTable(c.t, c.columns); ok || !isNoTable(got) {
			t.Errorf("ProjectTable(%v, %v) = %v, %v", c.t, c.columns, got, ok)
		}
	}
	for _, bad := range badTables() {
		for _, columns := range [][]int{nil, {0}} {
			if got, ok := impl.ProjectTable(bad, columns); ok || !isNoTable(got) {
				t.Errorf("ProjectTable(%v, %v) = %v, %v", bad, columns, got, ok)
			}
		}
	}
}

func TestProjectTableByHand(t *testing.T) {
	lists := append(listsUpTo(3, []int{-1, 0, 1, 2}), []int{5}, []int{6}, []int{5, 4, 3, 2, 1, 0}, make([]int, 6), make([]int, 7))
	for _, a := range algebraTables() {
		for _, columns := range lists {
			want, good := projectByHand(a, columns)
			if got, ok := impl.ProjectTable(a, columns); ok != good || !sameTables(got, want) {
				t.Fatalf("ProjectTable(%v, %v) = %v, %v, not %v, %v", a, columns, got, ok, want, good)
			}
		}
	}
}

func TestJoinTablesAsTold(t *testing.T) {
	most := impl.MaxWeight
	a := table(2, weighted(2, 1, 5), weighted(-3, 2, 5), weighted(4, 3, 6))
	b := table(2, weighted(-7, 5, 8), weighted(10, 5, 9), weighted(1, 7, 7))
	six := table(6, weighted(2, 1, 2, 3, 4, 5, 6))
	for _, c := range []struct {
		a, b  impl.Table
		pairs [][]int
		want  impl.Table
	}{
		{a, b, [][]int{{1, 0}}, table(3, weighted(-14, 1, 5, 8), weighted(20, 1, 5, 9), weighted(21, 2, 5, 8), weighted(-30, 2, 5, 9))},
		{a, b, [][]int{{0, 0}}, table(3)},
		{a, b, [][]int{{1, 0}, {1, 0}}, table(3, weighted(-14, 1, 5, 8), weighted(20, 1, 5, 9), weighted(21, 2, 5, 8), weighted(-30, 2, 5, 9))},
		{a, b, [][]int{{1, 0}, {0, 0}}, table(3)},
		{a, b, [][]int{{1, 0}, {1, 1}}, table(2)},
		{a, a, [][]int{{0, 0}, {1, 1}}, table(2, weighted(4, 1, 5), weighted(9, 2, 5), weighted(16, 3, 6))},
		{a, table(1, weighted(2, 5)), [][]int{{1, 0}}, table(2, weighted(4, 1, 5), weighted(-6, 2, 5))},
		{table(2, weighted(2, 5, 5), weighted(1, 5, 6)), table(2, weighted(3, 5, 9)), [][]int{{0, 0}, {1, 0}}, table(3, weighted(6, 5, 5, 9))},
		{table(1, weighted(2, 5)), table(3, weighted(3, 5, 9, 5), weighted(1, 5, 9, 6)), [][]int{{0, 0}, {0, 2}}, table(2, weighted(6, 5, 9))},
		{table(1, weighted(2, 5)), table(2, weighted(3, 5, 9)), slices.Repeat([][]int{{0, 0}}, 6), table(2, weighted(6, 5, 9))},
		{six, six, [][]int{{0, 0}, {1, 1}, {2, 2}, {3, 3}, {4, 4}, {5, 5}}, table(6, weighted(4, 1, 2, 3, 4, 5, 6))},
		{six, table(2, weighted(1, 6, 5)), [][]int{{5, 0}, {4, 1}}, six},
		{six, table(0, weighted(3)), nil, table(6, weighted(6, 1, 2, 3, 4, 5, 6))},
		{six, table(0), nil, table(6)},
		{six, table(1), [][]int{{0, 0}}, table(6)},
		{table(4, weighted(2, 1, 2, 3, 4)), table(4, weighted(3, 4, 8, 3, 9)), [][]int{{3, 0}, {2, 2}}, table(6, weighted(6, 1, 2, 3, 4, 8, 9))},
		{table(3), table(3), nil, table(6)},
		{table(3), table(4), [][]int{{2, 0}}, table(6)},
		{table(0, weighted(-3)), table(0, weighted(-4)), nil, table(0, weighted(12))},
		{table(0), table(0, weighted(-4)), [][]int{}, table(0)},
		{table(1, weighted(1000, 1)), table(1, weighted(1000, 1)), [][]int{{0, 0}}, table(1, weighted(most, 1))},
		{table(1, weighted(-1000, 1)), table(1, weighted(1000, 1)), [][]int{{0, 0}}, table(1, weighted(-most, 1))},
		{table(1, weighted(-most, 1)), table(1, weighted(-1, 1)), [][]int{{0, 0}}, table(1, weighted(most, 1))},
		{table(1, weighted(most, 1)), table(1, weighted(most, 2)), [][]int{{0, 0}}, table(1)},
		{table(1, countedRows(60, 0, 2)...), table(1, countedRows(60, 0, 3)...), [][]int{{0, 0}}, table(1, countedRows(60, 0, 6)...)},
		{table(1, countedRows(60, 0, 2)...), table(1, countedRows(60, 59, 3)...), [][]int{{0, 0}}, table(1, weighted(6, 59))},
	} {
		if got, ok := impl.JoinTables(c.a, c.b, c.pairs); !ok || !sameTables(got, c.want) {
			t.Errorf("JoinTables(%v, %v, %v) = %v, %v, not %v", c.a, c.b, c.pairs, got, ok, c.want)
		}
	}
}

// badPairsOfTwo are pairs that suit no two tables of two columns each.
func badPairsOfTwo() [][][]int {
	return [][][]int{
		{{2, 0}},
		{{1, 2}},
		{{-1, 0}},
		{{1, -1}},
		{{math.MaxInt, 0}},
		{{1, math.MinInt}},
		{nil},
		{{}},
		{{1}},
		{{1, 0, 0}},
		{{1, 0}, {1}},
		{{1, 0}, {0, 2}},
		slices.Repeat([][]int{{1, 0}}, 7),
		make([][]int, 1000),
	}
}

func TestJoinTablesRefuses(t *testing.T) {
	most := impl.MaxWeight
	a := table(2, weighted(2, 1, 5), weighted(-3, 2, 5))
	b := table(2, weighted(1, 5, 8))
	none := table(2)
	six := table(6, weighted(2, 1, 2, 3, 4, 5, 6))
	for _, pairs := range badPairsOfTwo() {
		for _, two := range [][2]impl.Table{{a, b}, {none, b}, {a, none}, {none, none}} {
			if got, ok := impl.JoinTables(two[0], two[1], pairs); ok || !isNoTable(got) {
				t.Errorf("JoinTables(%v, %v, %v) = %v, %v", two[0], two[1], pairs, got, ok)
			}
		}
	}
	for _, c := range []struct {
		a, b  impl.Table
		pairs [][]int
	}{
		{six, table(1, weighted(1, 1)), nil},
		{table(1, weighted(1, 1)), six, nil},
		{six, table(2, weighted(1, 1, 7)), [][]int{{0, 0}}},
		{table(6), table(1), nil},
		{table(4), table(4), [][]int{{3, 0}}},
		{table(4), table(4), [][]int{{3, 0}, {2, 0}}},
		{table(0), table(1), [][]int{{0, 0}}},
		{table(1), table(0), [][]int{{0, 0}}},
		{table(1, weighted(most, 1)), table(1, weighted(2, 1)), [][]int{{0, 0}}},
		{table(1, weighted(-most, 1)), table(1, weighted(most, 1)), [][]int{{0, 0}}},
		{table(1, weighted(1001, 1)), table(1, weighted(1000, 1)), [][]int{{0, 0}}},
		{table(1, countedRows(8, 0, 1)...), table(1, countedRows(8, 0, 1)...), nil},
		{table(1, countedRows(60, 0, 1)...), table(1, countedRows(60, 0, -1)...), nil},
	} {
		if got, ok := impl.JoinTables(c.a, c.b, c.pairs); ok || !isNoTable(got) {
			t.Errorf("JoinTables(%v, %v, %v) = %v, %v", c.a, c.b, c.pairs, got, ok)
		}
	}
	checkTwoRefusesBad(t, "JoinTables", func(a, b impl.Table) (impl.Table, bool) { return impl.JoinTables(a, b, nil) })
	checkTwoRefusesBad(t, "JoinTables", func(a, b impl.Table) (impl.Table, bool) { return impl.JoinTables(a, b, [][]int{{0, 0}}) })
}

// checkTwoRefusesBad fails if a function of two tables tells anything of one that is not good.
func checkTwoRefusesBad(t *testing.T, name string, call func(a, b impl.Table) (impl.Table, bool)) {
	t.Helper()
	for _, bad := range badTables() {
		for _, other := range []impl.Table{table(0), table(1), table(1, weighted(1, 1)), table(2), {Columns: bad.Columns}, bad} {
			if got, ok := call(bad, other); ok || !isNoTable(got) {
				t.Errorf("%s(%v, %v) = %v, %v", name, bad, other, got, ok)
			}
			if got, ok := call(other, bad); ok || !isNoTable(got) {
				t.Errorf("%s(%v, %v) = %v, %v", name, other, bad, got, ok)
			}
		}
	}
}

func TestJoinTablesByHand(t *testing.T) {
	tables := append(goodTables(), squareTables(-1, 0, 2)[:50]...)
	lists := [][][]int{nil, {{0, 0}}, {{1, 0}}, {{0, 1}}, {{0, 0}, {0, 0}}, {{0, 0}, {0, 1}}, {{1, 0}, {0, 0}}, {{0, 0}, {1, 1}}, {{5, 0}}, {{6, 0}}, {{-1, 0}}}
	joins := 0
	for _, a := range tables {
		for _, b := range tables {
			for _, pairs := range lists {
				want, good := joinTablesByHand(a, b, pairs)
				got, ok := impl.JoinTables(a, b, pairs)
				if ok != good || !sameTables(got, want) {
					t.Fatalf("JoinTables(%v, %v, %v) = %v, %v, not %v, %v", a, b, pairs, got, ok, want, good)
				}
				if len(got.Rows) > 0 {
					joins++
				}
			}
		}
	}
	if joins < 1000 {
		t.Errorf("only %d joins have rows", joins)
	}
}

func TestCrossTablesIsAJoinWithoutPairs(t *testing.T) {
	tables := algebraTables()
	for _, a := range tables[:60] {
		for _, b := range tables {
			want, good := joinTablesByHand(a, b, nil)
			if got, ok := impl.CrossTables(a, b); ok != good || !sameTables(got, want) {
				t.Fatalf("CrossTables(%v, %v) = %v, %v, not %v, %v", a, b, got, ok, want, good)
			}
		}
	}
	checkTwoRefusesBad(t, "CrossTables", impl.CrossTables)
}

func TestCrossTablesEdges(t *testing.T) {
	most := impl.MaxWeight
	for _, c := range []struct {
		a, b impl.Table
		rows int
		good bool
	}{
		{table(1, countedRows(10, 0, 1)...), table(1, countedRows(6, 0, 1)...), impl.MaxRows, true},
		{table(1, countedRows(60, 0, 1)...), table(0, weighted(1)), impl.MaxRows, true},
		{table(1, countedRows(1, 0, 1)...), table(1, countedRows(60, 0, -5)...), impl.MaxRows, true},
		{table(1, countedRows(60, 0, 1)...), table(1), 0, true},
		{table(1, countedRows(31, 0, 1)...), table(1, countedRows(2, 0, 1)...), 0, false},
		{table(1, countedRows(60, 0, 1)...), table(1, countedRows(60, 0, 1)...), 0, false},
		{table(3, weighted(1, 1, 2, 3)), table(3, weighted(1, 1, 2, 3)), 1, true},
		{table(3, weighted(1, 1, 2, 3)), table(4, weighted(1, 1, 2, 3, 4)), 0, false},
		{table(3), table(4), 0, false},
		{table(1, weighted(most, 1)), table(1, weighted(-1, 1)), 1, true},
		{table(1, weighted(1000, 1)), table(1, weighted(1000, 1)), 1, true},
		{table(1, weighted(most, 1)), table(1, weighted(2, 1)), 0, false},
		{table(1, weighted(-most, 1)), table(1, weighted(-most, 1)), 0, false},
	} {
		got, ok := impl.CrossTables(c.a, c.b)
		if ok != c.good || len(got.Rows) != c.rows || c.good && got.Columns != c.a.Columns+c.b.Columns {
			t.Errorf("CrossTables(%v, %v) = %v, %v", c.a, c.b, got, ok)
		}
	}
}

func TestDistinctTable(t *testing.T) {
	for _, a := range algebraTables() {
		want := onceByHand(a, func(impl.Row) bool { return true })
		if got, ok := impl.DistinctTable(a); !ok || !sameTables(got, want) {
			t.Errorf("DistinctTable(%v) = %v, %v, not %v", a, got, ok, want)
		}
	}
	mixed := table(1, weighted(-1, 1), weighted(1, 2), weighted(impl.MaxWeight, 3), weighted(-impl.MaxWeight, 4))
	if got, ok := impl.DistinctTable(mixed); !ok || !sameTables(got, table(1, weighted(1, 2), weighted(1, 3))) {
		t.Error(got, ok)
	}
	for _, bad := range badTables() {
		if got, ok := impl.DistinctTable(bad); ok || !isNoTable(got) {
			t.Errorf("DistinctTable(%v) = %v, %v", bad, got, ok)
		}
	}
}

func TestIntersectAndExceptTables(t *testing.T) {
	tables := algebraTables()
	for _, a := range tables {
		for _, b := range tables {
			good := a.Columns == b.Columns
			var both, less impl.Table
			if good {
				both = onceByHand(a, func(r impl.Row) bool { return isAbove(b, r) })
				less = onceByHand(a, func(r impl.Row) bool { return !isAbove(b, r) })
			}
			if got, ok := impl.IntersectTables(a, b); ok != good || !sameTables(got, both) {
				t.Fatalf("IntersectTables(%v, %v) = %v, %v, not %v, %v", a, b, got, ok, both, good)
			}
			if got, ok := impl.ExceptTables(a, b); ok != good || !sameTables(got, less) {
				t.Fatalf("ExceptTables(%v, %v) = %v, %v, not %v, %v", a, b, got, ok, less, good)
			}
		}
	}
	checkTwoRefusesBad(t, "IntersectTables", impl.IntersectTables)
	checkTwoRefusesBad(t, "ExceptTables", impl.ExceptTables)
}

func TestIntersectAndExceptTablesEdges(t *testing.T) {
	a := table(1, weighted(3, 1), weighted(2, 2), weighted(4, 3), weighted(-1, 4), weighted(-1, 5), weighted(-1, 6))
	b := table(1, weighted(7, 1), weighted(-2, 2), weighted(5, 4), weighted(-5, 5), weighted(1, 7), weighted(-1, 8))
	one, two, three := weighted(1, 1), weighted(1, 2), weighted(1, 3)
	for _, c := range []struct {
		a, b, both, less impl.Table
		good             bool
	}{
		{a, b, table(1, one), table(1, two, three), true},
		{b, a, table(1, one), table(1, weighted(1, 4), weighted(1, 7)), true},
		{a, a, table(1, one, two, three), table(1), true},
		{a, table(1), table(1), table(1, one, two, three), true},
		{table(1), a, table(1), table(1), true},
		{table(0, weighted(5)), table(0, weighted(9)), table(0, weighted(1)), table(0), true},
		{table(0, weighted(5)), table(0, weighted(-9)), table(0), table(0, weighted(1)), true},
		{a, table(2), table(0), table(0), false},
		{table(2), a, table(0), table(0), false},
		{a, table(0), table(0), table(0), false},
		{table(2), table(3), table(0), table(0), false},
	} {
		if got, ok := impl.IntersectTables(c.a, c.b); ok != c.good || !sameTables(got, c.both) {
			t.Errorf("IntersectTables(%v, %v) = %v, %v, not %v, %v", c.a, c.b, got, ok, c.both, c.good)
		}
		if got, ok := impl.ExceptTables(c.a, c.b); ok != c.good || !sameTables(got, c.less) {
			t.Errorf("ExceptTables(%v, %v) = %v, %v, not %v, %v", c.a, c.b, got, ok, c.less, c.good)
		}
	}
}

// checkSumsApart fails if what call makes of a sum is not the sum of what it makes of both, where all is good; it tells how many were.
func checkSumsApart(t *testing.T, name string, tables []impl.Table, call func(impl.Table) (impl.Table, bool)) int {
	t.Helper()
	tried := 0
	for _, a := range tables {
		for _, b := range tables {
			sum, good := impl.AddTables(a, b)
			ofSum, goodSum := call(sum)
			ofA, goodA := call(a)
			ofB, goodB := call(b)
			if !good || !goodSum || !goodA || !goodB {
				continue
			}
			both, ok := impl.AddTables(ofA, ofB)
			if !ok || !sameTables(ofSum, both) {
				t.Fatalf("%s: of %v and %v: %v, but %v and %v come to %v, %v", name, a, b, ofSum, ofA, ofB, both, ok)
			}
			tried++
		}
	}
	return tried
}

// Promise 3: selecting and picking columns of a sum are the sum of both, where all is good.
func TestSelectingAndPickingOfASum(t *testing.T) {
	most := impl.MaxWeight
	tables := append(squareTables(-2, 0, 2), squareTables(-most, most)...)
	for _, l := range [][]impl.Test{nil, {eq(0, 1)}, {lt(1, 2)}, {gt(0, 1)}, {same(0, 1)}, {gt(0, 0), lt(1, 2)}, {eq(0, 3)}} {
		tried := checkSumsApart(t, fmt.Sprintf("SelectRows by %v", l), tables, func(one impl.Table) (impl.Table, bool) {
			return impl.SelectRows(one, l)
		})
		if tried < 1000 {
			t.Errorf("only %d sums to select were good", tried)
		}
	}
	for _, columns := range [][]int{nil, {0}, {1}, {1, 0}, {1, 1}, {0, 1, 0, 1, 0, 1}} {
		tried := checkSumsApart(t, fmt.Sprintf("ProjectTable of %v", columns), tables, func(one impl.Table) (impl.Table, bool) {
			return impl.ProjectTable(one, columns)
		})
		if tried < 1000 {
			t.Errorf("only %d sums to pick of were good", tried)
		}
	}
}

// addAll tells false where one of the sums on the way is not good.
func addAll(tables ...impl.Table) (impl.Table, bool) {
	sum, good := tables[0], true
	for _, one := range tables[1:] {
		next, ok := impl.AddTables(sum, one)
		sum, good = next, good && ok
	}
	return sum, good
}

// Promise 3, too: a join of sums is the sum of joins.
func TestAJoinOfSumsIsTheSumOfJoins(t *testing.T) {
	var tables []impl.Table
	for i, one := range squareTables(-3, 0, 2) {
		if i%10 == 4 {
			tables = append(tables, one)
		}
	}
	tables = append(tables, table(2, weighted(1000, 1, 1)), table(2, weighted(-1000, 1, 1), weighted(500, 2, 1)))
	for _, pairs := range [][][]int{nil, {{1, 0}}, {{0, 0}, {1, 1}}, {{0, 0}, {0, 1}}, {{0, 1}, {1, 1}}} {
		join := func(a, b impl.Table) impl.Table {
			joined, ok := impl.JoinTables(a, b, pairs)
			if !ok {
				t.Fatalf("JoinTables(%v, %v, %v) is not good", a, b, pairs)
			}
			return joined
		}
		for _, a := range tables {
			for _, b := range tables {
				left, _ := impl.AddTables(a, b)
				for i, c := range tables {
					d := tables[(i*5+1)%len(tables)]
					right, _ := impl.AddTables(c, d)
					whole, good := impl.JoinTables(left, right, pairs)
					parts, ok := addAll(join(a, c), join(a, d), join(b, c), join(b, d))
					if good && ok && !sameTables(whole, parts) || good != ok && isSmall(a, b, c, d) {
						t.Fatalf("by %v: (%v + %v) and (%v + %v): %v, %v, but the joins come to %v, %v", pairs, a, b, c, d, whole, good, parts, ok)
					}
				}
			}
		}
	}
}

// isSmall tells whether no sum of joins of these comes near a limit.
func isSmall(tables ...impl.Table) bool {
	for _, one := range tables {
		for _, row := range one.Rows {
			if row.Weight < -10 || row.Weight > 10 {
				return false
			}
		}
	}
	return true
}

// Promise 19: each function of chapter 3 answers at any arguments, the same each time, in new memory, and writes into none.
func TestAlgebraAnswersAndWritesNothing(t *testing.T) {
	var tables []impl.Table
	for _, one := range append(algebraTables()[:60], badTables()...) {
		tables = append(tables, withGuards(one))
	}
	lists := append(testLists()[:20], slices.Repeat([]impl.Test{{}}, 1000), []impl.Test{test(math.MinInt, math.MinInt, math.MinInt)}, []impl.Test{same(0, math.MinInt)}, []impl.Test{eq(math.MaxInt, math.MaxInt)}, slices.Repeat([]impl.Test{eq(0, 1)}, 8), slices.Repeat([]impl.Test{eq(0, 1)}, 9))
	columns := [][]int{nil, {}, {0}, {0, 0}, {1, 0}, {0, 0, 0, 0, 0, 0}, {0, 0, 0, 0, 0, 0, 0}, {-1}, {2}, {math.MinInt}, {math.MaxInt, 0}, make([]int, 1000)}
	pairs := [][][]int{nil, {}, {nil}, {{0}}, {{0, 0}}, {{1, 0}, {0, 1}}, {{0, 0, 0}}, {{0, 0}, {0, 0}}, {{-1, 0}}, {{0, 6}}, {{math.MinInt, math.MaxInt}}, make([][]int, 1000), slices.Repeat([][]int{{0, 0}}, 7)}
	for i, a := range tables {
		checkCall(t, "DistinctTable", func() []any { return answers(impl.DistinctTable(a)) }, a)
		for _, l := range lists {
			l := withGuards(l)
			checkCall(t, "GoodTests", func() []any { return []any{impl.GoodTests(l, a.Columns)} }, l, a.Columns)
			checkCall(t, "SelectRows", func() []any { return answers(impl.SelectRows(a, l)) }, a, l)
		}
		for _, l := range columns {
			l := withGuards(l)
			checkCall(t, "ProjectTable", func() []any { return answers(impl.ProjectTable(a, l)) }, a, l)
		}
		for _, b := range append(slices.Clone(tables[i%9*5:i%9*5+5]), tables[len(tables)-1-i%20], a) {
			checkCall(t, "CrossTables", func() []any { return answers(impl.CrossTables(a, b)) }, a, b)
			checkCall(t, "IntersectTables", func() []any { return answers(impl.IntersectTables(a, b)) }, a, b)
			checkCall(t, "ExceptTables", func() []any { return answers(impl.ExceptTables(a, b)) }, a, b)
			for _, l := range pairs {
				l := withGuards(l)
				checkCall(t, "JoinTables", func() []any { return answers(impl.JoinTables(a, b, l)) }, a, b, l)
			}
		}
	}
}

// What lies behind a list's length does not count.
func TestAlgebraDoesNotReadBehindItsLists(t *testing.T) {
	tables := append(algebraTables()[:60], badTables()...)
	all := func(a impl.Table, l []impl.Test, columns []int, pairs [][]int) string {
		return fmt.Sprint(impl.GoodTests(l, a.Columns),
			answers(impl.SelectRows(a, l)), answers(impl.ProjectTable(a, columns)), answers(impl.JoinTables(a, a, pairs)),
			answers(impl.DistinctTable(a)), answers(impl.CrossTables(a, a)), answers(impl.IntersectTables(a, a)), answers(impl.ExceptTables(a, a)))
	}
	for _, a := range tables {
		l, columns, pairs := []impl.Test{gt(0, 0)}, []int{0}, [][]int{{0, 0}}
		plain := all(a, l, columns, pairs)
		if got := all(withGuards(a), withGuards(l), withGuards(columns), withGuards(pairs)); got != plain {
			t.Errorf("%v: %s, with guards behind the lists %s", a, plain, got)
		}
	}
}
