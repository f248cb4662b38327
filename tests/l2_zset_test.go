package tests

import (
	"fmt"
	"math"
	"slices"
	"testing"

	"loop.example/g00305/impl"
)

const maxHandedIn = 200

func weighted(weight int, cells ...int) impl.Weighted {
	return impl.Weighted{Row: row(cells...), Weight: weight}
}

func table(columns int, l ...impl.Weighted) impl.Table {
	return impl.Table{Columns: columns, Rows: l}
}

// countedRows has the rows of one column from, from+1 and so on, each with this weight.
func countedRows(count, from, weight int) []impl.Weighted {
	var out []impl.Weighted
	for i := range count {
		out = append(out, weighted(weight, from+i))
	}
	return out
}

func sameTables(a, b impl.Table) bool {
	return a.Columns == b.Columns && slices.EqualFunc(a.Rows, b.Rows, func(x, y impl.Weighted) bool {
		return x.Weight == y.Weight && slices.Equal(x.Row.Cells, y.Row.Cells)
	})
}

func isNoTable(t impl.Table) bool {
	return t.Columns == 0 && len(t.Rows) == 0
}

// goodByHand says again, with other means, which tables are good.
func goodByHand(t impl.Table) bool {
	if t.Columns < 0 || t.Columns > 6 || len(t.Rows) > 60 {
		return false
	}
	for _, one := range t.Rows {
		if len(one.Row.Cells) != t.Columns || one.Weight == 0 || one.Weight < -1000000 || one.Weight > 1000000 {
			return false
		}
		if slices.ContainsFunc(one.Row.Cells, func(n int) bool { return n < -100000 || n > 100000 }) {
			return false
		}
	}
	for i := 1; i < len(t.Rows); i++ {
		if slices.Compare(t.Rows[i-1].Row.Cells, t.Rows[i].Row.Cells) >= 0 {
			return false
		}
	}
	return true
}

// sumByHand says again, with other means, what the sum of weighted rows is.
func sumByHand(columns int, l []impl.Weighted) (impl.Table, bool) {
	sorted := slices.Clone(l)
	slices.SortFunc(sorted, func(a, b impl.Weighted) int { return slices.Compare(a.Row.Cells, b.Row.Cells) })
	out := impl.Table{Columns: columns}
	for len(sorted) > 0 {
		one := impl.Weighted{Row: sorted[0].Row}
		for len(sorted) > 0 && slices.Equal(sorted[0].Row.Cells, one.Row.Cells) {
			one.Weight += sorted[0].Weight
			sorted = sorted[1:]
		}
		if one.Weight != 0 {
			out.Rows = append(out.Rows, one)
		}
	}
	if !goodByHand(out) {
		return impl.Table{}, false
	}
	return out, true
}

// smallTables has all tables of one column with the rows 1 and 2 and one of these weights each, or none where it is 0.
func smallTables(weights ...int) []impl.Table {
	var out []impl.Table
	for _, first := range weights {
		for _, second := range weights {
			t := impl.Table{Columns: 1}
			if first != 0 {
				t.Rows = append(t.Rows, weighted(first, 1))
			}
			if second != 0 {
				t.Rows = append(t.Rows, weighted(second, 2))
			}
			out = append(out, t)
		}
	}
	return out
}

func goodTables() []impl.Table {
	top, low := impl.MaxCell, -impl.MaxCell
	tables := smallTables(-impl.MaxWeight, -1, 0, 2, impl.MaxWeight)
	for columns := range impl.MaxColumns + 1 {
		tables = append(tables, table(columns))
	}
	return append(tables,
		table(0, weighted(1)),
		table(0, weighted(-impl.MaxWeight)),
		table(2, weighted(1, 0, 0), weighted(-2, 0, 1), weighted(3, 1, -5)),
		table(6, weighted(-1, low, low, low, low, low, low), weighted(1, 1, 2, 3, 4, 5, 6), weighted(5, top, top, top, top, top, top)),
		table(1, countedRows(impl.MaxRows, -30, 1)...),
		table(1, countedRows(impl.MaxRows, -30, -1)...),
		table(1, countedRows(impl.MaxRows, 0, impl.MaxWeight)...))
}

func badTables() []impl.Table {
	return []impl.Table{
		table(-1),
		table(7),
		table(math.MinInt),
		table(math.MaxInt),
		table(7, weighted(1, 1, 2, 3, 4, 5, 6, 7)),
		table(1, countedRows(impl.MaxRows+1, 0, 1)...),
		table(1, countedRows(2000, 0, 1)...),
		table(1, weighted(0, 1)),
		table(1, weighted(1, 1), weighted(0, 2)),
		table(0, weighted(0)),
		table(1, weighted(impl.MaxWeight+1, 1)),
		table(1, weighted(-impl.MaxWeight-1, 1)),
		table(1, weighted(1, 1), weighted(math.MinInt, 2)),
		table(1, weighted(math.MaxInt, 1)),
		table(1, weighted(1)),
		table(1, weighted(1, 1, 2)),
		table(0, weighted(1, 1)),
		table(2, weighted(1, 1, 1), weighted(1, 2)),
		table(1, weighted(1, impl.MaxCell+1)),
		table(1, weighted(1, -impl.MaxCell-1)),
		table(1, weighted(1, 1), weighted(1, math.MaxInt)),
		table(1, weighted(1, 1), weighted(1, 1)),
		table(1, weighted(1, 1), weighted(-1, 1)),
		table(0, weighted(1), weighted(1)),
		table(1, weighted(1, 2), weighted(1, 1)),
		table(1, weighted(1, 1), weighted(1, 3), weighted(1, 2)),
		table(2, weighted(1, 1, 2), weighted(1, 1, 1)),
	}
}

func TestTableConstants(t *testing.T) {
	if impl.MaxRows != 60 || impl.MaxWeight != 1000000 {
		t.Error(impl.MaxRows, impl.MaxWeight)
	}
}

func TestGoodTable(t *testing.T) {
	for _, one := range goodTables() {
		if !impl.GoodTable(one) || !goodByHand(one) {
			t.Errorf("%v is good", one)
		}
	}
	for _, one := range badTables() {
		if impl.GoodTable(one) || goodByHand(one) {
			t.Errorf("%v is not good", one)
		}
	}
	if !impl.GoodTable(impl.Table{Columns: 2, Rows: []impl.Weighted{}}) {
		t.Error("the empty list is as nil")
	}
}

func TestNewTableAsTold(t *testing.T) {
	most := impl.MaxWeight
	for _, c := range []struct {
		columns int
		l       []impl.Weighted
		want    impl.Table
	}{
		{1, []impl.Weighted{weighted(1, 2), weighted(3, 1), weighted(-1, 2)}, table(1, weighted(3, 1))},
		{2, []impl.Weighted{weighted(1, 2, 0), weighted(2, -1, 5), weighted(4, 2, 0)}, table(2, weighted(2, -1, 5), weighted(5, 2, 0))},
		{0, []impl.Weighted{weighted(1), weighted(-4)}, table(0, weighted(-3))},
		{0, []impl.Weighted{weighted(1), weighted(-1)}, table(0)},
		{6, nil, table(6)},
		{6, []impl.Weighted{}, table(6)},
		{1, []impl.Weighted{weighted(0, 1)}, table(1)},
		{1, []impl.Weighted{weighted(0, 1), weighted(2, 1), weighted(0, 2)}, table(1, weighted(2, 1))},
		{1, []impl.Weighted{weighted(most, 1), weighted(-most, 2)}, table(1, weighted(most, 1), weighted(-most, 2))},
		{1, []impl.Weighted{weighted(most-1, 1), weighted(1, 1)}, table(1, weighted(most, 1))},
		{1, []impl.Weighted{weighted(most, 1), weighted(most, 1), weighted(-most, 1)}, table(1, weighted(most, 1))},
		{1, []impl.Weighted{weighted(-most, 1), weighted(-most, 1), weighted(most, 1), weighted(most, 1)}, table(1)},
		{1, countedRows(impl.MaxRows, 0, 1), table(1, countedRows(impl.MaxRows, 0, 1)...)},
		{1, slices.Repeat([]impl.Weighted{weighted(5000, 7)}, maxHandedIn), table(1, weighted(most, 7))},
		{1, slices.Repeat([]impl.Weighted{weighted(most, 7), weighted(-most, 7)}, maxHandedIn/2), table(1)},
		{1, countedRows(maxHandedIn, 0, 0), table(1)},
		{1, slices.Concat(countedRows(70, 0, 1), countedRows(60, 60, 3), countedRows(70, 0, -1)), table(1, countedRows(60, 60, 3)...)},
	} {
		got, ok := impl.NewTable(c.columns, c.l)
		if !ok || !sameTables(got, c.want) {
			t.Errorf("NewTable(%d, %v) = %v, %v, not %v", c.columns, c.l, got, ok, c.want)
		}
	}
}

func TestNewTableRefuses(t *testing.T) {
	most := impl.MaxWeight
	for _, c := range []struct {
		columns int
		l       []impl.Weighted
	}{
		{-1, nil},
		{7, nil},
		{math.MinInt, nil},
		{math.MaxInt, nil},
		{7, []impl.Weighted{weighted(1, 1, 2, 3, 4, 5, 6, 7)}},
		{1, slices.Repeat([]impl.Weighted{weighted(1, 1)}, maxHandedIn+1)},
		{1, countedRows(maxHandedIn+1, 0, 0)},
		{1, slices.Repeat([]impl.Weighted{weighted(1, 1)}, 5000)},
		{1, []impl.Weighted{weighted(most+1, 1)}},
		{1, []impl.Weighted{weighted(-most-1, 1)}},
		{1, []impl.Weighted{weighted(most+1, 1), weighted(-most, 1)}},
		{1, []impl.Weighted{weighted(math.MinInt, 1), weighted(math.MinInt, 1)}},
		{1, []impl.Weighted{weighted(1)}},
		{1, []impl.Weighted{weighted(1, 1, 2)}},
		{0, []impl.Weighted{weighted(1, 0)}},
		{2, []impl.Weighted{weighted(1, 1, 1), weighted(1, 1)}},
		{1, []impl.Weighted{weighted(0, 1, 2)}},
		{1, []impl.Weighted{weighted(1, impl.MaxCell+1)}},
		{1, []impl.Weighted{weighted(0, -impl.MaxCell-1)}},
		{1, []impl.Weighted{weighted(1, math.MinInt)}},
		{1, []impl.Weighted{weighted(most, 1), weighted(1, 1)}},
		{1, []impl.Weighted{weighted(-most, 1), weighted(-1, 1)}},
		{1, slices.Repeat([]impl.Weighted{weighted(5001, 7)}, maxHandedIn)},
		{1, countedRows(impl.MaxRows+1, 0, 1)},
		{1, countedRows(maxHandedIn, 0, -1)},
	} {
		if got, ok := impl.NewTable(c.columns, c.l); ok || !isNoTable(got) {
			t.Errorf("NewTable(%d, %v) = %v, %v", c.columns, c.l, got, ok)
		}
	}
}

func TestNewTableIsTheSum(t *testing.T) {
	most := impl.MaxWeight
	var ones []impl.Weighted
	for _, weight := range []int{-most, -1, 0, 1, most} {
		ones = append(ones, weighted(weight, 3), weighted(weight, -4))
	}
	places := make([]int, len(ones))
	for i := range places {
		places[i] = i
	}
	for _, l := range listsUpTo(4, places) {
		var handed []impl.Weighted
		for _, i := range l {
			handed = append(handed, ones[i])
		}
		want, good := sumByHand(1, handed)
		got, ok := impl.NewTable(1, handed)
		if ok != good || !sameTables(got, want) {
			t.Fatalf("NewTable(1, %v) = %v, %v, not %v, %v", handed, got, ok, want, good)
		}
	}
}

// Rows that come in any order stand in one order, whatever the map behind them does.
func TestNewTableSorts(t *testing.T) {
	for step := range impl.MaxRows - 1 {
		var handed []impl.Weighted
		for i := range impl.MaxRows + 1 {
			n := i * (step + 1) % (impl.MaxRows + 1)
			if n > 0 {
				handed = append(handed, weighted(n, -n%3, n-40, 9))
			}
		}
		want, good := sumByHand(3, handed)
		got, ok := impl.NewTable(3, handed)
		if !good || !ok || !sameTables(got, want) || len(got.Rows) != impl.MaxRows {
			t.Fatalf("NewTable(3, %v) = %v, %v", handed, got, ok)
		}
	}
}

func TestAddTables(t *testing.T) {
	for _, a := range goodTables() {
		for _, b := range goodTables() {
			want, good := sumByHand(a.Columns, slices.Concat(a.Rows, b.Rows))
			if a.Columns != b.Columns {
				want, good = impl.Table{}, false
			}
			got, ok := impl.AddTables(a, b)
			if ok != good || !sameTables(got, want) {
				t.Fatalf("AddTables(%v, %v) = %v, %v, not %v, %v", a, b, got, ok, want, good)
			}
		}
		for _, bad := range badTables() {
			if got, ok := impl.AddTables(a, bad); ok || !isNoTable(got) {
				t.Errorf("AddTables(%v, %v) = %v, %v", a, bad, got, ok)
			}
			if got, ok := impl.AddTables(bad, a); ok || !isNoTable(got) {
				t.Errorf("AddTables(%v, %v) = %v, %v", bad, a, got, ok)
			}
		}
	}
	for _, bad := range badTables() {
		if got, ok := impl.AddTables(bad, bad); ok || !isNoTable(got) {
			t.Errorf("AddTables(%v, %v) = %v, %v", bad, bad, got, ok)
		}
	}
}

func TestAddTablesEdges(t *testing.T) {
	most := impl.MaxWeight
	for _, c := range []struct {
		a, b, want impl.Table
		good       bool
	}{
		{table(1, weighted(most-1, 1)), table(1, weighted(1, 1)), table(1, weighted(most, 1)), true},
		{table(1, weighted(most, 1)), table(1, weighted(1, 1)), table(0), false},
		{table(1, weighted(1-most, 1)), table(1, weighted(-1, 1)), table(1, weighted(-most, 1)), true},
		{table(1, weighted(-most, 1)), table(1, weighted(-1, 1)), table(0), false},
		{table(1, countedRows(30, 0, 1)...), table(1, countedRows(30, 30, 2)...), table(1, append(countedRows(30, 0, 1), countedRows(30, 30, 2)...)...), true},
		{table(1, countedRows(31, 0, 1)...), table(1, countedRows(30, 31, 1)...), table(0), false},
		{table(1, countedRows(60, 0, 1)...), table(1, countedRows(60, 1, -1)...), table(1, weighted(1, 0), weighted(-1, 60)), true},
		{table(0, weighted(1)), table(0, weighted(-1)), table(0), true},
		{table(0), table(1), table(0), false},
		{table(1, weighted(1, 1)), table(2, weighted(1, 1, 1)), table(0), false},
	} {
		if got, ok := impl.AddTables(c.a, c.b); ok != c.good || !sameTables(got, c.want) {
			t.Errorf("AddTables(%v, %v) = %v, %v, not %v, %v", c.a, c.b, got, ok, c.want, c.good)
		}
	}
}

// Promise 2: tables with weights are a group: nothing, the other sign, any order, any brackets.
func TestTablesAreAGroup(t *testing.T) {
	tables := goodTables()
	for _, a := range tables {
		nothing, ok := impl.EmptyTable(a.Columns)
		if !ok || nothing.Columns != a.Columns || len(nothing.Rows) != 0 {
			t.Fatalf("EmptyTable(%d) = %v, %v", a.Columns, nothing, ok)
		}
		if same, ok := impl.AddTables(a, nothing); !ok || !sameTables(same, a) {
			t.Errorf("%v and nothing is %v, %v", a, same, ok)
		}
		less, ok := impl.NegateTable(a)
		if !ok || !impl.GoodTable(less) {
			t.Fatalf("NegateTable(%v) = %v, %v", a, less, ok)
		}
		if none, ok := impl.AddTables(a, less); !ok || !sameTables(none, nothing) {
			t.Errorf("%v less itself is %v, %v", a, none, ok)
		}
		for _, b := range tables {
			one, good := impl.AddTables(a, b)
			other, ok := impl.AddTables(b, a)
			if ok != good || !sameTables(one, other) {
				t.Errorf("%v and %v: %v, %v, the other way %v, %v", a, b, one, good, other, ok)
			}
		}
	}
}

// Promise 2, too: where all sums are good the brackets do not count.
func TestTablesAddUpInAnyBrackets(t *testing.T) {
	most := impl.MaxWeight
	tables := smallTables(-most, 1-most, -1, 0, 1, most)
	tried := 0
	for _, a := range tables {
		for _, b := range tables {
			ab, good := impl.AddTables(a, b)
			if !good {
				continue
			}
			for _, c := range tables {
				bc, ok := impl.AddTables(b, c)
				if !ok {
					continue
				}
				left, leftGood := impl.AddTables(ab, c)
				right, rightGood := impl.AddTables(a, bc)
				if leftGood != rightGood || !sameTables(left, right) {
					t.Fatalf("%v, %v, %v: %v, %v and %v, %v", a, b, c, left, leftGood, right, rightGood)
				}
				tried++
			}
		}
	}
	if tried < 1000 {
		t.Errorf("only %d sums of three were good", tried)
	}
}

func TestNegateTable(t *testing.T) {
	for _, a := range goodTables() {
		want := impl.Table{Columns: a.Columns}
		for _, one := range a.Rows {
			want.Rows = append(want.Rows, impl.Weighted{Row: one.Row, Weight: -one.Weight})
		}
		if got, ok := impl.NegateTable(a); !ok || !sameTables(got, want) {
			t.Errorf("NegateTable(%v) = %v, %v, not %v", a, got, ok, want)
		}
	}
	for _, bad := range badTables() {
		if got, ok := impl.NegateTable(bad); ok || !isNoTable(got) {
			t.Errorf("NegateTable(%v) = %v, %v", bad, got, ok)
		}
	}
}

func TestScaleTable(t *testing.T) {
	for _, a := range append(goodTables(), smallTables(-1001, -1000, 0, 999, 1000, 1001)...) {
		for _, by := range []int{-1000, -999, -2, -1, 0, 1, 2, 500, 999, 1000} {
			want := impl.Table{Columns: a.Columns}
			for _, one := range a.Rows {
				if by != 0 {
					want.Rows = append(want.Rows, impl.Weighted{Row: one.Row, Weight: by * one.Weight})
				}
			}
			good := goodByHand(want)
			if !good {
				want = impl.Table{}
			}
			if got, ok := impl.ScaleTable(a, by); ok != good || !sameTables(got, want) {
				t.Errorf("ScaleTable(%v, %d) = %v, %v, not %v, %v", a, by, got, ok, want, good)
			}
		}
		for _, by := range []int{-1001, 1001, math.MinInt, math.MaxInt, 1 << 32} {
			if got, ok := impl.ScaleTable(a, by); ok || !isNoTable(got) {
				t.Errorf("ScaleTable(%v, %d) = %v, %v", a, by, got, ok)
			}
		}
	}
	for _, bad := range badTables() {
		for _, by := range []int{-1, 0, 1} {
			if got, ok := impl.ScaleTable(bad, by); ok || !isNoTable(got) {
				t.Errorf("ScaleTable(%v, %d) = %v, %v", bad, by, got, ok)
			}
		}
	}
}

func TestWeightOf(t *testing.T) {
	for _, a := range goodTables() {
		for _, r := range append(goodRows(), row(1), row(2), row(0, 1), row(-30), row(29), row(30)) {
			want, good := 0, len(r.Cells) == a.Columns
			for _, one := range a.Rows {
				if slices.Equal(one.Row.Cells, r.Cells) {
					want = one.Weight
				}
			}
			if got, ok := impl.WeightOf(a, r); got != want || ok != good {
				t.Errorf("WeightOf(%v, %v) = %d, %v, not %d, %v", a, r, got, ok, want, good)
			}
		}
		for _, bad := range append(badRows(), row(impl.MaxCell+1, 0)) {
			if got, ok := impl.WeightOf(a, bad); got != 0 || ok {
				t.Errorf("WeightOf(%v, %v) = %d, %v", a, bad, got, ok)
			}
		}
	}
	for _, bad := range badTables() {
		for _, r := range []impl.Row{row(), row(1), row(2), row(1, 1), row(1, 2, 3, 4, 5, 6, 7)} {
			if got, ok := impl.WeightOf(bad, r); got != 0 || ok {
				t.Errorf("WeightOf(%v, %v) = %d, %v", bad, r, got, ok)
			}
		}
	}
}

func TestIsPlainAndTotalOf(t *testing.T) {
	for _, a := range goodTables() {
		plain, total := true, 0
		for _, one := range a.Rows {
			plain = plain && one.Weight > 0
			total += one.Weight
		}
		if got, ok := impl.IsPlain(a); got != plain || !ok {
			t.Errorf("IsPlain(%v) = %v, %v", a, got, ok)
		}
		if got, ok := impl.TotalOf(a); got != total || !ok {
			t.Errorf("TotalOf(%v) = %d, %v, not %d", a, got, ok, total)
		}
	}
	if got, ok := impl.IsPlain(table(3)); !got || !ok {
		t.Error("a table without rows is plain")
	}
	if got, ok := impl.TotalOf(table(1, countedRows(60, 0, impl.MaxWeight)...)); got != 60000000 || !ok {
		t.Error(got, ok)
	}
	for _, bad := range badTables() {
		if got, ok := impl.IsPlain(bad); got || ok {
			t.Errorf("IsPlain(%v) = %v, %v", bad, got, ok)
		}
		if got, ok := impl.TotalOf(bad); got != 0 || ok {
			t.Errorf("TotalOf(%v) = %d, %v", bad, got, ok)
		}
	}
}

func TestEmptyTable(t *testing.T) {
	for _, columns := range []int{0, 1, 2, 3, 4, 5, 6} {
		if got, ok := impl.EmptyTable(columns); !ok || !sameTables(got, table(columns)) {
			t.Errorf("EmptyTable(%d) = %v, %v", columns, got, ok)
		}
	}
	for _, columns := range []int{-1, 7, 1000, math.MinInt, math.MaxInt} {
		if got, ok := impl.EmptyTable(columns); ok || !isNoTable(got) {
			t.Errorf("EmptyTable(%d) = %v, %v", columns, got, ok)
		}
	}
}

// Promise 19: each function of tables answers at any arguments, the same each time, in new memory, and writes into none.
func TestTableFunctionsAnswerAndWriteNothing(t *testing.T) {
	var tables []impl.Table
	for _, one := range append(goodTables(), badTables()...) {
		tables = append(tables, withGuards(one))
	}
	var rows []impl.Row
	for _, r := range append(rowsUpTo(2, 1, 2), badRows()...) {
		rows = append(rows, withGuards(r))
	}
	for i, a := range tables {
		checkCall(t, "NewTable", func() []any { return answers(impl.NewTable(a.Columns, a.Rows)) }, a)
		checkCall(t, "GoodTable", func() []any { return []any{impl.GoodTable(a)} }, a)
		checkCall(t, "NegateTable", func() []any { return answers(impl.NegateTable(a)) }, a)
		checkCall(t, "IsPlain", func() []any { return answers(impl.IsPlain(a)) }, a)
		checkCall(t, "TotalOf", func() []any { return answers(impl.TotalOf(a)) }, a)
		checkCall(t, "EmptyTable", func() []any { return answers(impl.EmptyTable(a.Columns)) }, a)
		for _, by := range []int{math.MinInt, -1001, -1, 0, 1, 2, 1000, math.MaxInt} {
			checkCall(t, "ScaleTable", func() []any { return answers(impl.ScaleTable(a, by)) }, a, by)
		}
		for _, r := range rows {
			checkCall(t, "WeightOf", func() []any { return answers(impl.WeightOf(a, r)) }, a, r)
		}
		for _, b := range append(slices.Clone(tables[i%7:i%7+7]), a, table(1, weighted(1, 5))) {
			checkCall(t, "AddTables", func() []any { return answers(impl.AddTables(a, b)) }, a, b)
			checkCall(t, "AddTables", func() []any { return answers(impl.AddTables(b, a)) }, b, a)
		}
	}
}

func answers[T any](one T, ok bool) []any {
	return []any{one, ok}
}

// What lies behind a list's length does not count.
func TestTablesDoNotReadBehindTheirLists(t *testing.T) {
	for _, a := range goodTables() {
		plain := fmt.Sprint(impl.AddTables(a, a))
		if got := fmt.Sprint(impl.AddTables(withGuards(a), withGuards(a))); got != plain {
			t.Errorf("%v: %s, with guards behind the lists %s", a, plain, got)
		}
	}
}
