package tests

import (
	"cmp"
	"fmt"
	"math"
	"slices"
	"testing"

	"loop.example/g00305/impl"
)

const maxParted = 8

// goodPartsByHand says again, with other means, which parts are good.
func goodPartsByHand(parts [][]int, columns int) bool {
	if columns < 1 || columns > 6 || len(parts) == 0 || len(parts) > 8 {
		return false
	}
	all := allParts(firstColumns(columns))[1:]
	for _, part := range parts {
		if !slices.ContainsFunc(all, func(l []int) bool { return slices.Equal(l, part) }) {
			return false
		}
	}
	return hasAll(slices.Concat(parts...), firstColumns(columns))
}

func partTablesByHand(t impl.Table, parts [][]int) ([]impl.Table, bool) {
	var out []impl.Table
	for _, part := range parts {
		picked, good := projectByHand(t, part)
		if !good {
			return nil, false
		}
		out = append(out, onceByHand(picked, func(impl.Row) bool { return true }))
	}
	return out, true
}

// joinPartsByHand lays each row of each table over what was told so far, wherever nothing is at odds.
func joinPartsByHand(l []impl.Table, parts [][]int, columns int) (impl.Table, bool) {
	told := []map[int]int{{}}
	for i, part := range parts {
		var next []map[int]int
		for _, ahead := range told {
			for _, one := range l[i].Rows {
				if joined, fits := laidOver(ahead, part, one.Row.Cells); fits {
					next = append(next, joined)
				}
			}
		}
		if len(next) > 60 {
			return impl.Table{}, false
		}
		told = next
	}
	var rows []impl.Weighted
	for _, cells := range told {
		one := make([]int, columns)
		for column, cell := range cells {
			one[column] = cell
		}
		rows = append(rows, weighted(1, one...))
	}
	return sumByHand(columns, rows)
}

func laidOver(ahead map[int]int, part, cells []int) (map[int]int, bool) {
	joined := map[int]int{}
	for column, cell := range ahead {
		joined[column] = cell
	}
	for i, column := range part {
		if cell, told := ahead[column]; told && cell != cells[i] {
			return nil, false
		}
		joined[column] = cells[i]
	}
	return joined, true
}

func common(a, b []int) []int {
	return slices.DeleteFunc(slices.Clone(a), func(n int) bool { return !slices.Contains(b, n) })
}

func splitByHand(l []impl.Depend, columns int, part, from []int) ([]int, []int, bool) {
	if !hasAll(part, from) {
		return nil, nil, false
	}
	closed := closureByHand(l, columns, from)
	told := common(part, closed)
	if len(told) == len(from) || len(told) == len(part) {
		return nil, nil, false
	}
	var rest []int
	for _, n := range part {
		if slices.Contains(from, n) || !slices.Contains(closed, n) {
			rest = append(rest, n)
		}
	}
	return told, rest, true
}

func normalByHand(l []impl.Depend, columns int, part []int) bool {
	for _, some := range allParts(part) {
		told := common(part, closureByHand(l, columns, some))
		if !hasAll(some, told) && !hasAll(told, part) {
			return false
		}
	}
	return true
}

// normalPartsByHand goes step by step as the chapter says it.
func normalPartsByHand(l []impl.Depend, columns int) ([][]int, bool) {
	parts := [][]int{firstColumns(columns)}
	for {
		at := slices.IndexFunc(parts, func(part []int) bool { return !normalByHand(l, columns, part) })
		if at < 0 {
			break
		}
		for _, from := range allParts(parts[at]) {
			if first, second, splits := splitByHand(l, columns, parts[at], from); splits {
				parts = slices.Replace(slices.Clone(parts), at, at+1, first, second)
				break
			}
		}
	}
	for i := len(parts) - 1; i >= 0; i-- {
		others := slices.Delete(slices.Clone(parts), i, i+1)
		if slices.ContainsFunc(others, func(other []int) bool { return hasAll(other, parts[i]) }) {
			parts = others
		}
	}
	return parts, len(parts) <= 8
}

func dependsInByHand(l []impl.Depend, columns int, part []int) ([]impl.Depend, bool) {
	var out []impl.Depend
	for _, from := range allParts(part) {
		to := common(part, closureByHand(l, columns, from))
		for _, n := range from {
			to = without(to, n)
		}
		if len(to) > 0 {
			out = append(out, impl.Depend{From: from, To: to})
		}
	}
	if len(out) > 10 {
		return nil, false
	}
	return out, true
}

// some are columns, never none.
func (d *dice) some(columns int) []int {
	for {
		if l := d.columns(columns); len(l) > 0 {
			return l
		}
	}
}

// parts are good ones: columns that are still missing come to one of them. Some have little in common, so that much is joined.
func (d *dice) parts(columns int) [][]int {
	few := d.below(3) == 0
	var out [][]int
	for range 1 + d.below(d.oneOf(1, 3, maxParted)) {
		one := d.some(columns)
		if few {
			one = one[:1]
		}
		out = append(out, one)
	}
	if len(out) > 1 && d.below(4) == 0 {
		out[0] = slices.Clone(out[1])
	}
	for _, n := range firstColumns(columns) {
		if !slices.Contains(slices.Concat(out...), n) {
			at := d.below(len(out))
			out[at] = slices.Sorted(slices.Values(append(slices.Clone(out[at]), n)))
		}
	}
	return out
}

// onceWhere has at most so many thrown rows with weight 1, each only if all dependencies still hold; few of them where cells are few.
func (d *dice) onceWhere(l []impl.Depend, columns, throws, cells int) impl.Table {
	t := table(columns)
	for range throws {
		var thrown []int
		for range columns {
			thrown = append(thrown, d.below(cells))
		}
		if isAbove(t, row(thrown...)) || len(t.Rows) == impl.MaxRows {
			continue
		}
		next, _ := sumByHand(columns, append(slices.Clone(t.Rows), weighted(1, thrown...)))
		if allHoldByHand(next, l) {
			t = next
		}
	}
	return t
}

// onceOf has each of these rows with weight 1, in order.
func onceOf(columns int, rows ...[]int) impl.Table {
	var l []impl.Weighted
	for _, cells := range rows {
		l = append(l, weighted(1, cells...))
	}
	t, _ := sumByHand(columns, l)
	return t
}

func counted(many int) impl.Table {
	return table(1, countedRows(many, 0, 1)...)
}

// badPartLists are no parts of three columns.
func badPartLists() [][][]int {
	out := [][][]int{
		nil, {}, {nil}, {{}}, {digits("012"), nil}, {nil, digits("012")},
		lists("0"), lists("01"), lists("12"), lists("02"), lists("0", "1"), lists("02", "0"), lists("12", "2", "1", "12"),
		slices.Repeat(lists("012"), maxParted+1), slices.Repeat(lists("0", "1", "2"), 3), slices.Repeat(lists("012"), 100),
	}
	for _, bad := range badLists() {
		out = append(out, [][]int{bad}, append(lists("012"), bad), append([][]int{bad}, lists("012")...),
			append(slices.Repeat(lists("012"), maxParted-1), bad))
	}
	return out
}

func goodPartLists() [][][]int {
	return [][][]int{
		lists("012"), lists("01", "12"), lists("12", "01"), lists("01", "2"), lists("2", "1", "0"), lists("012", "012"),
		lists("0", "012"), lists("012", "1"), lists("02", "02", "1"), lists("01", "12", "02"),
		slices.Repeat(lists("012"), maxParted), lists("0", "1", "2", "01", "02", "12", "012", "0"),
	}
}

func TestGoodParts(t *testing.T) {
	for _, parts := range goodPartLists() {
		if !impl.GoodParts(parts, 3) {
			t.Errorf("GoodParts(%v, 3) is false", parts)
		}
	}
	for _, parts := range badPartLists() {
		if impl.GoodParts(parts, 3) {
			t.Errorf("GoodParts(%v, 3) is true", parts)
		}
	}
	for columns := 1; columns <= impl.MaxColumns; columns++ {
		var single [][]int
		for n := range columns {
			single = append(single, []int{n})
		}
		for _, parts := range [][][]int{single, {firstColumns(columns)}} {
			for asked := -1; asked <= impl.MaxColumns+1; asked++ {
				if got := impl.GoodParts(parts, asked); got != (asked == columns) {
					t.Errorf("GoodParts(%v, %d) is %v", parts, asked, got)
				}
			}
		}
	}
	for _, columns := range badColumns() {
		for _, parts := range [][][]int{nil, lists("0"), lists("012345"), {{0, 1, 2, 3, 4, 5, 6}}, {make([]int, 100)}} {
			if impl.GoodParts(parts, columns) {
				t.Errorf("GoodParts(%v, %d) is true", parts, columns)
			}
		}
	}
}

func TestGoodPartsByHand(t *testing.T) {
	seen := map[bool]int{}
	single := listsUpTo(3, []int{-1, 0, 1, 2})
	for _, first := range single {
		for _, second := range single {
			for columns := 1; columns <= 3; columns++ {
				parts := [][]int{first, second}
				want := goodPartsByHand(parts, columns)
				if got := impl.GoodParts(parts, columns); got != want {
					t.Fatalf("GoodParts(%v, %d) is %v", parts, columns, got)
				}
				seen[want]++
			}
		}
	}
	thrown := dice{800}
	for range 2000 {
		columns := 1 + thrown.below(impl.MaxColumns)
		var parts [][]int
		for range thrown.below(maxParted + 2) {
			parts = append(parts, thrown.columns(columns))
		}
		want := goodPartsByHand(parts, columns)
		if got := impl.GoodParts(parts, columns); got != want {
			t.Fatalf("GoodParts(%v, %d) is %v", parts, columns, got)
		}
		seen[want]++
	}
	if seen[true] < 300 || seen[false] < 1000 {
		t.Error(seen)
	}
}

func TestPartTablesAsTold(t *testing.T) {
	three := onceOf(3, []int{1, 5, 9}, []int{2, 5, 9}, []int{3, 6, 9})
	fives, sixes := onceOf(2, []int{5, 9}, []int{6, 9}), onceOf(2, []int{1, 5}, []int{2, 5}, []int{3, 6})
	most := impl.MaxWeight
	for _, c := range []struct {
		t     impl.Table
		parts [][]int
		want  []impl.Table
	}{
		{three, lists("012"), tables(three)},
		{three, lists("12", "01"), tables(fives, sixes)},
		{three, lists("01", "12"), tables(sixes, fives)},
		{three, lists("0", "1", "2"), tables(onceOf(1, []int{1}, []int{2}, []int{3}), onceOf(1, []int{5}, []int{6}), onceOf(1, []int{9}))},
		{three, lists("02", "02", "1"), tables(onceOf(2, []int{1, 9}, []int{2, 9}, []int{3, 9}), onceOf(2, []int{1, 9}, []int{2, 9}, []int{3, 9}), onceOf(1, []int{5}, []int{6}))},
		{three, lists("2", "012"), tables(onceOf(1, []int{9}), three)},
		{three, slices.Repeat(lists("012"), maxParted), slices.Repeat(tables(three), maxParted)},
		{table(1), lists("0"), tables(table(1))},
		{table(1), lists("0", "0"), tables(table(1), table(1))},
		{table(6), lists("0123", "45"), tables(table(4), table(2))},
		{table(6, weighted(1, 1, 2, 3, 4, 5, 6)), lists("135", "0", "24", "012345"), tables(onceOf(3, []int{2, 4, 6}), onceOf(1, []int{1}), onceOf(2, []int{3, 5}), onceOf(6, []int{1, 2, 3, 4, 5, 6}))},
		{table(1, weighted(7, 1), weighted(-7, 2), weighted(1, 3)), lists("0"), tables(onceOf(1, []int{1}, []int{3}))},
		{table(2, weighted(-1, 1, 1), weighted(-1, 1, 2)), lists("0", "1"), tables(table(1), table(1))},
		{table(2, weighted(1, 1, 1), weighted(-1, 1, 2)), lists("0", "1"), tables(table(1), onceOf(1, []int{1}))},
		{table(2, weighted(2, 1, 1), weighted(-1, 1, 2)), lists("0", "1"), tables(onceOf(1, []int{1}), onceOf(1, []int{1}))},
		{table(2, weighted(2, 1, 1), weighted(-3, 1, 2), weighted(1, 2, 2)), lists("0", "1"), tables(onceOf(1, []int{2}), onceOf(1, []int{1}))},
		{table(2, weighted(2, 1, 1), weighted(-3, 1, 2)), lists("01"), tables(onceOf(2, []int{1, 1}))},
		{table(2, weighted(most-1, 1, 1), weighted(1, 1, 2)), lists("0", "1"), tables(onceOf(1, []int{1}), onceOf(1, []int{1}, []int{2}))},
		{table(2, weighted(-most, 1, 1), weighted(most, 1, 2)), lists("0", "1"), tables(table(1), onceOf(1, []int{2}))},
		{table(2, weighted(most, 1, 1), weighted(most, 2, 2)), lists("0", "1"), tables(onceOf(1, []int{1}, []int{2}), onceOf(1, []int{1}, []int{2}))},
		{counted(impl.MaxRows), lists("0", "0"), tables(counted(impl.MaxRows), counted(impl.MaxRows))},
	} {
		got, ok := impl.PartTables(c.t, c.parts)
		if !ok || !slices.EqualFunc(got, c.want, sameTables) {
			t.Errorf("PartTables(%v, %v) = %v, %v, not %v", c.t, c.parts, got, ok, c.want)
		}
	}
}

func checkPartTablesRefused(t *testing.T, one impl.Table, parts [][]int) {
	t.Helper()
	if got, ok := impl.PartTables(one, parts); len(got) != 0 || ok {
		t.Errorf("PartTables(%v, %v) = %v, %v", one, parts, got, ok)
	}
}

func TestPartTablesRefuses(t *testing.T) {
	for _, bad := range badTables() {
		checkPartTablesRefused(t, bad, lists("0"))
		checkPartTablesRefused(t, bad, lists("01"))
		checkPartTablesRefused(t, bad, nil)
	}
	for _, bad := range badPartLists() {
		checkPartTablesRefused(t, onceOf(3, []int{1, 5, 9}, []int{2, 5, 9}), bad)
		checkPartTablesRefused(t, table(3), bad)
	}
	for _, one := range []impl.Table{table(0), table(0, weighted(1))} {
		for _, parts := range [][][]int{nil, {nil}, lists("0")} {
			checkPartTablesRefused(t, one, parts)
		}
	}
	for columns := 1; columns < impl.MaxColumns; columns++ {
		checkPartTablesRefused(t, table(columns), [][]int{firstColumns(columns + 1)})
		checkPartTablesRefused(t, table(columns+1), [][]int{firstColumns(columns)})
	}
	most := impl.MaxWeight
	// What is picked has to be good, though what is plain of it would be.
	checkPartTablesRefused(t, table(2, weighted(most, 1, 1), weighted(1, 1, 2)), lists("0", "1"))
	checkPartTablesRefused(t, table(2, weighted(most, 1, 1), weighted(1, 1, 2)), lists("01", "0"))
	checkPartTablesRefused(t, table(2, weighted(-most, 1, 1), weighted(-1, 2, 1)), lists("0", "1"))
}

func TestPartTablesIsWhatIsPlainOfWhatIsPicked(t *testing.T) {
	thrown := dice{801}
	refused, shorter := 0, 0
	for range 1500 {
		columns := 1 + thrown.below(impl.MaxColumns)
		parts := thrown.parts(columns)
		one := thrown.tableWhere(nil, columns)
		if thrown.below(4) == 0 {
			one, _ = impl.ScaleTable(one, 1000)
			one, _ = impl.ScaleTable(one, 333)
		}
		want, fits := partTablesByHand(one, parts)
		got, ok := impl.PartTables(one, parts)
		if ok != fits || !slices.EqualFunc(got, want, sameTables) {
			t.Fatalf("PartTables(%v, %v) = %v, %v, not %v, %v", one, parts, got, ok, want, fits)
		}
		if !ok {
			refused++
			continue
		}
		for i, part := range parts {
			picked, _ := impl.ProjectTable(one, part)
			plain, good := impl.DistinctTable(picked)
			if !good || !sameTables(got[i], plain) {
				t.Fatalf("PartTables(%v, %v)[%d] = %v, not %v", one, parts, i, got[i], plain)
			}
			if len(plain.Rows) < len(one.Rows) {
				shorter++
			}
		}
	}
	if refused < 20 || shorter < 500 {
		t.Errorf("%d were refused, %d parts had fewer rows", refused, shorter)
	}
}

func TestJoinPartsAsTold(t *testing.T) {
	fives, sixes := onceOf(2, []int{5, 9}, []int{6, 9}), onceOf(2, []int{1, 5}, []int{2, 5}, []int{3, 6})
	three := onceOf(3, []int{1, 5, 9}, []int{2, 5, 9}, []int{3, 6, 9})
	for _, c := range []struct {
		l       []impl.Table
		parts   [][]int
		columns int
		want    impl.Table
	}{
		{tables(fives, sixes), lists("12", "01"), 3, three},
		{tables(sixes, fives), lists("01", "12"), 3, three},
		{tables(three), lists("012"), 3, three},
		{slices.Repeat(tables(three), maxParted), slices.Repeat(lists("012"), maxParted), 3, three},
		{tables(counted(3), counted(2)), lists("0", "0"), 1, counted(2)},
		{tables(counted(2), counted(3)), lists("0", "0"), 1, counted(2)},
		{tables(onceOf(1, []int{1}), onceOf(1, []int{2})), lists("0", "0"), 1, table(1)},
		{tables(table(1)), lists("0"), 1, table(1)},
		{tables(counted(2), table(1)), lists("1", "0"), 2, table(2)},
		{tables(table(1), counted(2)), lists("1", "0"), 2, table(2)},
		{tables(onceOf(1, []int{7}, []int{8}), counted(2)), lists("1", "0"), 2, onceOf(2, []int{0, 7}, []int{0, 8}, []int{1, 7}, []int{1, 8})},
		{tables(onceOf(1, []int{7}), onceOf(1, []int{8}), onceOf(1, []int{9})), lists("2", "0", "1"), 3, onceOf(3, []int{8, 9, 7})},
		{tables(onceOf(2, []int{1, 5}, []int{2, 5}), onceOf(2, []int{5, 8}, []int{5, 9})), lists("01", "12"), 3, onceOf(3, []int{1, 5, 8}, []int{1, 5, 9}, []int{2, 5, 8}, []int{2, 5, 9})},
		{tables(onceOf(2, []int{1, 5}, []int{2, 6}), onceOf(2, []int{5, 8}), onceOf(2, []int{1, 8})), lists("01", "12", "02"), 3, onceOf(3, []int{1, 5, 8})},
		{tables(onceOf(2, []int{1, 5}, []int{2, 6}), onceOf(2, []int{5, 8}), onceOf(2, []int{1, 9})), lists("01", "12", "02"), 3, table(3)},
		{tables(three, onceOf(1, []int{6})), lists("012", "1"), 3, onceOf(3, []int{3, 6, 9})},
		{tables(onceOf(1, []int{6}), three), lists("1", "012"), 3, onceOf(3, []int{3, 6, 9})},
		{tables(three, three), lists("012", "012"), 3, three},
		{tables(onceOf(3, []int{1, 3, 5}), onceOf(3, []int{0, 2, 4})), lists("135", "024"), 6, onceOf(6, []int{0, 1, 2, 3, 4, 5})},
		{tables(onceOf(5, []int{1, 2, 3, 4, 5}), onceOf(2, []int{0, 5}, []int{9, 5}, []int{0, 6})), lists("12345", "05"), 6, onceOf(6, []int{0, 1, 2, 3, 4, 5}, []int{9, 1, 2, 3, 4, 5})},
	} {
		got, ok := impl.JoinParts(c.l, c.parts, c.columns)
		if !ok || !sameTables(got, c.want) {
			t.Errorf("JoinParts(%v, %v, %d) = %v, %v, not %v", c.l, c.parts, c.columns, got, ok, c.want)
		}
	}
}

// twoByKey are two tables, the first one's second column being the second one's first: so many pairs of rows belong together beside four.
func twoByKey(many int) []impl.Table {
	first, second := [][]int{{0, 0}, {1, 0}}, [][]int{{0, 0}, {0, 1}}
	for n := range many {
		first, second = append(first, []int{n + 2, n + 2}), append(second, []int{n + 2, 0})
	}
	return tables(onceOf(2, first...), onceOf(2, second...))
}

func TestJoinPartsWithRoomForAll(t *testing.T) {
	for _, c := range []struct {
		l     []impl.Table
		parts [][]int
		rows  int
	}{
		{tables(counted(impl.MaxRows)), lists("0"), impl.MaxRows},
		{tables(counted(impl.MaxRows), counted(impl.MaxRows)), lists("0", "0"), impl.MaxRows},
		{tables(counted(impl.MaxRows), counted(1)), lists("0", "1"), impl.MaxRows},
		{tables(counted(1), counted(impl.MaxRows)), lists("0", "1"), impl.MaxRows},
		{tables(counted(6), counted(10)), lists("0", "1"), impl.MaxRows},
		{tables(counted(3), counted(4), counted(5)), lists("0", "1", "2"), impl.MaxRows},
		{twoByKey(impl.MaxRows - 4), lists("01", "12"), impl.MaxRows},
		{tables(counted(6), counted(10), counted(2)), lists("0", "1", "1"), 12},
		{tables(counted(8), counted(8), onceOf(2, []int{1, 1})), lists("0", "1", "01"), -1},
		{tables(onceOf(2, []int{1, 1}), counted(8), counted(8)), lists("01", "0", "1"), 1},
		{tables(counted(8), onceOf(2, []int{1, 1}), counted(8)), lists("0", "01", "1"), 1},
		{tables(counted(6), counted(10), counted(2)), lists("0", "1", "2"), -1},
		{tables(counted(61), counted(1)), lists("0", "1"), -1},
		{tables(counted(2), counted(31)), lists("0", "1"), -1},
		{tables(counted(impl.MaxRows), counted(2)), lists("0", "1"), -1},
		{twoByKey(impl.MaxRows - 3), lists("01", "12"), -1},
		{tables(counted(8), counted(8), table(1)), lists("0", "1", "2"), -1},
		{tables(counted(8), counted(8), table(1)), lists("0", "1", "0"), -1},
		{tables(counted(8), table(1), counted(8)), lists("0", "1", "2"), 0},
		{tables(table(1), counted(60), counted(60)), lists("0", "1", "2"), 0},
	} {
		columns := len(slices.Compact(slices.Sorted(slices.Values(slices.Concat(c.parts...)))))
		got, ok := impl.JoinParts(c.l, c.parts, columns)
		if ok != (c.rows >= 0) || len(got.Rows) != max(0, c.rows) {
			t.Errorf("JoinParts(%v, %v) = %d rows, %v, not %d", c.l, c.parts, len(got.Rows), ok, c.rows)
		}
		if !ok && !isNoTable(got) {
			t.Errorf("JoinParts(%v, %v) is refused with %v", c.l, c.parts, got)
		}
	}
}

func checkJoinPartsRefused(t *testing.T, l []impl.Table, parts [][]int, columns int) {
	t.Helper()
	if got, ok := impl.JoinParts(l, parts, columns); !isNoTable(got) || ok {
		t.Errorf("JoinParts(%v, %v, %d) = %v, %v", l, parts, columns, got, ok)
	}
}

// suitedTables are tables without rows, as many as parts.
func suitedTables(parts [][]int) []impl.Table {
	var out []impl.Table
	for _, part := range parts {
		out = append(out, table(len(part)))
	}
	return out
}

func TestJoinPartsRefuses(t *testing.T) {
	for _, bad := range badPartLists() {
		checkJoinPartsRefused(t, suitedTables(bad), bad, 3)
		checkJoinPartsRefused(t, nil, bad, 3)
	}
	for _, columns := range badColumns() {
		checkJoinPartsRefused(t, nil, nil, columns)
		checkJoinPartsRefused(t, tables(table(1)), lists("0"), columns)
		checkJoinPartsRefused(t, tables(table(6)), lists("012345"), columns)
	}
	for _, bad := range badTables() {
		checkJoinPartsRefused(t, tables(bad), lists("0"), 1)
		checkJoinPartsRefused(t, tables(bad), lists("01"), 2)
		checkJoinPartsRefused(t, tables(counted(1), bad), lists("0", "0"), 1)
		checkJoinPartsRefused(t, tables(table(1), bad), lists("1", "0"), 2)
		checkJoinPartsRefused(t, tables(bad, counted(1)), lists("0", "1"), 2)
	}
	for _, weight := range []int{-impl.MaxWeight, -2, -1, 2, 3, impl.MaxWeight} {
		bad := table(1, weighted(1, 1), weighted(weight, 2), weighted(1, 3))
		checkJoinPartsRefused(t, tables(bad), lists("0"), 1)
		checkJoinPartsRefused(t, tables(counted(2), bad), lists("0", "1"), 2)
		checkJoinPartsRefused(t, tables(table(1), bad), lists("0", "0"), 1)
		checkJoinPartsRefused(t, tables(bad, table(1)), lists("0", "0"), 1)
	}
	for _, parts := range goodPartLists() {
		suited := suitedTables(parts)
		if got, ok := impl.JoinParts(suited, parts, 3); !ok || !sameTables(got, table(3)) {
			t.Errorf("JoinParts(%v, %v, 3) = %v, %v", suited, parts, got, ok)
		}
		checkJoinPartsRefused(t, suited[1:], parts, 3)
		checkJoinPartsRefused(t, append(slices.Clone(suited), table(3)), parts, 3)
		checkJoinPartsRefused(t, nil, parts, 3)
		checkJoinPartsRefused(t, suited, parts, 2)
		checkJoinPartsRefused(t, suited, parts, 4)
		for i, one := range suited {
			for _, columns := range []int{one.Columns - 1, one.Columns + 1} {
				unsuited := slices.Clone(suited)
				unsuited[i] = table(columns)
				checkJoinPartsRefused(t, unsuited, parts, 3)
			}
		}
	}
}

func TestJoinPartsByHand(t *testing.T) {
	thrown := dice{802}
	told, empty, refused := 0, 0, 0
	for range 2500 {
		columns := 1 + thrown.below(impl.MaxColumns)
		parts := thrown.parts(columns)
		var l []impl.Table
		for _, part := range parts {
			l = append(l, thrown.onceWhere(nil, len(part), thrown.oneOf(2, 8, 20, 60), thrown.oneOf(2, 3, 9)))
		}
		want, fits := joinPartsByHand(l, parts, columns)
		got, ok := impl.JoinParts(l, parts, columns)
		if ok != fits || !sameTables(got, want) {
			t.Fatalf("JoinParts(%v, %v, %d) = %v, %v, not %v, %v", l, parts, columns, got, ok, want, fits)
		}
		switch {
		case !ok:
			refused++
		case len(got.Rows) == 0:
			empty++
		default:
			told++
		}
	}
	if told < 500 || empty < 50 || refused < 50 {
		t.Errorf("%d had rows, %d had none, %d were refused", told, empty, refused)
	}
}

// JoinParts has a row just if each part of it is a row of its table.
func TestJoinPartsHasAllRowsOfWhichEachPartIsThere(t *testing.T) {
	thrown := dice{803}
	asked := 0
	for range 250 {
		columns := 1 + thrown.below(4)
		parts := thrown.parts(columns)
		var l []impl.Table
		for _, part := range parts {
			l = append(l, thrown.onceWhere(nil, len(part), 12, 3))
		}
		got, ok := impl.JoinParts(l, parts, columns)
		if !ok {
			continue
		}
		for _, cells := range listsUpTo(columns, []int{0, 1, 2}) {
			if len(cells) < columns {
				continue
			}
			want := 1
			for i, part := range parts {
				picked, _ := pickByHand(cells, part)
				if !isAbove(l[i], row(picked...)) {
					want = 0
				}
			}
			if weight, _ := impl.WeightOf(got, row(cells...)); weight != want {
				t.Fatalf("JoinParts(%v, %v, %d) has %v %d times, not %d", l, parts, columns, cells, weight, want)
			}
			asked += want
		}
	}
	if asked < 300 {
		t.Errorf("only %d rows were there", asked)
	}
}

// partAndJoin parts a table and joins it again.
func partAndJoin(t *testing.T, one impl.Table, parts [][]int) (impl.Table, bool) {
	t.Helper()
	l, good := impl.PartTables(one, parts)
	if !good {
		t.Fatalf("PartTables(%v, %v) is refused", one, parts)
	}
	joined, ok := impl.JoinParts(l, parts, one.Columns)
	if _, fits := joinPartsByHand(l, parts, one.Columns); ok != fits {
		t.Fatalf("JoinParts(%v, %v, %d): %v, though there is room: %v", l, parts, one.Columns, ok, fits)
	}
	return joined, ok
}

// restored counts what was parted into two or more and joined again: with some rows, with more than six of them, and what there was no room for.
type restored struct {
	some, tall, refused int
}

// check fails if a table in which the dependencies hold is joined as another one.
func (r *restored) check(t *testing.T, l []impl.Depend, one impl.Table, parts [][]int) {
	t.Helper()
	joined, room := partAndJoin(t, one, parts)
	switch {
	case !room:
		r.refused++
		return
	case !sameTables(joined, one):
		t.Fatalf("%v hold in %v, of whose parts %v is joined: %v", l, one, parts, joined)
	}
	if len(parts) > 1 && len(one.Rows) > 0 {
		r.some++
	}
	if len(parts) > 1 && len(one.Rows) > 6 {
		r.tall++
	}
}

// Promise 8: what is parted by dependencies that hold is joined again as it was.
func TestWhatIsPartedIsJoinedAgainAsItWas(t *testing.T) {
	thrown := dice{804}
	var seen restored
	for range 1200 {
		columns := 1 + thrown.below(impl.MaxColumns)
		l := thrown.depends(columns, 4)
		parts, ok := impl.NormalParts(l, columns)
		if !ok || !impl.GoodParts(parts, columns) {
			t.Fatalf("NormalParts(%v, %d) = %v, %v", l, columns, parts, ok)
		}
		one := thrown.onceWhere(l, columns, thrown.oneOf(8, 30), thrown.oneOf(2, 3, 12))
		seen.check(t, l, one, parts)
	}
	if seen.some < 400 || seen.tall < 100 {
		t.Errorf("%+v", seen)
	}
}

// Promise 8: of two parts that SplitBy tells there is always room, as no more is joined than there was.
func TestWhatIsSplitOnceIsJoinedAgainAsItWas(t *testing.T) {
	thrown := dice{805}
	restored := 0
	for range 250 {
		columns := 1 + thrown.below(impl.MaxColumns)
		l := thrown.depends(columns, 5)
		one := thrown.onceWhere(l, columns, 25, thrown.oneOf(2, 3, 12))
		for _, from := range allParts(firstColumns(columns)) {
			first, second, splits := impl.SplitBy(l, columns, firstColumns(columns), from)
			if !splits {
				continue
			}
			for _, parts := range [][][]int{{first, second}, {second, first}} {
				if joined, room := partAndJoin(t, one, parts); !room || !sameTables(joined, one) {
					t.Fatalf("%v hold in %v, of whose parts %v is joined: %v, %v", l, one, parts, joined, room)
				}
				restored++
			}
		}
	}
	if restored < 500 {
		t.Errorf("only %d were restored", restored)
	}
}

// Promise 8, at MaxRows rows.
func TestWhatIsPartedOfFullTablesIsJoinedAgain(t *testing.T) {
	for _, c := range []struct {
		l     []impl.Depend
		cells func(n int) []int
	}{
		{depends("0>1", "1>2"), func(n int) []int { return []int{n, n / 2, n / 4} }},
		{depends("0>1", "1>2", "2>3", "3>4", "4>5"), func(n int) []int { return []int{n, n / 2, n / 4, n / 8, n / 16, n / 32} }},
		{depends("2>1", "1>0"), func(n int) []int { return []int{n % 3, n % 6, n} }},
		{depends("01>2", "2>3"), func(n int) []int { return []int{n / 8, n % 8, n % 16, n % 2} }},
		{depends(">0", "1>2"), func(n int) []int { return []int{7, n, n % 5} }},
		{nil, func(n int) []int { return []int{n % 2, n % 3, n} }},
		{nil, func(n int) []int { return []int{n} }},
	} {
		var rows [][]int
		for n := range impl.MaxRows {
			rows = append(rows, c.cells(n))
		}
		one := onceOf(len(rows[0]), rows...)
		if len(one.Rows) != impl.MaxRows || !allHoldByHand(one, c.l) {
			t.Fatalf("%v: %v", c.l, one)
		}
		parts, ok := impl.NormalParts(c.l, one.Columns)
		joined, room := partAndJoin(t, one, parts)
		if !ok || !room || !sameTables(joined, one) {
			t.Errorf("NormalParts(%v) = %v, of which is joined %v, %v", c.l, parts, joined, room)
		}
	}
}

// Where the dependencies do not hold more may be told than there was, but never less.
func TestWhatIsJoinedHasAllThatThereWas(t *testing.T) {
	one := onceOf(3, []int{1, 5, 8}, []int{2, 5, 9})
	parts, _ := impl.NormalParts(depends("0>1", "1>2"), 3)
	joined, ok := partAndJoin(t, one, parts)
	if want := onceOf(3, []int{1, 5, 8}, []int{1, 5, 9}, []int{2, 5, 8}, []int{2, 5, 9}); !ok || !sameTables(joined, want) {
		t.Errorf("%v of %v: %v, %v", one, parts, joined, ok)
	}
	thrown := dice{806}
	more := 0
	for range 600 {
		columns := 1 + thrown.below(impl.MaxColumns)
		l := thrown.depends(columns, 4)
		parts, _ := impl.NormalParts(l, columns)
		if thrown.below(3) == 0 {
			parts = thrown.parts(columns)
		}
		one := thrown.onceWhere(nil, columns, 8, 3)
		joined, room := partAndJoin(t, one, parts)
		if !room {
			continue
		}
		for _, r := range one.Rows {
			if weight, _ := impl.WeightOf(joined, r.Row); weight != 1 {
				t.Fatalf("%v in parts %v: %v is there %d times", one, parts, r, weight)
			}
		}
		if len(joined.Rows) > len(one.Rows) {
			more++
		}
	}
	if more < 100 {
		t.Errorf("only %d told more", more)
	}
}

func TestIsNormalAsTold(t *testing.T) {
	for _, c := range []struct {
		l       []impl.Depend
		columns int
		part    string
		want    bool
	}{
		{nil, 1, "0", true},
		{nil, 6, "012345", true},
		{nil, 6, "024", true},
		{depends("0>1", "1>2"), 3, "012", false},
		{depends("0>1", "1>2"), 3, "01", true},
		{depends("0>1", "1>2"), 3, "12", true},
		{depends("0>1", "1>2"), 3, "02", true},
		{depends("0>1", "1>2"), 3, "0", true},
		{depends("0>12"), 3, "012", true},
		{depends("0>12"), 4, "012", true},
		{depends("0>12"), 4, "0123", false},
		{depends("0>12"), 4, "123", true},
		{depends("0>12345"), 6, "012345", true},
		{depends("0>1234"), 6, "012345", false},
		{depends("01>2", "2>1"), 3, "012", false},
		{depends("01>2", "2>01"), 3, "012", true},
		{depends("0>3", "3>1"), 4, "012", false},
		{depends("0>3", "3>1"), 4, "01", true},
		{depends("0>3"), 4, "012", true},
		{depends(">0"), 1, "0", true},
		{depends(">0"), 2, "01", false},
		{depends(">0"), 2, "0", true},
		{depends(">0"), 2, "1", true},
		{depends(">01"), 2, "01", true},
		{depends(">0", "0>1"), 2, "01", true},
		{depends(">0", "0>1"), 3, "12", false},
		{depends(">2"), 3, "01", true},
		{depends(">", "0>", "01>1"), 3, "012", true},
		{depends("1234>5"), 6, "012345", false},
		{depends("01234>5"), 6, "012345", true},
		{depends("012345>"), 6, "012345", true},
		{timesOver(impl.MaxDepends, depend("0>5")), 6, "05", true},
		{timesOver(impl.MaxDepends, depend("0>5")), 6, "015", false},
		// A part that is asked for alone may be of no columns: it is a rising list.
		{depends("0>1"), 3, "", true},
		{depends(">0"), 1, "", true},
	} {
		if got, ok := impl.IsNormal(c.l, c.columns, digits(c.part)); !ok || got != c.want {
			t.Errorf("IsNormal(%v, %d, %s) = %v, %v", c.l, c.columns, c.part, got, ok)
		}
	}
}

func TestIsNormalByHand(t *testing.T) {
	thrown := dice{807}
	seen := map[bool]int{}
	for range 120 {
		columns := 1 + thrown.below(impl.MaxColumns)
		l := thrown.depends(columns, 5)
		for _, part := range allParts(firstColumns(columns)) {
			want := normalByHand(l, columns, part)
			if got, ok := impl.IsNormal(l, columns, part); !ok || got != want {
				t.Fatalf("IsNormal(%v, %d, %v) = %v, %v", l, columns, part, got, ok)
			}
			seen[want]++
		}
	}
	if seen[true] < 300 || seen[false] < 300 {
		t.Error(seen)
	}
}

func TestSplitByAsTold(t *testing.T) {
	for _, c := range []struct {
		l                         []impl.Depend
		columns                   int
		part, from, first, second string
	}{
		{depends("0>1", "1>2"), 3, "012", "1", "12", "01"},
		{depends(">0"), 2, "01", "", "0", "1"},
		{depends(">0"), 3, "012", "", "0", "12"},
		{depends(">0"), 3, "012", "1", "01", "12"},
		{depends(">02"), 4, "123", "", "2", "13"},
		{depends("0>1"), 3, "012", "0", "01", "02"},
		{depends("2>1"), 3, "012", "2", "12", "02"},
		{depends("0>3", "3>1"), 4, "012", "0", "01", "02"},
		{depends("0>3", "3>1"), 4, "0123", "0", "013", "02"},
		{depends("0>3", "3>1"), 4, "0123", "3", "13", "023"},
		{depends("01>23"), 6, "012345", "01", "0123", "0145"},
		{depends("15>0"), 6, "0135", "15", "015", "135"},
		{depends("1>0", "5>3"), 6, "012345", "15", "0135", "1245"},
		{depends("1234>5"), 6, "012345", "1234", "12345", "01234"},
		{depends("0>1234"), 6, "012345", "0", "01234", "05"},
		{depends("0>1234"), 6, "012345", "03", "01234", "035"},
		{depends("0>1234"), 6, "0245", "0", "024", "05"},
	} {
		first, second, ok := impl.SplitBy(c.l, c.columns, digits(c.part), digits(c.from))
		if !ok || !slices.Equal(first, digits(c.first)) || !slices.Equal(second, digits(c.second)) {
			t.Errorf("SplitBy(%v, %d, %s, %s) = %v, %v, %v, not %s, %s", c.l, c.columns, c.part, c.from, first, second, ok, c.first, c.second)
		}
	}
}

func checkSplitRefused(t *testing.T, l []impl.Depend, columns int, part, from []int) {
	t.Helper()
	if first, second, ok := impl.SplitBy(l, columns, part, from); len(first) != 0 || len(second) != 0 || ok {
		t.Errorf("SplitBy(%v, %d, %v, %v) = %v, %v, %v", l, columns, part, from, first, second, ok)
	}
}

func TestSplitByRefuses(t *testing.T) {
	for _, c := range []struct {
		l          []impl.Depend
		columns    int
		part, from string
	}{
		// It tells nothing more of the part.
		{nil, 1, "0", ""},
		{nil, 1, "0", "0"},
		{nil, 6, "012345", "012"},
		{depends("0>1"), 3, "012", ""},
		{depends("0>1"), 3, "012", "2"},
		{depends("0>1"), 3, "012", "12"},
		{depends("0>1"), 3, "02", "0"},
		{depends("0>12"), 4, "03", "0"},
		{depends(">0"), 3, "12", ""},
		{depends(">0"), 3, "12", "1"},
		// It tells all of the part.
		{depends("0>1"), 3, "01", "0"},
		{depends("0>1"), 3, "012", "02"},
		{depends("0>1"), 3, "012", "012"},
		{depends("0>12"), 3, "012", "0"},
		{depends("0>1", "1>2"), 3, "02", "0"},
		{depends(">01"), 2, "01", ""},
		{depends(">0"), 1, "0", ""},
		// It is not within the part.
		{depends("0>1"), 3, "12", "0"},
		{depends("0>1"), 4, "123", "02"},
		{depends("0>12"), 4, "123", "0"},
		{depends("0>1"), 3, "", "0"},
		{depends("0>1"), 3, "", ""},
		{depends(">0"), 3, "", ""},
	} {
		checkSplitRefused(t, c.l, c.columns, digits(c.part), digits(c.from))
	}
	for _, bad := range badLists() {
		checkSplitRefused(t, depends("0>1"), 3, digits("012"), bad)
		checkSplitRefused(t, depends("0>1"), 3, bad, digits("0"))
		checkSplitRefused(t, depends(">0"), 3, bad, nil)
		checkSplitRefused(t, depends(">0"), 3, bad, bad)
		checkSplitRefused(t, nil, 3, bad, bad)
	}
	for _, bad := range badDependLists() {
		checkSplitRefused(t, bad, 3, digits("012"), digits("0"))
		checkSplitRefused(t, bad, 3, digits("012"), nil)
	}
	for _, columns := range badColumns() {
		checkSplitRefused(t, nil, columns, nil, nil)
		checkSplitRefused(t, depends("0>1"), columns, digits("012"), digits("0"))
		checkSplitRefused(t, depends(">0"), columns, digits("01"), nil)
	}
}

// Both together have all columns of the part, fewer each, and what both have tells the first one.
func TestSplitByTellsHalvesOfWhichOneIsTold(t *testing.T) {
	thrown := dice{808}
	split, kept := 0, 0
	for range 150 {
		columns := 1 + thrown.below(impl.MaxColumns)
		l := thrown.depends(columns, 5)
		part := thrown.columns(columns)
		if thrown.below(2) == 0 {
			part = firstColumns(columns)
		}
		for _, from := range allParts(firstColumns(columns)) {
			want, rest, splits := splitByHand(l, columns, part, from)
			first, second, ok := impl.SplitBy(l, columns, part, from)
			if ok != splits || !slices.Equal(first, want) || !slices.Equal(second, rest) {
				t.Fatalf("SplitBy(%v, %d, %v, %v) = %v, %v, %v, not %v, %v, %v", l, columns, part, from, first, second, ok, want, rest, splits)
			}
			if !ok {
				kept++
				continue
			}
			split++
			both := slices.Compact(slices.Sorted(slices.Values(slices.Concat(first, second))))
			tells, good := impl.Implies(l, columns, impl.Depend{From: common(first, second), To: first})
			if !slices.Equal(both, part) || len(first) >= len(part) || len(second) >= len(part) || !tells || !good {
				t.Fatalf("SplitBy(%v, %d, %v, %v) = %v, %v", l, columns, part, from, first, second)
			}
		}
	}
	if split < 300 || kept < 300 {
		t.Errorf("%d were split, %d were not", split, kept)
	}
}

// A part is not normal just where SplitBy tells true of one of its lists.
func TestIsNormalIsWhereSplitByTellsNothing(t *testing.T) {
	thrown := dice{809}
	for range 100 {
		columns := 1 + thrown.below(impl.MaxColumns)
		l := thrown.depends(columns, 5)
		for _, part := range allParts(firstColumns(columns)) {
			splits := slices.ContainsFunc(allParts(part), func(from []int) bool {
				_, _, ok := impl.SplitBy(l, columns, part, from)
				return ok
			})
			if normal, ok := impl.IsNormal(l, columns, part); !ok || normal == splits {
				t.Fatalf("IsNormal(%v, %d, %v) = %v, %v, split: %v", l, columns, part, normal, ok, splits)
			}
		}
	}
}

func TestNormalPartsAsTold(t *testing.T) {
	chain := depends("0>1", "1>2", "2>3", "3>4", "4>5")
	for _, c := range []struct {
		l       []impl.Depend
		columns int
		want    [][]int
	}{
		{nil, 1, lists("0")},
		{nil, 6, lists("012345")},
		{depends(">", "0>", "01>1"), 3, lists("012")},
		{depends("0>1", "1>2"), 3, lists("12", "01")},
		{depends("1>2", "0>1"), 3, lists("12", "01")},
		{depends("0>12"), 3, lists("012")},
		{depends("0>12345"), 6, lists("012345")},
		{depends(">0"), 1, lists("0")},
		{depends(">0"), 2, lists("0", "1")},
		{depends(">1"), 3, lists("1", "02")},
		{depends(">01"), 2, lists("01")},
		{depends(">01"), 4, lists("01", "23")},
		{depends(">0", "1>2"), 4, lists("0", "12", "13")},
		{depends("0>1"), 3, lists("01", "02")},
		{depends("0>1", "2>3"), 4, lists("01", "23", "02")},
		{depends("2>3", "0>1"), 4, lists("01", "23", "02")},
		{depends("3>2", "1>0"), 4, lists("01", "23", "13")},
		{chain, 6, lists("45", "34", "23", "12", "01")},
		{depends("1>0", "2>1", "3>2", "4>3", "5>4"), 6, lists("01", "12", "23", "34", "45")},
		{depends("0>1", "0>2"), 6, lists("012", "0345")},
		// What is split is found in the halves: 3 is told by 2, which the first half has.
		{depends("01>2", "2>3"), 4, lists("23", "012")},
		{depends("0>123", "2>3"), 5, lists("23", "012", "04")},
		{depends("0>1", "1>2", "3>4"), 6, lists("12", "01", "34", "035")},
		// By how many first: 3 alone goes ahead of 0 and 1.
		{depends("01>2", "3>2"), 4, lists("23", "013")},
		{depends("01>4", "35>2"), 6, lists("014", "235", "0135")},
		// Then by the first number that is unlike: 0 and 5 go ahead of 1 and 2.
		{depends("12>3", "05>4"), 6, lists("045", "123", "0125")},
		{depends("5>0", "4>1"), 6, lists("14", "05", "2345")},
		{depends("2>1", "01>2"), 3, lists("12", "02")},
		{depends("1234>5"), 6, lists("12345", "01234")},
		{depends("01234>5"), 6, lists("012345")},
		{timesOver(impl.MaxDepends, depend("0>5")), 6, lists("05", "01234")},
	} {
		if got, ok := impl.NormalParts(c.l, c.columns); !ok || !sameLists(got, c.want) {
			t.Errorf("NormalParts(%v, %d) = %v, %v, not %v", c.l, c.columns, got, ok, c.want)
		}
	}
}

func checkNormalParts(t *testing.T, l []impl.Depend, columns int) [][]int {
	t.Helper()
	want, fits := normalPartsByHand(l, columns)
	got, ok := impl.NormalParts(l, columns)
	if ok != fits || !sameLists(got, want) {
		t.Fatalf("NormalParts(%v, %d) = %v, %v, not %v, %v", l, columns, got, ok, want, fits)
	}
	if !impl.GoodParts(got, columns) {
		t.Fatalf("NormalParts(%v, %d) = %v: no good parts", l, columns, got)
	}
	for i, part := range got {
		if normal, ok := impl.IsNormal(l, columns, part); !normal || !ok {
			t.Fatalf("NormalParts(%v, %d) = %v: %v is not normal: %v", l, columns, got, part, ok)
		}
		for j, other := range got {
			if i != j && hasAll(other, part) {
				t.Fatalf("NormalParts(%v, %d) = %v: %v is within %v", l, columns, got, part, other)
			}
		}
	}
	return got
}

func TestNormalPartsByHand(t *testing.T) {
	thrown := dice{810}
	seen := map[int]int{}
	for range 500 {
		columns := 1 + thrown.below(impl.MaxColumns)
		seen[len(checkNormalParts(t, thrown.depends(columns, thrown.oneOf(2, 4, impl.MaxDepends)), columns))]++
	}
	for range 300 {
		var l []impl.Depend
		for range 1 + thrown.below(5) {
			from := slices.Compact(slices.Sorted(slices.Values([]int{thrown.below(6), thrown.below(6)})))
			l = append(l, impl.Depend{From: from, To: []int{thrown.below(6)}})
		}
		seen[len(checkNormalParts(t, l, 6))]++
	}
	if seen[1] < 50 || seen[2] < 50 || seen[3] < 50 || seen[4] < 20 {
		t.Error(seen)
	}
}

// Lists that split come to be no shorter, and halves are longer than these: so there are never more than 5 parts of MaxColumns columns, and none is within another one.
func TestNormalPartsAreNeverMany(t *testing.T) {
	for columns := 1; columns <= 4; columns++ {
		var all []impl.Depend
		for _, from := range allParts(firstColumns(columns)) {
			for n := range columns {
				if !slices.Contains(from, n) {
					all = append(all, impl.Depend{From: from, To: []int{n}})
				}
			}
		}
		for i := range all {
			for j := range all[:i+1] {
				l := []impl.Depend{all[i], all[j]}
				if parts := checkNormalParts(t, l, columns); len(parts) > max(2, columns-1) {
					t.Fatalf("NormalParts(%v, %d) = %v", l, columns, parts)
				}
			}
		}
	}
	thrown := dice{811}
	most := 0
	for range 3000 {
		l := thrown.depends(6, impl.MaxDepends)
		parts, ok := impl.NormalParts(l, 6)
		if !ok || len(parts) > 5 {
			t.Fatalf("NormalParts(%v, 6) = %v, %v", l, parts, ok)
		}
		most = max(most, len(parts))
	}
	if most < 4 {
		t.Errorf("there were no more than %d parts", most)
	}
}

func TestNormalPartsRefuses(t *testing.T) {
	refused := func(l []impl.Depend, columns int) {
		t.Helper()
		if got, ok := impl.NormalParts(l, columns); len(got) != 0 || ok {
			t.Errorf("NormalParts(%v, %d) = %v, %v", l, columns, got, ok)
		}
	}
	for _, bad := range badDependLists() {
		refused(bad, 3)
	}
	for _, columns := range badColumns() {
		refused(nil, columns)
		refused(depends("0>1"), columns)
		refused(depends(">"), columns)
	}
}

func TestDependsInAsTold(t *testing.T) {
	for _, c := range []struct {
		l       []impl.Depend
		columns int
		part    string
		want    []impl.Depend
	}{
		{nil, 1, "0", nil},
		{nil, 6, "012345", nil},
		{depends("0>1", "1>2"), 3, "02", depends("0>2")},
		{depends("0>1", "1>2"), 3, "0", nil},
		{depends("0>1", "1>2"), 3, "01", depends("0>1")},
		{depends("0>1", "1>2"), 3, "012", depends("0>12", "1>2", "01>2", "02>1")},
		{depends("0>12"), 3, "12", nil},
		{depends("0>012"), 3, "02", depends("0>2")},
		{depends(">0"), 1, "0", depends(">0")},
		{depends(">0"), 2, "01", depends(">0", "1>0")},
		{depends(">0"), 2, "1", nil},
		{depends(">01"), 2, "01", depends(">01", "0>1", "1>0")},
		{depends("0>1", "0>1", "0>", ">"), 3, "012", depends("0>1", "02>1")},
		{depends("0>3", "3>1"), 4, "012", depends("0>1", "02>1")},
		{depends("05>3", "3>1"), 6, "0125", depends("05>1", "025>1")},
		{depends("01234>5"), 6, "012345", depends("01234>5")},
		{depends("1234>05"), 6, "012345", depends("1234>05", "01234>5", "12345>0")},
		{depends("34>0", "12>5"), 6, "0345", depends("34>0", "345>0")},
		{depends(">2", "1>3"), 4, "0123", depends(">2", "0>2", "1>23", "3>2", "01>23", "03>2", "12>3", "13>2", "012>3", "013>2")},
		{depends("0>3", "3>1", "1>3"), 4, "0123", depends("0>13", "1>3", "3>1", "01>3", "02>13", "03>1", "12>3", "23>1", "012>3", "023>1")},
		{depends("2>3", "3>2", "1>2"), 5, "0123", depends("1>23", "2>3", "3>2", "01>23", "02>3", "03>2", "12>3", "13>2", "012>3", "013>2")},
		{depends("125>0", "0>1"), 6, "01245", depends("0>1", "02>1", "04>1", "05>1", "024>1", "025>1", "045>1", "125>0", "0245>1", "1245>0")},
		// A part that is asked for alone may be of no columns: it is a rising list.
		{depends(">0", "0>1"), 3, "", nil},
	} {
		if got, ok := impl.DependsIn(c.l, c.columns, digits(c.part)); !ok || !sameDependLists(got, c.want) {
			t.Errorf("DependsIn(%v, %d, %s) = %v, %v, not %v", c.l, c.columns, c.part, got, ok, c.want)
		}
	}
}

func TestDependsInOfTooMany(t *testing.T) {
	for _, c := range []struct {
		l       []impl.Depend
		columns int
		part    string
	}{
		{depends("0>1", "1>2", "2>3"), 4, "0123"},
		{depends("01>3", "123>0", ">1"), 4, "0123"},
		{depends("2>3", "01>4"), 5, "01234"},
		{depends(">4", "2>3", "24>1"), 5, "1234"},
		{depends("15>3", "2>0"), 6, "01235"},
		{depends("14>2", "015>3"), 6, "012345"},
		{depends("0>1"), 6, "012345"},
		{depends(">012345"), 6, "012345"},
	} {
		if got, ok := impl.DependsIn(c.l, c.columns, digits(c.part)); len(got) != 0 || ok {
			t.Errorf("DependsIn(%v, %d, %s) = %v, %v", c.l, c.columns, c.part, got, ok)
		}
	}
}

func TestDependsInByHand(t *testing.T) {
	thrown := dice{812}
	told, exact, refused := 0, 0, 0
	for range 250 {
		columns := 1 + thrown.below(impl.MaxColumns)
		l := thrown.depends(columns, 4)
		for _, part := range allParts(firstColumns(columns)) {
			want, fits := dependsInByHand(l, columns, part)
			got, ok := impl.DependsIn(l, columns, part)
			if ok != fits || !sameDependLists(got, want) {
				t.Fatalf("DependsIn(%v, %d, %v) = %v, %v, not %v, %v", l, columns, part, got, ok, want, fits)
			}
			switch {
			case !ok:
				refused++
			case len(got) == impl.MaxDepends:
				exact++
			case len(got) > 0:
				told++
			}
		}
	}
	if told < 200 || exact < 10 || refused < 100 {
		t.Errorf("%d had some, %d exactly MaxDepends, %d were refused", told, exact, refused)
	}
}

// What DependsIn tells says of each list of the part's columns what ClosureOf has of the part.
func TestDependsInSaysOfThePartWhatClosuresSay(t *testing.T) {
	thrown := dice{813}
	asked := 0
	for range 400 {
		columns := 1 + thrown.below(impl.MaxColumns)
		l := thrown.depends(columns, 4)
		part := thrown.some(columns)
		within, ok := impl.DependsIn(l, columns, part)
		if !ok {
			continue
		}
		for i, d := range within {
			if i > 0 && cmp.Or(cmp.Compare(len(within[i-1].From), len(d.From)), slices.Compare(within[i-1].From, d.From)) >= 0 {
				t.Fatalf("DependsIn(%v, %d, %v) = %v: not in order", l, columns, part, within)
			}
			if len(d.To) == 0 || len(common(d.From, d.To)) > 0 || !hasAll(part, slices.Concat(d.From, d.To)) {
				t.Fatalf("DependsIn(%v, %d, %v) = %v: %v", l, columns, part, within, d)
			}
		}
		for _, from := range allParts(part) {
			closed, _ := impl.ClosureOf(l, columns, from)
			inner, good := impl.ClosureOf(within, columns, from)
			if !good || !slices.Equal(inner, common(part, closed)) {
				t.Fatalf("DependsIn(%v, %d, %v) = %v: of %v it tells %v, of %v is told %v", l, columns, part, within, from, inner, part, closed)
			}
			if len(inner) > len(from) {
				asked++
			}
		}
	}
	if asked < 150 {
		t.Errorf("only %d lists told more", asked)
	}
}

func checkPartRefused(t *testing.T, l []impl.Depend, columns int, part []int) {
	t.Helper()
	if got, ok := impl.IsNormal(l, columns, part); got || ok {
		t.Errorf("IsNormal(%v, %d, %v) = %v, %v", l, columns, part, got, ok)
	}
	if got, ok := impl.DependsIn(l, columns, part); len(got) != 0 || ok {
		t.Errorf("DependsIn(%v, %d, %v) = %v, %v", l, columns, part, got, ok)
	}
}

func TestIsNormalAndDependsInRefuse(t *testing.T) {
	for _, bad := range badLists() {
		checkPartRefused(t, nil, 3, bad)
		checkPartRefused(t, depends("0>1"), 3, bad)
		checkPartRefused(t, depends("0>1", "1>2"), 3, bad)
	}
	for _, bad := range badDependLists() {
		checkPartRefused(t, bad, 3, digits("0"))
		checkPartRefused(t, bad, 3, digits("012"))
	}
	for _, columns := range badColumns() {
		checkPartRefused(t, nil, columns, nil)
		checkPartRefused(t, nil, columns, digits("0"))
		checkPartRefused(t, depends("0>1"), columns, digits("01"))
	}
	for columns := 1; columns <= impl.MaxColumns; columns++ {
		checkPartRefused(t, nil, columns, []int{columns})
		checkPartRefused(t, nil, columns, []int{0, math.MaxInt})
		checkPartRefused(t, nil, columns, []int{-1, 0})
	}
}

func splitAnswers(l []impl.Depend, columns int, part, from []int) []any {
	first, second, ok := impl.SplitBy(l, columns, part, from)
	return []any{first, second, ok}
}

// anyPartLists are parts, good for some number of columns or for none.
func anyPartLists() [][][]int {
	thrown := dice{814}
	out := append(badPartLists(), goodPartLists()...)
	for range 60 {
		out = append(out, thrown.parts(1+thrown.below(impl.MaxColumns)))
	}
	return out
}

// anyTableLists are tables for these parts, or not.
func (d *dice) anyTableLists(parts [][]int) [][]impl.Table {
	var suited []impl.Table
	for _, part := range parts {
		suited = append(suited, d.onceWhere(nil, min(len(part), impl.MaxColumns), 5, 2))
	}
	return [][]impl.Table{nil, suited, append(slices.Clone(suited), table(1)), badTables(), goodTables()[:min(len(parts), 20)], d.tablesFor([]int{1, 2, 3}, -1, 1, 2)}
}

// Promise 19: each function of chapter 8 answers at any arguments, the same each time, in new memory, and writes into none.
func TestPartsAnswerAndWriteNothing(t *testing.T) {
	thrown := dice{815}
	allTables := slices.Concat(squareTables(-1, 0, 2)[:40], goodTables(), badTables())
	for i, parts := range anyPartLists() {
		parts := withGuards(parts)
		for _, columns := range append(badColumns(), 1, 2, 3, 4, 5, 6) {
			checkCall(t, "GoodParts", func() []any { return []any{impl.GoodParts(parts, columns)} }, parts)
		}
		for range 3 {
			one := withGuards(allTables[thrown.below(len(allTables))])
			checkCall(t, "PartTables", func() []any { return answers(impl.PartTables(one, parts)) }, one, parts)
		}
		for columns := 1; columns <= impl.MaxColumns; columns++ {
			one := withGuards(thrown.tableWhere(nil, columns))
			checkCall(t, "PartTables", func() []any { return answers(impl.PartTables(one, parts)) }, one, parts)
		}
		for _, l := range thrown.anyTableLists(parts) {
			l := withGuards(l)
			for _, columns := range []int{badColumns()[i%len(badColumns())], 1, 2, 3, 4, 5, 6} {
				checkCall(t, "JoinParts", func() []any { return answers(impl.JoinParts(l, parts, columns)) }, l, parts)
			}
		}
	}
	asked := append(badLists(), lists("", "0", "12", "012", "135", "012345")...)
	for i, l := range anyDepends() {
		l := withGuards(l)
		part, from := withGuards(asked[i%len(asked)]), withGuards(asked[i*11%len(asked)])
		for _, columns := range append(badColumns(), 1, 2, 3, 4, 5, 6) {
			checkCall(t, "IsNormal", func() []any { return answers(impl.IsNormal(l, columns, part)) }, l, part)
			checkCall(t, "DependsIn", func() []any { return answers(impl.DependsIn(l, columns, part)) }, l, part)
			checkCall(t, "NormalParts", func() []any { return answers(impl.NormalParts(l, columns)) }, l)
			checkCall(t, "SplitBy", func() []any { return splitAnswers(l, columns, part, from) }, l, part, from)
			checkCall(t, "SplitBy", func() []any { return splitAnswers(l, columns, part, part) }, l, part)
			if len(l) > 0 {
				checkCall(t, "SplitBy", func() []any { return splitAnswers(l, columns, part, l[0].From) }, l, part)
				checkCall(t, "IsNormal", func() []any { return answers(impl.IsNormal(l, columns, l[0].To)) }, l)
				checkCall(t, "DependsIn", func() []any { return answers(impl.DependsIn(l, columns, l[0].From)) }, l)
			}
		}
	}
}

// Good calls, too, hand out memory that is new: what is told is written over, and all is asked once more.
func TestPartsHandOutNewMemory(t *testing.T) {
	thrown := dice{816}
	for range 200 {
		columns := 1 + thrown.below(impl.MaxColumns)
		l := withGuards(thrown.depends(columns, 4))
		whole := withGuards(firstColumns(columns))
		one := withGuards(thrown.onceWhere(l, columns, 6, 3))
		parts, _ := impl.NormalParts(l, columns)
		parts = withGuards(parts)
		parted, _ := impl.PartTables(one, parts)
		parted = withGuards(parted)
		checkCall(t, "PartTables", func() []any { return answers(impl.PartTables(one, parts)) }, one, parts)
		checkCall(t, "JoinParts", func() []any { return answers(impl.JoinParts(parted, parts, columns)) }, parted, parts)
		checkCall(t, "JoinParts", func() []any { return answers(impl.JoinParts([]impl.Table{one}, [][]int{whole}, columns)) }, one, whole)
		for _, from := range allParts(whole) {
			from := withGuards(from)
			checkCall(t, "SplitBy", func() []any { return splitAnswers(l, columns, whole, from) }, l, whole, from)
			checkCall(t, "DependsIn", func() []any { return answers(impl.DependsIn(l, columns, from)) }, l, from)
		}
	}
}

// What lies behind a list's length does not count.
func TestPartsDoNotReadBehindTheirLists(t *testing.T) {
	all := func(one impl.Table, l []impl.Depend, parts [][]int, parted []impl.Table, columns int) string {
		var part, from []int
		if len(parts) > 0 {
			part, from = parts[0], parts[len(parts)-1]
		}
		return fmt.Sprint(impl.GoodParts(parts, columns), answers(impl.PartTables(one, parts)), answers(impl.JoinParts(parted, parts, columns)), answers(impl.IsNormal(l, columns, part)), answers(impl.NormalParts(l, columns)), splitAnswers(l, columns, part, from), answers(impl.DependsIn(l, columns, part)))
	}
	thrown := dice{817}
	for _, parts := range anyPartLists() {
		columns := 1 + thrown.below(impl.MaxColumns)
		one, l := thrown.tableWhere(nil, columns), thrown.depends(columns, 4)
		parted, _ := impl.PartTables(one, parts)
		plain := all(one, l, parts, parted, columns)
		if got := all(withGuards(one), withGuards(l), withGuards(parts), withGuards(parted), columns); got != plain {
			t.Errorf("%v in parts %v: %s, with guards behind the lists %s", one, parts, plain, got)
		}
	}
}
