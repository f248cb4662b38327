package tests

import (
	"fmt"
	"math"
	"slices"
	"testing"

	"loop.example/g00305/impl"
)

func group(count, sum int, key ...int) impl.Group {
	return impl.Group{Key: row(key...), Count: count, Sum: sum}
}

func groups(l ...impl.Group) []impl.Group {
	return l
}

// countedGroups has the groups with the keys from, from+1 and so on, each with this Count and Sum.
func countedGroups(many, from, count, sum int) []impl.Group {
	var out []impl.Group
	for i := range many {
		out = append(out, group(count, sum, from+i))
	}
	return out
}

func sameGroups(a, b []impl.Group) bool {
	return slices.EqualFunc(a, b, func(x, y impl.Group) bool {
		return x.Count == y.Count && x.Sum == y.Sum && slices.Equal(x.Key.Cells, y.Key.Cells)
	})
}

// goodGroupsByHand says again, with other means, which groups are good.
func goodGroupsByHand(l []impl.Group) bool {
	const most = 100000000000000
	for _, one := range l {
		if len(one.Key.Cells) > 6 || len(one.Key.Cells) != len(l[0].Key.Cells) {
			return false
		}
		if slices.ContainsFunc(one.Key.Cells, func(n int) bool { return n < -100000 || n > 100000 }) {
			return false
		}
		if one.Count < -most || one.Count > most || one.Sum < -most || one.Sum > most || one.Count == 0 && one.Sum == 0 {
			return false
		}
	}
	for i := 1; i < len(l); i++ {
		if slices.Compare(l[i-1].Key.Cells, l[i].Key.Cells) >= 0 {
			return false
		}
	}
	return len(l) <= 60
}

// addByHand says again, with other means, what groups that stand in any order come to.
func addByHand(l []impl.Group) ([]impl.Group, bool) {
	sorted := slices.Clone(l)
	slices.SortFunc(sorted, func(x, y impl.Group) int { return slices.Compare(x.Key.Cells, y.Key.Cells) })
	var out []impl.Group
	for len(sorted) > 0 {
		one := impl.Group{Key: sorted[0].Key}
		for len(sorted) > 0 && slices.Equal(sorted[0].Key.Cells, one.Key.Cells) {
			one.Count += sorted[0].Count
			one.Sum += sorted[0].Sum
			sorted = sorted[1:]
		}
		if one.Count != 0 || one.Sum != 0 {
			out = append(out, one)
		}
	}
	if !goodGroupsByHand(out) {
		return nil, false
	}
	return out, true
}

func pickByHand(cells []int, columns []int) ([]int, bool) {
	var out []int
	for _, column := range columns {
		if column < 0 || column >= len(cells) {
			return nil, false
		}
		out = append(out, cells[column])
	}
	return out, len(columns) <= 6
}

func groupTableByHand(t impl.Table, keys []int, sum int) ([]impl.Group, bool) {
	_, good := pickByHand(make([]int, t.Columns), keys)
	if !good || sum < 0 || sum >= t.Columns {
		return nil, false
	}
	var ofRows []impl.Group
	for _, one := range t.Rows {
		key, _ := pickByHand(one.Row.Cells, keys)
		ofRows = append(ofRows, group(one.Weight, one.Weight*one.Row.Cells[sum], key...))
	}
	return addByHand(ofRows)
}

func rollUpByHand(l []impl.Group, columns []int) ([]impl.Group, bool) {
	if len(columns) > 6 || slices.ContainsFunc(columns, func(n int) bool { return n < 0 }) {
		return nil, false
	}
	var picked []impl.Group
	for _, one := range l {
		key, good := pickByHand(one.Key.Cells, columns)
		if !good {
			return nil, false
		}
		picked = append(picked, group(one.Count, one.Sum, key...))
	}
	return addByHand(picked)
}

// smallGroups has all groups with the keys 1 and 2 and one of these numbers as Count and as Sum each, or none where both are 0.
func smallGroups(numbers ...int) [][]impl.Group {
	var out [][]impl.Group
	for _, l := range listsUpTo(4, numbers) {
		if len(l) < 4 {
			continue
		}
		both, _ := addByHand(groups(group(l[0], l[1], 1), group(l[2], l[3], 2)))
		out = append(out, both)
	}
	return out
}

func goodGroups() [][]impl.Group {
	most, top, low := impl.MaxSum, impl.MaxCell, -impl.MaxCell
	return append(smallGroups(-most, 0, 1, most),
		nil,
		[]impl.Group{},
		groups(group(1, 1)),
		groups(group(0, -most)),
		groups(group(most, 0)),
		groups(group(3, 17, 1), group(1, 3, 2)),
		groups(group(1, 0, -1, 5), group(0, 1, 0, -5), group(-1, -1, 0, 4), group(2, -7, 1, -9)),
		groups(group(1, 2, 1, 2, 3), group(4, 0, 1, 3, 2), group(-1, 8, 2, 2, 3)),
		groups(group(1, 2, 0, 1, 2, 3), group(top, low, 1, 1, 2, 3), group(low, top, 1, 1, 2, 4)),
		groups(group(1, 2, 1, 2, 3, 4, 5)),
		groups(group(1, 2, low, low, low, low, low, low), group(1, 2, 1, 2, 3, 4, 5, 6), group(1, 2, top, top, top, top, top, top)),
		countedGroups(impl.MaxRows, -30, 1, 0),
		countedGroups(impl.MaxRows, -30, -1, 5),
		countedGroups(impl.MaxRows, 5, most, most),
		countedGroups(impl.MaxRows, 0, -most, -most),
		countedGroups(impl.MaxRows, 0, top, low))
}

func badGroups() [][]impl.Group {
	most, top := impl.MaxSum, impl.MaxCell
	return [][]impl.Group{
		groups(group(1, 1, 2), group(1, 1, 1)),
		groups(group(1, 1, 1), group(1, 1, 3), group(1, 1, 2)),
		groups(group(1, 1, 1, 2), group(1, 1, 1, 1)),
		groups(group(1, 1, 1), group(1, 1, 1)),
		groups(group(1, 1, 1), group(-1, -1, 1)),
		groups(group(1, 1), group(1, 1)),
		groups(group(1, 1), group(1, 1, 1)),
		groups(group(1, 1, 1), group(1, 1)),
		groups(group(1, 1, 1), group(1, 1, 1, 2)),
		groups(group(1, 1, 1, 2), group(1, 1, 2)),
		groups(group(1, 1, 1, 2), group(1, 1, 1, 3), group(1, 1, 1, 3, 0)),
		groups(group(1, 1, top+1)),
		groups(group(1, 1, -top-1)),
		groups(group(1, 1, 1), group(1, 1, math.MaxInt)),
		groups(group(1, 1, math.MinInt), group(1, 1, 1)),
		groups(group(1, 1, 1, 2, 3, 4, 5, 6, 7)),
		groups(group(1, 1, 1, 2, 3, 4, 5, 6, 7), group(1, 1, 1, 2, 3, 4, 5, 6, 8)),
		groups(group(1, 1, make([]int, 1000)...)),
		groups(group(0, 0)),
		groups(group(0, 0, 1)),
		groups(group(1, 1, 1), group(0, 0, 2)),
		groups(group(most+1, 1, 1)),
		groups(group(-most-1, 1, 1)),
		groups(group(1, most+1, 1)),
		groups(group(1, -most-1, 1)),
		groups(group(0, most+1)),
		groups(group(math.MaxInt, 1, 1)),
		groups(group(1, 1, 1), group(1, math.MinInt, 2)),
		groups(group(math.MinInt, math.MinInt)),
		countedGroups(impl.MaxRows+1, 0, 1, 1),
		countedGroups(2000, 0, 1, 1),
		make([]impl.Group, 1),
		make([]impl.Group, 5000),
	}
}

func TestGroupConstant(t *testing.T) {
	if impl.MaxSum != 100000000000000 {
		t.Error(impl.MaxSum)
	}
}

func TestGoodGroups(t *testing.T) {
	for _, l := range goodGroups() {
		if !impl.GoodGroups(l) || !goodGroupsByHand(l) {
			t.Errorf("%v are good", l)
		}
	}
	for _, l := range badGroups() {
		if impl.GoodGroups(l) || goodGroupsByHand(l) {
			t.Errorf("%v are not good", l)
		}
	}
}

func TestGroupTableAsTold(t *testing.T) {
	most, top, low := impl.MaxWeight, impl.MaxCell, -impl.MaxCell
	three := table(3, weighted(2, 1, 5, 0), weighted(-1, 1, 6, 4), weighted(3, 2, 5, -7))
	six := table(6, weighted(-2, 1, 2, 3, 4, 5, 6), weighted(3, 1, 2, 3, 4, 5, 7))
	for _, c := range []struct {
		t    impl.Table
		keys []int
		sum  int
		want []impl.Group
	}{
		{table(2, weighted(2, 1, 5), weighted(1, 1, 7), weighted(1, 2, 3)), []int{0}, 1, groups(group(3, 17, 1), group(1, 3, 2))},
		{three, []int{0}, 1, groups(group(1, 4, 1), group(3, 15, 2))},
		{three, []int{1}, 0, groups(group(5, 8, 5), group(-1, -1, 6))},
		{three, []int{1}, 2, groups(group(5, -21, 5), group(-1, -4, 6))},
		{three, []int{2, 0}, 1, groups(group(3, 15, -7, 2), group(2, 10, 0, 1), group(-1, -6, 4, 1))},
		{three, nil, 1, groups(group(4, 19))},
		{three, []int{}, 2, groups(group(4, -25))},
		{three, []int{0, 0}, 1, groups(group(1, 4, 1, 1), group(3, 15, 2, 2))},
		{three, []int{1}, 1, groups(group(5, 25, 5), group(-1, -6, 6))},
		{three, []int{1, 0, 1}, 1, groups(group(2, 10, 5, 1, 5), group(3, 15, 5, 2, 5), group(-1, -6, 6, 1, 6))},
		{three, []int{0, 1, 2, 0, 1, 2}, 2, groups(group(2, 0, 1, 5, 0, 1, 5, 0), group(-1, -4, 1, 6, 4, 1, 6, 4), group(3, -21, 2, 5, -7, 2, 5, -7))},
		{six, []int{0, 1, 2, 3, 4, 5}, 5, groups(group(-2, -12, 1, 2, 3, 4, 5, 6), group(3, 21, 1, 2, 3, 4, 5, 7))},
		{six, []int{4, 3}, 5, groups(group(1, 9, 5, 4))},
		{table(2), []int{0}, 1, nil},
		{table(2), nil, 0, nil},
		{table(6), []int{5, 4, 3, 2, 1, 0}, 5, nil},
		{table(2, weighted(1, 1, 5), weighted(-1, 1, 6)), []int{0}, 1, groups(group(0, -1, 1))},
		{table(2, weighted(2, 1, 3), weighted(-1, 1, 6)), []int{0}, 1, groups(group(1, 0, 1))},
		{table(2, weighted(4, 1, 0)), []int{0}, 1, groups(group(4, 0, 1))},
		{table(3, weighted(1, 1, 5, 1), weighted(-1, 1, 5, 2), weighted(1, 2, 0, 0)), []int{0}, 1, groups(group(1, 0, 2))},
		{table(3, weighted(1, 1, 5, 1), weighted(-1, 1, 5, 2)), []int{0}, 1, nil},
		{table(3, weighted(1, 1, 5, 1), weighted(-1, 1, 5, 2), weighted(1, 1, 7, 0)), []int{0}, 1, groups(group(1, 7, 1))},
		{table(1, weighted(1, 0), weighted(-2, 1), weighted(1, 2)), nil, 0, nil},
		{table(1, countedRows(impl.MaxRows, 0, 2)...), []int{0}, 0, groupsOfCounted(2)},
		{table(1, countedRows(impl.MaxRows, 0, -most)...), []int{0}, 0, groupsOfCounted(-most)},
		{table(1, countedRows(impl.MaxRows, top-59, most)...), nil, 0, groups(group(60*most, most*(60*top-59*30)))},
		{table(2, weighted(most, low, top), weighted(-most, top, low)), []int{0}, 1, groups(group(most, most*top, low), group(-most, most*top, top))},
	} {
		if got, ok := impl.GroupTable(c.t, c.keys, c.sum); !ok || !sameGroups(got, c.want) {
			t.Errorf("GroupTable(%v, %v, %d) = %v, %v, not %v", c.t, c.keys, c.sum, got, ok, c.want)
		}
	}
}

// groupsOfCounted has the groups of each row of its own of MaxRows rows from 0 on.
func groupsOfCounted(weight int) []impl.Group {
	var out []impl.Group
	for i := range impl.MaxRows {
		out = append(out, group(weight, weight*i, i))
	}
	return out
}

func TestGroupTableRefuses(t *testing.T) {
	check := func(a impl.Table, keys []int, sum int) {
		t.Helper()
		if got, ok := impl.GroupTable(a, keys, sum); ok || len(got) != 0 {
			t.Errorf("GroupTable(%v, %v, %d) = %v, %v", a, keys, sum, got, ok)
		}
	}
	for _, bad := range badTables() {
		for _, keys := range [][]int{nil, {0}, {0, 0}} {
			check(bad, keys, 0)
			check(bad, keys, 6)
			check(bad, keys, -1)
		}
	}
	two := table(2, weighted(2, 1, 5), weighted(1, 1, 7))
	for _, a := range []impl.Table{two, table(2)} {
		for _, keys := range [][]int{{-1}, {2}, {0, 2}, {0, 1, -1}, {6}, {math.MinInt}, {0, math.MaxInt}, {0, 0, 0, 0, 0, 0, 0}, {0, 1, 0, 1, 0, 1, 0}, make([]int, 1000)} {
			check(a, keys, 0)
		}
		for _, sum := range []int{-1, 2, 3, 6, math.MinInt, math.MaxInt} {
			check(a, nil, sum)
			check(a, []int{0}, sum)
		}
	}
	for _, sum := range []int{-1, 0, 1} {
		check(table(0), nil, sum)
		check(table(0, weighted(1)), nil, sum)
		check(table(0, weighted(1)), []int{0}, sum)
	}
	check(table(6), []int{0, 1, 2, 3, 4, 5, 5}, 0)
}

func groupColumns() [][]int {
	return [][]int{nil, {0}, {1}, {2}, {0, 1}, {1, 0}, {1, 1}, {2, 0, 1}, {0, 1, 0, 1, 0, 1}, {0, 0, 0, 0, 0, 0, 0}, {-1}, {0, 6}}
}

func TestGroupTableByHand(t *testing.T) {
	for _, a := range algebraTables() {
		for _, keys := range groupColumns() {
			for sum := -1; sum <= 6; sum++ {
				want, good := groupTableByHand(a, keys, sum)
				if got, ok := impl.GroupTable(a, keys, sum); ok != good || !sameGroups(got, want) {
					t.Fatalf("GroupTable(%v, %v, %d) = %v, %v, not %v, %v", a, keys, sum, got, ok, want, good)
				}
			}
		}
	}
}

// Groups stand in one order, whatever the map behind them does.
func TestGroupTableSorts(t *testing.T) {
	for step := range impl.MaxRows {
		a := impl.Table{Columns: 2}
		for i := range impl.MaxRows {
			a.Rows = append(a.Rows, weighted(i+1, i, (i+1)*(step+1)%(impl.MaxRows+1)-30))
		}
		want, good := groupTableByHand(a, []int{1}, 0)
		got, ok := impl.GroupTable(a, []int{1}, 0)
		if !good || !ok || !sameGroups(got, want) || len(got) != impl.MaxRows {
			t.Fatalf("GroupTable(%v, 1, 0) = %v, %v, not %v", a, got, ok, want)
		}
	}
}

// Promise 5: groups of a sum are the groups of both, added.
func TestGroupsOfASumAreTheGroupsOfBothAdded(t *testing.T) {
	most := impl.MaxWeight
	tables := append(squareTables(-1, 0, 2),
		table(2, weighted(most, 1, 1), weighted(-most, 2, 1)),
		table(2, weighted(1, 1, 1), weighted(-2, 1, 2), weighted(1, 1, 3)),
		table(2, weighted(-1, 1, 1), weighted(3, 7, -4)),
		table(3, weighted(-1, 0, 1, 1), weighted(1, 1, 0, 1), weighted(4, 1, 1, 1)),
		table(3, weighted(1, 0, 1, 1), weighted(-1, 1, 0, 1), weighted(2, 5, 1, 1)))
	tried, fewer := 0, 0
	for _, keys := range [][]int{nil, {0}, {1}, {1, 0}, {1, 1}} {
		for sum := range 2 {
			for _, a := range tables {
				for _, b := range tables {
					both, good := impl.AddTables(a, b)
					if !good {
						continue
					}
					want, ok := impl.GroupTable(both, keys, sum)
					ofA, goodA := impl.GroupTable(a, keys, sum)
					ofB, goodB := impl.GroupTable(b, keys, sum)
					got, merged := impl.MergeGroups(ofA, ofB)
					if !ok || !goodA || !goodB || !merged || !sameGroups(got, want) {
						t.Fatalf("%v and %v by %v, %d: %v, %v and %v, %v come to %v, %v, not to %v, %v", a, b, keys, sum, ofA, goodA, ofB, goodB, got, merged, want, ok)
					}
					tried++
					if len(got) < max(len(ofA), len(ofB)) {
						fewer++
					}
				}
			}
		}
	}
	if tried < 10000 || fewer < 1000 {
		t.Errorf("only %d sums were good, %d with fewer groups", tried, fewer)
	}
}

// Promise 5, too: what a table less itself leaves of its groups is nothing.
func TestGroupsOfATableLessItselfAreNone(t *testing.T) {
	for _, a := range algebraTables() {
		less, _ := impl.NegateTable(a)
		for _, keys := range groupColumns() {
			of, good := impl.GroupTable(a, keys, 0)
			ofLess, _ := impl.GroupTable(less, keys, 0)
			if got, ok := impl.MergeGroups(of, ofLess); good && (!ok || len(got) != 0) {
				t.Errorf("%v by %v: %v and %v come to %v, %v", a, keys, of, ofLess, got, ok)
			}
		}
	}
}

func TestMergeGroupsAsTold(t *testing.T) {
	most := impl.MaxSum
	for _, c := range []struct {
		a, b, want []impl.Group
	}{
		{nil, nil, nil},
		{groups(), nil, nil},
		{nil, groups(group(1, 2, 3)), groups(group(1, 2, 3))},
		{groups(group(1, 2, 3, 4), group(5, 6, 7, 8)), nil, groups(group(1, 2, 3, 4), group(5, 6, 7, 8))},
		{groups(group(1, 2)), groups(group(3, -5)), groups(group(4, -3))},
		{groups(group(3, 17, 1), group(1, 3, 2)), groups(group(-3, -17, 1), group(1, 1, 2)), groups(group(2, 4, 2))},
		{groups(group(3, 17, 1), group(1, 3, 2)), groups(group(-3, -17, 1), group(-1, -3, 2)), nil},
		{groups(group(3, 17, 1)), groups(group(-3, -16, 1)), groups(group(0, 1, 1))},
		{groups(group(3, 17, 1)), groups(group(-2, -17, 1)), groups(group(1, 0, 1))},
		{groups(group(0, 5, 1)), groups(group(5, 0, 1)), groups(group(5, 5, 1))},
		{groups(group(1, 1, 2), group(1, 1, 4)), groups(group(1, 1, 1), group(1, 1, 3), group(1, 1, 5)), countedGroups(5, 1, 1, 1)},
		{groups(group(1, 1, 1, 2, 3, 4, 5, 6)), groups(group(2, 2, 1, 2, 3, 4, 5, 5)), groups(group(2, 2, 1, 2, 3, 4, 5, 5), group(1, 1, 1, 2, 3, 4, 5, 6))},
		{groups(group(most, -most, 1)), nil, groups(group(most, -most, 1))},
		{groups(group(most-1, 1-most, 1)), groups(group(1, -1, 1)), groups(group(most, -most, 1))},
		{groups(group(most, most, 1)), groups(group(-most, -most, 1)), nil},
		{groups(group(most, most, 1)), groups(group(most, most, 2)), groups(group(most, most, 1), group(most, most, 2))},
		{countedGroups(60, 0, most, 1), countedGroups(60, 0, -most, -1), nil},
		{countedGroups(60, 0, most-1, 1), countedGroups(60, 0, 1, most-1), countedGroups(60, 0, most, most)},
		{countedGroups(30, 0, 1, 1), countedGroups(30, 30, 1, 1), countedGroups(60, 0, 1, 1)},
		{countedGroups(60, 0, 1, 1), countedGroups(60, 1, -1, -1), groups(group(1, 1, 0), group(-1, -1, 60))},
	} {
		if got, ok := impl.MergeGroups(c.a, c.b); !ok || !sameGroups(got, c.want) {
			t.Errorf("MergeGroups(%v, %v) = %v, %v, not %v", c.a, c.b, got, ok, c.want)
		}
	}
}

func TestMergeGroupsRefuses(t *testing.T) {
	most := impl.MaxSum
	check := func(a, b []impl.Group) {
		t.Helper()
		if got, ok := impl.MergeGroups(a, b); ok || len(got) != 0 {
			t.Errorf("MergeGroups(%v, %v) = %v, %v", a, b, got, ok)
		}
		if got, ok := impl.MergeGroups(b, a); ok || len(got) != 0 {
			t.Errorf("MergeGroups(%v, %v) = %v, %v", b, a, got, ok)
		}
	}
	check(groups(group(most, 1, 1)), groups(group(1, 1, 1)))
	check(groups(group(1, most, 1)), groups(group(1, 1, 1)))
	check(groups(group(-most, 1, 1)), groups(group(-1, 1, 1)))
	check(groups(group(1, -most, 1)), groups(group(1, -1, 1)))
	check(groups(group(0, most)), groups(group(0, most)))
	check(groups(group(1, 1, 1), group(most, 0, 2)), groups(group(1, 0, 2)))
	check(countedGroups(31, 0, 1, 1), countedGroups(30, 31, 1, 1))
	check(countedGroups(60, 0, 1, 1), groups(group(1, 1, 60)))
	check(countedGroups(60, 0, 1, 1), countedGroups(60, 60, 1, 1))
	check(groups(group(1, 1)), groups(group(1, 1, 1)))
	check(groups(group(1, 1, 1)), groups(group(1, 1, 1, 2)))
	check(groups(group(1, 1, 1)), groups(group(1, 1, 2, 2)))
	check(groups(group(1, 1, 9)), groups(group(1, 1, 1, 2), group(1, 1, 1, 3)))
	check(groups(group(1, 1, 1, 2, 3, 4, 5, 6)), groups(group(1, 1, 1, 2, 3, 4, 5)))
	for _, bad := range badGroups() {
		check(bad, nil)
		check(bad, groups(group(1, 1, 1)))
		check(bad, groups(group(-1, -1, 1)))
		check(bad, groups(group(1, 1)))
		check(bad, bad)
	}
}

func TestMergeGroupsByHand(t *testing.T) {
	most := impl.MaxSum
	lists := append(smallGroups(-most, 0, 1), goodGroups()...)
	refused := 0
	for _, a := range lists {
		for _, b := range lists {
			want, good := addByHand(slices.Concat(a, b))
			if len(a) > 0 && len(b) > 0 && len(a[0].Key.Cells) != len(b[0].Key.Cells) {
				want, good = nil, false
			}
			if got, ok := impl.MergeGroups(a, b); ok != good || !sameGroups(got, want) {
				t.Fatalf("MergeGroups(%v, %v) = %v, %v, not %v, %v", a, b, got, ok, want, good)
			}
			if !good {
				refused++
			}
		}
	}
	if refused < 1000 {
		t.Errorf("only %d sums were refused", refused)
	}
}

// Groups are added in any brackets, where all sums are good.
func TestGroupsAddUpInAnyBrackets(t *testing.T) {
	lists := smallGroups(-impl.MaxSum, 0, 1)
	tried := 0
	for _, a := range lists {
		for _, b := range lists {
			ab, good := impl.MergeGroups(a, b)
			if !good {
				continue
			}
			for _, c := range lists {
				bc, ok := impl.MergeGroups(b, c)
				if !ok {
					continue
				}
				left, leftGood := impl.MergeGroups(ab, c)
				right, rightGood := impl.MergeGroups(a, bc)
				if leftGood != rightGood || !sameGroups(left, right) {
					t.Fatalf("%v, %v, %v: %v, %v and %v, %v", a, b, c, left, leftGood, right, rightGood)
				}
				tried++
			}
		}
	}
	if tried < 1000 {
		t.Errorf("only %d sums of three were good", tried)
	}
}

func TestGroupFor(t *testing.T) {
	keys := append(goodRows(), row(2), row(3), row(0, -5), row(0, 4), row(1, 2, 4), row(-30), row(29), row(30), row(59), row(60))
	for _, l := range goodGroups() {
		for _, key := range keys {
			var want impl.Group
			at := slices.IndexFunc(l, func(one impl.Group) bool { return slices.Equal(one.Key.Cells, key.Cells) })
			if at >= 0 {
				want = l[at]
			}
			if got, ok := impl.GroupFor(l, key); ok != (at >= 0) || !sameGroups(groups(got), groups(want)) {
				t.Fatalf("GroupFor(%v, %v) = %v, %v, not %v", l, key, got, ok, want)
			}
		}
		for _, one := range l {
			if got, ok := impl.GroupFor(l, one.Key); !ok || !sameGroups(groups(got), groups(one)) {
				t.Fatalf("GroupFor(%v, %v) = %v, %v", l, one.Key, got, ok)
			}
		}
		for _, bad := range badRows() {
			if got, ok := impl.GroupFor(l, bad); ok || !sameGroups(groups(got), make([]impl.Group, 1)) {
				t.Errorf("GroupFor(%v, %v) = %v, %v", l, bad, got, ok)
			}
		}
	}
	for _, bad := range badGroups() {
		for _, key := range []impl.Row{row(), row(1), row(2), row(1, 1), bad[0].Key, bad[len(bad)-1].Key} {
			if got, ok := impl.GroupFor(bad, key); ok || !sameGroups(groups(got), make([]impl.Group, 1)) {
				t.Errorf("GroupFor(%v, %v) = %v, %v", bad, key, got, ok)
			}
		}
	}
}

// Each key that GroupTable tells has its group, and no other key has one.
func TestGroupForAtWhatGroupTableTells(t *testing.T) {
	for _, a := range squareTables(-1, 0, 2) {
		for _, keys := range [][]int{nil, {0}, {1, 0}} {
			l, _ := impl.GroupTable(a, keys, 1)
			for _, key := range rowsUpTo(2, 0, 1, 2) {
				count, sum := 0, 0
				for _, one := range a.Rows {
					if picked, _ := pickByHand(one.Row.Cells, keys); slices.Equal(picked, key.Cells) {
						count += one.Weight
						sum += one.Weight * one.Row.Cells[1]
					}
				}
				there := count != 0 || sum != 0
				got, ok := impl.GroupFor(l, key)
				if ok != there || got.Count != count || got.Sum != sum || ok && !slices.Equal(got.Key.Cells, key.Cells) {
					t.Fatalf("GroupFor(%v, %v) = %v, %v, not %d and %d", l, key, got, ok, count, sum)
				}
			}
		}
	}
}

func TestGroupsAsTableAsTold(t *testing.T) {
	top, low := impl.MaxCell, -impl.MaxCell
	var full []impl.Weighted
	for i := range impl.MaxRows {
		full = append(full, weighted(1, i, -3, 7))
	}
	for _, c := range []struct {
		l    []impl.Group
		want impl.Table
	}{
		{nil, table(0)},
		{groups(), table(0)},
		{groups(group(3, 17, 1), group(1, 3, 2)), table(3, weighted(1, 1, 3, 17), weighted(1, 2, 1, 3))},
		{groups(group(4, 20)), table(2, weighted(1, 4, 20))},
		{groups(group(0, -4)), table(2, weighted(1, 0, -4))},
		{groups(group(-4, 0)), table(2, weighted(1, -4, 0))},
		{groups(group(top, low, 1), group(low, top, 2)), table(3, weighted(1, 1, top, low), weighted(1, 2, low, top))},
		{groups(group(5, 6, 1, 2, 3, 4)), table(6, weighted(1, 1, 2, 3, 4, 5, 6))},
		{groups(group(top, top, low, low, low, low), group(low, low, top, top, top, top)), table(6, weighted(1, low, low, low, low, top, top), weighted(1, top, top, top, top, low, low))},
		{countedGroups(impl.MaxRows, 0, -3, 7), table(3, full...)},
	} {
		if got, ok := impl.GroupsAsTable(c.l); !ok || !sameTables(got, c.want) {
			t.Errorf("GroupsAsTable(%v) = %v, %v, not %v", c.l, got, ok, c.want)
		}
	}
}

func TestGroupsAsTableRefuses(t *testing.T) {
	top := impl.MaxCell
	for _, l := range append(badGroups(),
		groups(group(1, 1, 1, 2, 3, 4, 5)),
		groups(group(1, 1, 1, 2, 3, 4, 5, 6)),
		groups(group(top+1, 1, 1)),
		groups(group(-top-1, 1, 1)),
		groups(group(1, top+1, 1)),
		groups(group(1, -top-1)),
		groups(group(impl.MaxSum, 1, 1)),
		groups(group(1, 1, 1), group(0, impl.MaxSum, 2)),
		groups(group(0, -impl.MaxSum, 1), group(1, 1, 2)),
		append(countedGroups(59, 0, 1, 1), group(1, top+1, 59))) {
		if got, ok := impl.GroupsAsTable(l); ok || !isNoTable(got) {
			t.Errorf("GroupsAsTable(%v) = %v, %v", l, got, ok)
		}
	}
}

// The rows of GroupsAsTable are the groups, one for one, and the table is good.
func TestGroupsAsTableHasTheGroups(t *testing.T) {
	tried := 0
	for _, l := range append(goodGroups(), smallGroups(-impl.MaxCell, 0, 7)...) {
		got, ok := impl.GroupsAsTable(l)
		want, good := impl.Table{}, true
		for _, one := range l {
			r := row(append(slices.Clone(one.Key.Cells), one.Count, one.Sum)...)
			want.Columns = len(r.Cells)
			want.Rows = append(want.Rows, impl.Weighted{Row: r, Weight: 1})
			good = good && goodByHand(want)
		}
		if !good {
			want = impl.Table{}
		}
		if ok != good || !sameTables(got, want) || !impl.GoodTable(got) {
			t.Fatalf("GroupsAsTable(%v) = %v, %v, not %v, %v", l, got, ok, want, good)
		}
		if ok {
			tried++
		}
	}
	if tried < 50 {
		t.Errorf("only %d were tables", tried)
	}
}

func TestRollUpAsTold(t *testing.T) {
	most := impl.MaxSum
	two := groups(group(1, 10, 1, 5), group(2, 20, 1, 6), group(3, 30, 2, 5))
	six := groups(group(1, 2, 1, 2, 3, 4, 5, 6), group(3, 4, 1, 2, 3, 4, 6, 5))
	for _, c := range []struct {
		l       []impl.Group
		columns []int
		want    []impl.Group
	}{
		{two, []int{0}, groups(group(3, 30, 1), group(3, 30, 2))},
		{two, []int{1}, groups(group(4, 40, 5), group(2, 20, 6))},
		{two, []int{1, 0}, groups(group(1, 10, 5, 1), group(3, 30, 5, 2), group(2, 20, 6, 1))},
		{two, []int{0, 1}, two},
		{two, []int{0, 0}, groups(group(3, 30, 1, 1), group(3, 30, 2, 2))},
		{two, nil, groups(group(6, 60))},
		{two, []int{}, groups(group(6, 60))},
		{two, []int{1, 1, 1, 1, 1, 1}, groups(group(4, 40, 5, 5, 5, 5, 5, 5), group(2, 20, 6, 6, 6, 6, 6, 6))},
		{six, []int{5, 4, 3, 2, 1, 0}, groups(group(3, 4, 5, 6, 4, 3, 2, 1), group(1, 2, 6, 5, 4, 3, 2, 1))},
		{six, []int{0, 1, 2, 3}, groups(group(4, 6, 1, 2, 3, 4))},
		{groups(group(3, 4)), nil, groups(group(3, 4))},
		{groups(group(1, 1, 1), group(-1, -1, 2)), nil, nil},
		{groups(group(1, 1, 1), group(-1, 1, 2)), nil, groups(group(0, 2))},
		{groups(group(1, 1, 1), group(1, -1, 2)), nil, groups(group(2, 0))},
		{groups(group(1, 1, 1, 1), group(-1, -1, 1, 2), group(7, 7, 2, 1)), []int{0}, groups(group(7, 7, 2))},
		{groups(group(1, 1, 1, 1), group(-1, -1, 1, 2), group(7, 7, 1, 3)), []int{0}, groups(group(7, 7, 1))},
		{groups(group(most-1, 1-most, 1), group(1, -1, 2)), nil, groups(group(most, -most))},
		{groups(group(most, most, 1), group(most, most, 2), group(-most, -most, 3)), nil, groups(group(most, most))},
		{groups(group(most, -most, 1), group(most, -most, 2)), []int{0}, groups(group(most, -most, 1), group(most, -most, 2))},
		{append(countedGroups(30, 0, most, most), countedGroups(30, 30, -most, -most)...), nil, nil},
		{countedGroups(impl.MaxRows, 0, 1, 2), []int{0}, countedGroups(impl.MaxRows, 0, 1, 2)},
		{nil, nil, nil},
		{groups(), []int{}, nil},
		{nil, []int{0}, nil},
		{nil, []int{6, 100, math.MaxInt, 0, 0, math.MaxInt}, nil},
	} {
		if got, ok := impl.RollUp(c.l, c.columns); !ok || !sameGroups(got, c.want) {
			t.Errorf("RollUp(%v, %v) = %v, %v, not %v", c.l, c.columns, got, ok, c.want)
		}
	}
}

func TestRollUpRefuses(t *testing.T) {
	most := impl.MaxSum
	check := func(l []impl.Group, columns ...int) {
		t.Helper()
		if got, ok := impl.RollUp(l, columns); ok || len(got) != 0 {
			t.Errorf("RollUp(%v, %v) = %v, %v", l, columns, got, ok)
		}
	}
	two := groups(group(1, 10, 1, 5), group(2, 20, 1, 6))
	for _, columns := range [][]int{{2}, {-1}, {0, 2}, {0, 1, -1}, {6}, {math.MinInt}, {0, math.MaxInt}, {0, 0, 0, 0, 0, 0, 0}, {0, 1, 0, 1, 0, 1, 0}, make([]int, 1000)} {
		check(two, columns...)
	}
	check(groups(group(1, 1)), 0)
	check(groups(group(1, 1)), -1)
	check(groups(group(1, 1, 1, 2, 3, 4, 5, 6)), 6)
	check(nil, -1)
	check(nil, 0, -1)
	check(nil, math.MinInt, 0)
	check(nil, 0, 0, 0, 0, 0, 0, 0)
	check(nil, 0, 1, 2, 3, 4, 5, 6)
	check(nil, make([]int, 1000)...)
	check(groups(), -1)
	check(groups(group(most, 1, 1), group(1, 1, 2)))
	check(groups(group(1, most, 1), group(1, 1, 2)))
	check(groups(group(-most, 1, 1), group(-1, 1, 2)))
	check(groups(group(1, -most, 1), group(1, -1, 2)))
	check(groups(group(1, 1, 0, 1), group(1, most, 1, 1), group(1, 1, 1, 2)), 0)
	check(countedGroups(impl.MaxRows, 0, most, most))
	for _, bad := range badGroups() {
		check(bad)
		check(bad, 0)
		check(bad, 0, 0)
		check(bad, -1)
	}
}

func TestRollUpByHand(t *testing.T) {
	refused := 0
	for _, l := range append(smallGroups(-impl.MaxSum, -1, 0, 1), goodGroups()...) {
		for _, columns := range groupColumns() {
			want, good := rollUpByHand(l, columns)
			if got, ok := impl.RollUp(l, columns); ok != good || !sameGroups(got, want) {
				t.Fatalf("RollUp(%v, %v) = %v, %v, not %v, %v", l, columns, got, ok, want, good)
			}
			if !good {
				refused++
			}
		}
	}
	if refused < 1000 {
		t.Errorf("only %d were refused", refused)
	}
}

// Groups by fewer columns are those by more, rolled up.
func TestRollUpOfGroupTableIsByFewerColumns(t *testing.T) {
	tables := append(squareTables(-1, 0, 2),
		table(2, weighted(1, 1, 1), weighted(-2, 1, 2), weighted(1, 1, 3)),
		table(2, weighted(1, 1, 1), weighted(-1, 2, 1)),
		table(2, weighted(impl.MaxWeight, 1, 1), weighted(-impl.MaxWeight, 2, 1)))
	for _, a := range tables {
		for _, keys := range [][]int{nil, {0}, {1}, {0, 1}, {1, 0, 1}} {
			for sum := range 2 {
				byMore, good := impl.GroupTable(a, keys, sum)
				for _, columns := range listsUpTo(3, []int{0, 1, 2}) {
					fewer, there := pickByHand(keys, columns)
					if !there {
						continue
					}
					want, ok := impl.GroupTable(a, fewer, sum)
					if got, rolled := impl.RollUp(byMore, columns); !good || !ok || !rolled || !sameGroups(got, want) {
						t.Fatalf("%v by %v, %d: RollUp(%v, %v) = %v, %v, not %v", a, keys, sum, byMore, columns, got, rolled, want)
					}
				}
			}
		}
	}
}

// Promise 5, too: what is rolled up of groups that are added is what is rolled up of both, added.
func TestRollUpOfMergeGroupsIsMergeGroupsOfRollUps(t *testing.T) {
	var lists [][]impl.Group
	for _, a := range squareTables(-1, 0, 3) {
		l, _ := impl.GroupTable(a, []int{0, 1}, 1)
		lists = append(lists, l)
	}
	lists = append(lists, groups(group(0, 5, 1, 1), group(7, 0, 1, 2)), groups(group(0, -5, 1, 1), group(-7, 0, 1, 2)))
	for _, a := range lists {
		for _, b := range lists {
			both, good := impl.MergeGroups(a, b)
			for _, columns := range [][]int{nil, {0}, {1}, {1, 0}, {1, 1}} {
				ofA, goodA := impl.RollUp(a, columns)
				ofB, goodB := impl.RollUp(b, columns)
				want, ok := impl.RollUp(both, columns)
				got, merged := impl.MergeGroups(ofA, ofB)
				if !good || !goodA || !goodB || !ok || !merged || !sameGroups(got, want) {
					t.Fatalf("%v and %v by %v: %v, %v, not %v, %v", a, b, columns, got, merged, want, ok)
				}
			}
		}
	}
}

func TestTotalsOf(t *testing.T) {
	most := impl.MaxSum
	for _, c := range []struct {
		l          []impl.Group
		count, sum int
		good       bool
	}{
		{nil, 0, 0, true},
		{groups(), 0, 0, true},
		{groups(group(3, 17, 1), group(1, 3, 2)), 4, 20, true},
		{groups(group(-3, 17)), -3, 17, true},
		{groups(group(1, 1, 1), group(-1, -1, 2)), 0, 0, true},
		{groups(group(1, 1, 1), group(-1, 1, 2)), 0, 2, true},
		{groups(group(1, 1, 1), group(1, -1, 2)), 2, 0, true},
		{groups(group(1, 2, 1, 2, 3, 4, 5, 6), group(3, 4, 1, 2, 3, 4, 6, 5)), 4, 6, true},
		{groups(group(most, -most, 1)), most, -most, true},
		{groups(group(most-1, 1-most, 1), group(1, -1, 2)), most, -most, true},
		{groups(group(most, most, 1), group(most, most, 2), group(-most, -most, 3)), most, most, true},
		{append(countedGroups(30, 0, most, -most), countedGroups(30, 30, -most, most)...), 0, 0, true},
		{groups(group(most, 1, 1), group(1, 1, 2)), 0, 0, false},
		{groups(group(1, most, 1), group(1, 1, 2)), 0, 0, false},
		{groups(group(-most, 1, 1), group(-1, 1, 2)), 0, 0, false},
		{groups(group(1, -most, 1), group(1, -1, 2)), 0, 0, false},
		{countedGroups(impl.MaxRows, 0, most, 0), 0, 0, false},
		{countedGroups(impl.MaxRows, 0, 0, -most), 0, 0, false},
	} {
		if count, sum, ok := impl.TotalsOf(c.l); count != c.count || sum != c.sum || ok != c.good {
			t.Errorf("TotalsOf(%v) = %d, %d, %v, not %d, %d, %v", c.l, count, sum, ok, c.count, c.sum, c.good)
		}
	}
	for _, bad := range badGroups() {
		if count, sum, ok := impl.TotalsOf(bad); count != 0 || sum != 0 || ok {
			t.Errorf("TotalsOf(%v) = %d, %d, %v", bad, count, sum, ok)
		}
	}
}

// Rolling up leaves the totals as they are; of a table they are its weights and its cells by weights.
func TestTotalsOfStayWhenRolledUp(t *testing.T) {
	for _, l := range goodGroups() {
		count, sum, good := impl.TotalsOf(l)
		for _, columns := range groupColumns() {
			rolled, ok := impl.RollUp(l, columns)
			if !ok {
				continue
			}
			if c, s, still := impl.TotalsOf(rolled); c != count || s != sum || still != good {
				t.Fatalf("TotalsOf(%v) = %d, %d, %v, rolled up by %v %d, %d, %v", l, count, sum, good, columns, c, s, still)
			}
		}
	}
	for _, a := range squareTables(-1, 0, 2) {
		total, _ := impl.TotalOf(a)
		for _, keys := range [][]int{nil, {0}, {1, 0}} {
			l, _ := impl.GroupTable(a, keys, 0)
			cells := 0
			for _, one := range a.Rows {
				cells += one.Weight * one.Row.Cells[0]
			}
			if count, sum, ok := impl.TotalsOf(l); count != total || sum != cells || !ok {
				t.Fatalf("TotalsOf(%v) = %d, %d, %v, not %d, %d", l, count, sum, ok, total, cells)
			}
		}
	}
}

func totalsAnswers(l []impl.Group) []any {
	count, sum, ok := impl.TotalsOf(l)
	return []any{count, sum, ok}
}

// Promise 19: each function of chapter 5 answers at any arguments, the same each time, in new memory, and writes into none.
func TestGroupsAnswerAndWriteNothing(t *testing.T) {
	var columns [][]int
	for _, l := range append(groupColumns(), []int{}, []int{math.MinInt}, []int{0, math.MaxInt}, make([]int, 1000)) {
		columns = append(columns, withGuards(l))
	}
	for _, a := range append(algebraTables()[:60], badTables()...) {
		a := withGuards(a)
		for _, keys := range columns {
			for _, sum := range []int{math.MinInt, -1, 0, 1, 5, 6, math.MaxInt} {
				checkCall(t, "GroupTable", func() []any { return answers(impl.GroupTable(a, keys, sum)) }, a, keys)
			}
		}
	}
	var lists [][]impl.Group
	for _, l := range append(goodGroups()[230:], badGroups()...) {
		lists = append(lists, withGuards(l))
	}
	for i, a := range lists {
		checkCall(t, "GoodGroups", func() []any { return []any{impl.GoodGroups(a)} }, a)
		checkCall(t, "GroupsAsTable", func() []any { return answers(impl.GroupsAsTable(a)) }, a)
		checkCall(t, "TotalsOf", func() []any { return totalsAnswers(a) }, a)
		for _, l := range columns {
			checkCall(t, "RollUp", func() []any { return answers(impl.RollUp(a, l)) }, a, l)
		}
		keys := append(badRows(), row(), row(1), row(2), row(1, 2))
		for _, one := range a[:min(len(a), 5)] {
			keys = append(keys, one.Key)
		}
		for _, key := range keys {
			key := withGuards(key)
			checkCall(t, "GroupFor", func() []any { return answers(impl.GroupFor(a, key)) }, a, key)
		}
		for _, one := range a[:min(len(a), 5)] {
			checkCall(t, "GroupFor", func() []any { return answers(impl.GroupFor(a, one.Key)) }, a, one.Key)
		}
		for _, b := range [][]impl.Group{nil, a, lists[i*7%len(lists)], lists[len(lists)-1-i]} {
			checkCall(t, "MergeGroups", func() []any { return answers(impl.MergeGroups(a, b)) }, a, b)
			checkCall(t, "MergeGroups", func() []any { return answers(impl.MergeGroups(b, a)) }, b, a)
		}
	}
}

// What lies behind a list's length does not count.
func TestGroupsDoNotReadBehindTheirLists(t *testing.T) {
	ofGroups := func(l []impl.Group, key impl.Row, columns []int) string {
		return fmt.Sprint(impl.GoodGroups(l), answers(impl.MergeGroups(l, l)), answers(impl.GroupFor(l, key)), answers(impl.GroupsAsTable(l)), answers(impl.RollUp(l, columns)), totalsAnswers(l))
	}
	for _, l := range append(goodGroups(), badGroups()...) {
		plain := ofGroups(l, row(1), []int{0})
		if got := ofGroups(withGuards(l), withGuards(row(1)), withGuards([]int{0})); got != plain {
			t.Errorf("%v: %s, with guards behind the lists %s", l, plain, got)
		}
	}
	for _, a := range append(algebraTables()[:60], badTables()...) {
		plain := fmt.Sprint(impl.GroupTable(a, []int{0}, 0))
		if got := fmt.Sprint(impl.GroupTable(withGuards(a), withGuards([]int{0}), 0)); got != plain {
			t.Errorf("%v: %s, with guards behind the lists %s", a, plain, got)
		}
	}
}
