package tests

import (
	"fmt"
	"math"
	"slices"
	"testing"

	"loop.example/g00305/impl"
)

func stream(columns int, l ...impl.Table) impl.Stream {
	return impl.Stream{Columns: columns, Tables: l}
}

// ones has tables of one column.
func ones(l ...impl.Weighted) impl.Table {
	return table(1, l...)
}

func sameStreams(a, b impl.Stream) bool {
	return a.Columns == b.Columns && slices.EqualFunc(a.Tables, b.Tables, sameTables)
}

func isNoStream(s impl.Stream) bool {
	return s.Columns == 0 && len(s.Tables) == 0
}

// streamsUpTo has all streams of one column of up to so many of these tables.
func streamsUpTo(longest int, tables ...impl.Table) []impl.Stream {
	var numbers []int
	for i := range tables {
		numbers = append(numbers, i)
	}
	var out []impl.Stream
	for _, l := range listsUpTo(longest, numbers) {
		s := stream(1)
		for _, i := range l {
			s.Tables = append(s.Tables, tables[i])
		}
		out = append(out, s)
	}
	return out
}

func goodStreams() []impl.Stream {
	most := impl.MaxWeight
	six := table(6, weighted(-1, 0, 0, 0, 0, 0, 0), weighted(5, 1, 2, 3, 4, 5, 6))
	full := ones(countedRows(impl.MaxRows, 0, most)...)
	streams := streamsUpTo(3, ones(), ones(weighted(2, 1)), ones(weighted(-1, 1), weighted(3, 2)), ones(weighted(-most, 2)))
	for columns := range impl.MaxColumns + 1 {
		streams = append(streams, stream(columns), stream(columns, table(columns)))
	}
	return append(streams,
		stream(0, table(0, weighted(1)), table(0), table(0, weighted(-3))),
		stream(2, table(2, weighted(1, 1, 1), weighted(-2, 1, 2)), table(2, weighted(2, 1, 2))),
		stream(6, six, table(6), six),
		stream(1, slices.Repeat([]impl.Table{ones(weighted(1, 1), weighted(-1, 2))}, impl.MaxStream)...),
		stream(1, slices.Repeat([]impl.Table{full}, impl.MaxStream)...))
}

func badStreams() []impl.Stream {
	good := ones(weighted(1, 1))
	streams := []impl.Stream{
		stream(-1),
		stream(7),
		stream(math.MinInt),
		stream(math.MaxInt),
		stream(-1, table(-1)),
		stream(7, table(7)),
		stream(7, table(7, weighted(1, 1, 2, 3, 4, 5, 6, 7))),
		stream(1, slices.Repeat([]impl.Table{good}, impl.MaxStream+1)...),
		stream(1, slices.Repeat([]impl.Table{ones()}, impl.MaxStream+1)...),
		stream(1, make([]impl.Table, 1000)...),
		stream(2, good),
		stream(0, good),
		stream(1, table(0)),
		stream(1, table(2)),
		stream(1, good, table(2)),
		stream(1, good, good, table(0)),
		stream(2, table(2), good, table(2)),
	}
	for _, bad := range badTables() {
		streams = append(streams,
			stream(bad.Columns, bad),
			stream(bad.Columns, impl.Table{Columns: bad.Columns}, bad),
			stream(bad.Columns, bad, impl.Table{Columns: bad.Columns}))
	}
	return streams
}

// goodStreamByHand says again, with other means, which streams are good.
func goodStreamByHand(s impl.Stream) bool {
	return s.Columns >= 0 && s.Columns <= 6 && len(s.Tables) <= 12 && !slices.ContainsFunc(s.Tables, func(t impl.Table) bool {
		return t.Columns != s.Columns || !goodByHand(t)
	})
}

func timesByHand(l []impl.Weighted, by int) []impl.Weighted {
	var out []impl.Weighted
	for _, one := range l {
		out = append(out, weighted(one.Weight*by, one.Row.Cells...))
	}
	return out
}

// streamByHand sums up each of these lists, and tells false where one is no good table.
func streamByHand(columns int, lists ...[]impl.Weighted) (impl.Stream, bool) {
	out := stream(columns)
	for _, l := range lists {
		one, good := sumByHand(columns, l)
		if !good {
			return impl.Stream{}, false
		}
		out.Tables = append(out.Tables, one)
	}
	return out, true
}

func integrateByHand(s impl.Stream) (impl.Stream, bool) {
	var lists [][]impl.Weighted
	for i := range s.Tables {
		lists = append(lists, rowsAhead(s, i+1))
	}
	return streamByHand(s.Columns, lists...)
}

func differentiateByHand(s impl.Stream) (impl.Stream, bool) {
	var lists [][]impl.Weighted
	for i, one := range s.Tables {
		l := slices.Clone(one.Rows)
		if i > 0 {
			l = append(l, timesByHand(s.Tables[i-1].Rows, -1)...)
		}
		lists = append(lists, l)
	}
	return streamByHand(s.Columns, lists...)
}

// rowsAhead has the rows of the first so many tables, one behind the other.
func rowsAhead(s impl.Stream, count int) []impl.Weighted {
	var out []impl.Weighted
	for _, one := range s.Tables[:count] {
		out = append(out, one.Rows...)
	}
	return out
}

func TestStreamConstant(t *testing.T) {
	if impl.MaxStream != 12 {
		t.Error(impl.MaxStream)
	}
}

func TestGoodStream(t *testing.T) {
	for _, s := range goodStreams() {
		if !impl.GoodStream(s) || !goodStreamByHand(s) {
			t.Errorf("%v is good", s)
		}
	}
	for _, s := range badStreams() {
		if impl.GoodStream(s) || goodStreamByHand(s) {
			t.Errorf("%v is not good", s)
		}
	}
	if !impl.GoodStream(impl.Stream{Columns: 2, Tables: []impl.Table{}}) {
		t.Error("the empty list is as nil")
	}
}

type streamCall func(impl.Stream) (impl.Stream, bool)

type streamCase struct {
	s, want impl.Stream
}

func checkStreamsTold(t *testing.T, name string, call streamCall, cases []streamCase) {
	t.Helper()
	for _, c := range cases {
		if got, ok := call(c.s); !ok || !sameStreams(got, c.want) {
			t.Errorf("%s(%v) = %v, %v, not %v", name, c.s, got, ok, c.want)
		}
	}
}

func checkStreamsRefused(t *testing.T, name string, call streamCall, streams []impl.Stream) {
	t.Helper()
	for _, s := range streams {
		if got, ok := call(s); ok || !isNoStream(got) {
			t.Errorf("%s(%v) = %v, %v", name, s, got, ok)
		}
	}
}

func TestStreamFunctionsRefuseBadStreams(t *testing.T) {
	checkStreamsRefused(t, "Integrate", impl.Integrate, badStreams())
	checkStreamsRefused(t, "Differentiate", impl.Differentiate, badStreams())
	checkStreamsRefused(t, "DelayStream", impl.DelayStream, badStreams())
}

func TestIntegrateAsTold(t *testing.T) {
	most := impl.MaxWeight
	one := ones(weighted(1, 1))
	checkStreamsTold(t, "Integrate", impl.Integrate, []streamCase{
		{stream(3), stream(3)},
		{stream(1, one), stream(1, one)},
		{stream(1, one, one, one), stream(1, one, ones(weighted(2, 1)), ones(weighted(3, 1)))},
		{stream(1, one, ones(weighted(1, 2)), ones(weighted(-1, 1))), stream(1, one, ones(weighted(1, 1), weighted(1, 2)), ones(weighted(1, 2)))},
		{stream(1, ones(weighted(-2, 5)), ones(), ones(weighted(1, 5)), ones(weighted(1, 5))), stream(1, ones(weighted(-2, 5)), ones(weighted(-2, 5)), ones(weighted(-1, 5)), ones())},
		{stream(0, table(0, weighted(4)), table(0, weighted(-5))), stream(0, table(0, weighted(4)), table(0, weighted(-1)))},
		{stream(6, table(6, weighted(1, 1, 2, 3, 4, 5, 6)), table(6, weighted(1, 0, 2, 3, 4, 5, 6))), stream(6, table(6, weighted(1, 1, 2, 3, 4, 5, 6)), table(6, weighted(1, 0, 2, 3, 4, 5, 6), weighted(1, 1, 2, 3, 4, 5, 6)))},
		{stream(1, ones(weighted(most-1, 1)), one), stream(1, ones(weighted(most-1, 1)), ones(weighted(most, 1)))},
		{stream(1, ones(weighted(1-most, 1)), ones(weighted(-1, 1))), stream(1, ones(weighted(1-most, 1)), ones(weighted(-most, 1)))},
		{stream(1, ones(countedRows(30, 0, 1)...), ones(countedRows(30, 30, 1)...)), stream(1, ones(countedRows(30, 0, 1)...), ones(countedRows(60, 0, 1)...))},
		{stream(1, ones(countedRows(60, 0, 1)...), ones(countedRows(60, 0, -1)...), ones(countedRows(60, 60, 1)...)), stream(1, ones(countedRows(60, 0, 1)...), ones(), ones(countedRows(60, 60, 1)...))},
	})
	s := stream(1, slices.Repeat([]impl.Table{ones(weighted(2, 3))}, impl.MaxStream)...)
	if got, ok := impl.Integrate(s); !ok || len(got.Tables) != 12 || !sameTables(got.Tables[11], ones(weighted(24, 3))) {
		t.Errorf("Integrate(%v) = %v, %v", s, got, ok)
	}
}

func TestIntegrateRefuses(t *testing.T) {
	most := impl.MaxWeight
	one, less := ones(weighted(1, 1)), ones(weighted(-1, 1))
	checkStreamsRefused(t, "Integrate", impl.Integrate, []impl.Stream{
		stream(1, ones(weighted(most, 1)), one),
		stream(1, ones(weighted(-most, 1)), less),
		stream(1, ones(weighted(most, 1)), one, less),
		stream(1, ones(), ones(weighted(most, 1)), ones(weighted(most, 1)), ones(weighted(-most, 1))),
		stream(1, ones(countedRows(60, 0, 1)...), ones(weighted(1, 60))),
		stream(1, ones(countedRows(60, 0, 1)...), ones(weighted(1, 60)), ones(weighted(-1, 60))),
		stream(1, ones(countedRows(31, 0, 1)...), ones(countedRows(30, 31, -1)...)),
	})
}

func TestDifferentiateAsTold(t *testing.T) {
	most := impl.MaxWeight
	one := ones(weighted(1, 1))
	checkStreamsTold(t, "Differentiate", impl.Differentiate, []streamCase{
		{stream(3), stream(3)},
		{stream(1, one), stream(1, one)},
		{stream(1, ones(weighted(-most, 1), weighted(most, 2))), stream(1, ones(weighted(-most, 1), weighted(most, 2)))},
		{stream(1, one, one, one), stream(1, one, ones(), ones())},
		{stream(1, one, ones(weighted(3, 1), weighted(2, 2)), ones()), stream(1, one, ones(weighted(2, 1), weighted(2, 2)), ones(weighted(-3, 1), weighted(-2, 2)))},
		{stream(1, ones(), ones(), one), stream(1, ones(), ones(), one)},
		{stream(0, table(0, weighted(4)), table(0, weighted(-5))), stream(0, table(0, weighted(4)), table(0, weighted(-9)))},
		{stream(6, table(6, weighted(1, 1, 2, 3, 4, 5, 6)), table(6)), stream(6, table(6, weighted(1, 1, 2, 3, 4, 5, 6)), table(6, weighted(-1, 1, 2, 3, 4, 5, 6)))},
		{stream(1, ones(weighted(-1, 1)), ones(weighted(most-1, 1))), stream(1, ones(weighted(-1, 1)), ones(weighted(most, 1)))},
		{stream(1, one, ones(weighted(1-most, 1))), stream(1, one, ones(weighted(-most, 1)))},
		{stream(1, ones(countedRows(30, 0, 1)...), ones(countedRows(30, 30, 1)...)), stream(1, ones(countedRows(30, 0, 1)...), ones(append(countedRows(30, 0, -1), countedRows(30, 30, 1)...)...))},
		{stream(1, ones(countedRows(60, 0, 1)...), ones(countedRows(60, 0, 2)...)), stream(1, ones(countedRows(60, 0, 1)...), ones(countedRows(60, 0, 1)...))},
	})
}

func TestDifferentiateRefuses(t *testing.T) {
	most := impl.MaxWeight
	checkStreamsRefused(t, "Differentiate", impl.Differentiate, []impl.Stream{
		stream(1, ones(weighted(-1, 1)), ones(weighted(most, 1))),
		stream(1, ones(weighted(1, 1)), ones(weighted(-most, 1))),
		stream(1, ones(), ones(weighted(most, 1)), ones(weighted(-most, 1)), ones()),
		stream(1, ones(countedRows(31, 0, 1)...), ones(countedRows(30, 31, 1)...)),
		stream(1, ones(countedRows(60, 0, 1)...), ones(countedRows(60, 60, 1)...), ones()),
	})
}

func TestDelayStream(t *testing.T) {
	one, two, three := ones(weighted(1, 1)), ones(weighted(-2, 2)), ones(countedRows(60, 0, impl.MaxWeight)...)
	long := slices.Repeat([]impl.Table{three, one}, impl.MaxStream/2)
	checkStreamsTold(t, "DelayStream", impl.DelayStream, []streamCase{
		{stream(0), stream(0)},
		{stream(6), stream(6)},
		{stream(1, one), stream(1, ones())},
		{stream(1, ones()), stream(1, ones())},
		{stream(1, one, two), stream(1, ones(), one)},
		{stream(1, one, two, three), stream(1, ones(), one, two)},
		{stream(1, one, one, two), stream(1, ones(), one, one)},
		{stream(0, table(0, weighted(1)), table(0)), stream(0, table(0), table(0, weighted(1)))},
		{stream(6, table(6, weighted(1, 1, 2, 3, 4, 5, 6))), stream(6, table(6))},
		{stream(1, long...), stream(1, append([]impl.Table{ones()}, long[:impl.MaxStream-1]...)...)},
	})
}

func TestIntegrateAndDifferentiateByHand(t *testing.T) {
	most := impl.MaxWeight
	tables := []impl.Table{ones(), ones(weighted(2, 1)), ones(weighted(-2, 1), weighted(1, 2)), ones(weighted(most, 2)), ones(weighted(-most, 1)), ones(countedRows(60, 2, 1)...)}
	refused := 0
	for _, s := range append(streamsUpTo(4, tables...), goodStreams()...) {
		want, good := integrateByHand(s)
		if got, ok := impl.Integrate(s); ok != good || !sameStreams(got, want) {
			t.Fatalf("Integrate(%v) = %v, %v, not %v, %v", s, got, ok, want, good)
		}
		if !good {
			refused++
		}
		want, good = differentiateByHand(s)
		if got, ok := impl.Differentiate(s); ok != good || !sameStreams(got, want) {
			t.Fatalf("Differentiate(%v) = %v, %v, not %v, %v", s, got, ok, want, good)
		}
		if !good {
			refused++
		}
	}
	if refused < 100 {
		t.Errorf("only %d sums or differences were refused", refused)
	}
}

// What a stream is summed up to is told by what it differs by, and the other way round.
func TestIntegrateAndDifferentiateUndoEachOther(t *testing.T) {
	tried := 0
	for _, s := range append(streamsUpTo(3, smallTables(-impl.MaxWeight, -1, 0, 2)...), goodStreams()...) {
		if sums, ok := impl.Integrate(s); ok {
			tried++
			if back, ok := impl.Differentiate(sums); !ok || !sameStreams(back, s) {
				t.Fatalf("Differentiate(Integrate(%v)) = %v, %v", s, back, ok)
			}
		}
		if changes, ok := impl.Differentiate(s); ok {
			tried++
			if back, ok := impl.Integrate(changes); !ok || !sameStreams(back, s) {
				t.Fatalf("Integrate(Differentiate(%v)) = %v, %v", s, back, ok)
			}
		}
	}
	if tried < 1000 {
		t.Errorf("only %d streams came back", tried)
	}
}

// What a stream differs by is it less what it is when it comes later by one.
func TestDifferentiateIsAStreamLessItDelayed(t *testing.T) {
	for _, s := range goodStreams() {
		changes, ok := impl.Differentiate(s)
		later, good := impl.DelayStream(s)
		if !good || len(later.Tables) != len(s.Tables) {
			t.Fatalf("DelayStream(%v) = %v, %v", s, later, good)
		}
		for i := range s.Tables {
			less, _ := impl.NegateTable(later.Tables[i])
			if want, good := impl.AddTables(s.Tables[i], less); ok && (!good || !sameTables(changes.Tables[i], want)) {
				t.Errorf("Differentiate(%v) = %v, but %d less the one ahead is %v", s, changes, i, want)
			}
		}
	}
}

func joinDeltaByHand(a, b, da, db impl.Table, pairs [][]int) (impl.Table, bool) {
	shape, good := joinByHand(row(make([]int, a.Columns)...), row(make([]int, b.Columns)...), pairs)
	if !good || len(pairs) > 6 || a.Columns != da.Columns || b.Columns != db.Columns {
		return impl.Table{}, false
	}
	return sumByHand(len(shape), slices.Concat(pairUpByHand(da.Rows, b.Rows, pairs), pairUpByHand(a.Rows, db.Rows, pairs), pairUpByHand(da.Rows, db.Rows, pairs)))
}

type joinDeltaCase struct {
	a, b, da, db impl.Table
	pairs        [][]int
	want         impl.Table
}

func checkJoinDelta(t *testing.T, cases []joinDeltaCase) {
	t.Helper()
	for _, c := range cases {
		if got, ok := impl.JoinDelta(c.a, c.b, c.da, c.db, c.pairs); !ok || !sameTables(got, c.want) {
			t.Errorf("JoinDelta(%v, %v, %v, %v, %v) = %v, %v, not %v", c.a, c.b, c.da, c.db, c.pairs, got, ok, c.want)
		}
	}
}

func TestJoinDeltaAsTold(t *testing.T) {
	most := impl.MaxWeight
	byOne := [][]int{{0, 0}}
	a := table(2, weighted(2, 1, 5), weighted(-3, 2, 5))
	b := table(2, weighted(7, 5, 8))
	six := table(6, weighted(2, 1, 2, 3, 4, 5, 6))
	checkJoinDelta(t, []joinDeltaCase{
		{ones(weighted(2, 1)), ones(weighted(3, 1)), ones(weighted(1, 1)), ones(weighted(1, 1)), byOne, ones(weighted(6, 1))},
		{ones(weighted(2, 1)), ones(weighted(3, 1)), ones(weighted(1, 1)), ones(), byOne, ones(weighted(3, 1))},
		{ones(weighted(2, 1)), ones(weighted(3, 1)), ones(), ones(weighted(1, 1)), byOne, ones(weighted(2, 1))},
		{ones(), ones(), ones(weighted(4, 1)), ones(weighted(-5, 1)), byOne, ones(weighted(-20, 1))},
		{ones(weighted(2, 1)), ones(weighted(3, 1)), ones(), ones(), byOne, ones()},
		{ones(weighted(2, 1)), ones(weighted(3, 1)), ones(weighted(-2, 1)), ones(), byOne, ones(weighted(-6, 1))},
		{ones(weighted(2, 1)), ones(weighted(3, 1)), ones(weighted(-2, 1)), ones(weighted(-3, 1)), byOne, ones(weighted(-6, 1))},
		{ones(weighted(2, 1)), ones(weighted(3, 1)), ones(weighted(1, 2)), ones(weighted(1, 3)), byOne, ones()},
		{ones(weighted(2, 1)), ones(weighted(3, 1)), ones(weighted(1, 2)), ones(weighted(1, 2)), byOne, ones(weighted(1, 2))},
		{a, b, table(2, weighted(1, 1, 5), weighted(1, 4, 5)), table(2, weighted(1, 5, 9)), [][]int{{1, 0}}, table(3, weighted(7, 1, 5, 8), weighted(3, 1, 5, 9), weighted(-3, 2, 5, 9), weighted(7, 4, 5, 8), weighted(1, 4, 5, 9))},
		{a, b, table(2), table(2), [][]int{{1, 0}}, table(3)},
		{a, b, table(2, weighted(1, 1, 8)), table(2, weighted(-7, 5, 8)), [][]int{{1, 0}, {1, 1}}, table(2)},
		{ones(weighted(2, 5)), table(2, weighted(3, 5, 5)), ones(weighted(1, 5)), table(2, weighted(1, 5, 6)), [][]int{{0, 0}, {0, 1}}, ones(weighted(3, 5))},
		{ones(weighted(2, 5)), ones(weighted(3, 6)), ones(weighted(1, 5)), ones(), nil, table(2, weighted(3, 5, 6))},
		{table(0, weighted(2)), table(0, weighted(3)), table(0, weighted(4)), table(0, weighted(5)), nil, table(0, weighted(42))},
		{table(0), table(0), table(0), table(0), [][]int{}, table(0)},
		{six, table(0, weighted(3)), table(6), table(0, weighted(-3)), nil, table(6, weighted(-6, 1, 2, 3, 4, 5, 6))},
		{six, ones(), six, ones(weighted(1, 1)), [][]int{{0, 0}}, table(6, weighted(4, 1, 2, 3, 4, 5, 6))},
		{table(3), table(3), table(3), table(3), nil, table(6)},
		{ones(weighted(2, 1)), ones(weighted(3, 1)), ones(weighted(1, 1)), ones(weighted(1, 1)), slices.Repeat(byOne, 6), ones(weighted(6, 1))},
		{ones(), ones(), ones(weighted(1000, 1)), ones(weighted(-1000, 1)), byOne, ones(weighted(-most, 1))},
		{ones(weighted(1, 1)), ones(), ones(weighted(-most, 1)), ones(weighted(-1, 1)), byOne, ones(weighted(most-1, 1))},
		{ones(weighted(most, 1)), ones(weighted(1, 1)), ones(weighted(most, 1)), ones(), byOne, ones(weighted(most, 1))},
		{ones(countedRows(60, 0, 1)...), ones(), ones(countedRows(60, 60, 1)...), ones(), nil, table(2)},
		{ones(countedRows(60, 0, 2)...), ones(), ones(), ones(countedRows(60, 0, 3)...), byOne, ones(countedRows(60, 0, 6)...)},
	})
}

// Parts may go beyond a limit where what is told is good.
func TestJoinDeltaLetsPartsBeLarge(t *testing.T) {
	byOne := [][]int{{0, 0}}
	times := func(count, weight int) impl.Table { return ones(countedRows(count, 0, weight)...) }
	checkJoinDelta(t, []joinDeltaCase{
		{times(1, 4000), times(1, 1000), times(1, -2000), times(1, 1000), byOne, ones()},
		{times(1, -1000), times(1, -1000), times(1, 2000), times(1, 2000), byOne, ones()},
		{times(1, 1), times(1, 2000), times(1, 1000), times(1, -2000), byOne, times(1, -2000)},
		{times(1, 2000), times(1, 1), times(1, -2000), times(1, 1000), byOne, times(1, -2000)},
		{times(1, 2), times(1, impl.MaxWeight), times(1, -1), times(1, impl.MaxWeight), byOne, ones()},
		{times(10, 2), times(7, 1), times(10, -1), times(7, 1), nil, table(2)},
		{ones(), times(8, 1), times(8, 1), times(8, -1), nil, table(2)},
		{times(8, 1), ones(), times(8, -1), times(8, 1), nil, table(2)},
	})
}

func TestJoinDeltaRefuses(t *testing.T) {
	most := impl.MaxWeight
	byOne := [][]int{{0, 0}}
	a, b := table(2, weighted(2, 1, 5)), table(2, weighted(1, 5, 8))
	none := table(2)
	check := func(a, b, da, db impl.Table, pairs [][]int) {
		t.Helper()
		if got, ok := impl.JoinDelta(a, b, da, db, pairs); ok || !isNoTable(got) {
			t.Errorf("JoinDelta(%v, %v, %v, %v, %v) = %v, %v", a, b, da, db, pairs, got, ok)
		}
	}
	for _, pairs := range badPairsOfTwo() {
		check(a, b, a, b, pairs)
		check(none, none, none, none, pairs)
	}
	one := ones(weighted(1, 1))
	check(one, one, none, one, byOne)
	check(one, one, one, none, byOne)
	check(one, one, table(0), ones(), nil)
	check(one, one, ones(), table(0), nil)
	check(ones(), none, none, ones(), nil)
	check(table(3), table(4), table(3), table(4), nil)
	check(table(6), ones(), table(6), ones(), nil)
	check(table(4), table(4), table(4), table(4), byOne)
	check(ones(), ones(), ones(weighted(1001, 1)), ones(weighted(1000, 1)), byOne)
	check(ones(weighted(1, 1)), ones(), ones(weighted(-most, 1)), ones(weighted(-2, 1)), byOne)
	check(ones(weighted(most, 1)), ones(weighted(most, 1)), ones(weighted(most, 1)), ones(weighted(most, 1)), byOne)
	check(ones(), ones(countedRows(61, 0, 1)...), one, ones(), nil)
	check(ones(), ones(countedRows(60, 0, 1)...), ones(countedRows(2, 0, 1)...), ones(), nil)
	check(ones(countedRows(8, 0, 1)...), ones(), ones(), ones(countedRows(8, 0, 1)...), nil)
	check(ones(), ones(), ones(countedRows(8, 0, 1)...), ones(countedRows(8, 0, 1)...), nil)
	for _, bad := range badTables() {
		empty := impl.Table{Columns: bad.Columns}
		for _, pairs := range [][][]int{nil, byOne} {
			check(bad, ones(), empty, ones(), pairs)
			check(empty, ones(), bad, ones(), pairs)
			check(ones(), bad, ones(), empty, pairs)
			check(ones(), empty, ones(), bad, pairs)
			check(bad, bad, bad, bad, pairs)
		}
	}
}

// deltaTables are some tables of two columns, so that all fours of them can be tried.
func deltaTables() []impl.Table {
	var tables []impl.Table
	for i, one := range squareTables(-3, 0, 2) {
		if i%11 == 5 {
			tables = append(tables, one)
		}
	}
	return append(tables,
		table(2),
		table(2, weighted(1000, 1, 1)),
		table(2, weighted(-999, 1, 1), weighted(500, 2, 1)),
		table(2, weighted(impl.MaxWeight, 2, 2)))
}

func TestJoinDeltaByHand(t *testing.T) {
	tables := append(deltaTables()[4:], table(1, weighted(3, 1)), table(0, weighted(2)))
	told := 0
	for _, pairs := range [][][]int{nil, {{0, 0}}, {{1, 0}}, {{0, 0}, {1, 1}}, {{0, 0}, {0, 1}}, {{2, 0}}} {
		for _, a := range tables {
			for _, b := range tables {
				for _, da := range tables {
					for _, db := range tables {
						want, good := joinDeltaByHand(a, b, da, db, pairs)
						got, ok := impl.JoinDelta(a, b, da, db, pairs)
						if ok != good || !sameTables(got, want) {
							t.Fatalf("JoinDelta(%v, %v, %v, %v, %v) = %v, %v, not %v, %v", a, b, da, db, pairs, got, ok, want, good)
						}
						if len(got.Rows) > 0 {
							told++
						}
					}
				}
			}
		}
	}
	if told < 1000 {
		t.Errorf("only %d changes have rows", told)
	}
}

// Promise 4: a join changes by what its parts change by.
func TestAJoinChangesByWhatItsPartsChangeBy(t *testing.T) {
	tables := deltaTables()
	tried := 0
	for _, pairs := range [][][]int{nil, {{1, 0}}, {{0, 0}, {1, 1}}, {{0, 1}, {1, 1}}} {
		for _, a := range tables {
			for _, b := range tables {
				before, goodBefore := impl.JoinTables(a, b, pairs)
				for _, da := range tables {
					thenA, goodA := impl.AddTables(a, da)
					for _, db := range tables {
						thenB, goodB := impl.AddTables(b, db)
						after, good := impl.JoinTables(thenA, thenB, pairs)
						change, ok := impl.JoinDelta(a, b, da, db, pairs)
						if !goodBefore || !goodA || !goodB || !good {
							continue
						}
						less, _ := impl.NegateTable(before)
						want, fits := impl.AddTables(after, less)
						if ok != fits || !sameTables(change, want) {
							t.Fatalf("by %v: %v and %v, %v and %v: %v, then %v, but the change is %v, %v", pairs, a, da, b, db, before, after, change, ok)
						}
						if sum, good := impl.AddTables(before, change); ok && (!good || !sameTables(sum, after)) {
							t.Fatalf("by %v: %v and %v, %v and %v: %v and %v come to %v, not %v", pairs, a, da, b, db, before, change, sum, after)
						}
						tried++
					}
				}
			}
		}
	}
	if tried < 10000 {
		t.Errorf("only %d joins were good", tried)
	}
}

func TestDistinctDeltaAsTold(t *testing.T) {
	most := impl.MaxWeight
	full := ones(countedRows(60, 0, 1)...)
	for _, c := range []struct {
		t, d, want impl.Table
	}{
		{ones(), ones(), ones()},
		{ones(weighted(2, 1)), ones(), ones()},
		{ones(), ones(weighted(2, 1)), ones(weighted(1, 1))},
		{ones(), ones(weighted(-2, 1)), ones()},
		{ones(weighted(2, 1)), ones(weighted(-2, 1)), ones(weighted(-1, 1))},
		{ones(weighted(2, 1)), ones(weighted(-3, 1)), ones(weighted(-1, 1))},
		{ones(weighted(2, 1)), ones(weighted(-1, 1)), ones()},
		{ones(weighted(2, 1)), ones(weighted(1, 1)), ones()},
		{ones(weighted(-2, 1)), ones(weighted(1, 1)), ones()},
		{ones(weighted(-2, 1)), ones(weighted(2, 1)), ones()},
		{ones(weighted(-2, 1)), ones(weighted(3, 1)), ones(weighted(1, 1))},
		{ones(weighted(-2, 1)), ones(weighted(-1, 1)), ones()},
		{ones(weighted(1, 1), weighted(5, 2), weighted(-1, 4)), ones(weighted(1, 3)), ones(weighted(1, 3))},
		{ones(weighted(1, 1), weighted(5, 2), weighted(3, 3)), ones(weighted(-1, 1), weighted(1, 3), weighted(1, 4)), ones(weighted(-1, 1), weighted(1, 4))},
		{table(0, weighted(1)), table(0, weighted(-1)), table(0, weighted(-1))},
		{table(6), table(6, weighted(1, 1, 2, 3, 4, 5, 6)), table(6, weighted(1, 1, 2, 3, 4, 5, 6))},
		{ones(weighted(-most, 1)), ones(weighted(most, 1)), ones()},
		{ones(weighted(most, 1)), ones(weighted(-most, 1)), ones(weighted(-1, 1))},
		{ones(weighted(most-1, 1)), ones(weighted(1, 1)), ones()},
		{full, ones(countedRows(60, 0, -1)...), ones(countedRows(60, 0, -1)...)},
		{ones(), full, full},
		{ones(countedRows(59, 0, 1)...), ones(weighted(7, 59)), ones(weighted(1, 59))},
		{full, ones(weighted(-1, 0)), ones(weighted(-1, 0))},
	} {
		if got, ok := impl.DistinctDelta(c.t, c.d); !ok || !sameTables(got, c.want) {
			t.Errorf("DistinctDelta(%v, %v) = %v, %v, not %v", c.t, c.d, got, ok, c.want)
		}
	}
}

func TestDistinctDeltaRefuses(t *testing.T) {
	most := impl.MaxWeight
	full := ones(countedRows(60, 0, 1)...)
	for _, c := range [][2]impl.Table{
		{ones(weighted(most, 1)), ones(weighted(1, 1))},
		{ones(weighted(-most, 1)), ones(weighted(-1, 1))},
		{full, ones(weighted(1, 60))},
		{full, ones(weighted(-1, 60))},
		{ones(countedRows(31, 0, 1)...), ones(countedRows(30, 31, 1)...)},
		{ones(), table(2)},
		{table(0), ones()},
		{ones(weighted(1, 1)), table(2, weighted(1, 1, 1))},
	} {
		if got, ok := impl.DistinctDelta(c[0], c[1]); ok || !isNoTable(got) {
			t.Errorf("DistinctDelta(%v, %v) = %v, %v", c[0], c[1], got, ok)
		}
	}
	checkTwoRefusesBad(t, "DistinctDelta", impl.DistinctDelta)
}

// Promise 4, too: what is made plain changes by what its table changes by.
func TestWhatIsPlainChangesByWhatItsTableChangesBy(t *testing.T) {
	tables := append(algebraTables(), smallTables(-2, -1, 0, 1, 2)...)
	tried := 0
	for _, a := range tables {
		for _, d := range tables {
			sum, good := impl.AddTables(a, d)
			got, ok := impl.DistinctDelta(a, d)
			if ok != good {
				t.Fatalf("DistinctDelta(%v, %v) = %v, %v, but the sum is good: %v", a, d, got, ok, good)
			}
			if !good {
				continue
			}
			before, _ := impl.DistinctTable(a)
			after, _ := impl.DistinctTable(sum)
			if both, ok := impl.AddTables(before, got); !ok || !sameTables(both, after) {
				t.Fatalf("DistinctDelta(%v, %v) = %v: with %v it comes to %v, not %v", a, d, got, before, both, after)
			}
			for _, one := range got.Rows {
				if weight, _ := impl.WeightOf(d, one.Row); weight == 0 {
					t.Fatalf("DistinctDelta(%v, %v) = %v: %v is not in d", a, d, got, one.Row)
				}
			}
			tried++
		}
	}
	if tried < 1000 {
		t.Errorf("only %d sums were good", tried)
	}
}

func TestProjectDelta(t *testing.T) {
	lists := [][]int{nil, {0}, {1}, {1, 0}, {0, 0}, {0, 1, 0, 1, 0, 1}, {0, 1, 0, 1, 0, 1, 0}, {-1}, {2}, {6}, {math.MinInt}}
	for _, d := range append(algebraTables(), badTables()...) {
		for _, columns := range lists {
			want, good := impl.ProjectTable(d, columns)
			if got, ok := impl.ProjectDelta(d, columns); ok != good || !sameTables(got, want) {
				t.Errorf("ProjectDelta(%v, %v) = %v, %v, not %v, %v", d, columns, got, ok, want, good)
			}
		}
	}
	d := table(2, weighted(3, 1, 2), weighted(-3, 2, 2), weighted(-1, 4, 5))
	if got, ok := impl.ProjectDelta(d, []int{1}); !ok || !sameTables(got, ones(weighted(-1, 5))) {
		t.Error(got, ok)
	}
}

// Promise 4, too: what is picked of a table changes by what is picked of its change.
func TestWhatIsPickedChangesByWhatIsPickedOfTheChange(t *testing.T) {
	tables := squareTables(-2, 0, 2)
	for _, columns := range [][]int{nil, {0}, {1, 0}, {1, 1}} {
		for _, a := range tables {
			before, _ := impl.ProjectTable(a, columns)
			for _, d := range tables {
				then, _ := impl.AddTables(a, d)
				after, _ := impl.ProjectTable(then, columns)
				change, good := impl.ProjectDelta(d, columns)
				if sum, ok := impl.AddTables(before, change); !good || !ok || !sameTables(sum, after) {
					t.Fatalf("of %v: %v, then %v, but the change is %v, %v", columns, before, after, change, good)
				}
			}
		}
	}
}

// streamJoinByHand joins all up to each with no limits, and tells what that differs by.
func streamJoinByHand(a, b impl.Stream, pairs [][]int) (impl.Stream, bool) {
	shape, good := joinByHand(row(make([]int, a.Columns)...), row(make([]int, b.Columns)...), pairs)
	if !good || len(pairs) > 6 || len(a.Tables) != len(b.Tables) {
		return impl.Stream{}, false
	}
	var lists [][]impl.Weighted
	for i := range a.Tables {
		after := pairUpByHand(rowsAhead(a, i+1), rowsAhead(b, i+1), pairs)
		before := pairUpByHand(rowsAhead(a, i), rowsAhead(b, i), pairs)
		lists = append(lists, append(after, timesByHand(before, -1)...))
	}
	return streamByHand(len(shape), lists...)
}

func TestStreamJoinAsTold(t *testing.T) {
	byOne := [][]int{{0, 0}}
	one, less := ones(weighted(1, 1)), ones(weighted(-1, 1))
	six := table(6, weighted(2, 1, 2, 3, 4, 5, 6))
	for _, c := range []struct {
		a, b  impl.Stream
		pairs [][]int
		want  impl.Stream
	}{
		{stream(1), stream(1), byOne, stream(1)},
		{stream(2), stream(3), nil, stream(5)},
		{stream(3), stream(3), nil, stream(6)},
		{stream(4), stream(4), [][]int{{3, 0}, {0, 3}}, stream(6)},
		{stream(0), stream(0), [][]int{}, stream(0)},
		{stream(1, one), stream(1, one), byOne, stream(1, one)},
		{stream(1, ones(weighted(2, 1))), stream(1, ones(weighted(-3, 1))), byOne, stream(1, ones(weighted(-6, 1)))},
		{stream(1, one, ones()), stream(1, ones(), one), byOne, stream(1, ones(), one)},
		{stream(1, ones(), one), stream(1, one, ones()), byOne, stream(1, ones(), one)},
		{stream(1, one, one, one), stream(1, one, one, one), byOne, stream(1, one, ones(weighted(3, 1)), ones(weighted(5, 1)))},
		{stream(1, one, less), stream(1, one, less), byOne, stream(1, one, less)},
		{stream(1, one, ones(), less), stream(1, one, one, ones()), byOne, stream(1, one, one, ones(weighted(-2, 1)))},
		{stream(1, one, ones()), stream(1, ones(weighted(1, 2)), ones(weighted(-1, 2))), nil, stream(2, table(2, weighted(1, 1, 2)), table(2, weighted(-1, 1, 2)))},
		{stream(0, table(0, weighted(2)), table(0, weighted(1))), stream(0, table(0, weighted(3)), table(0, weighted(1))), nil, stream(0, table(0, weighted(6)), table(0, weighted(6)))},
		{stream(6, six, six), stream(1, one, ones()), byOne, stream(6, six, six)},
	} {
		if got, ok := impl.StreamJoin(c.a, c.b, c.pairs); !ok || !sameStreams(got, c.want) {
			t.Errorf("StreamJoin(%v, %v, %v) = %v, %v, not %v", c.a, c.b, c.pairs, got, ok, c.want)
		}
	}
}

// What is told is good here, though a sum of all ahead has too many rows or too great weights.
func TestStreamJoinLetsSumsBeLarge(t *testing.T) {
	most := impl.MaxWeight
	one, none := ones(weighted(1, 1)), ones()
	heavy, less := ones(weighted(most, 1)), ones(weighted(-most, 1))
	// All but the last table of these have 60 rows that no table ahead has.
	longest := func(from int, last impl.Table) impl.Stream {
		s := stream(1)
		for i := range impl.MaxStream - 1 {
			s.Tables = append(s.Tables, ones(countedRows(60, from+60*i, 1)...))
		}
		return stream(1, append(s.Tables, last)...)
	}
	lateOf := func(last impl.Table) impl.Stream {
		return stream(1, append(slices.Repeat([]impl.Table{none}, impl.MaxStream-1), last)...)
	}
	repeated := func(one impl.Table) impl.Stream {
		return stream(1, slices.Repeat([]impl.Table{one}, impl.MaxStream)...)
	}
	few := ones(weighted(3, 59), weighted(4, 600))
	for _, c := range []struct {
		a, b, want impl.Stream
	}{
		{longest(0, none), longest(10000, few), lateOf(few)},
		{longest(10000, few), longest(0, none), lateOf(few)},
		{longest(0, ones(weighted(2, 59))), lateOf(few), lateOf(ones(weighted(9, 59), weighted(4, 600)))},
		{repeated(heavy), repeated(none), repeated(none)},
		{repeated(heavy), repeated(ones(weighted(most, 2))), repeated(none)},
		{stream(1, heavy, heavy, less, none), stream(1, none, none, none, one), stream(1, none, none, none, heavy)},
		{stream(1, heavy, heavy, less), stream(1, none, none, one), stream(1, none, none, heavy)},
		{stream(1, none, none, one), stream(1, heavy, heavy, less), stream(1, none, none, heavy)},
		{stream(1, heavy, heavy, less), stream(1, one, none, none), stream(1, heavy, heavy, less)},
		{stream(1, less, less, heavy), stream(1, one, none, one), stream(1, less, less, none)},
	} {
		if got, ok := impl.StreamJoin(c.a, c.b, [][]int{{0, 0}}); !ok || !sameStreams(got, c.want) {
			t.Errorf("StreamJoin(%v, %v) = %v, %v, not %v", c.a, c.b, got, ok, c.want)
		}
	}
}

func TestStreamJoinRefuses(t *testing.T) {
	most := impl.MaxWeight
	byOne := [][]int{{0, 0}}
	check := func(a, b impl.Stream, pairs [][]int) {
		t.Helper()
		if got, ok := impl.StreamJoin(a, b, pairs); ok || !isNoStream(got) {
			t.Errorf("StreamJoin(%v, %v, %v) = %v, %v", a, b, pairs, got, ok)
		}
	}
	one := ones(weighted(1, 1))
	check(stream(1), stream(1, one), byOne)
	check(stream(1, one), stream(1), byOne)
	check(stream(1, one, one), stream(1, one), byOne)
	check(stream(1, ones()), stream(1, ones(), ones()), nil)
	for _, pairs := range badPairsOfTwo() {
		check(stream(2), stream(2), pairs)
		check(stream(2, table(2)), stream(2, table(2)), pairs)
		check(stream(2, table(2, weighted(1, 1, 1))), stream(2, table(2, weighted(1, 1, 1))), pairs)
	}
	check(stream(3), stream(4), nil)
	check(stream(6), stream(1), nil)
	check(stream(0), stream(1), byOne)
	check(stream(4, table(4)), stream(4, table(4)), [][]int{{3, 0}})
	check(stream(1, ones(weighted(most, 1))), stream(1, ones(weighted(2, 1))), byOne)
	check(stream(1, ones(weighted(most, 1)), one), stream(1, ones(), ones(weighted(1, 1))), byOne)
	check(stream(1, one, one), stream(1, ones(weighted(most, 1)), one), byOne)
	check(stream(1, ones(countedRows(8, 0, 1)...)), stream(1, ones(countedRows(8, 0, 1)...)), nil)
	check(stream(1, ones(countedRows(7, 0, 1)...), one), stream(1, ones(countedRows(7, 0, 1)...), ones(countedRows(60, 0, 1)...)), nil)
	full := slices.Repeat([]impl.Table{ones(countedRows(60, 0, most)...)}, impl.MaxStream)
	check(stream(1, full...), stream(1, full...), nil)
	check(stream(1, full...), stream(1, full...), byOne)
	for _, bad := range badStreams() {
		empty := slices.Repeat([]impl.Table{ones()}, len(bad.Tables))
		check(bad, stream(1, empty...), nil)
		check(stream(1, empty...), bad, nil)
		check(bad, stream(0, make([]impl.Table, len(bad.Tables))...), nil)
		check(bad, bad, byOne)
	}
}

func TestStreamJoinByHand(t *testing.T) {
	streams := streamsUpTo(3, ones(), ones(weighted(2, 1)), ones(weighted(-1, 1), weighted(3, 2)), ones(weighted(1000, 2)))
	for _, pairs := range [][][]int{nil, {{0, 0}}, {{0, 1}}} {
		for _, a := range streams {
			for _, b := range streams {
				want, good := streamJoinByHand(a, b, pairs)
				if got, ok := impl.StreamJoin(a, b, pairs); ok != good || !sameStreams(got, want) {
					t.Fatalf("StreamJoin(%v, %v, %v) = %v, %v, not %v, %v", a, b, pairs, got, ok, want, good)
				}
			}
		}
	}
}

// Promise 4, too: a join of streams, summed up, is the join of both streams summed up.
func TestAStreamJoinSumsUpToTheJoinOfSums(t *testing.T) {
	var streams []impl.Stream
	for i := range impl.MaxStream + 1 {
		for shift := range 5 {
			s := stream(2)
			for k := range i {
				s.Tables = append(s.Tables, deltaTables()[(k*shift+shift*shift+k)%6])
			}
			streams = append(streams, s)
		}
	}
	tried := 0
	for _, pairs := range [][][]int{nil, {{1, 0}}, {{0, 0}, {1, 1}}} {
		for _, a := range streams {
			for _, b := range streams {
				changes, ok := impl.StreamJoin(a, b, pairs)
				if ok != (len(a.Tables) == len(b.Tables)) {
					t.Fatalf("StreamJoin(%v, %v, %v) = %v, %v", a, b, pairs, changes, ok)
				}
				if !ok {
					continue
				}
				sums, good := impl.Integrate(changes)
				sumsOfA, goodA := impl.Integrate(a)
				sumsOfB, goodB := impl.Integrate(b)
				if !good || !goodA || !goodB || len(sums.Tables) != len(a.Tables) {
					t.Fatalf("%v and %v: sums are not good: %v", a, b, sums)
				}
				for i, got := range sums.Tables {
					want, good := impl.JoinTables(sumsOfA.Tables[i], sumsOfB.Tables[i], pairs)
					if !good || !sameTables(got, want) {
						t.Fatalf("StreamJoin(%v, %v, %v) sums up to %v, not %v, at %d", a, b, pairs, got, want, i)
					}
					tried++
				}
			}
		}
	}
	if tried < 1000 {
		t.Errorf("only %d sums were held against joins", tried)
	}
}

// Each change of a join of streams is the JoinDelta of all ahead and of what comes.
func TestAStreamJoinIsAJoinDeltaEachTime(t *testing.T) {
	streams := streamsUpTo(3, ones(), ones(weighted(2, 1)), ones(weighted(-2, 1), weighted(3, 2)))
	for _, a := range streams {
		for _, b := range streams {
			got, ok := impl.StreamJoin(a, b, [][]int{{0, 0}})
			if !ok {
				continue
			}
			ofA, _ := impl.Integrate(a)
			ofB, _ := impl.Integrate(b)
			ofA, _ = impl.DelayStream(ofA)
			ofB, _ = impl.DelayStream(ofB)
			for i := range got.Tables {
				want, good := impl.JoinDelta(ofA.Tables[i], ofB.Tables[i], a.Tables[i], b.Tables[i], [][]int{{0, 0}})
				if !good || !sameTables(got.Tables[i], want) {
					t.Fatalf("StreamJoin(%v, %v) = %v, but JoinDelta tells %v, %v at %d", a, b, got, want, good, i)
				}
			}
		}
	}
}

func deltaPairs() [][][]int {
	return [][][]int{nil, {}, {nil}, {{0}}, {{0, 0}}, {{1, 0}, {0, 1}}, {{0, 0, 0}}, {{0, 0}, {0, 0}}, {{-1, 0}}, {{0, 6}}, {{math.MinInt, math.MaxInt}}, make([][]int, 40), slices.Repeat([][]int{{0, 0}}, 7)}
}

// Promise 19: each function of chapter 4 answers at any arguments, the same each time, in new memory, and writes into none.
func TestDeltaAnswersAndWritesNothing(t *testing.T) {
	var streams []impl.Stream
	for _, s := range append(goodStreams()[50:], badStreams()...) {
		streams = append(streams, withGuards(s))
	}
	for i, a := range streams {
		checkCall(t, "GoodStream", func() []any { return []any{impl.GoodStream(a)} }, a)
		checkCall(t, "Integrate", func() []any { return answers(impl.Integrate(a)) }, a)
		checkCall(t, "Differentiate", func() []any { return answers(impl.Differentiate(a)) }, a)
		checkCall(t, "DelayStream", func() []any { return answers(impl.DelayStream(a)) }, a)
		for _, b := range []impl.Stream{a, streams[i*7%len(streams)], streams[len(streams)-1-i]} {
			for _, pairs := range deltaPairs() {
				pairs := withGuards(pairs)
				checkCall(t, "StreamJoin", func() []any { return answers(impl.StreamJoin(a, b, pairs)) }, a, b, pairs)
			}
		}
	}
	var tables []impl.Table
	for _, one := range append(algebraTables()[:50], badTables()...) {
		tables = append(tables, withGuards(one))
	}
	for i, a := range tables {
		for _, columns := range [][]int{nil, {}, {0}, {0, 0}, {1, 0}, {-1}, {math.MaxInt}, make([]int, 7), make([]int, 1000)} {
			columns := withGuards(columns)
			checkCall(t, "ProjectDelta", func() []any { return answers(impl.ProjectDelta(a, columns)) }, a, columns)
		}
		for _, b := range []impl.Table{a, tables[i*11%len(tables)], tables[len(tables)-1-i]} {
			checkCall(t, "DistinctDelta", func() []any { return answers(impl.DistinctDelta(a, b)) }, a, b)
			for _, pairs := range deltaPairs() {
				pairs := withGuards(pairs)
				checkCall(t, "JoinDelta", func() []any { return answers(impl.JoinDelta(a, b, a, b, pairs)) }, a, b, pairs)
				checkCall(t, "JoinDelta", func() []any { return answers(impl.JoinDelta(a, a, b, b, pairs)) }, a, b, pairs)
			}
		}
	}
}

// What lies behind a list's length does not count.
func TestDeltaDoesNotReadBehindItsLists(t *testing.T) {
	ofStreams := func(s impl.Stream, pairs [][]int) string {
		return fmt.Sprint(impl.GoodStream(s), answers(impl.Integrate(s)), answers(impl.Differentiate(s)), answers(impl.DelayStream(s)), answers(impl.StreamJoin(s, s, pairs)))
	}
	pairs, columns := [][]int{{0, 0}}, []int{0}
	for _, s := range append(goodStreams()[50:], badStreams()...) {
		plain := ofStreams(s, pairs)
		if got := ofStreams(withGuards(s), withGuards(pairs)); got != plain {
			t.Errorf("%v: %s, with guards behind the lists %s", s, plain, got)
		}
	}
	ofTables := func(a impl.Table, pairs [][]int, columns []int) string {
		return fmt.Sprint(answers(impl.JoinDelta(a, a, a, a, pairs)), answers(impl.DistinctDelta(a, a)), answers(impl.ProjectDelta(a, columns)))
	}
	for _, a := range append(algebraTables()[:60], badTables()...) {
		plain := ofTables(a, pairs, columns)
		if got := ofTables(withGuards(a), withGuards(pairs), withGuards(columns)); got != plain {
			t.Errorf("%v: %s, with guards behind the lists %s", a, plain, got)
		}
	}
}
