package tests

import (
	"fmt"
	"math"
	"reflect"
	"slices"
	"testing"

	"loop.example/g00305/impl"
)

func view(sources []int, parts ...impl.Part) impl.View {
	return impl.View{Sources: sources, Parts: parts}
}

func ofSource(number int) impl.Part {
	return impl.Part{Kind: impl.PartSource, A: number}
}

func selectOf(a int, l ...impl.Test) impl.Part {
	return impl.Part{Kind: impl.PartSelect, A: a, Tests: l}
}

func projectOf(a int, columns ...int) impl.Part {
	return impl.Part{Kind: impl.PartProject, A: a, Columns: columns}
}

func joinOf(a, b int, pairs ...[]int) impl.Part {
	return impl.Part{Kind: impl.PartJoin, A: a, B: b, Pairs: pairs}
}

func unionOf(a, b int) impl.Part {
	return impl.Part{Kind: impl.PartUnion, A: a, B: b}
}

func minusOf(a, b int) impl.Part {
	return impl.Part{Kind: impl.PartMinus, A: a, B: b}
}

func distinctOf(a int) impl.Part {
	return impl.Part{Kind: impl.PartDistinct, A: a}
}

func tables(l ...impl.Table) []impl.Table {
	return l
}

func columnsOf(l ...int) []int {
	return l
}

func sameParts(a, b impl.Part) bool {
	return a.Kind == b.Kind && a.A == b.A && a.B == b.B && slices.Equal(a.Tests, b.Tests) &&
		slices.Equal(a.Columns, b.Columns) && slices.EqualFunc(a.Pairs, b.Pairs, slices.Equal)
}

func sameViews(a, b impl.View) bool {
	return slices.Equal(a.Sources, b.Sources) && slices.EqualFunc(a.Parts, b.Parts, sameParts)
}

func isNoView(v impl.View) bool {
	return len(v.Sources) == 0 && len(v.Parts) == 0
}

func emptyTables(sources []int) []impl.Table {
	var out []impl.Table
	for _, columns := range sources {
		out = append(out, table(columns))
	}
	return out
}

// fieldsOf tells which fields a kind has beside A.
var fieldsOf = map[int]string{1: "", 2: "tests", 3: "columns", 4: "b pairs", 5: "b", 6: "b", 7: ""}

// partByHand says again, with other means, how many columns a part has behind parts of so many columns.
func partByHand(p impl.Part, sources, ahead []int) (int, bool) {
	has, known := fieldsOf[p.Kind]
	from := ahead
	if p.Kind == 1 {
		from = sources
	}
	switch {
	case !known, p.A < 0, p.A >= len(from):
		return 0, false
	case has != "tests" && len(p.Tests) > 0, has != "columns" && len(p.Columns) > 0, has != "b pairs" && len(p.Pairs) > 0:
		return 0, false
	case has[:min(1, len(has))] != "b":
		if p.B != 0 {
			return 0, false
		}
	case p.B < 0 || p.B >= len(ahead):
		return 0, false
	}
	switch p.Kind {
	case 2:
		return from[p.A], impl.GoodTests(p.Tests, from[p.A])
	case 3:
		_, good := projectByHand(table(from[p.A]), p.Columns)
		return len(p.Columns), good
	case 4:
		if slices.ContainsFunc(p.Pairs, func(pair []int) bool { return len(pair) != 2 }) {
			return 0, false
		}
		joined, good := joinTablesByHand(table(from[p.A]), table(from[p.B]), p.Pairs)
		return joined.Columns, good
	case 5, 6:
		return from[p.A], from[p.A] == from[p.B]
	}
	return from[p.A], true
}

func checkViewByHand(v impl.View) ([]int, bool) {
	if len(v.Sources) < 1 || len(v.Sources) > 4 || len(v.Parts) < 1 || len(v.Parts) > 12 {
		return nil, false
	}
	if slices.ContainsFunc(v.Sources, func(n int) bool { return n < 0 || n > 6 }) {
		return nil, false
	}
	var out []int
	for _, p := range v.Parts {
		columns, good := partByHand(p, v.Sources, out)
		if !good {
			return nil, false
		}
		out = append(out, columns)
	}
	return out, true
}

// suitByHand tells whether tables are good and have the columns that sources say.
func suitByHand(l []impl.Table, sources []int) bool {
	return slices.EqualFunc(l, sources, func(t impl.Table, columns int) bool {
		return t.Columns == columns && goodByHand(t)
	})
}

// runAllByHand says again, with other means, what the tables of all parts of a right view are.
func runAllByHand(v impl.View, l []impl.Table) ([]impl.Table, bool) {
	if !suitByHand(l, v.Sources) {
		return nil, false
	}
	var out []impl.Table
	for _, p := range v.Parts {
		var one impl.Table
		good := true
		switch p.Kind {
		case 1:
			one = l[p.A]
		case 2:
			one = selectByHand(out[p.A], p.Tests)
		case 3:
			one, good = projectByHand(out[p.A], p.Columns)
		case 4:
			one, good = joinTablesByHand(out[p.A], out[p.B], p.Pairs)
		case 5:
			one, good = sumByHand(out[p.A].Columns, slices.Concat(out[p.A].Rows, out[p.B].Rows))
		case 6:
			one, good = sumByHand(out[p.A].Columns, slices.Concat(out[p.A].Rows, timesByHand(out[p.B].Rows, -1)))
		case 7:
			one = onceByHand(out[p.A], func(impl.Row) bool { return true })
		}
		if !good {
			return nil, false
		}
		out = append(out, one)
	}
	return out, true
}

// addAllByHand has the sum of each table and its change.
func addAllByHand(l, d []impl.Table) ([]impl.Table, bool) {
	var out []impl.Table
	for i, one := range l {
		sum, good := sumByHand(one.Columns, slices.Concat(one.Rows, d[i].Rows))
		if !good {
			return nil, false
		}
		out = append(out, sum)
	}
	return out, true
}

// runDeltaByHand does all anew, before and after, and tells what the last part differs by, where no part differs by what is no table.
func runDeltaByHand(v impl.View, l, d []impl.Table) (impl.Table, bool) {
	if !suitByHand(l, v.Sources) || !suitByHand(d, v.Sources) {
		return impl.Table{}, false
	}
	then, good := addAllByHand(l, d)
	before, goodBefore := runAllByHand(v, l)
	after, goodAfter := runAllByHand(v, then)
	if !good || !goodBefore || !goodAfter {
		return impl.Table{}, false
	}
	var change impl.Table
	for i := range before {
		change, good = sumByHand(before[i].Columns, slices.Concat(after[i].Rows, timesByHand(before[i].Rows, -1)))
		if !good {
			return impl.Table{}, false
		}
	}
	return change, true
}

// chainOf is the first source, made plain again and again, in so many parts.
func chainOf(columns, parts int) impl.View {
	v := view(columnsOf(columns), ofSource(0))
	for i := range parts - 1 {
		v.Parts = append(v.Parts, distinctOf(i))
	}
	return v
}

type checkedView struct {
	v    impl.View
	want []int
}

// checkedViews are right views with the columns of their parts.
func checkedViews() []checkedView {
	two := columnsOf(2)
	return []checkedView{
		{view(columnsOf(0), ofSource(0)), columnsOf(0)},
		{view(columnsOf(6), ofSource(0)), columnsOf(6)},
		{view(columnsOf(6, 0, 1, 2), ofSource(3), ofSource(2), ofSource(1), ofSource(0)), columnsOf(2, 1, 0, 6)},
		{view(columnsOf(1, 2, 3, 4), ofSource(3)), columnsOf(4)},
		{view(columnsOf(2, 1), ofSource(0), ofSource(1), joinOf(0, 1, []int{1, 0}), projectOf(2, 0), distinctOf(3)), columnsOf(2, 1, 2, 1, 1)},
		{chainOf(3, impl.MaxParts), slices.Repeat(columnsOf(3), 12)},
		{view(two, ofSource(0), selectOf(0)), columnsOf(2, 2)},
		{view(two, ofSource(0), selectOf(0, eq(0, 1), gt(1, -5), same(0, 1), lt(1, 2))), columnsOf(2, 2)},
		{view(two, ofSource(0), selectOf(0, slices.Repeat([]impl.Test{same(1, 0)}, maxTests)...)), columnsOf(2, 2)},
		{view(columnsOf(0), ofSource(0), selectOf(0)), columnsOf(0, 0)},
		{view(columnsOf(0), ofSource(0), projectOf(0)), columnsOf(0, 0)},
		{view(two, ofSource(0), projectOf(0)), columnsOf(2, 0)},
		{view(two, ofSource(0), projectOf(0, 1, 0, 1)), columnsOf(2, 3)},
		{view(two, ofSource(0), projectOf(0, 0, 1, 0, 1, 0, 1)), columnsOf(2, 6)},
		{view(two, ofSource(0), joinOf(0, 0)), columnsOf(2, 4)},
		{view(two, ofSource(0), joinOf(0, 0, []int{1, 0})), columnsOf(2, 3)},
		{view(two, ofSource(0), joinOf(0, 0, []int{0, 1}, []int{1, 0})), columnsOf(2, 2)},
		{view(two, ofSource(0), joinOf(0, 0, slices.Repeat([][]int{{0, 0}}, 6)...)), columnsOf(2, 3)},
		{view(columnsOf(3), ofSource(0), joinOf(0, 0)), columnsOf(3, 6)},
		{view(columnsOf(6, 0), ofSource(0), ofSource(1), joinOf(0, 1), joinOf(1, 0)), columnsOf(6, 0, 6, 6)},
		{view(columnsOf(6), ofSource(0), joinOf(0, 0, []int{0, 0}, []int{1, 1}, []int{2, 2}, []int{3, 3}, []int{4, 4}, []int{5, 5})), columnsOf(6, 6)},
		{view(columnsOf(4, 4), ofSource(0), ofSource(1), joinOf(0, 1, []int{3, 0}, []int{0, 3})), columnsOf(4, 4, 6)},
		{view(two, ofSource(0), unionOf(0, 0)), columnsOf(2, 2)},
		{view(two, ofSource(0), minusOf(0, 0)), columnsOf(2, 2)},
		{view(columnsOf(2, 3), ofSource(0), ofSource(1), projectOf(1, 2, 0), unionOf(2, 0), minusOf(3, 2)), columnsOf(2, 3, 2, 2, 2)},
		{view(columnsOf(1, 2), ofSource(0), ofSource(1), joinOf(0, 1), selectOf(2, eq(2, 5)), ofSource(0)), columnsOf(1, 2, 3, 3, 1)},
		{view(two, ofSource(0), ofSource(0), selectOf(0, eq(0, 1)), selectOf(0, eq(1, 1)), unionOf(2, 3), minusOf(4, 0), joinOf(0, 5, []int{0, 0}), distinctOf(6), distinctOf(0), projectOf(7, 2), joinOf(9, 9), ofSource(0)), columnsOf(2, 2, 2, 2, 2, 2, 3, 3, 2, 1, 2, 2)},
	}
}

// badViews are views that are not right, by a fault of each kind.
func badViews() []impl.View {
	two, source := columnsOf(2), ofSource(0)
	pick := func(columns ...int) impl.View { return view(two, source, projectOf(0, columns...)) }
	out := []impl.View{
		{},
		view(nil, source),
		view(columnsOf(), source),
		view(columnsOf(1, 1, 1, 1, 1), source),
		view(make([]int, 1000), source),
		view(columnsOf(-1), source),
		view(columnsOf(7), source),
		view(columnsOf(2, 7), source),
		view(columnsOf(2, 2, 2, -1), source),
		view(columnsOf(math.MinInt), source),
		view(columnsOf(1, math.MaxInt), source),
		view(two),
		{Sources: two, Parts: []impl.Part{}},
		chainOf(2, impl.MaxParts+1),
		chainOf(2, 1000),
		view(two, slices.Repeat([]impl.Part{source}, impl.MaxParts+1)...),
		view(two, impl.Part{}),
		view(two, source, impl.Part{}),
		view(two, impl.Part{Kind: 8}),
		view(two, source, impl.Part{Kind: 8}),
		view(two, source, impl.Part{Kind: -1}),
		view(two, source, impl.Part{Kind: math.MaxInt}),
		view(two, source, impl.Part{Kind: math.MinInt}),
		view(two, ofSource(1)),
		view(two, ofSource(-1)),
		view(columnsOf(2, 2), source, source, source, ofSource(2)),
		view(two, ofSource(math.MaxInt)),
		view(two, ofSource(math.MinInt)),
		pick(2),
		pick(-1),
		pick(0, 1, 6),
		pick(0, 1, 0, 1, 0, 1, 0),
		pick(math.MinInt),
		pick(math.MaxInt),
		view(columnsOf(0), source, projectOf(0, 0)),
		view(columnsOf(0), source, selectOf(0, eq(0, 0))),
		view(two, source, selectOf(0, slices.Repeat([]impl.Test{eq(0, 1)}, maxTests+1)...)),
		view(columnsOf(2, 3), source, ofSource(1), unionOf(0, 1)),
		view(columnsOf(2, 3), source, ofSource(1), unionOf(1, 0)),
		view(columnsOf(2, 3), source, ofSource(1), minusOf(0, 1)),
		view(columnsOf(2, 0), source, ofSource(1), minusOf(1, 0)),
		view(columnsOf(6, 1), source, ofSource(1), joinOf(0, 1)),
		view(columnsOf(6, 1), source, ofSource(1), joinOf(1, 0)),
		view(columnsOf(4), source, joinOf(0, 0)),
		view(columnsOf(4), source, joinOf(0, 0, []int{3, 0})),
		view(columnsOf(4), source, joinOf(0, 0, []int{3, 0}, []int{2, 0})),
		view(columnsOf(1, 2), source, ofSource(1), joinOf(0, 1, []int{1, 0})),
	}
	for _, l := range [][]impl.Test{{eq(2, 0)}, {eq(-1, 0)}, {lt(6, 0)}, {gt(0, impl.MaxCell+1)}, {same(0, 2)}, {same(0, -1)}, {test(0, 0, 0)}, {test(5, 0, 0)}, {eq(0, 0), eq(math.MaxInt, 0)}} {
		out = append(out, view(two, source, selectOf(0, l...)))
	}
	for _, pairs := range badPairsOfTwo() {
		out = append(out, view(two, source, joinOf(0, 0, pairs...)))
	}
	for _, kind := range []func(n int) impl.Part{
		func(n int) impl.Part { return selectOf(n) },
		func(n int) impl.Part { return projectOf(n) },
		func(n int) impl.Part { return joinOf(n, 0) },
		func(n int) impl.Part { return joinOf(0, n) },
		func(n int) impl.Part { return unionOf(n, 0) },
		func(n int) impl.Part { return unionOf(0, n) },
		func(n int) impl.Part { return minusOf(n, 0) },
		func(n int) impl.Part { return minusOf(0, n) },
		distinctOf,
	} {
		// None of these is ahead: the part itself, one behind it, and what is no part at all.
		for _, n := range []int{1, 2, -1, 12, math.MinInt, math.MaxInt} {
			out = append(out, view(two, source, kind(n), source))
		}
		out = append(out, view(two, kind(0)), view(columnsOf(2, 2), kind(0), source))
	}
	return append(out, overfullViews()...)
}

// overfullViews have a field that the last part's kind has not.
func overfullViews() []impl.View {
	var out []impl.View
	for _, part := range []impl.Part{ofSource(0), selectOf(0, eq(0, 1)), selectOf(0), projectOf(0, 0), projectOf(0), joinOf(0, 0, []int{0, 0}), joinOf(0, 0), unionOf(0, 0), minusOf(0, 0), distinctOf(0)} {
		has := fieldsOf[part.Kind]
		add := func(one impl.Part) { out = append(out, view(columnsOf(2), ofSource(0), ofSource(0), one)) }
		if has != "b" && has != "b pairs" {
			for _, n := range []int{1, -1, math.MinInt, math.MaxInt} {
				one := part
				one.B = n
				add(one)
			}
		}
		one := part
		one.Tests = []impl.Test{eq(0, 1)}
		if has != "tests" {
			add(one)
		}
		one = part
		one.Columns = columnsOf(0)
		if has != "columns" {
			add(one)
		}
		one = part
		one.Pairs = [][]int{{0, 0}}
		if has != "b pairs" {
			add(one)
		}
	}
	return out
}

func rightViews() []impl.View {
	var out []impl.View
	for _, c := range checkedViews() {
		out = append(out, c.v)
	}
	return out
}

// dice tells numbers that look as if thrown, the same ones each time.
type dice struct {
	at uint64
}

func (d *dice) below(n int) int {
	d.at = d.at*6364136223846793005 + 1442695040888963407
	return int(d.at>>33) % n
}

func (d *dice) oneOf(l ...int) int {
	return l[d.below(len(l))]
}

// part is any Part behind so many parts: right or not.
func (d *dice) part(ahead, sources int) impl.Part {
	late := func() int { return max(0, ahead-1-d.below(3)) }
	switch d.below(7) {
	case 0:
		return ofSource(d.below(sources))
	case 1:
		l := [][]impl.Test{nil, {eq(0, 1)}, {gt(0, 1)}, {lt(1, 2)}, {same(0, 1)}, {gt(0, 0), lt(2, 2)}}
		return selectOf(late(), l[d.below(len(l))]...)
	case 2:
		l := [][]int{nil, {0}, {1}, {1, 0}, {0, 0}, {2, 1}, {0, 1, 2}}
		return projectOf(late(), l[d.below(len(l))]...)
	case 3:
		l := [][][]int{nil, {{0, 0}}, {{1, 0}}, {{0, 1}}, {{0, 0}, {1, 1}}, {{0, 0}, {0, 1}}, {{2, 0}}}
		return joinOf(late(), d.below(max(1, ahead)), l[d.below(len(l))]...)
	case 4:
		return unionOf(late(), d.below(max(1, ahead)))
	case 5:
		return minusOf(d.below(max(1, ahead)), late())
	}
	return distinctOf(late())
}

// view is any right view: where a part is not right another one is thrown.
func (d *dice) view() impl.View {
	v := impl.View{}
	for range 1 + d.below(impl.MaxSources) {
		v.Sources = append(v.Sources, d.oneOf(0, 1, 1, 2, 2, 2, 3))
	}
	many := 1 + d.below(impl.MaxParts)
	for len(v.Parts) < many {
		next := v
		next.Parts = append(slices.Clone(v.Parts), d.part(len(v.Parts), len(v.Sources)))
		if _, right := checkViewByHand(next); right {
			v = next
		}
	}
	return v
}

func (d *dice) tablesFor(sources []int, weights ...int) []impl.Table {
	var out []impl.Table
	for _, columns := range sources {
		var l []impl.Weighted
		for range d.below(5) {
			var cells []int
			for range columns {
				cells = append(cells, 1+d.below(2))
			}
			l = append(l, weighted(d.oneOf(weights...), cells...))
		}
		one, _ := sumByHand(columns, l)
		one.Columns = columns
		out = append(out, one)
	}
	return out
}

func TestViewConstants(t *testing.T) {
	if impl.MaxParts != 12 || impl.MaxSources != 4 {
		t.Error(impl.MaxParts, impl.MaxSources)
	}
	kinds := []int{impl.PartSource, impl.PartSelect, impl.PartProject, impl.PartJoin, impl.PartUnion, impl.PartMinus, impl.PartDistinct}
	if !slices.Equal(kinds, []int{1, 2, 3, 4, 5, 6, 7}) {
		t.Error(kinds)
	}
}

func TestCheckViewAsTold(t *testing.T) {
	for _, c := range checkedViews() {
		if got, ok := impl.CheckView(c.v); !ok || !slices.Equal(got, c.want) {
			t.Errorf("CheckView(%v) = %v, %v, not %v", c.v, got, ok, c.want)
		}
		if byHand, good := checkViewByHand(c.v); !good || !slices.Equal(byHand, c.want) {
			t.Errorf("%v is right, with %v, not %v", c.v, c.want, byHand)
		}
	}
}

// Empty lists are as none, where a kind has no such lists.
func TestCheckViewTakesEmptyListsAsNone(t *testing.T) {
	for _, c := range checkedViews() {
		v := view(c.v.Sources)
		for _, p := range c.v.Parts {
			if len(p.Tests) == 0 {
				p.Tests = []impl.Test{}
			}
			if len(p.Columns) == 0 {
				p.Columns = []int{}
			}
			if len(p.Pairs) == 0 {
				p.Pairs = [][]int{}
			}
			v.Parts = append(v.Parts, p)
		}
		if got, ok := impl.CheckView(v); !ok || !slices.Equal(got, c.want) {
			t.Errorf("CheckView(%v) = %v, %v, not %v", v, got, ok, c.want)
		}
		if got, ok := impl.PushDown(v); !ok || len(got.Parts) < len(v.Parts) {
			t.Errorf("PushDown(%v) = %v, %v", v, got, ok)
		}
	}
}

// All functions refuse a view that is not right.
func TestViewsThatAreNotRightAreRefused(t *testing.T) {
	for _, v := range badViews() {
		if _, good := checkViewByHand(v); good {
			t.Errorf("%v is right", v)
		}
		if got, ok := impl.CheckView(v); ok || len(got) != 0 {
			t.Errorf("CheckView(%v) = %v, %v", v, got, ok)
		}
		if linear, ok := impl.IsLinear(v); ok || linear {
			t.Errorf("IsLinear(%v) = %v, %v", v, linear, ok)
		}
		if got, ok := impl.PushDown(v); ok || !isNoView(got) {
			t.Errorf("PushDown(%v) = %v, %v", v, got, ok)
		}
		for _, l := range [][]impl.Table{nil, emptyTables(v.Sources), tables(table(2)), tables(table(2, weighted(1, 1, 1)))} {
			if got, ok := impl.RunView(v, l); ok || !isNoTable(got) {
				t.Errorf("RunView(%v, %v) = %v, %v", v, l, got, ok)
			}
			if got, ok := impl.RunAll(v, l); ok || len(got) != 0 {
				t.Errorf("RunAll(%v, %v) = %v, %v", v, l, got, ok)
			}
			if got, ok := impl.RunDelta(v, l, l); ok || !isNoTable(got) {
				t.Errorf("RunDelta(%v, %v) = %v, %v", v, l, got, ok)
			}
		}
	}
}

// changedParts has a part with each field changed in turn.
func changedParts(p impl.Part) []impl.Part {
	var out []impl.Part
	for kind := -1; kind <= 8; kind++ {
		one := p
		one.Kind = kind
		out = append(out, one)
	}
	for n := -1; n <= impl.MaxParts; n++ {
		one, other := p, p
		one.A, other.B = n, n
		out = append(out, one, other)
	}
	for _, l := range [][]impl.Test{nil, {}, {eq(0, 1)}, {gt(1, 1)}, {same(1, 2)}, {eq(5, 0)}, {test(0, 0, 0)}, slices.Repeat([]impl.Test{eq(0, 1)}, 9)} {
		one := p
		one.Tests = l
		out = append(out, one)
	}
	for _, l := range [][]int{nil, {}, {0}, {1, 1}, {2}, {5}, {6}, {-1}, make([]int, 6), make([]int, 7)} {
		one := p
		one.Columns = l
		out = append(out, one)
	}
	for _, l := range [][][]int{nil, {}, {{0, 0}}, {{1, 1}, {0, 0}}, {{2, 1}}, {{0, 5}}, {{0}}, {nil}, {{0, 0, 0}}, slices.Repeat([][]int{{0, 0}}, 6), slices.Repeat([][]int{{0, 0}}, 7)} {
		one := p
		one.Pairs = l
		out = append(out, one)
	}
	return out
}

func TestCheckViewByHand(t *testing.T) {
	views := rightViews()
	thrown := dice{1}
	for range 60 {
		views = append(views, thrown.view())
	}
	right, wrong := 0, 0
	for _, v := range views {
		for i, p := range v.Parts {
			for _, other := range changedParts(p) {
				changed := view(v.Sources, slices.Clone(v.Parts)...)
				changed.Parts[i] = other
				want, good := checkViewByHand(changed)
				if got, ok := impl.CheckView(changed); ok != good || !slices.Equal(got, want) {
					t.Fatalf("CheckView(%v) = %v, %v, not %v, %v", changed, got, ok, want, good)
				}
				if good {
					right++
				} else {
					wrong++
				}
			}
		}
	}
	if right < 1000 || wrong < 1000 {
		t.Errorf("%d were right, %d wrong", right, wrong)
	}
}

func TestRunAllAsTold(t *testing.T) {
	two := columnsOf(2)
	a := table(2, weighted(2, 1, 5), weighted(-1, 1, 6), weighted(3, 2, 5))
	b := table(2, weighted(1, 5, 5), weighted(4, 5, 9), weighted(-2, 7, 7))
	full := ones(countedRows(impl.MaxRows, 0, impl.MaxWeight)...)
	six := table(6, weighted(2, 1, 2, 3, 4, 5, 6))
	for _, c := range []struct {
		v    impl.View
		l    []impl.Table
		want []impl.Table
	}{
		{view(two, ofSource(0)), tables(a), tables(a)},
		{view(two, ofSource(0)), tables(table(2)), tables(table(2))},
		{view(columnsOf(0), ofSource(0), ofSource(0)), tables(table(0, weighted(-7))), tables(table(0, weighted(-7)), table(0, weighted(-7)))},
		{view(columnsOf(6), ofSource(0)), tables(six), tables(six)},
		{view(columnsOf(2, 2), ofSource(1), ofSource(0)), tables(a, b), tables(b, a)},
		{view(two, ofSource(0), selectOf(0, eq(0, 1))), tables(a), tables(a, table(2, weighted(2, 1, 5), weighted(-1, 1, 6)))},
		{view(two, ofSource(0), selectOf(0)), tables(a), tables(a, a)},
		{view(two, ofSource(0), projectOf(0, 1)), tables(a), tables(a, ones(weighted(5, 5), weighted(-1, 6)))},
		{view(two, ofSource(0), projectOf(0)), tables(a), tables(a, table(0, weighted(4)))},
		{view(columnsOf(2, 2), ofSource(0), ofSource(1), joinOf(0, 1, []int{1, 0})), tables(a, b), tables(a, b, table(3, weighted(2, 1, 5, 5), weighted(8, 1, 5, 9), weighted(3, 2, 5, 5), weighted(12, 2, 5, 9)))},
		{view(columnsOf(2, 2), ofSource(0), ofSource(1), joinOf(1, 0, []int{0, 1})), tables(a, b), tables(a, b, table(3, weighted(2, 5, 5, 1), weighted(3, 5, 5, 2), weighted(8, 5, 9, 1), weighted(12, 5, 9, 2)))},
		{view(columnsOf(2, 2), ofSource(0), ofSource(1), unionOf(0, 1)), tables(a, b), tables(a, b, table(2, slices.Concat(a.Rows, b.Rows)...))},
		{view(columnsOf(2, 2), ofSource(0), ofSource(1), minusOf(0, 1)), tables(a, b), tables(a, b, table(2, slices.Concat(a.Rows, timesByHand(b.Rows, -1))...))},
		{view(columnsOf(2, 2), ofSource(0), ofSource(1), minusOf(1, 0)), tables(a, b), tables(a, b, table(2, slices.Concat(timesByHand(a.Rows, -1), b.Rows)...))},
		{view(two, ofSource(0), unionOf(0, 0)), tables(a), tables(a, table(2, timesByHand(a.Rows, 2)...))},
		{view(two, ofSource(0), minusOf(0, 0)), tables(a), tables(a, table(2))},
		{view(two, ofSource(0), joinOf(0, 0, []int{0, 0}, []int{1, 1})), tables(a), tables(a, table(2, weighted(4, 1, 5), weighted(1, 1, 6), weighted(9, 2, 5)))},
		{view(two, ofSource(0), distinctOf(0)), tables(a), tables(a, table(2, weighted(1, 1, 5), weighted(1, 2, 5)))},
		{view(two, ofSource(0), projectOf(0, 1), ofSource(0)), tables(a), tables(a, ones(weighted(5, 5), weighted(-1, 6)), a)},
		{view(columnsOf(1), ofSource(0), minusOf(0, 0), distinctOf(0)), tables(full), tables(full, ones(), ones(countedRows(impl.MaxRows, 0, 1)...))},
		{view(columnsOf(1, 1), ofSource(0), ofSource(1), joinOf(0, 1)), tables(ones(countedRows(6, 0, 1)...), ones(countedRows(10, 0, 1)...)), tables(ones(countedRows(6, 0, 1)...), ones(countedRows(10, 0, 1)...), crossOfCounted(6, 10))},
		{view(columnsOf(6, 0), ofSource(0), ofSource(1), joinOf(0, 1)), tables(six, table(0, weighted(-3))), tables(six, table(0, weighted(-3)), table(6, weighted(-6, 1, 2, 3, 4, 5, 6)))},
		{view(columnsOf(1, 3), ofSource(0)), tables(ones(weighted(1, 1)), table(3, weighted(1, 1, 2, 3))), tables(ones(weighted(1, 1)))},
		{view(columnsOf(1, 1), ofSource(0), ofSource(1), unionOf(0, 1), distinctOf(2)), tables(ones(weighted(-1, 1), weighted(-1, 2)), ones(weighted(2, 1), weighted(1, 2))), tables(ones(weighted(-1, 1), weighted(-1, 2)), ones(weighted(2, 1), weighted(1, 2)), ones(weighted(1, 1)), ones(weighted(1, 1)))},
	} {
		got, ok := impl.RunAll(c.v, c.l)
		if !ok || !slices.EqualFunc(got, c.want, sameTables) {
			t.Errorf("RunAll(%v, %v) = %v, %v, not %v", c.v, c.l, got, ok, c.want)
		}
		last, ok := impl.RunView(c.v, c.l)
		if !ok || !sameTables(last, c.want[len(c.want)-1]) {
			t.Errorf("RunView(%v, %v) = %v, %v, not the last of %v", c.v, c.l, last, ok, c.want)
		}
	}
}

// crossOfCounted is the cross of the first numbers of each, which has rows for all pairs.
func crossOfCounted(first, second int) impl.Table {
	out := impl.Table{Columns: 2}
	for i := range first {
		for k := range second {
			out.Rows = append(out.Rows, weighted(1, i, k))
		}
	}
	return out
}

// checkRunRefused fails if one of the three that run a view tells anything.
func checkRunRefused(t *testing.T, v impl.View, l []impl.Table) {
	t.Helper()
	if got, ok := impl.RunAll(v, l); ok || len(got) != 0 {
		t.Errorf("RunAll(%v, %v) = %v, %v", v, l, got, ok)
	}
	if got, ok := impl.RunView(v, l); ok || !isNoTable(got) {
		t.Errorf("RunView(%v, %v) = %v, %v", v, l, got, ok)
	}
	checkDeltaRefused(t, v, l, emptyTables(v.Sources))
}

func checkDeltaRefused(t *testing.T, v impl.View, l, d []impl.Table) {
	t.Helper()
	if got, ok := impl.RunDelta(v, l, d); ok || !isNoTable(got) {
		t.Errorf("RunDelta(%v, %v, %v) = %v, %v", v, l, d, got, ok)
	}
}

// unsuitedTables are tables that no view of the sources 1 and 2 takes.
func unsuitedTables() [][]impl.Table {
	one, two := ones(weighted(1, 1)), table(2, weighted(1, 1, 1))
	out := [][]impl.Table{
		nil,
		{},
		{one},
		{two},
		{one, two, one},
		{one, two, table(0)},
		{two, one},
		{one, one},
		{two, two},
		{table(0), two},
		{one, table(3)},
		{table(2), table(2)},
		{one, two, two, two, two},
		make([]impl.Table, 1000),
	}
	for _, bad := range badTables() {
		out = append(out, tables(bad, two), tables(one, bad), tables(bad, bad))
	}
	return out
}

func TestRunsRefuseTablesThatDoNotSuit(t *testing.T) {
	good := tables(ones(weighted(1, 1)), table(2, weighted(1, 1, 1)))
	for _, v := range []impl.View{
		view(columnsOf(1, 2), ofSource(0), ofSource(1), joinOf(0, 1)),
		view(columnsOf(1, 2), ofSource(0)),
		view(columnsOf(1, 2), ofSource(1), selectOf(0, eq(0, 1))),
	} {
		if _, ok := impl.RunDelta(v, good, good); !ok {
			t.Fatalf("RunDelta(%v, %v) is told", v, good)
		}
		for _, l := range unsuitedTables() {
			checkRunRefused(t, v, l)
			checkDeltaRefused(t, v, l, good)
			checkDeltaRefused(t, v, good, l)
			checkDeltaRefused(t, v, l, l)
		}
	}
	for _, bad := range badTables() {
		columns := min(max(bad.Columns, 0), impl.MaxColumns)
		v := view(columnsOf(columns), ofSource(0))
		checkRunRefused(t, v, tables(bad))
		checkDeltaRefused(t, v, tables(table(columns)), tables(bad))
	}
}

// A part that is no good table is refused, whether it is the last one, one in the middle, or one that nobody asks for.
func TestRunsRefusePartsThatAreNotGood(t *testing.T) {
	most := impl.MaxWeight
	heavy := ones(weighted(most, 1))
	eight := ones(countedRows(8, 0, 1)...)
	for _, c := range []struct {
		v impl.View
		l []impl.Table
	}{
		{view(columnsOf(1), ofSource(0), unionOf(0, 0)), tables(heavy)},
		{view(columnsOf(1, 1), ofSource(0), ofSource(1), minusOf(0, 1)), tables(heavy, ones(weighted(-1, 1)))},
		{view(columnsOf(1), ofSource(0), joinOf(0, 0, []int{0, 0})), tables(heavy)},
		{view(columnsOf(1), ofSource(0), joinOf(0, 0)), tables(eight)},
		{view(columnsOf(1), ofSource(0), projectOf(0)), tables(ones(weighted(most, 1), weighted(1, 2)))},
		{view(columnsOf(1, 1), ofSource(0), ofSource(1), unionOf(0, 1)), tables(ones(countedRows(60, 0, 1)...), ones(weighted(1, 60)))},
	} {
		checkRunRefused(t, c.v, c.l)
		last := len(c.v.Parts) - 1
		columns, _ := checkViewByHand(c.v)
		for _, behind := range [][]impl.Part{
			{ofSource(0)},
			{distinctOf(last)},
			{minusOf(last, last)},
			{selectOf(last, slices.Repeat([]impl.Test{lt(0, -impl.MaxCell)}, min(1, columns[last]))...)},
			{projectOf(last), distinctOf(last + 1)},
		} {
			checkRunRefused(t, view(c.v.Sources, slices.Concat(c.v.Parts, behind)...), c.l)
		}
	}
}

func TestRunAllByHand(t *testing.T) {
	most := impl.MaxWeight
	thrown := dice{2}
	told, refused := 0, 0
	for i := range 6000 {
		v := thrown.view()
		l := thrown.tablesFor(v.Sources, -1, 1, 2, 3)
		if i%3 == 0 {
			l = thrown.tablesFor(v.Sources, -most, 1, 2, 700, most)
		}
		want, good := runAllByHand(v, l)
		got, ok := impl.RunAll(v, l)
		if ok != good || !slices.EqualFunc(got, want, sameTables) {
			t.Fatalf("RunAll(%v, %v) = %v, %v, not %v, %v", v, l, got, ok, want, good)
		}
		if ok {
			told++
		} else {
			refused++
		}
	}
	if told < 2000 || refused < 300 {
		t.Errorf("%d were told, %d refused", told, refused)
	}
}

// RunView is the last of RunAll, and CheckView's numbers are the columns of RunAll's tables.
func TestRunViewAndCheckViewAgainstRunAll(t *testing.T) {
	thrown := dice{3}
	views := rightViews()
	for range 2000 {
		views = append(views, thrown.view())
	}
	told := 0
	for _, v := range views {
		for _, l := range [][]impl.Table{emptyTables(v.Sources), thrown.tablesFor(v.Sources, -1, 1, 2), thrown.tablesFor(v.Sources, -1000, 1, impl.MaxWeight)} {
			all, good := impl.RunAll(v, l)
			last, ok := impl.RunView(v, l)
			if ok != good || ok && !sameTables(last, all[len(all)-1]) || !ok && !isNoTable(last) {
				t.Fatalf("RunView(%v, %v) = %v, %v, but RunAll tells %v, %v", v, l, last, ok, all, good)
			}
			columns, right := impl.CheckView(v)
			same := slices.EqualFunc(all, columns, func(one impl.Table, n int) bool { return one.Columns == n && impl.GoodTable(one) })
			if !right || good && !same {
				t.Fatalf("CheckView(%v) = %v, %v, but RunAll tells %v", v, columns, right, all)
			}
			if good {
				told++
			}
		}
	}
	if told < 3000 {
		t.Errorf("only %d were told", told)
	}
}

type deltaCase struct {
	v    impl.View
	l, d []impl.Table
	want impl.Table
}

func TestRunDeltaAsTold(t *testing.T) {
	two := columnsOf(2)
	a := table(2, weighted(2, 1, 5), weighted(-1, 1, 6), weighted(3, 2, 5))
	away := table(2, timesByHand(a.Rows, -1)...)
	come := table(2, weighted(1, 1, 6), weighted(-3, 2, 5), weighted(1, 2, 6))
	one, none := ones(weighted(1, 1)), ones()
	most := impl.MaxWeight
	full, gone := ones(countedRows(60, 0, most)...), ones(countedRows(60, 0, -most)...)
	byBoth := [][]int{{0, 0}, {1, 1}}
	for _, c := range []deltaCase{
		{view(two, ofSource(0)), tables(a), tables(come), come},
		{view(two, ofSource(0)), tables(a), tables(away), away},
		{view(two, ofSource(0)), tables(a), tables(table(2)), table(2)},
		{view(two, ofSource(0), selectOf(0, eq(0, 1))), tables(a), tables(come), table(2, weighted(1, 1, 6))},
		{view(two, ofSource(0), projectOf(0, 1)), tables(a), tables(come), ones(weighted(-3, 5), weighted(2, 6))},
		{view(two, ofSource(0), projectOf(0)), tables(a), tables(come), table(0, weighted(-1))},
		{view(two, ofSource(0), unionOf(0, 0)), tables(a), tables(come), table(2, timesByHand(come.Rows, 2)...)},
		{view(two, ofSource(0), minusOf(0, 0)), tables(a), tables(come), table(2)},
		{view(columnsOf(2, 2), ofSource(0), ofSource(1), minusOf(1, 0)), tables(a, a), tables(come, table(2)), table(2, timesByHand(come.Rows, -1)...)},
		{view(two, ofSource(0), distinctOf(0)), tables(a), tables(come), table(2, weighted(-1, 2, 5), weighted(1, 2, 6))},
		{view(two, ofSource(0), distinctOf(0)), tables(a), tables(away), table(2, weighted(-1, 1, 5), weighted(-1, 2, 5))},
		{view(two, ofSource(0), distinctOf(0)), tables(a), tables(table(2)), table(2)},
		{view(two, ofSource(0), joinOf(0, 0, byBoth...)), tables(a), tables(come), table(2, weighted(-1, 1, 6), weighted(-9, 2, 5), weighted(1, 2, 6))},
		{view(two, ofSource(0), joinOf(0, 0, byBoth...)), tables(a), tables(away), table(2, weighted(-4, 1, 5), weighted(-1, 1, 6), weighted(-9, 2, 5))},
		{view(two, ofSource(0), joinOf(0, 0, byBoth...), distinctOf(1)), tables(a), tables(come), table(2, weighted(-1, 1, 6), weighted(-1, 2, 5), weighted(1, 2, 6))},
		{view(columnsOf(1, 1), ofSource(0), ofSource(1), joinOf(0, 1, []int{0, 0})), tables(one, none), tables(one, one), ones(weighted(2, 1))},
		{view(columnsOf(1, 1), ofSource(0), ofSource(1), joinOf(0, 1, []int{0, 0})), tables(none, none), tables(one, one), one},
		{view(columnsOf(1, 1), ofSource(0), ofSource(1), joinOf(0, 1)), tables(one, none), tables(none, ones(weighted(4, 7))), table(2, weighted(4, 1, 7))},
		{view(columnsOf(2, 1), ofSource(0), ofSource(1), joinOf(0, 1, []int{1, 0}), projectOf(2, 0), distinctOf(3)), tables(table(2, weighted(1, 1, 5), weighted(1, 1, 6), weighted(1, 2, 7)), ones(weighted(1, 5), weighted(1, 6))), tables(table(2), ones(weighted(-1, 5), weighted(1, 7))), ones(weighted(1, 2))},
		{view(columnsOf(1, 1), ofSource(0)), tables(one, one), tables(none, one), none},
		{view(columnsOf(1), ofSource(0)), tables(full), tables(gone), gone},
		{view(columnsOf(1), ofSource(0), distinctOf(0)), tables(full), tables(gone), ones(countedRows(60, 0, -1)...)},
		{view(columnsOf(1), ofSource(0), distinctOf(0)), tables(none), tables(full), ones(countedRows(60, 0, 1)...)},
		{view(columnsOf(1), ofSource(0), projectOf(0, 0, 0), distinctOf(1)), tables(full), tables(ones()), table(2)},
		{view(columnsOf(0), ofSource(0), joinOf(0, 0)), tables(table(0, weighted(3))), tables(table(0, weighted(-1))), table(0, weighted(-5))},
		{view(columnsOf(3), ofSource(0), joinOf(0, 0)), tables(table(3, weighted(1, 1, 2, 3))), tables(table(3, weighted(1, 1, 2, 3))), table(6, weighted(3, 1, 2, 3, 1, 2, 3))},
		{view(columnsOf(1), ofSource(0), joinOf(0, 0, []int{0, 0})), tables(ones(weighted(-1000, 1))), tables(ones(weighted(2000, 1))), none},
		{view(columnsOf(1), ofSource(0), unionOf(0, 0), minusOf(1, 0)), tables(ones(weighted(most/2, 1))), tables(ones(weighted(-most/2, 1))), ones(weighted(-most/2, 1))},
	} {
		if got, ok := impl.RunDelta(c.v, c.l, c.d); !ok || !sameTables(got, c.want) {
			t.Errorf("RunDelta(%v, %v, %v) = %v, %v, not %v", c.v, c.l, c.d, got, ok, c.want)
		}
		if byHand, good := runDeltaByHand(c.v, c.l, c.d); !good || !sameTables(byHand, c.want) {
			t.Errorf("of %v, %v and %v the change is %v, %v, not %v", c.v, c.l, c.d, byHand, good, c.want)
		}
	}
}

// What is not good after the changes, or as a change, is refused, in whatever part it comes up, even if the last one is good.
func TestRunDeltaRefuses(t *testing.T) {
	most := impl.MaxWeight
	one, none := ones(weighted(1, 1)), ones()
	heavy, half := ones(weighted(most, 1)), ones(weighted(most/2, 1))
	byOne := []int{0, 0}
	single, both := columnsOf(1), columnsOf(1, 1)
	for _, c := range []deltaCase{
		// Sources after their changes.
		{v: view(single, ofSource(0)), l: tables(heavy), d: tables(one)},
		{v: view(single, ofSource(0)), l: tables(ones(countedRows(60, 0, 1)...)), d: tables(ones(weighted(1, 60)))},
		{v: view(single, ofSource(0), distinctOf(0)), l: tables(heavy), d: tables(one)},
		{v: view(single, ofSource(0), minusOf(0, 0)), l: tables(heavy), d: tables(one)},
		{v: view(both, ofSource(0)), l: tables(one, heavy), d: tables(one, one)},
		// A part before them.
		{v: view(single, ofSource(0), unionOf(0, 0), ofSource(0)), l: tables(heavy), d: tables(ones(weighted(-most, 1)))},
		{v: view(single, ofSource(0), joinOf(0, 0, byOne), minusOf(1, 1)), l: tables(ones(weighted(1001, 1))), d: tables(ones(weighted(-1001, 1)))},
		{v: view(single, ofSource(0), joinOf(0, 0), projectOf(1, 0), distinctOf(2)), l: tables(ones(countedRows(8, 0, 1)...)), d: tables(ones(countedRows(8, 0, -1)...))},
		// A part after them.
		{v: view(single, ofSource(0), unionOf(0, 0), ofSource(0)), l: tables(half), d: tables(one)},
		{v: view(single, ofSource(0), unionOf(0, 0), minusOf(1, 1)), l: tables(half), d: tables(one)},
		{v: view(single, ofSource(0), joinOf(0, 0, byOne), distinctOf(1)), l: tables(ones(weighted(1000, 1))), d: tables(one)},
		{v: view(single, ofSource(0), joinOf(0, 0), projectOf(1, 0)), l: tables(ones(countedRows(7, 0, 1)...)), d: tables(ones(weighted(1, 7)))},
		{v: view(single, ofSource(0), projectOf(0), distinctOf(1)), l: tables(ones(weighted(most, 1))), d: tables(ones(weighted(1, 2)))},
		{v: view(both, ofSource(0), ofSource(1), minusOf(0, 1), distinctOf(2)), l: tables(heavy, one), d: tables(none, ones(weighted(-2, 1)))},
		// A change of a part, though its tables are good before and after.
		{v: view(single, ofSource(0), unionOf(0, 0), ofSource(0)), l: tables(ones(weighted(-1, 1))), d: tables(ones(weighted(most/2+1, 1)))},
		{v: view(single, ofSource(0), unionOf(0, 0)), l: tables(ones(weighted(-most/2, 1))), d: tables(heavy)},
		{v: view(single, ofSource(0), unionOf(0, 0), distinctOf(1)), l: tables(ones(weighted(-most/2, 1))), d: tables(heavy)},
		{v: view(single, ofSource(0), unionOf(0, 0), ofSource(0)), l: tables(ones(weighted(-most/2, 1))), d: tables(heavy)},
		{v: view(both, ofSource(0), ofSource(1), joinOf(0, 1, byOne), minusOf(2, 2)), l: tables(ones(weighted(-1000, 1)), ones(weighted(1000, 1))), d: tables(ones(weighted(2000, 1)), none)},
		{v: view(both, ofSource(0), ofSource(1), joinOf(0, 1), projectOf(2, 1)), l: tables(one, ones(countedRows(31, 0, 1)...)), d: tables(ones(weighted(-1, 1), weighted(1, 2)), none)},
		{v: view(single, ofSource(0), projectOf(0)), l: tables(ones(weighted(-most, 1))), d: tables(ones(weighted(most, 1), weighted(1, 2)))},
	} {
		if _, good := runDeltaByHand(c.v, c.l, c.d); good {
			t.Errorf("of %v, %v and %v all is good", c.v, c.l, c.d)
		}
		checkDeltaRefused(t, c.v, c.l, c.d)
	}
}

// What is exactly at a limit is told, in the tables before and after and in the changes.
func TestRunDeltaAtTheLimits(t *testing.T) {
	most := impl.MaxWeight
	half, less := ones(weighted(most/2, 1)), ones(weighted(-most/2, 1))
	for _, c := range []deltaCase{
		{view(columnsOf(1), ofSource(0), unionOf(0, 0)), tables(ones()), tables(half), ones(weighted(most, 1))},
		{view(columnsOf(1), ofSource(0), unionOf(0, 0)), tables(half), tables(less), ones(weighted(-most, 1))},
		{view(columnsOf(1), ofSource(0), unionOf(0, 0)), tables(ones(weighted(-most/4, 1))), tables(half), ones(weighted(most, 1))},
		{view(columnsOf(1), ofSource(0), joinOf(0, 0, []int{0, 0})), tables(ones()), tables(ones(weighted(1000, 1))), ones(weighted(most, 1))},
		{view(columnsOf(1), ofSource(0), joinOf(0, 0)), tables(ones()), tables(ones(countedRows(7, 0, 1)...)), crossOfCounted(7, 7)},
		{view(columnsOf(1, 1), ofSource(0), ofSource(1), joinOf(0, 1)), tables(ones(countedRows(6, 0, 1)...), ones()), tables(ones(), ones(countedRows(10, 0, 1)...)), crossOfCounted(6, 10)},
		{view(columnsOf(1, 1), ofSource(0), ofSource(1), unionOf(0, 1)), tables(ones(countedRows(30, 0, 1)...), ones()), tables(ones(), ones(countedRows(30, 30, 1)...)), ones(countedRows(30, 30, 1)...)},
		{view(columnsOf(1), ofSource(0), distinctOf(0)), tables(ones(countedRows(30, 0, 1)...)), tables(ones(slices.Concat(countedRows(30, 0, -1), countedRows(30, 30, 1))...)), ones(slices.Concat(countedRows(30, 0, -1), countedRows(30, 30, 1))...)},
	} {
		if got, ok := impl.RunDelta(c.v, c.l, c.d); !ok || !sameTables(got, c.want) {
			t.Errorf("RunDelta(%v, %v, %v) = %v, %v, not %v", c.v, c.l, c.d, got, ok, c.want)
		}
	}
}

func TestRunDeltaByHand(t *testing.T) {
	most := impl.MaxWeight
	thrown := dice{4}
	told, refused := 0, 0
	for i := range 6000 {
		v := thrown.view()
		l, d := thrown.tablesFor(v.Sources, -1, 1, 2, 3), thrown.tablesFor(v.Sources, -2, -1, 1, 2)
		if i%3 == 0 {
			l, d = thrown.tablesFor(v.Sources, -most, 1, 2, 700, most), thrown.tablesFor(v.Sources, -most, -1, 1, 500, most)
		}
		want, good := runDeltaByHand(v, l, d)
		got, ok := impl.RunDelta(v, l, d)
		if ok != good || !sameTables(got, want) {
			t.Fatalf("RunDelta(%v, %v, %v) = %v, %v, not %v, %v", v, l, d, got, ok, want, good)
		}
		if ok && len(got.Rows) > 0 {
			told++
		}
		if !ok {
			refused++
		}
	}
	if told < 1000 || refused < 500 {
		t.Errorf("%d changes were told, %d refused", told, refused)
	}
}

// kindViews are views of two tables of two columns for each kind of part, alone and one behind the other.
func kindViews() []impl.View {
	a, b := ofSource(0), ofSource(1)
	var out []impl.View
	for _, behind := range [][]impl.Part{
		nil,
		{a},
		{selectOf(0, eq(0, 1))},
		{selectOf(0, same(0, 1), gt(1, 1))},
		{projectOf(0, 1)},
		{projectOf(1)},
		{joinOf(0, 1, []int{1, 0})},
		{joinOf(0, 1)},
		{joinOf(0, 0, []int{1, 0})},
		{joinOf(1, 1)},
		{unionOf(0, 1)},
		{minusOf(0, 1)},
		{minusOf(1, 0)},
		{distinctOf(0)},
		{distinctOf(0), joinOf(2, 1, []int{0, 0})},
		{distinctOf(0), distinctOf(1), joinOf(2, 3, []int{1, 0})},
		{distinctOf(0), joinOf(2, 2, []int{1, 0})},
		{joinOf(0, 1, []int{1, 0}), distinctOf(2)},
		{joinOf(0, 1, []int{1, 0}), projectOf(2, 0, 2), distinctOf(3), joinOf(3, 4, []int{0, 0}, []int{1, 1})},
		{joinOf(0, 0, []int{0, 0}, []int{1, 1}), joinOf(2, 2, []int{0, 0}, []int{1, 1})},
		{unionOf(0, 1), distinctOf(2), minusOf(3, 2)},
		{minusOf(0, 1), distinctOf(2), joinOf(3, 2, []int{0, 1})},
		{distinctOf(0), distinctOf(1), minusOf(2, 3), distinctOf(4)},
		{projectOf(0, 0), projectOf(1, 1), joinOf(2, 3, []int{0, 0}), distinctOf(4), selectOf(5, gt(0, 1))},
		{distinctOf(0), unionOf(2, 0), selectOf(3, lt(0, 2)), projectOf(4, 1, 0), minusOf(5, 1), joinOf(6, 5, []int{0, 0}), distinctOf(7)},
		{distinctOf(0), distinctOf(2), distinctOf(3), distinctOf(4), distinctOf(5), distinctOf(6), distinctOf(7), distinctOf(8), distinctOf(9), joinOf(10, 0, []int{0, 0})},
	} {
		out = append(out, view(columnsOf(2, 2), slices.Concat([]impl.Part{a, b}, behind)...))
	}
	return out
}

// Promise 6: what a view is after the changes is what it was, and what is told of the changes.
func TestAViewChangesByWhatIsToldOfChanges(t *testing.T) {
	some := append(deltaTables()[:6], table(2, weighted(1, 1, 2), weighted(1, 2, 1)), table(2, weighted(-1, 1, 2), weighted(2, 2, 2)))
	tried, changed := 0, 0
	for _, v := range kindViews() {
		for i, a := range some {
			for k, b := range some {
				for m, da := range some {
					for _, db := range tables(table(2), da, some[(i+k+m)%len(some)], table(2, timesByHand(b.Rows, -1)...)) {
						told, isTold := checkChange(t, v, tables(a, b), tables(da, db))
						if isTold {
							tried++
						}
						if len(told.Rows) > 0 {
							changed++
						}
					}
				}
			}
		}
	}
	if tried < 40000 || changed < 20000 {
		t.Errorf("only %d changes were told, %d of them with rows", tried, changed)
	}
}

// Promise 6, too, at tables of MaxRows rows that come, go and are changed.
func TestAViewOfFullTablesChangesByWhatIsToldOfChanges(t *testing.T) {
	full := impl.Table{Columns: 2}
	for i := range impl.MaxRows {
		full.Rows = append(full.Rows, weighted(1+i%3, i, i%4))
	}
	none, gone, more := table(2), negatedTables(tables(full))[0], table(2, full.Rows[10:30]...)
	small := table(2, weighted(1, 1, 2), weighted(2, 2, 1))
	tried := 0
	for _, v := range kindViews() {
		for _, c := range [][4]impl.Table{
			{full, none, gone, none},
			{full, none, more, small},
			{full, small, gone, small},
			{none, small, full, none},
			{none, small, full, small},
			{small, full, none, gone},
			{small, none, more, full},
			{full, full, gone, gone},
			{full, full, more, gone},
			{none, none, full, full},
		} {
			if _, told := checkChange(t, v, tables(c[0], c[1]), tables(c[2], c[3])); told {
				tried++
			}
		}
	}
	if tried < 100 {
		t.Errorf("only %d changes were told", tried)
	}
}

// checkChange fails if a view before and its change do not come to the view after; it tells the change.
func checkChange(t *testing.T, v impl.View, l, d []impl.Table) (impl.Table, bool) {
	t.Helper()
	change, ok := impl.RunDelta(v, l, d)
	var then []impl.Table
	allGood := true
	for i := range l {
		sum, good := impl.AddTables(l[i], d[i])
		then, allGood = append(then, sum), allGood && good
	}
	before, goodBefore := impl.RunView(v, l)
	after, goodAfter := impl.RunView(v, then)
	if ok && (!allGood || !goodBefore || !goodAfter) {
		t.Fatalf("RunDelta(%v, %v, %v) = %v, though not all is good", v, l, d, change)
	}
	if !ok {
		return change, false
	}
	if sum, good := impl.AddTables(before, change); !good || !sameTables(sum, after) {
		t.Fatalf("RunDelta(%v, %v, %v) = %v: with %v it comes to %v, not to %v", v, l, d, change, before, sum, after)
	}
	return change, true
}

// Promise 6, too: changes one after the other come to what both change at once, and what goes and comes again is as nothing.
func TestChangesOfAViewAddUp(t *testing.T) {
	thrown := dice{5}
	tried := 0
	for range 3000 {
		v := thrown.view()
		l, d, e := thrown.tablesFor(v.Sources, 1, 2), thrown.tablesFor(v.Sources, -1, 1, 2), thrown.tablesFor(v.Sources, -1, 1, 2)
		then, goodThen := addAllByHand(l, d)
		both, goodBoth := addAllByHand(d, e)
		if !goodThen || !goodBoth {
			continue
		}
		first, ok := impl.RunDelta(v, l, d)
		second, okToo := impl.RunDelta(v, then, e)
		whole, okWhole := impl.RunDelta(v, l, both)
		if !ok || !okToo || !okWhole {
			continue
		}
		if sum, good := impl.AddTables(first, second); !good || !sameTables(sum, whole) {
			t.Fatalf("%v of %v: %v, then %v, but at once %v", v, l, first, second, whole)
		}
		back, good := impl.RunDelta(v, then, negatedTables(d))
		if sum, summed := impl.AddTables(first, back); !good || !summed || len(sum.Rows) != 0 {
			t.Fatalf("%v of %v changed by %v: %v, and back %v, %v", v, l, d, first, back, good)
		}
		if none, good := impl.RunDelta(v, l, emptyTables(v.Sources)); !good || len(none.Rows) != 0 {
			t.Fatalf("RunDelta(%v, %v) of no changes = %v, %v", v, l, none, good)
		}
		tried++
	}
	if tried < 1000 {
		t.Errorf("only %d were tried", tried)
	}
}

func negatedTables(l []impl.Table) []impl.Table {
	var out []impl.Table
	for _, one := range l {
		out = append(out, table(one.Columns, timesByHand(one.Rows, -1)...))
	}
	return out
}

// Changes of thrown views, those of nothing and those that take all rows away among them.
func TestThrownViewsChangeByWhatIsToldOfChanges(t *testing.T) {
	thrown := dice{6}
	tried := 0
	for range 3000 {
		v := thrown.view()
		l := thrown.tablesFor(v.Sources, -2, 1, 2, 3)
		for _, d := range [][]impl.Table{thrown.tablesFor(v.Sources, -2, -1, 1, 2), emptyTables(v.Sources), negatedTables(l), l} {
			if _, told := checkChange(t, v, l, d); told {
				tried++
			}
		}
		if change, ok := impl.RunDelta(v, l, emptyTables(v.Sources)); len(change.Rows) != 0 {
			t.Fatalf("RunDelta(%v, %v) of no changes = %v, %v", v, l, change, ok)
		}
	}
	if tried < 8000 {
		t.Errorf("only %d changes were told", tried)
	}
}

func TestIsLinear(t *testing.T) {
	thrown := dice{7}
	views := append(rightViews(), kindViews()...)
	for range 1000 {
		views = append(views, thrown.view())
	}
	linear := 0
	for _, v := range views {
		want := !slices.ContainsFunc(v.Parts, func(p impl.Part) bool { return p.Kind == 4 || p.Kind == 7 })
		if got, ok := impl.IsLinear(v); !ok || got != want {
			t.Errorf("IsLinear(%v) = %v, %v", v, got, ok)
		}
		if want {
			linear++
		}
	}
	if linear < 100 || linear > 900 {
		t.Errorf("%d of %d were linear", linear, len(views))
	}
	// A part that nobody asks for counts, too.
	for _, c := range []struct {
		v    impl.View
		want bool
	}{
		{view(columnsOf(2), ofSource(0)), true},
		{view(columnsOf(2), ofSource(0), selectOf(0, eq(0, 1)), projectOf(1, 0), unionOf(2, 2), minusOf(3, 2)), true},
		{view(columnsOf(2), ofSource(0), joinOf(0, 0)), false},
		{view(columnsOf(2), ofSource(0), distinctOf(0)), false},
		{view(columnsOf(2), ofSource(0), joinOf(0, 0), ofSource(0)), false},
		{view(columnsOf(2), ofSource(0), distinctOf(0), selectOf(0)), false},
	} {
		if got, ok := impl.IsLinear(c.v); !ok || got != c.want {
			t.Errorf("IsLinear(%v) = %v, %v", c.v, got, ok)
		}
	}
}

// A linear view of a sum is the sum of both, and it changes by itself of the changes.
func TestALinearViewOfASumIsTheSumOfBoth(t *testing.T) {
	thrown := dice{8}
	tried := 0
	for range 6000 {
		v := thrown.view()
		linear, _ := impl.IsLinear(v)
		a, b := thrown.tablesFor(v.Sources, -2, -1, 1, 3), thrown.tablesFor(v.Sources, -1, 1, 2)
		sum, good := addAllByHand(a, b)
		if !linear || !good {
			continue
		}
		ofA, goodA := impl.RunView(v, a)
		ofB, goodB := impl.RunView(v, b)
		ofSum, goodSum := impl.RunView(v, sum)
		if !goodA || !goodB || !goodSum {
			continue
		}
		if both, ok := impl.AddTables(ofA, ofB); !ok || !sameTables(both, ofSum) {
			t.Fatalf("%v of %v and %v: %v and %v come to %v, not to %v", v, a, b, ofA, ofB, both, ofSum)
		}
		if change, ok := impl.RunDelta(v, a, b); !ok || !sameTables(change, ofB) {
			t.Fatalf("RunDelta(%v, %v, %v) = %v, %v, not %v", v, a, b, change, ok, ofB)
		}
		tried++
	}
	if tried < 500 {
		t.Errorf("only %d were tried", tried)
	}
}

type pushCase struct {
	v, want impl.View
}

func checkPushed(t *testing.T, cases []pushCase) {
	t.Helper()
	for _, c := range cases {
		if got, ok := impl.PushDown(c.v); !ok || !sameViews(got, c.want) {
			t.Errorf("PushDown(%v) = %v, %v, not %v", c.v, got, ok, c.want)
		}
	}
}

func TestPushDownAsTold(t *testing.T) {
	l := []impl.Test{eq(0, 1), same(0, 1)}
	both := columnsOf(2, 2)
	a, b := ofSource(0), ofSource(1)
	checkPushed(t, []pushCase{
		{view(both, a, b, unionOf(0, 1), selectOf(2, l...)), view(both, a, b, unionOf(0, 1), selectOf(0, l...), selectOf(1, l...), unionOf(3, 4))},
		{view(both, a, b, unionOf(1, 0), selectOf(2, l...)), view(both, a, b, unionOf(1, 0), selectOf(1, l...), selectOf(0, l...), unionOf(3, 4))},
		{view(both, a, unionOf(0, 0), selectOf(1, l...)), view(both, a, unionOf(0, 0), selectOf(0, l...), selectOf(0, l...), unionOf(2, 3))},
		{view(both, a, unionOf(0, 0), selectOf(1)), view(both, a, unionOf(0, 0), selectOf(0), selectOf(0), unionOf(2, 3))},
		{view(both, a, b, unionOf(0, 1), distinctOf(2), b, selectOf(2, l...)), view(both, a, b, unionOf(0, 1), distinctOf(2), b, selectOf(0, l...), selectOf(1, l...), unionOf(5, 6))},
		{view(both, a, b, unionOf(0, 1), unionOf(2, 1), selectOf(3, l...)), view(both, a, b, unionOf(0, 1), unionOf(2, 1), selectOf(2, l...), selectOf(1, l...), unionOf(4, 5))},
		{view(columnsOf(3), a, joinOf(0, 0, []int{0, 0}, []int{1, 1}, []int{2, 2}), projectOf(1, 2, 0, 1), unionOf(0, 2), selectOf(3, gt(2, 0))), view(columnsOf(3), a, joinOf(0, 0, []int{0, 0}, []int{1, 1}, []int{2, 2}), projectOf(1, 2, 0, 1), unionOf(0, 2), selectOf(0, gt(2, 0)), selectOf(2, gt(2, 0)), unionOf(4, 5))},
	})
	// Any other one stays as it is.
	for _, v := range append(rightViews(),
		view(both, a, b, unionOf(0, 1)),
		view(both, a, b, minusOf(0, 1), selectOf(2, l...)),
		view(both, a, selectOf(0, l...)),
		view(both, a, b, unionOf(0, 1), selectOf(2, l...), selectOf(3, l...)),
		view(both, a, b, unionOf(0, 1), selectOf(2, l...), a),
		view(both, a, b, unionOf(0, 1), selectOf(1, l...)),
		view(both, a, b, unionOf(0, 1), distinctOf(2), selectOf(3, l...)),
		view(both, a, b, unionOf(0, 1), projectOf(2, 1)),
		view(both, a, b, unionOf(0, 1), distinctOf(2)),
		view(both, a, joinOf(0, 0, []int{0, 0}, []int{1, 1}), selectOf(1, l...))) {
		checkPushed(t, []pushCase{{v, v}})
	}
}

// MaxParts - 2 parts allow two more, MaxParts - 1 do not.
func TestPushDownAtMaxParts(t *testing.T) {
	l := []impl.Test{gt(0, 1)}
	longest := func(parts int) impl.View {
		v := chainOf(2, parts-2)
		v.Parts = append(v.Parts, unionOf(0, parts-3), selectOf(parts-2, l...))
		return v
	}
	for parts := 3; parts <= impl.MaxParts; parts++ {
		v := longest(parts)
		want := v
		if parts <= 10 {
			want = view(v.Sources, slices.Concat(v.Parts[:parts-1], []impl.Part{selectOf(0, l...), selectOf(parts-3, l...), unionOf(parts-1, parts)})...)
		}
		checkPushed(t, []pushCase{{v, want}})
		if got, _ := impl.PushDown(v); len(got.Parts) > impl.MaxParts {
			t.Errorf("%d parts become %d", parts, len(got.Parts))
		}
		x := table(2, weighted(2, 1, 1), weighted(-1, 2, 1), weighted(3, 2, 2))
		before, ok := impl.RunView(v, tables(x))
		pushed, _ := impl.PushDown(v)
		if after, good := impl.RunView(pushed, tables(x)); !ok || !good || !sameTables(before, after) || len(after.Rows) != 2 {
			t.Errorf("RunView(%v) = %v, %v, but pushed down %v, %v", v, before, ok, after, good)
		}
	}
}

// What PushDown makes is right, and tells the same.
func TestRunViewOfPushDown(t *testing.T) {
	most := impl.MaxWeight
	thrown := dice{9}
	tried, pushed := 0, 0
	for i := range 6000 {
		v := thrown.view()
		last := len(v.Parts) - 1
		if columns, _ := checkViewByHand(v); last < impl.MaxParts-2 && i%4 != 0 {
			v.Parts = append(v.Parts, unionOf(last, last), selectOf(last+1))
			if columns[last] > 0 {
				v.Parts[last+2].Tests = []impl.Test{gt(0, 1)}
			}
			if other := slices.Index(columns, columns[last]); i%4 != 1 {
				v.Parts[last+1].A = other
			}
		}
		other, ok := impl.PushDown(v)
		if _, right := impl.CheckView(other); !ok || !right {
			t.Fatalf("PushDown(%v) = %v, %v, which is right: %v", v, other, ok, right)
		}
		for _, l := range [][]impl.Table{thrown.tablesFor(v.Sources, -1, 1, 2), thrown.tablesFor(v.Sources, -most, 1, most)} {
			want, good := impl.RunView(v, l)
			if got, ok := impl.RunView(other, l); ok != good || !sameTables(got, want) {
				t.Fatalf("RunView of PushDown(%v) = %v, of %v: %v, %v, not %v, %v", v, other, l, got, ok, want, good)
			}
			if good {
				tried++
			}
		}
		if len(other.Parts) > len(v.Parts) {
			pushed++
		} else if !sameViews(other, v) {
			t.Fatalf("PushDown(%v) = %v", v, other)
		}
	}
	if tried < 5000 || pushed < 1000 {
		t.Errorf("%d were told, %d pushed down", tried, pushed)
	}
}

// checkViewCalls asks all functions of chapter 6 at any view, tables and changes.
func checkViewCalls(t *testing.T, v impl.View, l, d []impl.Table) {
	t.Helper()
	checkCall(t, "CheckView", func() []any { return answers(impl.CheckView(v)) }, v)
	checkCall(t, "IsLinear", func() []any { return answers(impl.IsLinear(v)) }, v)
	checkCall(t, "PushDown", func() []any { return answers(impl.PushDown(v)) }, v)
	checkCall(t, "RunView", func() []any { return answers(impl.RunView(v, l)) }, v, l)
	checkCall(t, "RunAll", func() []any { return answers(impl.RunAll(v, l)) }, v, l)
	checkCall(t, "RunDelta", func() []any { return answers(impl.RunDelta(v, l, d)) }, v, l, d)
	checkCall(t, "RunDelta", func() []any { return answers(impl.RunDelta(v, l, l)) }, v, l)
}

func anyViews() []impl.View {
	thrown := dice{10}
	views := slices.Concat(rightViews(), kindViews(), badViews())
	for range 100 {
		views = append(views, thrown.view())
	}
	for _, v := range kindViews() {
		last := len(v.Parts) - 1
		v.Parts = append(slices.Clone(v.Parts), unionOf(last, last), selectOf(last+1))
		views = append(views, v)
	}
	huge := impl.Part{Kind: impl.PartJoin, Tests: make([]impl.Test, 1000), Columns: make([]int, 1000), Pairs: make([][]int, 1000)}
	for kind := range 9 {
		huge.Kind = kind
		views = append(views, view(columnsOf(1), ofSource(0), huge))
	}
	return views
}

// Promise 19: each function of chapter 6 answers at any arguments, the same each time, in new memory, and writes into none.
func TestViewsAnswerAndWriteNothing(t *testing.T) {
	thrown := dice{11}
	unsuited := unsuitedTables()
	for i, v := range anyViews() {
		v := withGuards(v)
		var sources []int
		for _, columns := range v.Sources[:min(len(v.Sources), 10)] {
			sources = append(sources, min(max(columns, 0), 10))
		}
		checkViewCalls(t, v, withGuards(thrown.tablesFor(sources, -1, 1, 2)), withGuards(thrown.tablesFor(sources, -2, 1)))
		checkViewCalls(t, v, withGuards(thrown.tablesFor(sources, -1, 1, impl.MaxWeight)), withGuards(emptyTables(sources)))
		checkViewCalls(t, v, withGuards(emptyTables(sources)), withGuards(unsuited[i%len(unsuited)]))
		checkViewCalls(t, v, withGuards(unsuited[i*7%len(unsuited)]), withGuards(unsuited[i%len(unsuited)]))
		checkViewCalls(t, v, nil, nil)
	}
}

// What lies behind a list's length does not count.
func TestViewsDoNotReadBehindTheirLists(t *testing.T) {
	all := func(v impl.View, l, d []impl.Table) string {
		return fmt.Sprint(answers(impl.CheckView(v)), answers(impl.IsLinear(v)), answers(impl.PushDown(v)), answers(impl.RunView(v, l)), answers(impl.RunAll(v, l)), answers(impl.RunDelta(v, l, d)))
	}
	thrown := dice{12}
	for _, v := range anyViews() {
		l, d := tables(ones(weighted(1, 1))), tables(ones(weighted(1, 2)))
		if _, right := checkViewByHand(v); right {
			l, d = thrown.tablesFor(v.Sources, -1, 1, 2), thrown.tablesFor(v.Sources, -1, 1)
		}
		plain := all(v, l, d)
		if got := all(withGuards(v), withGuards(l), withGuards(d)); got != plain {
			t.Errorf("%v: %s, with guards behind the lists %s", v, plain, got)
		}
	}
}

// Two lists of one answer share nothing, even where two parts have the same tests or the same source.
func TestViewsHandOutNewMemory(t *testing.T) {
	v := view(columnsOf(1), ofSource(0), unionOf(0, 0), selectOf(1, gt(0, 0)))
	got, _ := impl.PushDown(v)
	got.Parts[2].Tests[0] = eq(0, 7)
	if !reflect.DeepEqual(got.Parts[3].Tests, []impl.Test{gt(0, 0)}) || !reflect.DeepEqual(v.Parts[2].Tests, []impl.Test{gt(0, 0)}) {
		t.Error(got, v)
	}
	got.Sources[0] = 5
	if v.Sources[0] != 1 {
		t.Error("PushDown hands out the sources")
	}
	join := view(columnsOf(1), ofSource(0), joinOf(0, 0, []int{0, 0}))
	same, _ := impl.PushDown(join)
	same.Parts[1].Pairs[0][0] = 9
	if join.Parts[1].Pairs[0][0] != 0 {
		t.Error("PushDown hands out pairs")
	}
	x := tables(ones(weighted(1, 1)))
	all, _ := impl.RunAll(view(columnsOf(1), ofSource(0), ofSource(0), selectOf(0)), x)
	all[0].Rows[0].Row.Cells[0] = 8
	if all[1].Rows[0].Row.Cells[0] != 1 || all[2].Rows[0].Row.Cells[0] != 1 || x[0].Rows[0].Row.Cells[0] != 1 {
		t.Error(all, x)
	}
	change, _ := impl.RunDelta(view(columnsOf(1), ofSource(0)), tables(ones()), x)
	change.Rows[0].Row.Cells[0] = 8
	if x[0].Rows[0].Row.Cells[0] != 1 {
		t.Error("RunDelta hands out a change")
	}
}
