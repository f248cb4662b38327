package tests

import (
	"fmt"
	"math"
	"slices"
	"testing"

	"loop.example/g00305/impl"
)

const maxAskedTables = 4

// atom tells the atom of a text: "b01" is of table 1, with Vars 0 and 1.
func atom(s string) impl.Atom {
	return impl.Atom{Table: int(s[0] - 'a'), Vars: digits(s[1:])}
}

func query(head string, atoms ...string) impl.Query {
	q := impl.Query{Head: digits(head)}
	for _, s := range atoms {
		q.Atoms = append(q.Atoms, atom(s))
	}
	return q
}

func copyOfQuery(q impl.Query) impl.Query {
	out := impl.Query{Head: slices.Clone(q.Head)}
	for _, one := range q.Atoms {
		out.Atoms = append(out.Atoms, impl.Atom{Table: one.Table, Vars: slices.Clone(one.Vars)})
	}
	return out
}

func sameAtoms(a, b impl.Atom) bool {
	return a.Table == b.Table && slices.Equal(a.Vars, b.Vars)
}

func sameQuestions(a, b impl.Query) bool {
	return slices.Equal(a.Head, b.Head) && slices.EqualFunc(a.Atoms, b.Atoms, sameAtoms)
}

func isNoQuery(q impl.Query) bool {
	return len(q.Head) == 0 && len(q.Atoms) == 0
}

func withoutAtom(q impl.Query, number int) impl.Query {
	out := copyOfQuery(q)
	out.Atoms = slices.Delete(out.Atoms, number, number+1)
	return out
}

// varsByHand asks of each number whether an atom has it.
func varsByHand(atoms []impl.Atom) []int {
	var out []int
	for n := range impl.MaxVars {
		if slices.ContainsFunc(atoms, func(one impl.Atom) bool { return slices.Contains(one.Vars, n) }) {
			out = append(out, n)
		}
	}
	return out
}

func goodQueryByHand(q impl.Query, tables []int) bool {
	if len(tables) == 0 || len(tables) > 4 || len(q.Atoms) == 0 || len(q.Atoms) > 5 || len(q.Head) > 6 {
		return false
	}
	if !hasAll([]int{1, 2, 3}, tables) || !hasAll(varsByHand(q.Atoms), q.Head) {
		return false
	}
	return !slices.ContainsFunc(q.Atoms, func(one impl.Atom) bool {
		among := one.Table >= 0 && one.Table < len(tables)
		return !among || tables[one.Table] != len(one.Vars) || !hasAll([]int{0, 1, 2, 3, 4, 5}, one.Vars)
	})
}

// given has a number for each variable.
type given [impl.MaxVars]int

func (g given) of(variables []int) []int {
	var out []int
	for _, n := range variables {
		out = append(out, g[n])
	}
	return out
}

// eachGiven goes through all ways to give each of these variables one of these numbers, the last variable's changing first, till it is told to stop.
func eachGiven(variables, numbers []int, visit func(given) bool) bool {
	var next func(g given, left []int) bool
	next = func(g given, left []int) bool {
		if len(left) == 0 {
			return visit(g)
		}
		for _, n := range numbers {
			g[left[0]] = n
			if !next(g, left[1:]) {
				return false
			}
		}
		return true
	}
	return next(given{}, variables)
}

// rowAt is a row of a table: the table's number, how many cells, and these.
type rowAt [5]int

func rowAtOf(number int, cells []int) rowAt {
	at := rowAt{number, len(cells)}
	copy(at[2:], cells)
	return at
}

func rowsAbove(l []impl.Table) map[rowAt]bool {
	out := map[rowAt]bool{}
	for number, one := range l {
		for _, r := range one.Rows {
			if r.Weight > 0 {
				out[rowAtOf(number, r.Row.Cells)] = true
			}
		}
	}
	return out
}

// numbersIn has all cells of the tables, whatever their rows' weights, and one that is in none.
func numbersIn(l []impl.Table) []int {
	out := []int{guard}
	for _, one := range l {
		for _, r := range one.Rows {
			out = append(out, r.Row.Cells...)
		}
	}
	slices.Sort(out)
	return slices.Compact(out)
}

// waysByHand tries all ways to give each variable of the atoms a number, one by one.
func waysByHand(atoms []impl.Atom, l []impl.Table) []given {
	above := rowsAbove(l)
	var out []given
	eachGiven(varsByHand(atoms), numbersIn(l), func(g given) bool {
		for _, one := range atoms {
			if !above[rowAtOf(one.Table, g.of(one.Vars))] {
				return true
			}
		}
		out = append(out, g)
		return true
	})
	return out
}

// rowsByHand has the rows that a question tells, in order, however many.
func rowsByHand(q impl.Query, l []impl.Table) [][]int {
	var out [][]int
	for _, g := range waysByHand(q.Atoms, l) {
		out = append(out, g.of(q.Head))
	}
	slices.SortFunc(out, slices.Compare)
	return slices.CompactFunc(out, slices.Equal)
}

func evalByHand(q impl.Query, l []impl.Table) (impl.Table, bool) {
	for so := range q.Atoms {
		if len(waysByHand(q.Atoms[:so+1], l)) > 400 {
			return impl.Table{}, false
		}
	}
	rows := rowsByHand(q, l)
	if len(rows) > 60 {
		return impl.Table{}, false
	}
	return onceOf(len(q.Head), rows...), true
}

// isMap asks whether g takes q's Head to p's, and each atom of q to one of p's.
func isMap(g given, q, p impl.Query) bool {
	if !slices.Equal(g.of(q.Head), p.Head) {
		return false
	}
	for _, one := range q.Atoms {
		led := impl.Atom{Table: one.Table, Vars: g.of(one.Vars)}
		if !slices.ContainsFunc(p.Atoms, func(other impl.Atom) bool { return sameAtoms(led, other) }) {
			return false
		}
	}
	return true
}

// leastMapByHand tries all maps from q's variables to p's, in order.
func leastMapByHand(p, q impl.Query) ([]int, bool) {
	var least []int
	eachGiven(varsByHand(q.Atoms), varsByHand(p.Atoms), func(g given) bool {
		if isMap(g, q, p) {
			least = g[:]
		}
		return least == nil
	})
	return least, least != nil
}

func sameQueriesByHand(p, q impl.Query) bool {
	_, there := leastMapByHand(p, q)
	_, back := leastMapByHand(q, p)
	return there && back
}

// canGo asks whether an atom may be left out of a good question.
func canGo(q impl.Query, number int) bool {
	less := withoutAtom(q, number)
	return len(less.Atoms) > 0 && hasAll(varsByHand(less.Atoms), q.Head) && sameQueriesByHand(less, q)
}

// coreByHand keeps, of each atom, what number it had: from the first on each goes that can.
func coreByHand(q impl.Query) impl.Query {
	core, gone := copyOfQuery(q), 0
	for number := range q.Atoms {
		if canGo(core, number-gone) {
			core = withoutAtom(core, number-gone)
			gone++
		}
	}
	return core
}

func canonicalByHand(q impl.Query, tables []int) []impl.Table {
	var out []impl.Table
	for number, columns := range tables {
		var rows [][]int
		for _, one := range q.Atoms {
			if one.Table == number && !slices.ContainsFunc(rows, func(l []int) bool { return slices.Equal(l, one.Vars) }) {
				rows = append(rows, one.Vars)
			}
		}
		out = append(out, onceOf(columns, rows...))
	}
	return out
}

// asked are numbers of columns of tables.
func (d *dice) asked() []int {
	var out []int
	for range d.oneOf(1, 1, 1, 2, 3, maxAskedTables) {
		out = append(out, d.oneOf(1, 2, 2, 2, 3))
	}
	return out
}

// query has at most so many atoms and so many variables, some of the greatest numbers.
func (d *dice) query(tables []int, atoms, vars, head int) impl.Query {
	var q impl.Query
	shift := d.below(impl.MaxVars)
	for range 1 + d.below(atoms) {
		one := impl.Atom{Table: d.below(len(tables))}
		for range tables[one.Table] {
			one.Vars = append(one.Vars, (d.below(vars)+shift)%impl.MaxVars)
		}
		q.Atoms = append(q.Atoms, one)
	}
	in := varsByHand(q.Atoms)
	for range head {
		q.Head = append(q.Head, d.oneOf(in...))
	}
	return q
}

// wider is a question whose rows p's are among: its variables lead to p's by a map that is thrown first.
func (d *dice) wider(p impl.Query) impl.Query {
	in := varsByHand(p.Atoms)
	for {
		leadFrom := map[int][]int{}
		for n := range impl.MaxVars {
			to := d.oneOf(in...)
			leadFrom[to] = append(leadFrom[to], n)
		}
		if q, ok := d.ledTo(p, leadFrom); ok {
			return q
		}
	}
}

func (d *dice) ledTo(p impl.Query, leadFrom map[int][]int) (impl.Query, bool) {
	var q impl.Query
	for range 1 + d.below(impl.MaxAtoms) {
		to := p.Atoms[d.below(len(p.Atoms))]
		one := impl.Atom{Table: to.Table}
		for _, n := range to.Vars {
			if len(leadFrom[n]) == 0 {
				return q, false
			}
			one.Vars = append(one.Vars, d.oneOf(leadFrom[n]...))
		}
		q.Atoms = append(q.Atoms, one)
	}
	in := varsByHand(q.Atoms)
	for _, n := range p.Head {
		some := common(leadFrom[n], in)
		if len(some) == 0 {
			return q, false
		}
		q.Head = append(q.Head, d.oneOf(some...))
	}
	return q, true
}

// twoQueries are good ones with Heads of one length: of any kind, or the first one's rows among the second one's.
func (d *dice) twoQueries(tables []int, atoms, vars int) (impl.Query, impl.Query) {
	head := d.oneOf(0, 0, 1, 1, 2, 3)
	p := d.query(tables, atoms, vars, head)
	if d.below(2) == 0 {
		return p, d.query(tables, atoms, vars, head)
	}
	return p, d.wider(p)
}

// filled are tables with rows of numbers from some on, with weights below 0, 1 and above 1.
func (d *dice) filled(tables []int, rows, from, numbers int) []impl.Table {
	var out []impl.Table
	for _, columns := range tables {
		var l []impl.Weighted
		for range d.below(rows + 1) {
			var cells []int
			for range columns {
				cells = append(cells, from+d.below(numbers))
			}
			l = append(l, weighted(d.oneOf(-50, -1, 1, 1, 1, 3, 1000), cells...))
		}
		one, _ := sumByHand(columns, l)
		one.Columns = columns
		out = append(out, one)
	}
	return out
}

type askedQuery struct {
	q      impl.Query
	tables []int
}

func goodQueries() []askedQuery {
	return []askedQuery{
		{query("", "a0"), columnsOf(1)},
		{query("0", "a0"), columnsOf(1)},
		{query("5", "a5"), columnsOf(1)},
		{query("555555", "a5"), columnsOf(1)},
		{query("", "a555"), columnsOf(3)},
		{query("012", "a012"), columnsOf(3)},
		{query("21", "a012"), columnsOf(3)},
		{query("0", "a01"), columnsOf(2)},
		{query("00", "a00"), columnsOf(2)},
		{query("012345", "a01", "a23", "a45"), columnsOf(2)},
		{query("543210", "a012", "a345"), columnsOf(3)},
		{query("", "a01", "a12", "a23", "a34", "a45"), columnsOf(2)},
		{query("05", "a01", "a12", "a23", "a34", "a45"), columnsOf(2)},
		{query("", "a0", "a0", "a0", "a0", "a0"), columnsOf(1)},
		{query("0", "a01", "a01"), columnsOf(2)},
		{query("0", "a01", "a02"), columnsOf(2)},
		{query("3", "d3"), columnsOf(2, 2, 2, 1)},
		{query("", "d000"), columnsOf(1, 2, 3, 3)},
		{query("0214", "a01", "b2", "c340", "d41", "a14"), columnsOf(2, 1, 3, 2)},
		{query("5", "b5", "a55"), columnsOf(2, 1)},
	}
}

// changedQueries are no good questions for tables of 2, 1 and 3 columns, each with one thing changed.
func changedQueries() []impl.Query {
	good := query("013", "a01", "b1", "c132")
	var out []impl.Query
	change := func(by func(*impl.Query)) {
		q := copyOfQuery(good)
		by(&q)
		out = append(out, q)
	}
	far := []int{math.MinInt, -64, -1, impl.MaxVars, 64, math.MaxInt}
	for at, one := range good.Atoms {
		for _, number := range []int{math.MinInt, -1, 3, 4, math.MaxInt, (one.Table + 1) % 3, (one.Table + 2) % 3} {
			change(func(q *impl.Query) { q.Atoms[at].Table = number })
		}
		for _, n := range far {
			for place := range one.Vars {
				change(func(q *impl.Query) { q.Atoms[at].Vars[place] = n })
			}
		}
		change(func(q *impl.Query) { q.Atoms[at].Vars = append(q.Atoms[at].Vars, 0) })
		change(func(q *impl.Query) { q.Atoms[at].Vars = slices.Repeat([]int{1}, 100) })
		change(func(q *impl.Query) { q.Atoms[at].Vars = q.Atoms[at].Vars[1:] })
		change(func(q *impl.Query) { q.Atoms[at].Vars = nil })
	}
	for _, n := range append(far, 4, 5) {
		for place := range good.Head {
			change(func(q *impl.Query) { q.Head[place] = n })
		}
		change(func(q *impl.Query) { q.Head = []int{n} })
	}
	change(func(q *impl.Query) { q.Head = digits("0123012") })
	change(func(q *impl.Query) { q.Head = make([]int, 100) })
	change(func(q *impl.Query) { q.Atoms = nil })
	change(func(q *impl.Query) { q.Head, q.Atoms = nil, nil })
	change(func(q *impl.Query) { q.Atoms = append(q.Atoms, q.Atoms...) })
	change(func(q *impl.Query) { q.Atoms = slices.Repeat(q.Atoms, 40) })
	change(func(q *impl.Query) { q.Atoms = q.Atoms[:2] })
	return out
}

// badQueries are no good questions for their tables, or these are none.
func badQueries() []askedQuery {
	out := []askedQuery{
		{impl.Query{}, nil}, {impl.Query{}, columnsOf(1)}, {query("0"), columnsOf(1)},
		{query("0", "a0"), nil}, {query("0", "a0"), []int{}},
		{query("0", "a0"), columnsOf(1, 1, 1, 1, 1)}, {query("0", "e0"), columnsOf(1, 1, 1, 1, 1)}, {query("", "a0"), slices.Repeat([]int{1}, 100)},
		{query("0", "e0"), columnsOf(1, 1, 1, 1)}, {query("0", "b0"), columnsOf(1)}, {query("0", "c0", "a0"), columnsOf(1, 1)},
		{query("", "a"), columnsOf(0)}, {query("", "b0", "a"), columnsOf(0, 1)}, {query("0", "b0"), columnsOf(0, 1)}, {query("0", "a0"), columnsOf(1, 0)},
		{query("", "a0123"), columnsOf(4)}, {query("0", "b0"), columnsOf(4, 1)}, {query("0", "a0"), columnsOf(1, 2, 3, 4)}, {query("", "a012345"), columnsOf(6)},
		{query("", "a0", "a0", "a0", "a0", "a0", "a0"), columnsOf(1)}, {query("0", "a01", "a12", "a23", "a34", "a45", "a50"), columnsOf(2)},
		{query("5555555", "a5"), columnsOf(1)}, {query("0123450", "a012", "a345"), columnsOf(3)},
		{query("1", "a0"), columnsOf(1)}, {query("02", "a01", "a13"), columnsOf(2)},
	}
	for _, columns := range []int{math.MinInt, -1, 7, math.MaxInt} {
		out = append(out, askedQuery{query("0", "b0"), columnsOf(columns, 1)}, askedQuery{query("0", "a0"), columnsOf(1, columns)}, askedQuery{query("", "a"), columnsOf(columns)})
	}
	for _, q := range changedQueries() {
		out = append(out, askedQuery{q, columnsOf(2, 1, 3)})
	}
	return out
}

func TestQueryConstants(t *testing.T) {
	if impl.MaxAtoms != 5 || impl.MaxVars != 6 {
		t.Error(impl.MaxAtoms, impl.MaxVars)
	}
}

func TestGoodQuery(t *testing.T) {
	for _, one := range goodQueries() {
		if !impl.GoodQuery(one.q, one.tables) || !goodQueryByHand(one.q, one.tables) {
			t.Errorf("GoodQuery(%v, %v) is false", one.q, one.tables)
		}
	}
	for _, one := range badQueries() {
		if impl.GoodQuery(one.q, one.tables) || goodQueryByHand(one.q, one.tables) {
			t.Errorf("GoodQuery(%v, %v) is true", one.q, one.tables)
		}
	}
}

func TestGoodQueryAtEachNumber(t *testing.T) {
	for many := range 8 {
		q := impl.Query{Atoms: slices.Repeat(query("", "a01").Atoms, many)}
		if got := impl.GoodQuery(q, columnsOf(2)); got != (many >= 1 && many <= impl.MaxAtoms) {
			t.Errorf("%d atoms: %v", many, got)
		}
		q = impl.Query{Head: slices.Repeat([]int{1}, many), Atoms: query("", "a01").Atoms}
		if got := impl.GoodQuery(q, columnsOf(2)); got != (many <= impl.MaxColumns) {
			t.Errorf("Head of %d: %v", many, got)
		}
		if got := impl.GoodQuery(query("", "a01"), slices.Repeat([]int{2}, many)); got != (many >= 1 && many <= maxAskedTables) {
			t.Errorf("%d tables: %v", many, got)
		}
		q = impl.Query{Atoms: []impl.Atom{{Vars: slices.Repeat([]int{1}, many)}}}
		if got := impl.GoodQuery(q, columnsOf(many)); got != (many >= 1 && many <= 3) {
			t.Errorf("%d columns: %v", many, got)
		}
		q = impl.Query{Atoms: []impl.Atom{{Vars: []int{many - 1}}}}
		if got := impl.GoodQuery(q, columnsOf(1)); got != (many >= 1 && many-1 < impl.MaxVars) {
			t.Errorf("variable %d: %v", many-1, got)
		}
		q = impl.Query{Atoms: []impl.Atom{{Table: many - 1, Vars: []int{0}}}}
		if got := impl.GoodQuery(q, columnsOf(1, 1, 1)); got != (many >= 1 && many-1 < 3) {
			t.Errorf("table %d: %v", many-1, got)
		}
	}
}

// changed is a question in which something may have been changed so that it is no good one.
func (d *dice) changed(q impl.Query) impl.Query {
	out := copyOfQuery(q)
	one := &out.Atoms[d.below(len(out.Atoms))]
	switch d.below(10) {
	case 0:
		one.Table += d.oneOf(-1, 1)
	case 1:
		one.Vars = one.Vars[1:]
	case 2:
		one.Vars = append(one.Vars, 0)
	case 3:
		one.Vars[0] = d.oneOf(-1, 0, impl.MaxVars-1, impl.MaxVars)
	case 4:
		out.Head = append(out.Head, d.below(impl.MaxVars))
	case 5:
		out.Head = slices.Repeat([]int{one.Vars[0]}, 5+d.below(3))
	case 6:
		out.Atoms = slices.Repeat(out.Atoms, 1+d.below(3))
	}
	return out
}

func TestGoodQueryByHand(t *testing.T) {
	thrown := dice{1000}
	seen := map[bool]int{}
	for range 4000 {
		tables := thrown.asked()
		q := thrown.changed(thrown.query(tables, impl.MaxAtoms, 1+thrown.below(impl.MaxVars), thrown.below(3)))
		if thrown.below(10) == 0 {
			tables[thrown.below(len(tables))] += thrown.oneOf(-1, 1, 2)
		}
		want := goodQueryByHand(q, tables)
		if got := impl.GoodQuery(q, tables); got != want {
			t.Fatalf("GoodQuery(%v, %v) is %v", q, tables, got)
		}
		seen[want]++
	}
	if seen[true] < 1000 || seen[false] < 1000 {
		t.Error(seen)
	}
}

func TestVarsInAsTold(t *testing.T) {
	six := impl.Atom{Table: 77, Vars: digits("543210")}
	for _, c := range []struct {
		q    impl.Query
		want []int
	}{
		{impl.Query{}, nil},
		{impl.Query{Atoms: []impl.Atom{}}, nil},
		{impl.Query{Atoms: []impl.Atom{{}}}, nil},
		{impl.Query{Atoms: make([]impl.Atom, impl.MaxAtoms)}, nil},
		{query("", "a", "b3", "c"), digits("3")},
		{query("", "a0"), digits("0")},
		{query("", "a5"), digits("5")},
		{query("", "a50"), digits("05")},
		{query("", "a31", "b1", "a13"), digits("13")},
		{query("", "a444444"), digits("4")},
		{query("", "a012345"), digits("012345")},
		{impl.Query{Atoms: []impl.Atom{six}}, digits("012345")},
		{impl.Query{Atoms: slices.Repeat([]impl.Atom{six}, impl.MaxAtoms)}, digits("012345")},
		{query("", "a5", "a4", "a3", "a2", "a1"), digits("12345")},
		// Whatever their tables, and whatever the Head.
		{impl.Query{Atoms: []impl.Atom{{Table: -1, Vars: digits("2")}, {Table: math.MaxInt, Vars: digits("1221")}, {Table: math.MinInt}}}, digits("12")},
		{query("4", "a1"), digits("1")},
		{impl.Query{Head: []int{-1, 6, math.MaxInt, math.MinInt}, Atoms: query("", "a20").Atoms}, digits("02")},
		{impl.Query{Head: make([]int, 100)}, nil},
	} {
		if got, ok := impl.VarsIn(c.q); !ok || !slices.Equal(got, c.want) {
			t.Errorf("VarsIn(%v) = %v, %v, not %v", c.q, got, ok, c.want)
		}
	}
}

func TestVarsInRefuses(t *testing.T) {
	bad := []impl.Query{
		{Atoms: make([]impl.Atom, impl.MaxAtoms+1)}, {Atoms: make([]impl.Atom, 1000)},
		query("", "a0", "a1", "a2", "a3", "a4", "a5"),
		query("", "a0123450"), query("", "a0000000"), query("", "a0", "b1111111"),
		{Atoms: []impl.Atom{{Vars: make([]int, 100)}}},
	}
	for _, n := range []int{math.MinInt, -64, -1, impl.MaxVars, 64, math.MaxInt} {
		bad = append(bad,
			impl.Query{Atoms: []impl.Atom{{Vars: []int{n}}}},
			impl.Query{Atoms: []impl.Atom{{Vars: []int{0, n, 1}}, {Vars: []int{2}}}},
			impl.Query{Atoms: []impl.Atom{{Vars: []int{2}}, {}, {}, {}, {Vars: []int{0, 1, 2, 3, 4, n}}}})
	}
	for _, q := range bad {
		if got, ok := impl.VarsIn(q); len(got) > 0 || ok {
			t.Errorf("VarsIn(%v) = %v, %v", q, got, ok)
		}
	}
}

func TestVarsInByHand(t *testing.T) {
	thrown := dice{1001}
	for range 1500 {
		var q impl.Query
		for range thrown.below(impl.MaxAtoms + 1) {
			one := impl.Atom{Table: thrown.below(9) - 4}
			for range thrown.below(7) {
				one.Vars = append(one.Vars, thrown.below(impl.MaxVars))
			}
			q.Atoms = append(q.Atoms, one)
		}
		if got, ok := impl.VarsIn(q); !ok || !slices.Equal(got, varsByHand(q.Atoms)) {
			t.Fatalf("VarsIn(%v) = %v, %v", q, got, ok)
		}
	}
}

type evalCase struct {
	q    impl.Query
	l    []impl.Table
	want impl.Table
}

func checkEval(t *testing.T, cases []evalCase) {
	t.Helper()
	for _, c := range cases {
		if got, ok := impl.EvalQuery(c.q, c.l); !ok || !sameTables(got, c.want) || !impl.GoodTable(got) {
			t.Errorf("EvalQuery(%v, %v) = %v, %v, not %v", c.q, c.l, got, ok, c.want)
		}
		if by, ok := evalByHand(c.q, c.l); !ok || !sameTables(by, c.want) {
			t.Errorf("by hand EvalQuery(%v, %v) = %v, %v, not %v", c.q, c.l, by, ok, c.want)
		}
	}
}

func TestEvalQueryAsTold(t *testing.T) {
	steps := tables(onceOf(2, lists("12", "23", "59")...))
	most := impl.MaxCell
	checkEval(t, []evalCase{
		{query("0", "a01", "a12"), steps, onceOf(1, lists("1")...)},
		{query("012", "a01", "a12"), steps, onceOf(3, lists("123")...)},
		{query("2", "a01", "a12"), steps, onceOf(1, lists("3")...)},
		{query("01", "a01"), steps, onceOf(2, lists("12", "23", "59")...)},
		{query("10", "a01"), steps, onceOf(2, lists("21", "32", "95")...)},
		{query("54", "a45"), steps, onceOf(2, lists("21", "32", "95")...)},
		// An empty Head tells the row without cells, or nothing.
		{query("", "a01"), steps, table(0, weighted(1))},
		{query("", "a01", "a12", "a23"), steps, table(0)},
		{query("", "a00"), steps, table(0)},
		// A variable twice in one atom, twice in the Head.
		{query("0", "a00"), tables(onceOf(2, lists("11", "12", "21", "33")...)), onceOf(1, lists("1", "3")...)},
		{query("01", "a010"), tables(onceOf(3, lists("121", "122", "333")...)), onceOf(2, lists("12", "33")...)},
		{query("0", "a000"), tables(onceOf(3, lists("121", "122", "112", "333")...)), onceOf(1, lists("3")...)},
		{query("00", "a0"), tables(counted(3)), onceOf(2, lists("00", "11", "22")...)},
		{query("101", "a01"), steps, onceOf(3, lists("212", "323", "959")...)},
		{query("555555", "a5"), tables(counted(2)), onceOf(6, lists("000000", "111111")...)},
		{query("543210", "a012", "a345"), tables(onceOf(3, lists("123", "456")...)), onceOf(6, lists("321321", "321654", "654321", "654654")...)},
		// A Head that tells two ways as one row.
		{query("0", "a01"), tables(onceOf(2, lists("12", "13", "23")...)), onceOf(1, lists("1", "2")...)},
		// An atom twice, MaxAtoms of them.
		{query("0", "a01", "a01"), steps, onceOf(1, lists("1", "2", "5")...)},
		{query("0", "a01", "a01", "a01", "a01", "a01"), steps, onceOf(1, lists("1", "2", "5")...)},
		{query("05", "a01", "a12", "a23", "a34", "a45"), tables(onceOf(2, lists("01", "12", "23", "34", "45", "56")...)), onceOf(2, lists("05", "16")...)},
		// Numbers at their limits.
		{query("10", "a01"), tables(table(2, weighted(1, -most, most), weighted(1, most, most))), table(2, weighted(1, most, -most), weighted(1, most, most))},
		{query("0", "a01", "a10"), tables(table(2, weighted(1, -most, most), weighted(1, most, -most))), table(1, weighted(1, -most), weighted(1, most))},
	})
}

func TestEvalQueryOfSeveralTables(t *testing.T) {
	four := tables(onceOf(1, lists("1", "2")...), onceOf(2, lists("12", "24")...), onceOf(3, lists("124", "241")...), onceOf(2, lists("14", "42")...))
	checkEval(t, []evalCase{
		{query("0", "a0"), four, onceOf(1, lists("1", "2")...)},
		{query("012", "c012"), four, onceOf(3, lists("124", "241")...)},
		{query("0", "d00"), four, table(1)},
		{query("012", "a0", "b01", "c012", "d02"), four, onceOf(3, lists("124")...)},
		{query("012", "d02", "c012", "b01", "a0"), four, onceOf(3, lists("124")...)},
		{query("01", "b01", "d10"), four, onceOf(2, lists("24")...)},
		{query("53", "b35", "d53"), four, onceOf(2, lists("42")...)},
		{query("03", "a0", "a3"), four, onceOf(2, lists("11", "12", "21", "22")...)},
		// Tables of which no atom is may hold anything.
		{query("0", "b0"), tables(table(3), counted(2), table(1, weighted(-5, 7)), crossOfCounted(3, 3)), counted(2)},
	})
}

func TestEvalQueryByWeights(t *testing.T) {
	some := tables(table(1, weighted(-3, 1), weighted(1, 2), weighted(7, 3), weighted(impl.MaxWeight, 4), weighted(-impl.MaxWeight, 5), weighted(-1, 6)))
	checkEval(t, []evalCase{
		{query("0", "a0"), some, onceOf(1, lists("2", "3", "4")...)},
		{query("", "a0"), some, table(0, weighted(1))},
		{query("01", "a0", "a1"), some, onceOf(2, lists("22", "23", "24", "32", "33", "34", "42", "43", "44")...)},
		{query("", "a0"), tables(table(1, weighted(-1, 0))), table(0)},
		{query("0", "a0", "b0"), tables(table(1, weighted(-2, 1), weighted(2, 2)), table(1, weighted(-2, 1), weighted(-2, 2))), table(1)},
		{query("0", "a01", "a12"), tables(table(2, weighted(5, 1, 2), weighted(-1, 2, 3), weighted(9, 2, 4))), onceOf(1, lists("1")...)},
	})
}

func TestEvalQueryOfTablesOfNoRows(t *testing.T) {
	checkEval(t, []evalCase{
		{query("", "a0"), tables(table(1)), table(0)},
		{query("0", "a0"), tables(table(1)), table(1)},
		{query("000000", "a0"), tables(table(1)), table(6)},
		{query("02", "a012"), tables(table(3)), table(2)},
		{query("0", "a0", "b01"), tables(counted(impl.MaxRows), table(2)), table(1)},
		{query("0", "b01", "a0"), tables(counted(impl.MaxRows), table(2)), table(1)},
		{query("0", "a0"), tables(counted(3), table(1), table(2), table(3)), counted(3)},
		{query("", "a0", "b1", "c2", "d3"), tables(table(1), table(1), table(1), table(1)), table(0)},
	})
}

// pairsBy has first rows of 0 and a number, and further of 1 and a number.
func pairsBy(first, further int) impl.Table {
	var rows [][]int
	for n := range first {
		rows = append(rows, []int{0, n})
	}
	for n := range further {
		rows = append(rows, []int{1, n})
	}
	return onceOf(2, rows...)
}

type waysCase struct {
	q  impl.Query
	l  []impl.Table
	ok bool
}

// checkWays fails unless EvalQuery tells what is told by hand, or refuses where it has to.
func checkWays(t *testing.T, cases []waysCase) {
	t.Helper()
	for i, c := range cases {
		want, by := evalByHand(c.q, c.l)
		if by != c.ok {
			t.Errorf("%d: by hand EvalQuery(%v) tells %v", i, c.q, by)
		}
		if got, ok := impl.EvalQuery(c.q, c.l); ok != c.ok || !sameTables(got, want) {
			t.Errorf("%d: EvalQuery(%v) = %v, %v, not %v, %v", i, c.q, got, ok, want, c.ok)
		}
	}
}

func TestEvalQueryAt400WaysAnd401(t *testing.T) {
	// Of both 20 times 20 ways; one row more in both is one way more.
	full, over := pairsBy(20, 0), pairsBy(20, 1)
	none, one := table(1), onceOf(1, []int{7})
	below := impl.Table{Columns: 2, Rows: append(slices.Clone(full.Rows), weighted(-1, 1, 0))}
	cases := []waysCase{
		{query("0", "a01", "b02"), tables(full, full), true},
		{query("0", "a01", "b02"), tables(over, over), false},
		{query("", "a01", "b02"), tables(full, full), true},
		{query("", "a01", "b02"), tables(over, over), false},
		{query("0", "a01", "b02"), tables(over, full), true},
		{query("0", "a01", "b02"), tables(below, over), true},
		{query("0", "a01", "b02"), tables(over, below), true},
		{query("0", "a01", "a02"), tables(full), true},
		{query("0", "a01", "a02"), tables(over), false},
		// An atom again is no further way.
		{query("0", "a01", "a02", "a01", "a02", "a01"), tables(full), true},
		{query("0", "a01", "a01", "a01", "a01", "a01"), tables(over), true},
		// Too many on the way are too many, though fewer or none are left at the end.
		{query("0", "a01", "b02", "c1"), tables(full, full, none), true},
		{query("0", "a01", "b02", "c1"), tables(over, over, none), false},
		{query("0", "a01", "b02", "c1"), tables(full, full, one), true},
		{query("0", "a01", "b02", "c1"), tables(over, over, one), false},
		{query("0", "a01", "b02", "a12"), tables(full, full), true},
		{query("0", "a01", "b02", "a12"), tables(over, over), false},
		// What leaves few out of many, if it stands ahead.
		{query("0", "c1", "a01", "b02"), tables(over, over, none), true},
		{query("0", "a01", "c1", "b02"), tables(over, over, none), true},
		{query("0", "c1", "a01", "b02"), tables(over, over, one), true},
		{query("0", "a01", "c1", "b02"), tables(over, over, one), true},
		// The last atom makes them too many, or one in the middle.
		{query("", "c3", "c3", "c3", "a01", "b02"), tables(full, full, one), true},
		{query("", "c3", "c3", "c3", "a01", "b02"), tables(over, over, one), false},
		{query("", "c3", "a01", "b02", "c1", "c2"), tables(full, full, one), true},
		{query("", "c3", "a01", "b02", "c1", "c2"), tables(over, over, one), false},
	}
	checkWays(t, cases)
}

func TestEvalQueryAtManyWays(t *testing.T) {
	all := counted(impl.MaxRows)
	checkWays(t, []waysCase{
		{query("0", "a0"), tables(all), true},
		{query("", "a0", "a1"), tables(all), false},
		{query("", "a0", "a1"), tables(counted(20)), true},
		{query("", "a0", "a1"), tables(counted(21)), false},
		{query("", "a0", "a1", "b0"), tables(counted(21), table(1)), false},
		{query("", "b0", "a0", "a1"), tables(counted(21), table(1)), true},
		{query("", "a0", "a1", "a2"), tables(counted(7)), true},
		{query("", "a0", "a1", "a2"), tables(counted(8)), false},
		{query("", "a0", "a1", "a2", "a3"), tables(counted(4)), true},
		{query("", "a0", "a1", "a2", "a3"), tables(counted(5)), false},
		{query("", "a0", "a1", "a2", "a3", "a4"), tables(counted(3)), true},
		{query("", "a0", "a1", "a2", "a3", "a4"), tables(counted(4)), false},
		{query("", "a01", "a23"), tables(crossOfCounted(4, 5)), true},
		{query("", "a01", "a23"), tables(crossOfCounted(3, 7)), false},
		{query("", "a01", "a12"), tables(crossOfCounted(7, 7)), true},
		{query("", "a01", "a12"), tables(crossOfCounted(7, 8)), true},
	})
}

func TestEvalQueryAt60RowsAnd61(t *testing.T) {
	checkWays(t, []waysCase{
		{query("0", "a0"), tables(counted(60)), true},
		{query("12", "a01", "b02"), tables(pairsBy(6, 0), pairsBy(10, 0)), true},
		{query("012", "a01", "b02"), tables(pairsBy(6, 0), pairsBy(10, 0)), true},
		{query("012", "a01", "b02"), tables(pairsBy(6, 1), pairsBy(10, 1)), false},
		{query("021021", "a01", "b02"), tables(pairsBy(6, 1), pairsBy(10, 1)), false},
		// The further way tells a row that is there already.
		{query("12", "a01", "b02"), tables(pairsBy(6, 1), pairsBy(10, 1)), true},
		{query("", "a01", "b02"), tables(pairsBy(6, 1), pairsBy(10, 1)), true},
		{query("01", "a0", "a1"), tables(counted(7)), true},
		{query("01", "a0", "a1"), tables(counted(8)), false},
		{query("0", "a0", "a1"), tables(counted(20)), true},
		// More than 60 ways ahead of the last atom, which leaves fewer.
		{query("012", "a01", "b02", "a12"), tables(pairsBy(10, 0), pairsBy(10, 0)), true},
		{query("0123", "a01", "b02", "b03"), tables(pairsBy(1, 0), pairsBy(8, 0)), false},
	})
}

func TestEvalQueryByHand(t *testing.T) {
	thrown := dice{1002}
	told, empty := 0, 0
	for range 2500 {
		asked := thrown.asked()
		vars := 1 + thrown.below(impl.MaxVars)
		q := thrown.query(asked, impl.MaxAtoms, vars, thrown.below(impl.MaxColumns+1))
		numbers := 1 + thrown.below(3)
		if vars < 5 {
			numbers = 1 + thrown.below(5)
		}
		l := thrown.filled(asked, thrown.oneOf(3, 8, 40, 120), thrown.oneOf(-2, 0, 5, impl.MaxCell-4), numbers)
		if got, _ := checkEvalByHand(t, q, l); len(got.Rows) > 0 {
			told++
		} else {
			empty++
		}
	}
	if told < 1000 || empty < 500 {
		t.Errorf("%d told rows, %d none", told, empty)
	}
}

func checkEvalByHand(t *testing.T, q impl.Query, l []impl.Table) (impl.Table, bool) {
	t.Helper()
	want, by := evalByHand(q, l)
	got, ok := impl.EvalQuery(q, l)
	if ok != by || !sameTables(got, want) {
		t.Fatalf("EvalQuery(%v, %v) = %v, %v, not %v, %v", q, l, got, ok, want, by)
	}
	return got, ok
}

// nearlyAll are a table of one column and one of two, each with all rows of few numbers but one.
func (d *dice) nearlyAll() []impl.Table {
	var out []impl.Table
	for _, one := range []impl.Table{counted(4), crossOfCounted(4, 3+d.below(2))} {
		at := d.below(len(one.Rows))
		one.Rows = slices.Delete(slices.Clone(one.Rows), at, at+1)
		out = append(out, one)
	}
	return out
}

// Of tables that have nearly all rows there are too many ways or rows now and then.
func TestEvalQueryByHandNearItsLimits(t *testing.T) {
	thrown := dice{1016}
	seen, much := map[bool]int{}, 0
	for range 1500 {
		q := thrown.query(columnsOf(1, 2), impl.MaxAtoms, impl.MaxVars, 1+thrown.below(4))
		if len(varsByHand(q.Atoms)) < 4 {
			continue
		}
		got, ok := checkEvalByHand(t, q, thrown.nearlyAll())
		seen[ok]++
		if len(got.Rows) > 30 {
			much++
		}
	}
	if seen[true] < 150 || seen[false] < 40 || much < 15 {
		t.Error(seen, much)
	}
}

// In whatever order the atoms stand, and one of them twice, the same rows are told, as long as it is not refused.
func TestEvalQueryHangsOnNoOrder(t *testing.T) {
	thrown := dice{1003}
	some := 0
	for range 800 {
		asked := thrown.asked()
		q := thrown.query(asked, impl.MaxAtoms-1, 4, 2)
		l := thrown.filled(asked, 8, 0, 3)
		want, ok := impl.EvalQuery(q, l)
		back := copyOfQuery(q)
		slices.Reverse(back.Atoms)
		back.Atoms = append(back.Atoms, q.Atoms[0])
		if got, is := impl.EvalQuery(back, l); ok && is && !sameTables(got, want) {
			t.Fatalf("EvalQuery(%v, %v) = %v, of %v %v", back, l, got, q, want)
		} else if ok && is && len(got.Rows) > 0 {
			some++
		}
	}
	if some < 200 {
		t.Errorf("only %d told rows", some)
	}
}

// fullRows is a table of two rows, or none of these columns.
func fullRows(columns int) impl.Table {
	if columns < 0 || columns > 100 {
		return table(columns)
	}
	return table(columns, weighted(1, make([]int, columns)...), weighted(1, slices.Repeat([]int{1}, columns)...))
}

func fullTables(tables []int) []impl.Table {
	var out []impl.Table
	for _, columns := range tables {
		out = append(out, fullRows(columns))
	}
	return out
}

// askedRows is a question with tables for it, good or not.
type askedRows struct {
	q impl.Query
	l []impl.Table
}

// badAsked are questions and tables of which one is not good, or that do not suit each other.
func badAsked() []askedRows {
	out := []askedRows{
		{query("0", "a0"), tables(table(2))},
		{query("0", "a01", "b1"), tables(table(2), table(2))},
		{query("0", "a01", "b12"), tables(table(2), table(3))},
		{query("0", "a01", "b12"), tables(table(2))},
	}
	for _, one := range badQueries() {
		var empty []impl.Table
		for _, columns := range one.tables {
			empty = append(empty, table(columns))
		}
		out = append(out, askedRows{one.q, empty}, askedRows{one.q, fullTables(one.tables)})
	}
	for _, bad := range badTables() {
		out = append(out,
			askedRows{query("0", "a0"), tables(bad)}, askedRows{query("0", "a01"), tables(bad)}, askedRows{query("", "a012"), tables(bad)},
			// Of which no atom is.
			askedRows{query("0", "a0"), tables(counted(3), bad)}, askedRows{query("0", "b0"), tables(bad, counted(3))},
			askedRows{query("0", "b0"), tables(table(2), counted(3), table(3), bad)})
	}
	for _, one := range goodQueries() {
		l := fullTables(one.tables)
		out = append(out,
			askedRows{one.q, nil}, askedRows{one.q, []impl.Table{}}, askedRows{one.q, slices.Concat(l, l, l, l, l)},
			askedRows{one.q, append(slices.Clone(l), table(4))}, askedRows{one.q, append(slices.Clone(l), table(0))})
	}
	return out
}

func TestEvalQueryRefuses(t *testing.T) {
	for _, one := range badAsked() {
		if got, ok := impl.EvalQuery(one.q, one.l); !isNoTable(got) || ok {
			t.Errorf("EvalQuery(%v, %v) = %v, %v", one.q, one.l, got, ok)
		}
	}
	for _, one := range goodQueries() {
		if _, ok := impl.EvalQuery(one.q, fullTables(one.tables)); !ok {
			t.Errorf("EvalQuery(%v) is refused", one.q)
		}
	}
}

func TestCanonicalOfAsTold(t *testing.T) {
	for _, c := range []struct {
		q      impl.Query
		tables []int
		want   []impl.Table
	}{
		{query("0", "a01", "a12"), columnsOf(2), tables(onceOf(2, lists("01", "12")...))},
		{query("0", "a12", "a01", "a02"), columnsOf(2), tables(onceOf(2, lists("01", "02", "12")...))},
		{query("", "a0"), columnsOf(1), tables(onceOf(1, lists("0")...))},
		{query("5", "a5"), columnsOf(1), tables(onceOf(1, lists("5")...))},
		{query("55", "a050"), columnsOf(3), tables(onceOf(3, lists("050")...))},
		{query("543210", "a012", "a345"), columnsOf(3), tables(onceOf(3, lists("012", "345")...))},
		{query("0", "a01", "a01"), columnsOf(2), tables(onceOf(2, lists("01")...))},
		{query("", "a1", "a1", "a0", "a1", "a0"), columnsOf(1), tables(onceOf(1, lists("0", "1")...))},
		{query("", "a5", "a4", "a3", "a2", "a1"), columnsOf(1), tables(onceOf(1, lists("1", "2", "3", "4", "5")...))},
		{query("", "b0"), columnsOf(2, 1), tables(table(2), onceOf(1, lists("0")...))},
		{query("3", "d3"), columnsOf(2, 3, 2, 1), tables(table(2), table(3), table(2), onceOf(1, lists("3")...))},
		{query("0214", "a14", "b2", "c340", "d41", "a01"), columnsOf(2, 1, 3, 2), tables(onceOf(2, lists("01", "14")...), onceOf(1, lists("2")...), onceOf(3, lists("340")...), onceOf(2, lists("41")...))},
	} {
		got, head, ok := impl.CanonicalOf(c.q, c.tables)
		if !ok || !slices.EqualFunc(got, c.want, sameTables) || !slices.Equal(head.Cells, c.q.Head) {
			t.Errorf("CanonicalOf(%v, %v) = %v, %v, %v, not %v", c.q, c.tables, got, head, ok, c.want)
		}
	}
}

func TestCanonicalOfByHand(t *testing.T) {
	thrown := dice{1004}
	for range 1500 {
		asked := thrown.asked()
		q := thrown.query(asked, impl.MaxAtoms, 1+thrown.below(impl.MaxVars), thrown.below(impl.MaxColumns+1))
		got, head, ok := impl.CanonicalOf(q, asked)
		if !ok || !slices.EqualFunc(got, canonicalByHand(q, asked), sameTables) || !slices.Equal(head.Cells, q.Head) {
			t.Fatalf("CanonicalOf(%v, %v) = %v, %v, %v", q, asked, got, head, ok)
		}
		if slices.ContainsFunc(got, func(one impl.Table) bool { return !impl.GoodTable(one) }) {
			t.Fatalf("CanonicalOf(%v, %v) = %v: not all are good", q, asked, got)
		}
	}
}

// tellsRow asks whether a question tells a row, by hand where EvalQuery has no room.
func tellsRow(q impl.Query, l []impl.Table, r impl.Row) bool {
	if told, ok := impl.EvalQuery(q, l); ok {
		return isAbove(told, r)
	}
	return slices.ContainsFunc(rowsByHand(q, l), func(cells []int) bool { return slices.Equal(cells, r.Cells) })
}

func TestAQuestionTellsItsHeadsRowOfItsCanonicalTables(t *testing.T) {
	thrown := dice{1005}
	for range 800 {
		asked := thrown.asked()
		q := thrown.query(asked, impl.MaxAtoms, 1+thrown.below(4), thrown.below(impl.MaxColumns+1))
		l, head, _ := impl.CanonicalOf(q, asked)
		if !tellsRow(q, l, head) {
			t.Fatalf("%v does not tell %v of %v", q, head, l)
		}
	}
}

type containedCase struct {
	p, q   impl.Query
	tables []int
	want   string
}

func TestIsContainedAsTold(t *testing.T) {
	for _, c := range []containedCase{
		{query("0", "a01", "a12"), query("0", "a01"), columnsOf(2), "010000"},
		{query("0", "a01"), query("0", "a01"), columnsOf(2), "010000"},
		// 0 for the variables that q has not.
		{query("0", "a01"), query("5", "a54"), columnsOf(2), "000010"},
		{query("5", "a54"), query("0", "a01"), columnsOf(2), "540000"},
		{query("5", "a54"), query("5", "a54"), columnsOf(2), "000045"},
		{query("3", "a3"), query("2", "a2"), columnsOf(1), "003000"},
		// All to one variable.
		{query("", "a55"), query("", "a01", "a12", "a23", "a34", "a45"), columnsOf(2), "555555"},
		{query("", "a00"), query("", "a01", "a12", "a23", "a34", "a45"), columnsOf(2), "000000"},
		{query("33", "a333"), query("05", "a012", "a345"), columnsOf(3), "333333"},
		// Of several maps the least one.
		{query("", "a12", "a01"), query("", "a01"), columnsOf(2), "010000"},
		{query("", "a20", "a02"), query("", "a01"), columnsOf(2), "020000"},
		{query("", "a20", "a02"), query("", "a10"), columnsOf(2), "020000"},
		{query("", "a20", "a31"), query("", "a01"), columnsOf(2), "200000"},
		{query("", "a20", "a31"), query("", "a10"), columnsOf(2), "020000"},
		{query("", "a5", "a4", "a3"), query("", "a0", "a1", "a2", "a4", "a5"), columnsOf(1), "333033"},
		{query("1", "a2", "a1"), query("1", "a0", "a1"), columnsOf(1), "110000"},
		{query("0", "a01", "a10"), query("0", "a01", "a12", "a23", "a30"), columnsOf(2), "010100"},
		{query("", "a01", "a10"), query("", "a01", "a12", "a23", "a30"), columnsOf(2), "010100"},
		{query("1", "a01", "a10"), query("0", "a01", "a12", "a23", "a30"), columnsOf(2), "101000"},
		// What leads on at first and nowhere in the end is given up.
		{query("", "a01", "a23", "a34", "a45"), query("", "a01", "a12", "a23"), columnsOf(2), "234500"},
		{query("", "a01", "a02", "a23"), query("", "a10", "a02"), columnsOf(2), "203000"},
		{query("", "a01", "a12", "a20"), query("", "a01", "a12", "a23", "a34", "a45"), columnsOf(2), "012012"},
		{query("", "a01", "a12", "a24", "b4"), query("", "a01", "a12", "b2"), columnsOf(2, 1), "124000"},
		// The Head's variables lead to the Head's.
		{query("2", "a01", "a12"), query("1", "a01"), columnsOf(2), "120000"},
		{query("20", "a01", "a12"), query("20", "a01", "a12"), columnsOf(2), "012000"},
		{query("00", "a0"), query("01", "a0", "a1"), columnsOf(1), "000000"},
		{query("11", "a1"), query("01", "a0", "a1"), columnsOf(1), "110000"},
		{query("01", "a0", "a1"), query("10", "a0", "a1"), columnsOf(1), "100000"},
		{query("012345", "a012", "a345"), query("543210", "a543", "a210"), columnsOf(3), "543210"},
		// By tables.
		{query("", "a01", "b10"), query("", "b01"), columnsOf(2, 2), "100000"},
		{query("", "a1", "b2", "c3", "d4"), query("", "a0", "b1", "c2", "d3", "a4"), columnsOf(1, 1, 1, 1), "123410"},
		{query("0", "a0", "b01", "c012"), query("0", "c012", "a0"), columnsOf(1, 2, 3), "012000"},
		// Atoms twice, on both sides.
		{query("0", "a01", "a01"), query("0", "a01"), columnsOf(2), "010000"},
		{query("0", "a01"), query("0", "a01", "a01", "a01", "a01", "a01"), columnsOf(2), "010000"},
	} {
		got, is, ok := impl.IsContained(c.p, c.q, c.tables)
		if !ok || !is || !slices.Equal(got, digits(c.want)) {
			t.Errorf("IsContained(%v, %v, %v) = %v, %v, %v, not %s", c.p, c.q, c.tables, got, is, ok, c.want)
		}
	}
}

func TestIsContainedFindsNoMap(t *testing.T) {
	for _, c := range []containedCase{
		{p: query("0", "a01"), q: query("0", "a01", "a12"), tables: columnsOf(2)},
		{p: query("", "a01"), q: query("", "a00"), tables: columnsOf(2)},
		{p: query("", "a01", "a12", "a20"), q: query("", "a01", "a10"), tables: columnsOf(2)},
		{p: query("", "a01", "a10"), q: query("", "a01", "a12", "a20"), tables: columnsOf(2)},
		{p: query("", "a01", "a12", "a23", "a34"), q: query("", "a01", "a12", "a23", "a34", "a45"), tables: columnsOf(2)},
		// One variable of the Head can't lead to two.
		{p: query("01", "a0", "a1"), q: query("00", "a0"), tables: columnsOf(1)},
		{p: query("01", "a01"), q: query("10", "a01"), tables: columnsOf(2)},
		{p: query("1", "a01"), q: query("0", "a01"), tables: columnsOf(2)},
		{p: query("0", "a01", "a12"), q: query("1", "a01"), tables: columnsOf(2)},
		// Another table, with as many columns or with others.
		{p: query("", "a01"), q: query("", "b01"), tables: columnsOf(2, 2)},
		{p: query("", "a01"), q: query("", "b0"), tables: columnsOf(2, 1)},
		{p: query("", "a01"), q: query("", "b012"), tables: columnsOf(2, 3)},
		{p: query("", "a01", "b01"), q: query("", "a01", "b10"), tables: columnsOf(2, 2)},
		{p: query("", "a01", "b12"), q: query("", "a01", "b10"), tables: columnsOf(2, 2)},
		{p: query("", "a011"), q: query("", "a001"), tables: columnsOf(3)},
	} {
		got, is, ok := impl.IsContained(c.p, c.q, c.tables)
		if !ok || is || len(got) > 0 {
			t.Errorf("IsContained(%v, %v, %v) = %v, %v, %v", c.p, c.q, c.tables, got, is, ok)
		}
	}
}

func TestIsContainedTellsTheLeastOfAllMaps(t *testing.T) {
	thrown := dice{1006}
	yes, no, high := 0, 0, 0
	for range 2500 {
		asked := thrown.asked()
		p, q := thrown.twoQueries(asked, 1+thrown.below(impl.MaxAtoms), 1+thrown.below(impl.MaxVars))
		want, by := leastMapByHand(p, q)
		got, is, ok := impl.IsContained(p, q, asked)
		if !ok || is != by || !slices.Equal(got, want) {
			t.Fatalf("IsContained(%v, %v, %v) = %v, %v, %v, not %v, %v", p, q, asked, got, is, ok, want, by)
		}
		if !is {
			no++
			continue
		}
		yes++
		if len(varsByHand(q.Atoms)) > 3 {
			high++
		}
	}
	if yes < 800 || no < 500 || high < 300 {
		t.Errorf("%d had a map, %d of these more than three variables, %d had none", yes, high, no)
	}
}

// Promise 10: where there is a map p's rows are among q's, whatever the tables hold.
func TestRowsAreAmongTheOthersWhereThereIsAMap(t *testing.T) {
	thrown := dice{1007}
	rows := 0
	for range 1500 {
		asked := thrown.asked()
		p, q := thrown.twoQueries(asked, impl.MaxAtoms, 1+thrown.below(5))
		if _, is, ok := impl.IsContained(p, q, asked); !ok {
			t.Fatalf("IsContained(%v, %v, %v) is refused", p, q, asked)
		} else if !is {
			continue
		}
		for range 4 {
			l := thrown.filled(asked, thrown.oneOf(3, 6, 12), -1, thrown.oneOf(1, 2, 3))
			for _, cells := range rowsToldOf(p, l) {
				rows++
				if !tellsRow(q, l, row(cells...)) {
					t.Fatalf("%v is contained in %v, which does not tell %v of %v", p, q, cells, l)
				}
			}
		}
	}
	if rows < 2000 {
		t.Errorf("only %d rows were told", rows)
	}
}

func rowsToldOf(q impl.Query, l []impl.Table) [][]int {
	told, ok := impl.EvalQuery(q, l)
	if !ok {
		return rowsByHand(q, l)
	}
	var out [][]int
	for _, one := range told.Rows {
		out = append(out, one.Row.Cells)
	}
	return out
}

// Promise 10: of p's own tables p tells its Head's row, and q does so just if there is a map.
func TestCanonicalTablesShowWhetherThereIsAMap(t *testing.T) {
	thrown := dice{1008}
	seen := map[bool]int{}
	for range 2000 {
		asked := thrown.asked()
		p, q := thrown.twoQueries(asked, impl.MaxAtoms, 1+thrown.below(4))
		_, is, ok := impl.IsContained(p, q, asked)
		l, head, good := impl.CanonicalOf(p, asked)
		if !ok || !good {
			t.Fatalf("%v, %v, %v are refused", p, q, asked)
		}
		if !tellsRow(p, l, head) || tellsRow(q, l, head) != is {
			t.Fatalf("IsContained(%v, %v, %v) is %v, but of %v and %v: %v, %v", p, q, asked, is, l, head, tellsRow(p, l, head), tellsRow(q, l, head))
		}
		seen[is]++
	}
	if seen[true] < 500 || seen[false] < 500 {
		t.Error(seen)
	}
}

// smallQueries are all of up to two atoms of a table of two columns with three variables, with a Head of up to one.
func smallQueries() []impl.Query {
	var atoms []impl.Atom
	for _, vars := range lists("00", "01", "02", "10", "11", "12", "20", "21", "22") {
		atoms = append(atoms, impl.Atom{Vars: vars})
	}
	var bodies [][]impl.Atom
	for i, first := range atoms {
		bodies = append(bodies, []impl.Atom{first})
		for _, second := range atoms[:i] {
			bodies = append(bodies, []impl.Atom{first, second})
		}
	}
	var out []impl.Query
	for _, body := range bodies {
		out = append(out, impl.Query{Atoms: body})
		for _, n := range varsByHand(body) {
			out = append(out, impl.Query{Head: []int{n}, Atoms: body})
		}
	}
	return out
}

// Promise 10, at all tables of two columns with three numbers: all that three variables can be told apart by is among them.
func TestContainedJustIfAmongOnAllSmallTables(t *testing.T) {
	all := smallQueries()
	cells := lists("00", "01", "02", "10", "11", "12", "20", "21", "22")
	told := make([][]string, len(all))
	for _, some := range allParts([]int{0, 1, 2, 3, 4, 5, 6, 7, 8}) {
		var rows [][]int
		for _, n := range some {
			rows = append(rows, cells[n])
		}
		l := tables(onceOf(2, rows...))
		for i, q := range all {
			got, ok := impl.EvalQuery(q, l)
			if !ok {
				t.Fatalf("EvalQuery(%v, %v) is refused", q, l)
			}
			told[i] = append(told[i], smallRows(got))
		}
	}
	seen := map[bool]int{}
	for i, p := range all {
		for j, q := range all {
			if len(p.Head) != len(q.Head) {
				continue
			}
			want := among(told[i], told[j])
			if _, is, ok := impl.IsContained(p, q, columnsOf(2)); !ok || is != want {
				t.Fatalf("IsContained(%v, %v) = %v, %v", p, q, is, ok)
			}
			seen[want]++
		}
	}
	if seen[true] < 2000 || seen[false] < 2000 {
		t.Error(seen)
	}
}

// smallRows tells the rows of up to one cell below 3, by places that are marked: the row without cells takes the first.
func smallRows(one impl.Table) string {
	marks := []byte("...")
	for _, r := range one.Rows {
		marks[append(r.Row.Cells, 0)[0]] = 'x'
	}
	return string(marks)
}

// among asks whether what the first list marks is marked in the second one.
func among(first, second []string) bool {
	for i := range first {
		for place := range first[i] {
			if first[i][place] == 'x' && second[i][place] != 'x' {
				return false
			}
		}
	}
	return true
}

// What is contained in what is contained is contained; each is contained in itself.
func TestIsContainedGoesOn(t *testing.T) {
	thrown := dice{1009}
	for range 600 {
		asked := thrown.asked()
		p := thrown.query(asked, impl.MaxAtoms, 1+thrown.below(impl.MaxVars), thrown.below(3))
		q := thrown.wider(p)
		r := thrown.wider(q)
		for _, two := range [][2]impl.Query{{p, p}, {p, q}, {q, r}, {p, r}} {
			if _, is, ok := impl.IsContained(two[0], two[1], asked); !is || !ok {
				t.Fatalf("IsContained(%v, %v, %v) = %v, %v", two[0], two[1], asked, is, ok)
			}
		}
	}
}

func TestSameQueriesAsTold(t *testing.T) {
	for _, c := range []struct {
		p, q   impl.Query
		tables []int
		want   bool
	}{
		{query("0", "a01"), query("0", "a01"), columnsOf(2), true},
		{query("0", "a01"), query("5", "a54"), columnsOf(2), true},
		{query("0", "a01"), query("1", "a01"), columnsOf(2), false},
		{query("0", "a01"), query("0", "a01", "a01"), columnsOf(2), true},
		{query("0", "a01"), query("0", "a01", "a02"), columnsOf(2), true},
		{query("0", "a01", "a12"), query("0", "a12", "a01"), columnsOf(2), true},
		// One way alone.
		{query("0", "a01", "a12"), query("0", "a01"), columnsOf(2), false},
		{query("0", "a01"), query("0", "a01", "a12"), columnsOf(2), false},
		{query("", "a00"), query("", "a01"), columnsOf(2), false},
		{query("00", "a0"), query("01", "a0", "a1"), columnsOf(1), false},
		{query("01", "a0", "a1"), query("00", "a0"), columnsOf(1), false},
		// Neither way.
		{query("", "a0"), query("", "b0"), columnsOf(1, 1), false},
		{query("01", "a01"), query("10", "a01"), columnsOf(2), false},
		{query("", "a00"), query("", "a00", "a01", "a12", "a23", "a34"), columnsOf(2), true},
		{query("", "a01", "a10"), query("", "a01", "a10", "a23", "a32", "a21"), columnsOf(2), true},
		{query("", "a01", "a12", "a23", "a30"), query("", "a01", "a10"), columnsOf(2), false},
	} {
		if got, ok := impl.SameQueries(c.p, c.q, c.tables); !ok || got != c.want {
			t.Errorf("SameQueries(%v, %v, %v) = %v, %v", c.p, c.q, c.tables, got, ok)
		}
	}
}

func TestSameQueriesBothWays(t *testing.T) {
	thrown := dice{1010}
	seen, oneWay := map[bool]int{}, 0
	for range 1500 {
		asked := thrown.asked()
		p, q := thrown.twoQueries(asked, 1+thrown.below(impl.MaxAtoms), 1+thrown.below(4))
		_, there, _ := impl.IsContained(p, q, asked)
		_, back, _ := impl.IsContained(q, p, asked)
		got, ok := impl.SameQueries(p, q, asked)
		other, good := impl.SameQueries(q, p, asked)
		if !ok || !good || got != other || got != (there && back) || got != sameQueriesByHand(p, q) {
			t.Fatalf("SameQueries(%v, %v, %v) = %v, %v, the other way %v, %v", p, q, asked, got, ok, other, good)
		}
		seen[got]++
		if there != back {
			oneWay++
		}
	}
	if seen[true] < 200 || seen[false] < 500 || oneWay < 300 {
		t.Error(seen, oneWay)
	}
}

func TestCoreOfAsTold(t *testing.T) {
	for _, c := range []struct {
		q, want impl.Query
		tables  []int
	}{
		{query("0", "a01"), query("0", "a01"), columnsOf(2)},
		{query("", "a0"), query("", "a0"), columnsOf(1)},
		// From the first on: the last one stays, with its own variables.
		{query("0", "a01", "a02"), query("0", "a02"), columnsOf(2)},
		{query("0", "a02", "a01"), query("0", "a01"), columnsOf(2)},
		{query("", "a0", "a1", "a2", "a3", "a4"), query("", "a4"), columnsOf(1)},
		{query("", "a0", "a0", "a0", "a0", "a0"), query("", "a0"), columnsOf(1)},
		{query("0", "a01", "a01"), query("0", "a01"), columnsOf(2)},
		{query("1", "a0", "a1", "a2"), query("1", "a1"), columnsOf(1)},
		// The Head's variables all stand in what is left.
		{query("01", "a0", "a1"), query("01", "a0", "a1"), columnsOf(1)},
		{query("01", "a0", "a1", "a0", "a2"), query("01", "a1", "a0"), columnsOf(1)},
		{query("0", "a01", "a21"), query("0", "a01"), columnsOf(2)},
		{query("2", "a01", "a21"), query("2", "a21"), columnsOf(2)},
		{query("02", "a01", "a21"), query("02", "a01", "a21"), columnsOf(2)},
		{query("012345", "a012", "a345"), query("012345", "a012", "a345"), columnsOf(3)},
		{query("000000", "a012", "a034"), query("000000", "a034"), columnsOf(3)},
		// Nothing can go.
		{query("0", "a01", "a12"), query("0", "a01", "a12"), columnsOf(2)},
		{query("", "a01", "a12", "a23", "a34", "a45"), query("", "a01", "a12", "a23", "a34", "a45"), columnsOf(2)},
		{query("", "a01", "a12", "a20"), query("", "a01", "a12", "a20"), columnsOf(2)},
		{query("", "a0", "b0"), query("", "a0", "b0"), columnsOf(1, 1)},
		// What leads to itself takes the place of all.
		{query("", "a01", "a12", "a22"), query("", "a22"), columnsOf(2)},
		{query("", "a22", "a01", "a12"), query("", "a22"), columnsOf(2)},
		{query("0", "a01", "a12", "a22"), query("0", "a01", "a12", "a22"), columnsOf(2)},
		{query("", "a01", "a10", "a23", "a32"), query("", "a23", "a32"), columnsOf(2)},
		{query("", "a01", "a12", "a23", "a30"), query("", "a01", "a12", "a23", "a30"), columnsOf(2)},
		// One that can't go at first, though others go behind it.
		{query("", "a00", "a01", "a12", "a23", "a34"), query("", "a00"), columnsOf(2)},
		{query("", "a0", "b01", "a1", "a2"), query("", "a0", "b01", "a1"), columnsOf(1, 2)},
		{query("0", "a01", "b12", "a03", "b34", "a05"), query("0", "a03", "b34"), columnsOf(2, 2)},
		{query("5", "d5", "a45", "a35", "a55"), query("5", "d5", "a55"), columnsOf(2, 1, 3, 1)},
	} {
		got, ok := impl.CoreOf(c.q, c.tables)
		if !ok || !sameQuestions(got, c.want) {
			t.Errorf("CoreOf(%v, %v) = %v, %v, not %v", c.q, c.tables, got, ok, c.want)
		}
		if by := coreByHand(c.q); !sameQuestions(by, c.want) {
			t.Errorf("by hand CoreOf(%v, %v) = %v, not %v", c.q, c.tables, by, c.want)
		}
	}
}

func checkCore(t *testing.T, q impl.Query, asked []int) impl.Query {
	t.Helper()
	got, ok := impl.CoreOf(q, asked)
	if !ok || !sameQuestions(got, coreByHand(q)) {
		t.Fatalf("CoreOf(%v, %v) = %v, %v", q, asked, got, ok)
	}
	if same, good := impl.SameQueries(got, q, asked); !same || !good {
		t.Fatalf("CoreOf(%v, %v) = %v: not the same", q, asked, got)
	}
	for number := range got.Atoms {
		less := withoutAtom(got, number)
		if same, good := impl.SameQueries(got, less, asked); same && good {
			t.Fatalf("CoreOf(%v, %v) = %v: atom %d can go", q, asked, got, number)
		}
	}
	if again, ok := impl.CoreOf(got, asked); !ok || !sameQuestions(again, got) {
		t.Fatalf("CoreOf(%v, %v) = %v, %v, though it is a core", got, asked, again, ok)
	}
	return got
}

func TestCoreOfIsTheSameAndNoneCanGo(t *testing.T) {
	thrown := dice{1011}
	stays, goes, many := 0, 0, 0
	for range 1200 {
		asked := thrown.asked()
		q := thrown.query(asked, impl.MaxAtoms, 1+thrown.below(impl.MaxVars), thrown.oneOf(0, 0, 1, 1, 2))
		core := checkCore(t, q, asked)
		switch gone := len(q.Atoms) - len(core.Atoms); {
		case gone == 0:
			stays++
		case gone > 1 && len(core.Atoms) > 1:
			many++
		default:
			goes++
		}
	}
	if stays < 250 || goes < 250 || many < 80 {
		t.Errorf("of %d nothing went, of %d one or all but one, of %d several", stays, goes, many)
	}
}

// A core tells the same rows as what it is the core of.
func TestCoreOfTellsTheSameRows(t *testing.T) {
	thrown := dice{1012}
	rows := 0
	for range 800 {
		asked := thrown.asked()
		q := thrown.query(asked, impl.MaxAtoms, 1+thrown.below(4), thrown.below(3))
		core, _ := impl.CoreOf(q, asked)
		l := thrown.filled(asked, thrown.oneOf(4, 9), 0, 3)
		want := rowsByHand(q, l)
		if got := rowsToldOf(core, l); !sameLists(got, want) {
			t.Fatalf("CoreOf(%v, %v) = %v, of %v it tells %v, not %v", q, asked, core, l, got, want)
		}
		rows += len(want)
	}
	if rows < 300 {
		t.Errorf("only %d rows", rows)
	}
}

func checkTwoRefused(t *testing.T, p, q impl.Query, tables []int) {
	t.Helper()
	if got, is, ok := impl.IsContained(p, q, tables); len(got) > 0 || is || ok {
		t.Errorf("IsContained(%v, %v, %v) = %v, %v, %v", p, q, tables, got, is, ok)
	}
	if is, ok := impl.SameQueries(p, q, tables); is || ok {
		t.Errorf("SameQueries(%v, %v, %v) = %v, %v", p, q, tables, is, ok)
	}
}

func checkQueryRefused(t *testing.T, q impl.Query, tables []int) {
	t.Helper()
	if l, head, ok := impl.CanonicalOf(q, tables); len(l) > 0 || len(head.Cells) > 0 || ok {
		t.Errorf("CanonicalOf(%v, %v) = %v, %v, %v", q, tables, l, head, ok)
	}
	if got, ok := impl.CoreOf(q, tables); !isNoQuery(got) || ok {
		t.Errorf("CoreOf(%v, %v) = %v, %v", q, tables, got, ok)
	}
	checkTwoRefused(t, q, q, tables)
}

func TestQuestionsAreRefused(t *testing.T) {
	for _, one := range badQueries() {
		checkQueryRefused(t, one.q, one.tables)
		// Beside a good one with a Head of the same length, as far as there is one.
		for number, columns := range one.tables {
			if columns < 1 || columns > 3 {
				continue
			}
			good := impl.Query{Head: make([]int, len(one.q.Head)), Atoms: []impl.Atom{{Table: number, Vars: make([]int, columns)}}}
			checkTwoRefused(t, one.q, good, one.tables)
			checkTwoRefused(t, good, one.q, one.tables)
		}
	}
}

func TestHeadsOfUnlikeLengthsAreRefused(t *testing.T) {
	for p := range impl.MaxColumns + 1 {
		for q := range impl.MaxColumns + 1 {
			first, second := query("", "a01"), query("", "a10")
			first.Head, second.Head = make([]int, p), make([]int, q)
			if p != q {
				checkTwoRefused(t, first, second, columnsOf(2))
			} else if _, _, ok := impl.IsContained(first, second, columnsOf(2)); !ok {
				t.Errorf("IsContained(%v, %v) is refused", first, second)
			}
		}
	}
}

func containedAnswers(p, q impl.Query, tables []int) []any {
	m, is, ok := impl.IsContained(p, q, tables)
	return []any{m, is, ok}
}

func canonicalAnswers(q impl.Query, tables []int) []any {
	l, head, ok := impl.CanonicalOf(q, tables)
	return []any{l, head, ok}
}

func anyQueries() []askedQuery {
	thrown := dice{1013}
	out := append(goodQueries(), badQueries()...)
	for range 150 {
		tables := thrown.asked()
		out = append(out, askedQuery{thrown.query(tables, impl.MaxAtoms, impl.MaxVars, thrown.below(4)), tables})
	}
	return out
}

func (d *dice) anyTablesFor(tables []int) [][]impl.Table {
	var empty, filled []impl.Table
	for _, columns := range tables {
		empty = append(empty, table(columns))
	}
	if hasAll([]int{1, 2, 3}, tables) {
		filled = d.filled(tables, 12, 0, 3)
	}
	return [][]impl.Table{nil, empty, fullTables(tables), filled, goodTables()[:3], badTables()[:2], badTables()[7:9]}
}

// Promise 19: each function of chapter 10 answers at any arguments, the same each time, in new memory, and writes into none.
func TestQueriesAnswerAndWriteNothing(t *testing.T) {
	thrown := dice{1014}
	all := anyQueries()
	for _, one := range all {
		q, tables := withGuards(one.q), withGuards(one.tables)
		checkCall(t, "GoodQuery", func() []any { return []any{impl.GoodQuery(q, tables)} }, q, tables)
		checkCall(t, "VarsIn", func() []any { return answers(impl.VarsIn(q)) }, q)
		checkCall(t, "CanonicalOf", func() []any { return canonicalAnswers(q, tables) }, q, tables)
		checkCall(t, "CoreOf", func() []any { return answers(impl.CoreOf(q, tables)) }, q, tables)
		for _, l := range thrown.anyTablesFor(one.tables) {
			l := withGuards(l)
			checkCall(t, "EvalQuery", func() []any { return answers(impl.EvalQuery(q, l)) }, q, l)
		}
		others := []impl.Query{one.q, all[thrown.below(len(all))].q, all[thrown.below(len(all))].q}
		if goodQueryByHand(one.q, one.tables) {
			others = append(others, thrown.wider(one.q), thrown.query(one.tables, impl.MaxAtoms, impl.MaxVars, len(one.q.Head)))
		}
		for _, other := range others {
			p := withGuards(other)
			checkCall(t, "IsContained", func() []any { return containedAnswers(p, q, tables) }, p, q, tables)
			checkCall(t, "IsContained", func() []any { return containedAnswers(q, p, tables) }, p, q, tables)
			checkCall(t, "SameQueries", func() []any { return answers(impl.SameQueries(p, q, tables)) }, p, q, tables)
		}
	}
}

// A question whose lists share their memory is handed in; what is told shares none, and is as if they had been apart.
func TestQueriesThatShareTheirLists(t *testing.T) {
	vars := []int{1, 0, 1, 2, 2}
	q := impl.Query{Head: vars[:3], Atoms: []impl.Atom{{Vars: vars[:2]}, {Vars: vars[1:3]}, {Vars: vars[:2]}, {Vars: vars[2:4]}, {Vars: vars[3:]}}}
	apart, asked := copyOfQuery(q), columnsOf(2)
	l := tables(onceOf(2, lists("11", "12", "21")...))
	checkCall(t, "VarsIn", func() []any { return answers(impl.VarsIn(q)) }, q)
	checkCall(t, "CanonicalOf", func() []any { return canonicalAnswers(q, asked) }, q, asked)
	checkCall(t, "CoreOf", func() []any { return answers(impl.CoreOf(q, asked)) }, q, asked)
	checkCall(t, "EvalQuery", func() []any { return answers(impl.EvalQuery(q, l)) }, q, l)
	checkCall(t, "IsContained", func() []any { return containedAnswers(q, q, asked) }, q, asked)
	if got, want := queryAnswers(q, q, asked, l), queryAnswers(apart, apart, asked, l); got != want {
		t.Errorf("%v: %s, apart %s", q, got, want)
	}
}

func queryAnswers(p, q impl.Query, tables []int, l []impl.Table) string {
	return fmt.Sprint(impl.GoodQuery(q, tables), answers(impl.VarsIn(q)), canonicalAnswers(q, tables), answers(impl.CoreOf(q, tables)),
		answers(impl.EvalQuery(q, l)), containedAnswers(p, q, tables), answers(impl.SameQueries(p, q, tables)))
}

// What lies behind a list's length does not count.
func TestQueriesDoNotReadBehindTheirLists(t *testing.T) {
	thrown := dice{1015}
	all := anyQueries()
	for _, one := range all {
		for _, l := range thrown.anyTablesFor(one.tables) {
			p := all[thrown.below(len(all))].q
			plain := queryAnswers(p, one.q, one.tables, l)
			if got := queryAnswers(withGuards(p), withGuards(one.q), withGuards(one.tables), withGuards(l)); got != plain {
				t.Errorf("%v, %v, %v, %v: %s, with guards behind the lists %s", p, one.q, one.tables, l, plain, got)
			}
		}
	}
}
