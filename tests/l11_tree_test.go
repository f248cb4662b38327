package tests

import (
	"fmt"
	"math"
	"slices"
	"testing"

	"loop.example/g00305/impl"
)

// ears tells the ears of texts: "01" is atom 0 with Up 1, "1-" atom 1 with Up -1.
func ears(texts ...string) []impl.Ear {
	var out []impl.Ear
	for _, s := range texts {
		one := impl.Ear{Atom: int(s[0] - '0'), Up: -1}
		if s[1] != '-' {
			one.Up = int(s[1] - '0')
		}
		out = append(out, one)
	}
	return out
}

// varSet has the bit n where the atom has variable n.
func varSet(one impl.Atom) int {
	set := 0
	for _, n := range one.Vars {
		set |= 1 << n
	}
	return set
}

func varSetOf(atoms []impl.Atom, numbers []int) int {
	set := 0
	for _, n := range numbers {
		set |= varSet(atoms[n])
	}
	return set
}

func edgesByHand(atoms []impl.Atom) [][]int {
	var out [][]int
	for _, one := range atoms {
		out = append(out, varsByHand([]impl.Atom{one}))
	}
	return out
}

// earOfLeft searches the first ear among the atoms that are left, and its first Up.
func earOfLeft(atoms []impl.Atom, left []int) (impl.Ear, bool) {
	for _, n := range left {
		others := without(left, n)
		shared := varSet(atoms[n]) & varSetOf(atoms, others)
		for _, up := range others {
			if varSet(atoms[up])&shared == shared {
				return impl.Ear{Atom: n, Up: up}, true
			}
		}
	}
	return impl.Ear{}, false
}

func earsByHand(atoms []impl.Atom) ([]impl.Ear, bool) {
	left := firstColumns(len(atoms))
	var out []impl.Ear
	for len(left) > 1 {
		one, found := earOfLeft(atoms, left)
		if !found {
			return out, false
		}
		out, left = append(out, one), without(left, one.Atom)
	}
	return append(out, impl.Ear{Atom: left[0], Up: -1}), true
}

func bitsIn(set int) int {
	many := 0
	for ; set > 0; set &= set - 1 {
		many++
	}
	return many
}

// hangAsTree asks without any ears: atoms hang together as a tree just if the heaviest tree that has all of them, each of its edges weighing as many variables as both ends share, weighs as many as variables stand in further atoms.
func hangAsTree(atoms []impl.Atom) bool {
	weight, further := 0, 0
	in, out := []int{0}, firstColumns(len(atoms))[1:]
	for len(out) > 0 {
		heaviest, next := -1, 0
		for _, a := range in {
			for _, b := range out {
				if shared := bitsIn(varSet(atoms[a]) & varSet(atoms[b])); shared > heaviest {
					heaviest, next = shared, b
				}
			}
		}
		weight += heaviest
		in, out = append(in, next), without(out, next)
	}
	for _, one := range atoms {
		further += bitsIn(varSet(one))
	}
	return weight == further-bitsIn(varSetOf(atoms, in))
}

func isTreeByHand(atoms []impl.Atom, l []impl.Ear) bool {
	placeOf := map[int]int{}
	for place, one := range l {
		placeOf[one.Atom] = place
	}
	for n := range atoms {
		if _, is := placeOf[n]; !is || len(l) != len(atoms) {
			return false
		}
	}
	for place, one := range l {
		up, is := placeOf[one.Up]
		if place == len(l)-1 {
			return one.Up == -1
		}
		if !is || up <= place {
			return false
		}
		for _, behind := range l[place+1:] {
			if varSet(atoms[one.Atom])&varSet(atoms[behind.Atom])&^varSet(atoms[one.Up]) != 0 {
				return false
			}
		}
	}
	return false
}

func pairsSuitByHand(a, b impl.Table, pairs [][]int) bool {
	for _, pair := range pairs {
		if len(pair) != 2 || pair[0] < 0 || pair[0] >= a.Columns || pair[1] < 0 || pair[1] >= b.Columns {
			return false
		}
	}
	return len(pairs) <= 6
}

// semiJoinByHand takes good tables.
func semiJoinByHand(a, b impl.Table, pairs [][]int) (impl.Table, bool) {
	if !pairsSuitByHand(a, b, pairs) {
		return impl.Table{}, false
	}
	out := impl.Table{Columns: a.Columns}
	for _, x := range a.Rows {
		if slices.ContainsFunc(b.Rows, func(y impl.Weighted) bool {
			unlike := func(pair []int) bool { return x.Row.Cells[pair[0]] != y.Row.Cells[pair[1]] }
			return y.Weight > 0 && !slices.ContainsFunc(pairs, unlike)
		}) {
			out.Rows = append(out.Rows, x)
		}
	}
	return out, true
}

// reduceByHand does no semijoins: for each atom it has the rows that are part of some way for all atoms.
func reduceByHand(q impl.Query, l []impl.Table) []impl.Table {
	ways := waysByHand(q.Atoms, l)
	var out []impl.Table
	for _, one := range q.Atoms {
		var rows [][]int
		for _, g := range ways {
			rows = append(rows, g.of(one.Vars))
		}
		slices.SortFunc(rows, slices.Compare)
		out = append(out, onceOf(len(one.Vars), slices.CompactFunc(rows, slices.Equal)...))
	}
	return out
}

// goneByHand counts, atom by atom and row by row, what is not there any more.
func goneByHand(q impl.Query, l, own []impl.Table) int {
	gone := 0
	for n, one := range q.Atoms {
		for _, r := range l[one.Table].Rows {
			if !isAbove(own[n], r.Row) {
				gone++
			}
		}
	}
	return gone
}

// backAlong is the question of which each atom has its own table, atoms in the order of the ears from the last one back.
func backAlong(q impl.Query, l []impl.Ear) impl.Query {
	out := impl.Query{Head: q.Head}
	for place := range l {
		n := l[len(l)-1-place].Atom
		out.Atoms = append(out.Atoms, impl.Atom{Table: n, Vars: q.Atoms[n].Vars})
	}
	return out
}

// byTreeByHand takes a good question and its tables.
func byTreeByHand(q impl.Query, l []impl.Table) (impl.Table, int, bool) {
	taken, all := earsByHand(q.Atoms)
	if !all {
		return impl.Table{}, 0, false
	}
	own := reduceByHand(q, l)
	told, ok := evalByHand(backAlong(q, taken), own)
	if !ok {
		return impl.Table{}, 0, false
	}
	return told, goneByHand(q, l, own), true
}

// treeQuery throws till the atoms hang together as a tree.
func (d *dice) treeQuery(tables []int, atoms, vars, head int) impl.Query {
	for {
		if q := d.query(tables, atoms, vars, head); hangAsTree(q.Atoms) {
			return q
		}
	}
}

// noTrees are good questions of a table of two columns and one of three whose atoms are no tree.
func noTrees() []impl.Query {
	return []impl.Query{
		query("0", "a01", "a12", "a20"),
		query("", "a12", "a23", "a31"),
		query("", "a01", "a12", "a23", "a30"),
		query("04", "a01", "a12", "a23", "a34", "a40"),
		query("0", "a01", "a12", "a20", "a03"),
		query("0", "a03", "a01", "a12", "a20"),
		query("", "a01", "a12", "a20", "a34"),
		query("", "a01", "a01", "a12", "a20"),
		query("", "b012", "b234", "b450"),
		query("", "b001", "a12", "b202"),
		query("", "b013", "b123", "b023"),
	}
}

func TestEdgesOfAsTold(t *testing.T) {
	for _, c := range []struct {
		q      impl.Query
		tables []int
		want   [][]int
	}{
		{query("0", "a0"), columnsOf(1), lists("0")},
		{query("", "a5"), columnsOf(1), lists("5")},
		{query("", "a01"), columnsOf(2), lists("01")},
		{query("", "a10"), columnsOf(2), lists("01")},
		{query("", "a00"), columnsOf(2), lists("0")},
		{query("", "a505"), columnsOf(3), lists("05")},
		{query("", "a333"), columnsOf(3), lists("3")},
		{query("3", "a542", "a130"), columnsOf(3), lists("245", "013")},
		{query("01", "a01", "a01"), columnsOf(2), lists("01", "01")},
		{query("", "a01", "a10", "a01", "a10", "a01"), columnsOf(2), lists("01", "01", "01", "01", "01")},
		{query("", "a0", "a1"), columnsOf(1), lists("0", "1")},
		{query("0214", "a41", "b2", "c340", "d11", "a01"), columnsOf(2, 1, 3, 2), lists("14", "2", "034", "1", "01")},
	} {
		if got, ok := impl.EdgesOf(c.q, c.tables); !ok || !sameLists(got, c.want) {
			t.Errorf("EdgesOf(%v, %v) = %v, %v, not %v", c.q, c.tables, got, ok, c.want)
		}
	}
}

func TestEdgesOfAreTheVarsInOneAtomAlone(t *testing.T) {
	thrown := dice{1100}
	twice := 0
	for range 1500 {
		asked := thrown.asked()
		q := thrown.query(asked, impl.MaxAtoms, 1+thrown.below(impl.MaxVars), thrown.below(4))
		got, ok := impl.EdgesOf(q, asked)
		if !ok || !sameLists(got, edgesByHand(q.Atoms)) {
			t.Fatalf("EdgesOf(%v, %v) = %v, %v", q, asked, got, ok)
		}
		for n, one := range q.Atoms {
			alone, good := impl.VarsIn(impl.Query{Atoms: []impl.Atom{one}})
			if !good || !slices.Equal(got[n], alone) {
				t.Fatalf("EdgesOf(%v, %v) = %v, VarsIn tells %v of atom %d", q, asked, got, alone, n)
			}
			if len(alone) < len(one.Vars) {
				twice++
			}
		}
	}
	if twice < 300 {
		t.Errorf("only %d atoms had a variable twice", twice)
	}
}

type earsCase struct {
	q      impl.Query
	tables []int
	want   []impl.Ear
}

func checkEars(t *testing.T, all bool, cases []earsCase) {
	t.Helper()
	for _, c := range cases {
		if got, is, ok := impl.EarsOf(c.q, c.tables); !ok || is != all || !slices.Equal(got, c.want) {
			t.Errorf("EarsOf(%v, %v) = %v, %v, %v, not %v", c.q, c.tables, got, is, ok, c.want)
		}
		if by, is := earsByHand(c.q.Atoms); is != all || !slices.Equal(by, c.want) {
			t.Errorf("by hand EarsOf(%v) = %v, %v, not %v", c.q, by, is, c.want)
		}
		if hangAsTree(c.q.Atoms) != all {
			t.Errorf("%v hang as a tree: %v", c.q, !all)
		}
		if is, ok := impl.IsTree(c.q, c.want, c.tables); !ok || is != all {
			t.Errorf("IsTree(%v, %v, %v) = %v, %v", c.q, c.want, c.tables, is, ok)
		}
	}
}

func TestEarsOfATree(t *testing.T) {
	checkEars(t, true, []earsCase{
		// One atom alone.
		{query("0", "a0"), columnsOf(1), ears("0-")},
		{query("", "a555"), columnsOf(3), ears("0-")},
		{query("", "d012"), columnsOf(1, 1, 1, 3), ears("0-")},
		// Two.
		{query("0", "a01", "b12"), columnsOf(2, 2), ears("01", "1-")},
		{query("0", "a01", "a10"), columnsOf(2), ears("01", "1-")},
		{query("", "a012", "b1"), columnsOf(3, 1), ears("01", "1-")},
		{query("", "b1", "a012"), columnsOf(3, 1), ears("01", "1-")},
		// What shares nothing hangs on the first other one.
		{query("", "a0", "a1"), columnsOf(1), ears("01", "1-")},
		{query("", "a012", "a345"), columnsOf(3), ears("01", "1-")},
		{query("", "a0", "a1", "a2", "a3", "a4"), columnsOf(1), ears("01", "12", "23", "34", "4-")},
		{query("", "a01", "a23", "a12"), columnsOf(2), ears("02", "12", "2-")},
		{query("", "a01", "a45", "a12"), columnsOf(2), ears("02", "12", "2-")},
		{query("", "a45", "a01", "a12"), columnsOf(2), ears("01", "12", "2-")},
		{query("", "a01", "a12", "a45"), columnsOf(2), ears("01", "12", "2-")},
		// An atom twice, five times.
		{query("0", "a01", "a01"), columnsOf(2), ears("01", "1-")},
		{query("0", "a01", "a10", "b01", "a01", "b10"), columnsOf(2, 2), ears("01", "12", "23", "34", "4-")},
		// A variable twice in an atom.
		{query("0", "a00", "a01"), columnsOf(2), ears("01", "1-")},
		{query("0", "a00", "a11"), columnsOf(2), ears("01", "1-")},
		{query("", "a011", "a122", "a233"), columnsOf(3), ears("01", "12", "2-")},
		{query("", "a112", "b01", "a322"), columnsOf(3, 2), ears("10", "02", "2-")},
		{query("", "a01", "a11", "a10"), columnsOf(2), ears("02", "12", "2-")},
	})
}

func TestEarsOfFurtherTrees(t *testing.T) {
	checkEars(t, true, []earsCase{
		// In a row, however they stand.
		{query("0", "a01", "a12", "a23"), columnsOf(2), ears("01", "12", "2-")},
		{query("0", "a12", "a01", "a23"), columnsOf(2), ears("10", "02", "2-")},
		{query("0", "a12", "a23", "a01"), columnsOf(2), ears("10", "02", "2-")},
		{query("05", "a01", "a12", "a23", "a34", "a45"), columnsOf(2), ears("01", "12", "23", "34", "4-")},
		{query("05", "a45", "a34", "a23", "a12", "a01"), columnsOf(2), ears("01", "12", "23", "34", "4-")},
		{query("05", "a23", "a12", "a34", "a01", "a45"), columnsOf(2), ears("31", "10", "02", "24", "4-")},
		{query("", "a34", "a23", "a45", "a12", "a01"), columnsOf(2), ears("20", "01", "13", "34", "4-")},
		{query("", "a012", "a123", "a234", "a345"), columnsOf(3), ears("01", "12", "23", "3-")},
		// About one variable: the first one hangs on the next.
		{query("0", "a01", "a02", "a03"), columnsOf(2), ears("01", "12", "2-")},
		{query("0", "a01", "a02", "a03", "a04", "a05"), columnsOf(2), ears("01", "12", "23", "34", "4-")},
		// About one atom.
		{query("", "b012", "a03", "a14", "a25"), columnsOf(2, 3), ears("10", "20", "03", "3-")},
		{query("", "a03", "a14", "a25", "b012"), columnsOf(2, 3), ears("03", "13", "23", "3-")},
		{query("", "a03", "b012", "a14", "a25"), columnsOf(2, 3), ears("01", "21", "13", "3-")},
		// A ring that an atom has all of.
		{query("", "a01", "a12", "a20", "b012"), columnsOf(2, 3), ears("03", "13", "23", "3-")},
		{query("", "b012", "a01", "a12", "a20"), columnsOf(2, 3), ears("10", "20", "03", "3-")},
		{query("", "b012", "a01", "a12", "a20", "b210"), columnsOf(2, 3), ears("04", "14", "24", "34", "4-")},
		{query("", "a01", "a12", "a20", "b012", "a34"), columnsOf(2, 3), ears("03", "13", "23", "34", "4-")},
		{query("0", "a01", "b013", "a13", "b034", "a04"), columnsOf(2, 3), ears("01", "21", "13", "34", "4-")},
		// Of several that may be the Up the first one, be it ahead or behind.
		{query("", "a01", "b12", "b10", "b13"), columnsOf(2, 2), ears("02", "12", "23", "3-")},
		{query("", "b012", "b123", "a12", "a12"), columnsOf(2, 3), ears("01", "12", "23", "3-")},
		{query("", "b012", "b034", "a05", "a12"), columnsOf(2, 3), ears("10", "20", "03", "3-")},
		{query("", "b012", "b120", "b123", "b045", "a45"), columnsOf(2, 3), ears("01", "21", "13", "34", "4-")},
	})
}

func TestEarsOfWhatIsNoTree(t *testing.T) {
	checkEars(t, false, []earsCase{
		// Rings have no ear.
		{query("0", "a01", "a12", "a20"), columnsOf(2), nil},
		{query("", "a01", "b12", "c20"), columnsOf(2, 2, 2), nil},
		{query("", "a01", "a12", "a23", "a30"), columnsOf(2), nil},
		{query("", "a01", "a12", "a23", "a34", "a40"), columnsOf(2), nil},
		{query("", "a012", "a234", "a450"), columnsOf(3), nil},
		{query("", "a013", "a123", "a023"), columnsOf(3), nil},
		{query("", "a001", "b12", "a202"), columnsOf(3, 2), nil},
		// Rings that hang on ears.
		{query("", "a01", "a12", "a20", "a03"), columnsOf(2), ears("30")},
		{query("", "a03", "a01", "a12", "a20"), columnsOf(2), ears("01")},
		{query("", "a01", "a12", "a03", "a20"), columnsOf(2), ears("20")},
		{query("", "a01", "a12", "a20", "a23"), columnsOf(2), ears("31")},
		{query("", "a01", "a12", "a20", "a03", "a14"), columnsOf(2), ears("30", "40")},
		{query("", "a03", "a14", "a01", "a12", "a20"), columnsOf(2), ears("02", "12")},
		{query("", "a34", "a03", "a01", "a12", "a20"), columnsOf(2), ears("01", "12")},
		{query("", "a03", "a34", "a01", "a12", "a20"), columnsOf(2), ears("10", "02")},
		{query("", "a01", "a12", "a23", "a30", "a04"), columnsOf(2), ears("40")},
		// What shares nothing with the ring.
		{query("", "a01", "a12", "a20", "a34"), columnsOf(2), ears("30")},
		{query("", "a34", "a01", "a12", "a20"), columnsOf(2), ears("01")},
		{query("", "a01", "a34", "a12", "a35", "a20"), columnsOf(2), ears("13", "30")},
		// An atom of the ring twice.
		{query("", "a01", "a01", "a12", "a20"), columnsOf(2), ears("01")},
		{query("", "a01", "a12", "a20", "a12", "b22"), columnsOf(2, 2), ears("13", "42")},
	})
}

// allAtoms has all atoms of these tables with these variables.
func allAtoms(tables, variables []int) []impl.Atom {
	var out []impl.Atom
	for number, columns := range tables {
		for _, vars := range listsUpTo(columns, variables) {
			if len(vars) == columns {
				out = append(out, impl.Atom{Table: number, Vars: vars})
			}
		}
	}
	return out
}

func checkEarsByHand(t *testing.T, q impl.Query, asked []int) ([]impl.Ear, bool) {
	t.Helper()
	want, all := earsByHand(q.Atoms)
	got, is, ok := impl.EarsOf(q, asked)
	if !ok || is != all || !slices.Equal(got, want) {
		t.Fatalf("EarsOf(%v, %v) = %v, %v, %v, not %v, %v", q, asked, got, is, ok, want, all)
	}
	if is != hangAsTree(q.Atoms) {
		t.Fatalf("EarsOf(%v, %v) = %v, %v, but the heaviest tree says %v", q, asked, got, is, !is)
	}
	if tree, ok := impl.IsTree(q, got, asked); !ok || tree != is {
		t.Fatalf("EarsOf(%v, %v) = %v, %v, but IsTree tells %v, %v", q, asked, got, is, tree, ok)
	}
	return got, is
}

// All questions of up to three atoms, each of one or two of four variables.
func TestEarsOfAllSmallQuestions(t *testing.T) {
	asked := columnsOf(1, 2)
	all := allAtoms(asked, digits("0123"))
	seen := map[bool]int{}
	for _, numbers := range listsUpTo(3, firstNumbers(len(all))) {
		var q impl.Query
		for _, n := range numbers {
			q.Atoms = append(q.Atoms, all[n])
		}
		if len(q.Atoms) > 0 {
			_, is := checkEarsByHand(t, q, asked)
			seen[is]++
		}
	}
	// Four times three variables make a ring, its edges in any order, each of them either way about.
	if rings := 4 * 6 * 8; seen[false] != rings || seen[true] != 20+20*20+20*20*20-rings {
		t.Error(seen)
	}
}

func firstNumbers(many int) []int {
	var out []int
	for n := range many {
		out = append(out, n)
	}
	return out
}

func TestEarsOfByHand(t *testing.T) {
	thrown := dice{1101}
	seen, some := map[bool]int{}, 0
	for range 6000 {
		asked := thrown.asked()
		q := thrown.query(asked, impl.MaxAtoms, 1+thrown.below(impl.MaxVars), thrown.below(3))
		got, is := checkEarsByHand(t, q, asked)
		seen[is]++
		if !is && len(got) > 0 {
			some++
		}
	}
	if seen[true] < 2000 || seen[false] < 200 || some < 80 {
		t.Error(seen, some)
	}
}

// Ears hang on the variables of atoms alone: neither on their order there, nor on the Head, nor on which tables they are of.
func TestEarsOfHangOnVariablesAlone(t *testing.T) {
	thrown := dice{1102}
	for range 600 {
		q := thrown.query(columnsOf(1, 2, 3), impl.MaxAtoms, impl.MaxVars, 2)
		want, all, _ := impl.EarsOf(q, columnsOf(1, 2, 3))
		other := copyOfQuery(q)
		other.Head = nil
		for n, one := range other.Atoms {
			slices.Reverse(one.Vars)
			other.Atoms[n].Table = 3 - len(one.Vars)
		}
		if got, is, ok := impl.EarsOf(other, columnsOf(3, 2, 1)); !ok || is != all || !slices.Equal(got, want) {
			t.Fatalf("EarsOf(%v) = %v, %v, of %v %v, %v", other, got, is, q, want, all)
		}
	}
}

// allEars goes through all lists of ears that have each atom once, each but the last one with an Up behind it, till it is told to stop.
func allEars(atoms int, visit func([]impl.Ear) bool) {
	var next func(left []int, behind []impl.Ear) bool
	next = func(left []int, behind []impl.Ear) bool {
		if len(left) == 0 {
			return visit(behind)
		}
		for _, n := range left {
			if len(behind) == 0 && !next(without(left, n), []impl.Ear{{Atom: n, Up: -1}}) {
				return false
			}
			for _, up := range behind {
				if !next(without(left, n), slices.Insert(slices.Clone(behind), 0, impl.Ear{Atom: n, Up: up.Atom})) {
					return false
				}
			}
		}
		return true
	}
	next(firstNumbers(atoms), nil)
}

// EarsOf finds a tree just if there is one: where it tells false none of all that could be ears is a tree.
func TestEarsOfFindATreeWhereThereIsOne(t *testing.T) {
	thrown := dice{1103}
	seen, trees, none := map[bool]int{}, 0, 0
	for range 250 {
		asked := thrown.asked()
		q := thrown.query(asked, impl.MaxAtoms, 3+thrown.below(4), 0)
		if thrown.below(3) == 0 {
			q, asked = noTrees()[thrown.below(len(noTrees()))], columnsOf(2, 3)
		}
		_, all, _ := impl.EarsOf(q, asked)
		found := false
		allEars(len(q.Atoms), func(l []impl.Ear) bool {
			is, ok := impl.IsTree(q, l, asked)
			if !ok || is != isTreeByHand(q.Atoms, l) {
				t.Fatalf("IsTree(%v, %v, %v) = %v, %v", q, l, asked, is, ok)
			}
			if found = found || is; is {
				trees++
			} else {
				none++
			}
			return true
		})
		if all != found {
			t.Fatalf("EarsOf(%v, %v) tells %v, but there is a tree: %v", q, asked, all, found)
		}
		seen[all]++
	}
	if seen[true] < 100 || seen[false] < 50 || trees < 500 || none < 500 {
		t.Error(seen, trees, none)
	}
}

type isTreeCase struct {
	q    impl.Query
	ears []impl.Ear
	want bool
}

func checkIsTree(t *testing.T, cases []isTreeCase) {
	t.Helper()
	for _, c := range cases {
		if got, ok := impl.IsTree(c.q, c.ears, columnsOf(2, 3)); !ok || got != c.want {
			t.Errorf("IsTree(%v, %v) = %v, %v", c.q, c.ears, got, ok)
		}
		if by := isTreeByHand(c.q.Atoms, c.ears); by != c.want {
			t.Errorf("by hand IsTree(%v, %v) is %v", c.q, c.ears, by)
		}
	}
}

func TestIsTreeAsTold(t *testing.T) {
	one, two := query("", "a01"), query("", "a01", "a12")
	chain, star := query("", "a01", "a12", "a23"), query("", "a01", "a02", "a03")
	checkIsTree(t, []isTreeCase{
		{one, ears("0-"), true},
		{one, nil, false},
		{one, []impl.Ear{}, false},
		{one, ears("00"), false},
		{one, ears("01"), false},
		{one, ears("1-"), false},
		{one, ears("0-", "0-"), false},
		{two, ears("01", "1-"), true},
		{two, ears("10", "0-"), true},
		// Too few, too many, one twice.
		{two, ears("1-"), false},
		{two, ears("01"), false},
		{two, ears("01", "1-", "1-"), false},
		{two, ears("01", "01", "1-"), false},
		{two, ears("01", "0-"), false},
		{two, ears("00", "0-"), false},
		{two, ears("11", "1-"), false},
		{two, ears("1-", "1-"), false},
		// An Up that stands ahead, or is the atom itself, or none.
		{two, ears("01", "10"), false},
		{two, ears("00", "1-"), false},
		{two, ears("01", "11"), false},
		{two, ears("02", "1-"), false},
		{two, ears("0-", "1-"), false},
		{two, ears("0-", "10"), false},
		{two, ears("01", "12"), false},
		{two, ears("01", "2-"), false},
		{two, ears("21", "1-"), false},
		// In a row: the middle one between, or last, but not first.
		{chain, ears("01", "12", "2-"), true},
		{chain, ears("01", "21", "1-"), true},
		{chain, ears("21", "01", "1-"), true},
		{chain, ears("21", "10", "0-"), true},
		{chain, ears("10", "02", "2-"), false},
		{chain, ears("12", "02", "2-"), false},
		{chain, ears("02", "12", "2-"), false},
		{chain, ears("02", "21", "1-"), false},
		{chain, ears("01", "10", "2-"), false},
		{chain, ears("12", "01", "2-"), false},
		// About one variable any order does, and any Up behind.
		{star, ears("01", "12", "2-"), true},
		{star, ears("02", "12", "2-"), true},
		{star, ears("20", "10", "0-"), true},
		{star, ears("12", "20", "0-"), true},
		{star, ears("12", "02", "0-"), false},
		{star, ears("12", "01", "2-"), false},
	})
}

func TestIsTreeOfFurtherEars(t *testing.T) {
	five := query("", "a01", "a12", "a23", "a34", "a45")
	apart := query("", "a01", "a23", "b045")
	covered := query("", "a01", "a12", "a20", "b012")
	checkIsTree(t, []isTreeCase{
		{five, ears("01", "12", "23", "34", "4-"), true},
		{five, ears("43", "01", "12", "32", "2-"), true},
		{five, ears("43", "01", "12", "23", "3-"), true},
		{five, ears("01", "12", "23", "34"), false},
		{five, ears("01", "12", "23", "34", "4-", "4-"), false},
		{five, ears("01", "12", "23", "3-", "4-"), false},
		{five, ears("0-", "12", "23", "34", "4-"), false},
		{five, ears("01", "12", "23", "34", "43"), false},
		{five, ears("02", "12", "23", "34", "4-"), false},
		{five, ears("01", "12", "24", "34", "4-"), false},
		// What shares nothing may hang on any one behind it.
		{apart, ears("10", "02", "2-"), true},
		{apart, ears("12", "02", "2-"), true},
		{apart, ears("02", "12", "2-"), true},
		{apart, ears("02", "21", "1-"), true},
		{apart, ears("01", "12", "2-"), false},
		{apart, ears("20", "01", "1-"), true},
		{apart, ears("20", "10", "0-"), true},
		// A variable that stands ahead alone does not count.
		{covered, ears("03", "13", "23", "3-"), true},
		{covered, ears("03", "13", "32", "2-"), true},
		{covered, ears("13", "03", "32", "2-"), true},
		{covered, ears("03", "32", "12", "2-"), false},
		{covered, ears("32", "03", "12", "2-"), false},
		{covered, ears("01", "13", "23", "3-"), false},
	})
	for _, q := range noTrees() {
		for _, l := range [][]impl.Ear{nil, ears("0-"), ears("01", "12", "2-"), ears("30", "01", "12", "2-"), ears("01", "12", "23", "3-"), ears("01", "12", "23", "34", "4-")} {
			checkIsTree(t, []isTreeCase{{q, l, false}})
		}
	}
}

// All lists of up to three ears with numbers from -1 on, the atoms' and one beyond.
func TestIsTreeOfAllEars(t *testing.T) {
	for _, q := range []impl.Query{
		query("", "a01"), query("", "a01", "a12"), query("", "a01", "a01"), query("", "a01", "a23"), query("", "a01", "a12", "a20"),
		query("", "a01", "a12", "a23"), query("", "a01", "a02", "a03"), query("", "b012", "a01", "a12"), query("", "a01", "a23", "a45"),
	} {
		var all []impl.Ear
		for n := -1; n <= len(q.Atoms); n++ {
			for up := -1; up <= len(q.Atoms); up++ {
				all = append(all, impl.Ear{Atom: n, Up: up})
			}
		}
		for _, numbers := range listsUpTo(3, firstNumbers(len(all))) {
			var l []impl.Ear
			for _, n := range numbers {
				l = append(l, all[n])
			}
			if got, ok := impl.IsTree(q, l, columnsOf(2, 3)); !ok || got != isTreeByHand(q.Atoms, l) {
				t.Fatalf("IsTree(%v, %v) = %v, %v", q, l, got, ok)
			}
		}
	}
}

// Ears that name no atom are none: that is told, not refused.
func TestIsTreeOfEarsThatNameNoAtom(t *testing.T) {
	q, good := query("", "a01", "a12", "a23"), ears("01", "12", "2-")
	for _, n := range []int{math.MinInt, -64, -2, -1, 3, 4, 64, math.MaxInt} {
		for place := range good {
			l := slices.Clone(good)
			l[place].Atom = n
			checkIsTree(t, []isTreeCase{{q, l, false}})
			l = slices.Clone(good)
			l[place].Up = n
			checkIsTree(t, []isTreeCase{{q, l, n == -1 && place == 2}})
			checkIsTree(t, []isTreeCase{{q, slices.Repeat([]impl.Ear{{Atom: n, Up: n}}, place+1), false}})
		}
	}
	checkIsTree(t, []isTreeCase{{q, make([]impl.Ear, 1000), false}, {q, slices.Repeat(good, 400), false}, {q, append(slices.Clone(good), good...), false}})
}

type semiCase struct {
	a, b  impl.Table
	pairs [][]int
	want  impl.Table
}

func checkSemi(t *testing.T, cases []semiCase) {
	t.Helper()
	for _, c := range cases {
		if got, ok := impl.SemiJoin(c.a, c.b, c.pairs); !ok || !sameTables(got, c.want) {
			t.Errorf("SemiJoin(%v, %v, %v) = %v, %v, not %v", c.a, c.b, c.pairs, got, ok, c.want)
		}
		if by, ok := semiJoinByHand(c.a, c.b, c.pairs); !ok || !sameTables(by, c.want) {
			t.Errorf("by hand SemiJoin(%v, %v, %v) = %v, %v, not %v", c.a, c.b, c.pairs, by, ok, c.want)
		}
	}
}

func TestSemiJoinAsTold(t *testing.T) {
	a := table(2, weighted(2, 1, 5), weighted(-3, 2, 5), weighted(4, 3, 6), weighted(1, 7, 7))
	b := table(2, weighted(7, 5, 8), weighted(10, 5, 9), weighted(1, 7, 7))
	checkSemi(t, []semiCase{
		// Its own rows with their own weights, once, however many b has for it.
		{a, b, lists("10"), table(2, weighted(2, 1, 5), weighted(-3, 2, 5), weighted(1, 7, 7))},
		{b, a, lists("01"), b},
		{a, b, lists("11"), table(2, weighted(1, 7, 7))},
		{a, b, lists("00"), table(2, weighted(1, 7, 7))},
		{b, a, lists("10"), table(2, weighted(1, 7, 7))},
		{a, b, lists("10", "11"), table(2, weighted(1, 7, 7))},
		{a, b, lists("00", "10"), table(2, weighted(1, 7, 7))},
		{a, a, lists("00", "11"), table(2, weighted(2, 1, 5), weighted(4, 3, 6), weighted(1, 7, 7))},
		{a, a, lists("00"), table(2, weighted(2, 1, 5), weighted(4, 3, 6), weighted(1, 7, 7))},
		{a, a, lists("01"), table(2, weighted(1, 7, 7))},
		// No pairs: all or none.
		{a, b, nil, a},
		{a, b, [][]int{}, a},
		{a, table(2), nil, table(2)},
		{a, table(0, weighted(1)), nil, a},
		{a, table(0, weighted(-1)), nil, table(2)},
		{a, table(0), nil, table(2)},
		{table(0, weighted(-4)), a, nil, table(0, weighted(-4))},
		{table(0, weighted(3)), table(0, weighted(9)), nil, table(0, weighted(3))},
		// Twice the same, more than there are columns.
		{a, b, lists("10", "10"), table(2, weighted(2, 1, 5), weighted(-3, 2, 5), weighted(1, 7, 7))},
		{a, b, lists("10", "10", "10", "10", "10", "10"), table(2, weighted(2, 1, 5), weighted(-3, 2, 5), weighted(1, 7, 7))},
		{counted(9), table(1, weighted(1, 4), weighted(1, 8), weighted(1, 9)), lists("00", "00", "00", "00", "00", "00"), table(1, weighted(1, 4), weighted(1, 8))},
		{a, b, lists("00", "01", "10", "11"), table(2, weighted(1, 7, 7))},
		{table(3, weighted(1, 2, 2, 2), weighted(1, 2, 2, 3)), table(2, weighted(1, 2, 2)), lists("00", "01", "10", "11", "20", "21"), table(3, weighted(1, 2, 2, 2))},
	})
}

func TestSemiJoinByWeights(t *testing.T) {
	most := impl.MaxWeight
	some := table(1, weighted(most, 1), weighted(-most, 2), weighted(-1, 3), weighted(2, 4))
	checkSemi(t, []semiCase{
		// What is below 0 in b is no partner; what is below 0 in a has one as others do.
		{some, table(1, weighted(-1, 1), weighted(1, 2), weighted(1, 3), weighted(-5, 4)), lists("00"), table(1, weighted(-most, 2), weighted(-1, 3))},
		{some, some, lists("00"), table(1, weighted(most, 1), weighted(2, 4))},
		{some, table(1, weighted(-most, 1)), lists("00"), table(1)},
		{some, table(1, weighted(most, 1)), lists("00"), table(1, weighted(most, 1))},
		{some, table(1, weighted(-7, 9)), nil, table(1)},
		{some, table(1, weighted(-7, 1), weighted(7, 9)), nil, some},
		// Of two rows of b that are alike in the pairs one is above 0.
		{some, table(2, weighted(-5, 1, 0), weighted(1, 1, 1), weighted(1, 2, 0), weighted(-5, 2, 1)), lists("00"), table(1, weighted(most, 1), weighted(-most, 2))},
	})
}

func TestSemiJoinAtLimits(t *testing.T) {
	top, low := impl.MaxCell, -impl.MaxCell
	six := table(6, weighted(2, 1, 2, 3, 4, 5, 6), weighted(3, 1, 2, 3, 4, 5, 7))
	all := table(1, countedRows(impl.MaxRows, 0, 5)...)
	checkSemi(t, []semiCase{
		{all, all, lists("00"), all},
		{all, all, nil, all},
		{all, table(1, countedRows(impl.MaxRows, 59, 1)...), lists("00"), table(1, weighted(5, 59))},
		{table(1, countedRows(impl.MaxRows, 1, 5)...), all, lists("00"), table(1, countedRows(59, 1, 5)...)},
		{table(1, weighted(1, low), weighted(1, top)), table(1, weighted(1, top)), lists("00"), table(1, weighted(1, top))},
		{table(1, weighted(1, low), weighted(1, top)), table(1, weighted(1, low)), lists("00"), table(1, weighted(1, low))},
		// Only a's columns are told, so both may have more together than a table may.
		{six, six, nil, six},
		{six, six, lists("00", "11", "22", "33", "44", "55"), six},
		{six, table(6, weighted(1, 7, 7, 7, 7, 7, 7)), lists("50"), table(6, weighted(3, 1, 2, 3, 4, 5, 7))},
		{six, table(1, weighted(1, 1)), nil, six},
		{crossOfCounted(6, 10), crossOfCounted(10, 6), nil, crossOfCounted(6, 10)},
		{crossOfCounted(6, 10), crossOfCounted(10, 6), lists("11"), crossOfCounted(6, 6)},
		// Tables of no rows.
		{table(6), six, lists("00"), table(6)},
		{six, table(6), lists("00"), table(6)},
		{table(3), table(2), lists("21"), table(3)},
		{table(0), table(0), nil, table(0)},
	})
}

func TestSemiJoinByHand(t *testing.T) {
	some := append(algebraTables(), crossOfCounted(6, 10), counted(5))
	pairs := append(pairListsUpToTwo(0, 1, 5), badPairsOfTwo()...)
	seen := map[bool]int{}
	for i, a := range some {
		for _, b := range []impl.Table{a, some[i*7%len(some)], some[i*11%len(some)], some[len(some)-1-i]} {
			for _, l := range pairs {
				want, by := semiJoinByHand(a, b, l)
				if got, ok := impl.SemiJoin(a, b, l); ok != by || !sameTables(got, want) || !impl.GoodTable(got) {
					t.Fatalf("SemiJoin(%v, %v, %v) = %v, %v, not %v, %v", a, b, l, got, ok, want, by)
				}
				seen[by]++
			}
		}
	}
	if seen[true] < 5000 || seen[false] < 5000 {
		t.Error(seen)
	}
}

// rowsIn has the first cells of all rows, whatever their weights.
func rowsIn(one impl.Table, columns int) map[rowAt]bool {
	out := map[rowAt]bool{}
	for _, r := range one.Rows {
		out[rowAtOf(0, r.Row.Cells[:columns])] = true
	}
	return out
}

// A row of a is left just if a join with what b has above 0 has it.
func TestSemiJoinLeavesWhatIsJoined(t *testing.T) {
	thrown := dice{1104}
	left, gone := 0, 0
	for range 3000 {
		two := thrown.filled([]int{1 + thrown.below(3), 1 + thrown.below(3)}, thrown.oneOf(4, 8, 12), 0, 1+thrown.below(4))
		var pairs [][]int
		for range thrown.below(4) {
			pairs = append(pairs, []int{thrown.below(two[0].Columns), thrown.below(two[1].Columns)})
		}
		plain, _ := impl.DistinctTable(two[1])
		// Of small weights a join is good as long as it has room.
		small := impl.Table{Columns: two[0].Columns}
		for _, one := range two[0].Rows {
			small.Rows = append(small.Rows, weighted(min(2, max(-2, one.Weight)), one.Row.Cells...))
		}
		joined, ok := impl.JoinTables(small, plain, pairs)
		if !ok {
			continue
		}
		got, ok := impl.SemiJoin(two[0], two[1], pairs)
		if !ok || fmt.Sprint(rowsIn(got, got.Columns)) != fmt.Sprint(rowsIn(joined, got.Columns)) {
			t.Fatalf("SemiJoin(%v, %v) = %v, %v, JoinTables tells %v", two, pairs, got, ok, joined)
		}
		for _, one := range got.Rows {
			if weight, _ := impl.WeightOf(two[0], one.Row); weight != one.Weight {
				t.Fatalf("SemiJoin(%v, %v) = %v: unlike weights", two, pairs, got)
			}
		}
		left, gone = left+len(got.Rows), gone+len(two[0].Rows)-len(got.Rows)
	}
	if left < 3000 || gone < 1500 {
		t.Errorf("%d rows were left, %d were not", left, gone)
	}
}

func TestSemiJoinRefuses(t *testing.T) {
	a := table(2, weighted(2, 1, 5), weighted(-3, 2, 5))
	none := table(2)
	for _, pairs := range badPairsOfTwo() {
		for _, two := range [][2]impl.Table{{a, a}, {none, a}, {a, none}, {none, none}} {
			checkSemiRefused(t, two[0], two[1], pairs)
		}
	}
	checkSemiRefused(t, table(0), table(1), lists("00"))
	checkSemiRefused(t, table(1), table(0), lists("00"))
	checkSemiRefused(t, table(2), table(1), lists("01"))
	checkSemiRefused(t, table(1), table(2), lists("10"))
	checkSemiRefused(t, counted(3), counted(3), slices.Repeat(lists("00"), 7))
	checkSemiRefused(t, table(6), table(6), lists("00", "11", "22", "33", "44", "55", "00"))
	for _, pairs := range [][][]int{nil, lists("00")} {
		checkTwoRefusesBad(t, "SemiJoin", func(a, b impl.Table) (impl.Table, bool) { return impl.SemiJoin(a, b, pairs) })
	}
}

func checkSemiRefused(t *testing.T, a, b impl.Table, pairs [][]int) {
	t.Helper()
	if got, ok := impl.SemiJoin(a, b, pairs); ok || !isNoTable(got) {
		t.Errorf("SemiJoin(%v, %v, %v) = %v, %v", a, b, pairs, got, ok)
	}
}

type treeCase struct {
	q    impl.Query
	l    []impl.Table
	own  []impl.Table
	want impl.Table
	gone int
}

// checkTrees asks ReduceAll and EvalByTree, and what tells both by hand.
func checkTrees(t *testing.T, cases []treeCase) {
	t.Helper()
	for _, c := range cases {
		if own, ok := impl.ReduceAll(c.q, c.l); !ok || !slices.EqualFunc(own, c.own, sameTables) {
			t.Errorf("ReduceAll(%v, %v) = %v, %v, not %v", c.q, c.l, own, ok, c.own)
		}
		if by := reduceByHand(c.q, c.l); !slices.EqualFunc(by, c.own, sameTables) {
			t.Errorf("by hand ReduceAll(%v, %v) = %v, not %v", c.q, c.l, by, c.own)
		}
		if got, gone, ok := impl.EvalByTree(c.q, c.l); !ok || gone != c.gone || !sameTables(got, c.want) {
			t.Errorf("EvalByTree(%v, %v) = %v, %v, %v, not %v, %v", c.q, c.l, got, gone, ok, c.want, c.gone)
		}
		if by, gone, ok := byTreeByHand(c.q, c.l); !ok || gone != c.gone || !sameTables(by, c.want) {
			t.Errorf("by hand EvalByTree(%v, %v) = %v, %v, %v, not %v, %v", c.q, c.l, by, gone, ok, c.want, c.gone)
		}
	}
}

func pairsOnce(texts ...string) impl.Table {
	return onceOf(2, lists(texts...)...)
}

func TestByATreeAsTold(t *testing.T) {
	steps := tables(pairsOnce("12", "23", "59"))
	two := tables(pairsOnce("12", "34"), pairsOnce("27", "99"))
	checkTrees(t, []treeCase{
		{query("0", "a01", "b12"), two, tables(pairsOnce("12"), pairsOnce("27")), onceOf(1, lists("1")...), 2},
		{query("012", "b12", "a01"), two, tables(pairsOnce("27"), pairsOnce("12")), onceOf(3, lists("127")...), 2},
		{query("", "a01", "b12"), two, tables(pairsOnce("12"), pairsOnce("27")), table(0, weighted(1)), 2},
		// An atom each has its own table, be they of the same one.
		{query("02", "a01", "a12"), steps, tables(pairsOnce("12"), pairsOnce("23")), pairsOnce("13"), 4},
		{query("0", "a01", "a12", "a23"), steps, tables(table(2), table(2), table(2)), table(1), 9},
		{query("", "a01", "a12", "a23"), steps, tables(table(2), table(2), table(2)), table(0), 9},
		// One atom alone: nothing to join, so nothing else goes.
		{query("0", "a01"), steps, steps, onceOf(1, lists("1", "2", "5")...), 0},
		{query("10", "a01"), steps, steps, pairsOnce("21", "32", "95"), 0},
		// An atom twice, five times.
		{query("0", "a01", "a01"), steps, tables(steps[0], steps[0]), onceOf(1, lists("1", "2", "5")...), 0},
		{query("0", "a01", "a01", "a01", "a01", "a01"), steps, tables(steps[0], steps[0], steps[0], steps[0], steps[0]), onceOf(1, lists("1", "2", "5")...), 0},
		{query("01", "a01", "a10"), tables(pairsOnce("12", "13", "21", "33")), tables(pairsOnce("12", "21", "33"), pairsOnce("12", "21", "33")), pairsOnce("12", "21", "33"), 2},
		// A variable twice in an atom: other rows go at once.
		{query("0", "a00"), tables(pairsOnce("11", "12", "33")), tables(pairsOnce("11", "33")), onceOf(1, lists("1", "3")...), 1},
		{query("01", "a010"), tables(onceOf(3, lists("121", "122", "221", "333")...)), tables(onceOf(3, lists("121", "333")...)), pairsOnce("12", "33"), 2},
		{query("1", "a00", "a01"), tables(pairsOnce("11", "12", "23")), tables(pairsOnce("11"), pairsOnce("11", "12")), onceOf(1, lists("1", "2")...), 3},
		// A Head that has one way's number twice, or tells two ways as one.
		{query("11", "a01", "b12"), two, tables(pairsOnce("12"), pairsOnce("27")), pairsOnce("22"), 2},
		{query("0", "a01", "b02"), tables(pairsOnce("11", "12", "21"), pairsOnce("13", "14")), tables(pairsOnce("11", "12"), pairsOnce("13", "14")), onceOf(1, lists("1")...), 1},
	})
}

func TestByATreeOfWhatSharesNothing(t *testing.T) {
	l := tables(counted(3), onceOf(1, lists("7", "8")...), table(1), table(1, weighted(-1, 5)))
	checkTrees(t, []treeCase{
		{query("01", "a0", "b1"), l, tables(l[0], l[1]), pairsOnce("07", "08", "17", "18", "27", "28"), 0},
		{query("1", "a0", "b1"), l, tables(l[0], l[1]), l[1], 0},
		// All or none: of a table of no rows there is no partner for any.
		{query("01", "a0", "c1"), l, tables(table(1), table(1)), table(2), 3},
		{query("01", "c0", "a1"), l, tables(table(1), table(1)), table(2), 3},
		{query("01", "a0", "d1"), l, tables(table(1), table(1)), table(2), 4},
		{query("0", "a0", "b1", "c2", "d3", "a4"), l, tables(table(1), table(1), table(1), table(1), table(1)), table(1), 9},
		{query("", "c0", "c1"), l, tables(table(1), table(1)), table(0), 0},
		{query("02", "a0", "b1", "b2"), l, tables(l[0], l[1], l[1]), pairsOnce("07", "08", "17", "18", "27", "28"), 0},
	})
}

func TestByATreeOfFiveTables(t *testing.T) {
	l := tables(pairsOnce("12", "23", "34", "45", "56", "71", "98"), onceOf(1, lists("1", "2", "7", "9")...), onceOf(3, lists("123", "234", "719")...), pairsOnce("12", "21"))
	row := []impl.Table{pairsOnce("12", "71"), pairsOnce("12", "23"), pairsOnce("23", "34"), pairsOnce("34", "45"), pairsOnce("45", "56")}
	checkTrees(t, []treeCase{
		{query("05", "a01", "a12", "a23", "a34", "a45"), l, row, pairsOnce("16", "75"), 25},
		{query("05", "a23", "a45", "a01", "a34", "a12"), l, []impl.Table{row[2], row[4], row[0], row[3], row[1]}, pairsOnce("16", "75"), 25},
		{query("0", "b0", "a01", "c012", "d10", "b1"), l, tables(onceOf(1, lists("1")...), pairsOnce("12"), onceOf(3, lists("123")...), pairsOnce("21"), onceOf(1, lists("2")...)), onceOf(1, lists("1")...), 15},
		{query("", "b0", "b1", "b2", "b3", "b4"), tables(table(1), onceOf(1, lists("3")...)), slices.Repeat(tables(onceOf(1, lists("3")...)), 5), table(0, weighted(1)), 0},
		{query("01234", "b0", "b1", "b2", "b3", "b4"), tables(table(1), onceOf(1, lists("3")...)), slices.Repeat(tables(onceOf(1, lists("3")...)), 5), onceOf(5, lists("33333")...), 0},
	})
}

func TestByATreeWithWeights(t *testing.T) {
	most := impl.MaxWeight
	some := table(1, weighted(-3, 1), weighted(1, 2), weighted(7, 3), weighted(most, 4), weighted(-most, 5))
	above := onceOf(1, lists("2", "3", "4")...)
	checkTrees(t, []treeCase{
		// Weight 1 is told; what is below 0 is left out, and counted so.
		{query("0", "a0"), tables(some), tables(above), above, 2},
		{query("0", "a0", "a0"), tables(some), tables(above, above), above, 4},
		{query("0", "a0", "b0"), tables(some, table(1, weighted(5, 1), weighted(-5, 2), weighted(9, 3))), tables(onceOf(1, lists("3")...), onceOf(1, lists("3")...)), onceOf(1, lists("3")...), 6},
		{query("0", "a0"), tables(table(1, weighted(-1, 0))), tables(table(1)), table(1), 1},
		{query("0", "a00"), tables(table(2, weighted(-1, 1, 1), weighted(-1, 1, 2), weighted(2, 2, 1), weighted(3, 2, 2))), tables(pairsOnce("22")), onceOf(1, lists("2")...), 3},
		{query("02", "a01", "a12"), tables(table(2, weighted(5, 1, 2), weighted(-1, 2, 3), weighted(9, 2, 4), weighted(-2, 4, 1))), tables(pairsOnce("12"), pairsOnce("24")), pairsOnce("14"), 6},
	})
}

func TestByATreeOfTablesOfNoRows(t *testing.T) {
	all := counted(impl.MaxRows)
	checkTrees(t, []treeCase{
		{query("", "a0"), tables(table(1)), tables(table(1)), table(0), 0},
		{query("000000", "a0"), tables(table(1)), tables(table(1)), table(6), 0},
		{query("02", "a012"), tables(table(3)), tables(table(3)), table(2), 0},
		{query("0", "a0", "b01"), tables(all, table(2)), tables(table(1), table(2)), table(1), 60},
		{query("0", "b01", "a0"), tables(all, table(2)), tables(table(2), table(1)), table(1), 60},
		{query("1", "a0", "a1", "b01"), tables(all, table(2)), tables(table(1), table(1), table(2)), table(1), 120},
		// Tables of which no atom is do not count.
		{query("0", "a0"), tables(all, table(2), counted(7)), tables(all), all, 0},
		{query("0", "c0"), tables(all, table(2), table(1, weighted(-1, 3), weighted(1, 4)), table(3)), tables(onceOf(1, lists("4")...)), onceOf(1, lists("4")...), 1},
	})
}

// Two atoms have more places of one and the same variable than a join has pairs.
func TestByATreeWithManyPlaces(t *testing.T) {
	a, b := onceOf(3, lists("111", "112", "222", "333")...), onceOf(3, lists("122", "222", "333", "444")...)
	same := onceOf(3, lists("222", "333")...)
	half := onceOf(3, lists("111", "112", "222", "333")...)
	checkTrees(t, []treeCase{
		{query("0", "a000", "b000"), tables(a, b), tables(same, same), onceOf(1, lists("2", "3")...), 4},
		{query("01", "a001", "b000"), tables(a, b), tables(same, same), pairsOnce("22", "33"), 4},
		{query("01", "a001", "a001"), tables(a), tables(half, half), pairsOnce("11", "12", "22", "33"), 0},
		{query("01", "a001", "b011"), tables(a, b), tables(onceOf(3, lists("112", "222", "333")...), onceOf(3, lists("122", "222", "333")...)), pairsOnce("12", "22", "33"), 2},
		{query("0", "a000", "a000", "b000", "b000", "a000"), tables(a, b), tables(same, same, same, same, same), onceOf(1, lists("2", "3")...), 10},
	})
}

// thrownTree is a question whose atoms are a tree, and tables for it.
func (d *dice) thrownTree() (impl.Query, []impl.Table) {
	asked := d.asked()
	vars := 1 + d.below(impl.MaxVars)
	q := d.treeQuery(asked, impl.MaxAtoms, vars, d.below(impl.MaxColumns+1))
	numbers := 1 + d.below(3)
	if vars < 5 {
		numbers = 1 + d.below(5)
	}
	return q, d.filled(asked, d.oneOf(3, 8, 40, 120), d.oneOf(-2, 0, 5, impl.MaxCell-4), numbers)
}

// wideTree has tables of which there are many ways by some atoms, and few by all of them.
func (d *dice) wideTree() (impl.Query, []impl.Table) {
	few := onceOf(1, []int{d.below(7)}, []int{7 + d.below(2)})
	for {
		q := d.treeQuery(columnsOf(1, 2), impl.MaxAtoms, 4, d.below(3))
		if len(q.Atoms) > 3 && len(varsByHand(q.Atoms)) > 3 {
			return q, tables(few, crossOfCounted(7, 7))
		}
	}
}

func checkReduced(t *testing.T, q impl.Query, l []impl.Table) []impl.Table {
	t.Helper()
	want := reduceByHand(q, l)
	own, ok := impl.ReduceAll(q, l)
	if !ok || !slices.EqualFunc(own, want, sameTables) {
		t.Fatalf("ReduceAll(%v, %v) = %v, %v, not %v", q, l, own, ok, want)
	}
	if slices.ContainsFunc(own, func(one impl.Table) bool { return !impl.GoodTable(one) }) {
		t.Fatalf("ReduceAll(%v, %v) = %v: not all are good", q, l, own)
	}
	return own
}

func checkByTree(t *testing.T, q impl.Query, l []impl.Table) (impl.Table, int, bool) {
	t.Helper()
	want, left, by := byTreeByHand(q, l)
	got, gone, ok := impl.EvalByTree(q, l)
	if ok != by || gone != left || !sameTables(got, want) {
		t.Fatalf("EvalByTree(%v, %v) = %v, %v, %v, not %v, %v, %v", q, l, got, gone, ok, want, left, by)
	}
	return got, gone, ok
}

func TestByATreeByHand(t *testing.T) {
	thrown := dice{1105}
	told, empty, partly, many := 0, 0, 0, 0
	for range 2500 {
		q, l := thrown.thrownTree()
		own := checkReduced(t, q, l)
		got, gone, _ := checkByTree(t, q, l)
		if len(got.Rows) > 0 {
			told++
		} else {
			empty++
		}
		if len(own[0].Rows) > 0 && gone > 0 {
			partly++
		}
		if len(q.Atoms) == impl.MaxAtoms && len(got.Rows) > 0 {
			many++
		}
	}
	if told < 1000 || empty < 300 || partly < 500 || many < 100 {
		t.Errorf("%d told rows, %d none, %d left some out, %d had five atoms", told, empty, partly, many)
	}
}

// reducedByWords follows the document word by word, with chapter 3's functions and SemiJoin, and has nothing to tell where there are more pairs than these take.
func reducedByWords(q impl.Query, taken []impl.Ear, l []impl.Table) []impl.Table {
	var own []impl.Table
	for _, one := range q.Atoms {
		var tests []impl.Test
		for place, n := range one.Vars {
			tests = append(tests, same(place, slices.Index(one.Vars, n)))
		}
		above, _ := impl.DistinctTable(l[one.Table])
		fitting, _ := impl.SelectRows(above, tests)
		own = append(own, fitting)
	}
	by := func(to, from int) bool {
		var pairs [][]int
		for place, n := range q.Atoms[to].Vars {
			for other, m := range q.Atoms[from].Vars {
				if n == m {
					pairs = append(pairs, []int{place, other})
				}
			}
		}
		next, ok := impl.SemiJoin(own[to], own[from], pairs)
		own[to] = next
		return ok
	}
	last := len(taken) - 1
	for place := range last {
		if !by(taken[place].Up, taken[place].Atom) {
			return nil
		}
	}
	for place := last - 1; place >= 0; place-- {
		if !by(taken[place].Atom, taken[place].Up) {
			return nil
		}
	}
	return own
}

func TestReduceAllWordByWord(t *testing.T) {
	thrown := dice{1106}
	many := 0
	for range 1500 {
		q, l := thrown.thrownTree()
		taken, _ := earsByHand(q.Atoms)
		want := reducedByWords(q, taken, l)
		if want == nil {
			many++
			continue
		}
		if own, ok := impl.ReduceAll(q, l); !ok || !slices.EqualFunc(own, want, sameTables) {
			t.Fatalf("ReduceAll(%v, %v) = %v, %v, not %v", q, l, own, ok, want)
		}
	}
	if many > 300 {
		t.Errorf("%d had too many pairs", many)
	}
}

// Promise 11: by a tree the same is told, where EvalQuery tells it; and where it has no room on the way, as many ways as there are in the end are few enough.
func TestByATreeTheSameIsTold(t *testing.T) {
	thrown := dice{1107}
	rows, gone, further := 0, 0, 0
	for n := range 4000 {
		q, l := thrown.thrownTree()
		if n%8 == 0 {
			q, l = thrown.wideTree()
		}
		want, told := impl.EvalQuery(q, l)
		got, out, ok := impl.EvalByTree(q, l)
		if told && (!ok || !sameTables(got, want)) {
			t.Fatalf("EvalByTree(%v, %v) = %v, %v, EvalQuery tells %v", q, l, got, ok, want)
		}
		if few := len(waysByHand(q.Atoms, l)) <= 400 && len(rowsByHand(q, l)) <= impl.MaxRows; ok != few {
			t.Fatalf("EvalByTree(%v, %v) tells %v", q, l, ok)
		}
		if ok && !told {
			further++
		}
		rows, gone = rows+len(got.Rows), gone+out
	}
	if rows < 5000 || gone < 5000 || further < 50 {
		t.Errorf("%d rows, %d left out, %d where EvalQuery is refused", rows, gone, further)
	}
}

// allOf asks for all variables of a question: its rows are its ways.
func allOf(atoms []impl.Atom) impl.Query {
	return impl.Query{Head: varsByHand(atoms), Atoms: atoms}
}

func cellsAt(head, cells, variables []int) []int {
	var out []int
	for _, n := range variables {
		out = append(out, cells[slices.Index(head, n)])
	}
	return out
}

// Promise 11: no way leads nowhere: each row that is left is part of some way that EvalQuery has, and all such parts are left.
func TestWhatIsLeftIsPartOfSomeWay(t *testing.T) {
	thrown := dice{1108}
	rows := 0
	for range 2500 {
		q, l := thrown.thrownTree()
		whole := allOf(q.Atoms)
		ways, ok := impl.EvalQuery(whole, l)
		if !ok {
			continue
		}
		own, ok := impl.ReduceAll(q, l)
		if !ok || len(own) != len(q.Atoms) {
			t.Fatalf("ReduceAll(%v, %v) = %v, %v", q, l, own, ok)
		}
		for n, one := range q.Atoms {
			parts := map[rowAt]bool{}
			for _, w := range ways.Rows {
				parts[rowAtOf(0, cellsAt(whole.Head, w.Row.Cells, one.Vars))] = true
			}
			if left := rowsIn(own[n], len(one.Vars)); len(left) != len(own[n].Rows) || fmt.Sprint(left) != fmt.Sprint(parts) {
				t.Fatalf("ReduceAll(%v, %v) = %v: of atom %d the ways have %v", q, l, own, n, parts)
			}
			rows += len(own[n].Rows)
		}
	}
	if rows < 8000 {
		t.Errorf("only %d rows", rows)
	}
}

func columnsIn(l []impl.Table) []int {
	var out []int
	for _, one := range l {
		out = append(out, one.Columns)
	}
	return out
}

// onlyOf has of a way what it gives these variables.
func onlyOf(g given, variables []int) given {
	var out given
	for _, n := range variables {
		out[n] = g[n]
	}
	return out
}

// Promise 11: atom by atom in the order of the ears from the last one back, each way so far goes on.
func TestEachWayGoesOn(t *testing.T) {
	thrown := dice{1109}
	steps := 0
	for range 1500 {
		q, l := thrown.thrownTree()
		taken, all, _ := impl.EarsOf(q, columnsIn(l))
		own, ok := impl.ReduceAll(q, l)
		if !all || !ok {
			t.Fatalf("%v, %v is refused", q, l)
		}
		atoms := backAlong(q, taken).Atoms
		ways := waysByHand(atoms[:1], own)
		for so := 1; so < len(atoms); so++ {
			next := waysByHand(atoms[:so+1], own)
			gone := map[given]bool{}
			for _, g := range next {
				gone[onlyOf(g, varsByHand(atoms[:so]))] = true
			}
			if len(gone) != len(ways) {
				t.Fatalf("of %v and %v: %d ways by %v, of which %d go on", q, own, len(ways), atoms[:so], len(gone))
			}
			ways, steps = next, steps+len(gone)
		}
	}
	if steps < 5000 {
		t.Errorf("only %d steps", steps)
	}
}

// What was reduced is left as it is, and tells the same rows.
func TestReduceAllOfWhatWasReduced(t *testing.T) {
	thrown := dice{1110}
	rows := 0
	for range 1000 {
		q, l := thrown.thrownTree()
		if len(q.Atoms) > maxAskedTables {
			continue
		}
		own, _ := impl.ReduceAll(q, l)
		again := copyOfQuery(q)
		for n := range again.Atoms {
			again.Atoms[n].Table = n
		}
		if got, ok := impl.ReduceAll(again, own); !ok || !slices.EqualFunc(got, own, sameTables) {
			t.Fatalf("ReduceAll(%v, %v) = %v, %v", again, own, got, ok)
		}
		want, _, told := impl.EvalByTree(q, l)
		if got, gone, ok := impl.EvalByTree(again, own); ok != told || gone != 0 || !sameTables(got, want) {
			t.Fatalf("EvalByTree(%v, %v) = %v, %v, %v, not %v, %v", again, own, got, gone, ok, want, told)
		}
		rows += len(want.Rows)
	}
	if rows < 1500 {
		t.Errorf("only %d rows", rows)
	}
}

// Of tables that have nearly all rows there are too many ways or rows now and then.
func TestByATreeByHandNearItsLimits(t *testing.T) {
	thrown := dice{1111}
	seen, much := map[bool]int{}, 0
	for range 1500 {
		q := thrown.treeQuery(columnsOf(1, 2), impl.MaxAtoms, impl.MaxVars, 1+thrown.below(4))
		if len(varsByHand(q.Atoms)) < 4 {
			continue
		}
		got, _, ok := checkByTree(t, q, thrown.nearlyAll())
		seen[ok]++
		if len(got.Rows) > 30 {
			much++
		}
	}
	if seen[true] < 150 || seen[false] < 40 || much < 15 {
		t.Error(seen, much)
	}
}

type treeWays struct {
	q       impl.Query
	l       []impl.Table
	told    bool
	byQuery bool
}

// checkTreeWays fails unless EvalByTree tells what is told by hand, or refuses where it has to, and EvalQuery tells or refuses as said.
func checkTreeWays(t *testing.T, cases []treeWays) {
	t.Helper()
	for i, c := range cases {
		want, left, by := byTreeByHand(c.q, c.l)
		if by != c.told {
			t.Errorf("%d: by hand EvalByTree(%v) tells %v", i, c.q, by)
		}
		if got, gone, ok := impl.EvalByTree(c.q, c.l); ok != c.told || gone != left || !sameTables(got, want) {
			t.Errorf("%d: EvalByTree(%v) = %v, %v, %v, not %v, %v, %v", i, c.q, got, gone, ok, want, left, c.told)
		}
		if _, ok := impl.EvalQuery(c.q, c.l); ok != c.byQuery {
			t.Errorf("%d: EvalQuery(%v) tells %v", i, c.q, ok)
		}
		if own, ok := impl.ReduceAll(c.q, c.l); !ok || !slices.EqualFunc(own, reduceByHand(c.q, c.l), sameTables) {
			t.Errorf("%d: ReduceAll(%v) = %v, %v, however many ways there are", i, c.q, own, ok)
		}
	}
}

func TestByATreeAt400WaysAnd401(t *testing.T) {
	// Of both 20 times 20 ways; one row more in both is one way more.
	full, over := pairsBy(20, 0), pairsBy(20, 1)
	none, one := table(1), onceOf(1, []int{7})
	first := onceOf(1, []int{0})
	below := impl.Table{Columns: 2, Rows: append(slices.Clone(full.Rows), weighted(-1, 1, 0))}
	checkTreeWays(t, []treeWays{
		{query("0", "a01", "b02"), tables(full, full), true, true},
		{query("0", "a01", "b02"), tables(over, over), false, false},
		{query("", "a01", "b02"), tables(full, full), true, true},
		{query("", "a01", "b02"), tables(over, over), false, false},
		{query("0", "a01", "b02"), tables(over, full), true, true},
		{query("0", "a01", "b02"), tables(below, over), true, true},
		{query("0", "a01", "a02"), tables(full), true, true},
		{query("0", "a01", "a02"), tables(over), false, false},
		// An atom again is no further way.
		{query("0", "a01", "a02", "a01", "a02", "a01"), tables(full), true, true},
		{query("0", "a01", "a02", "a01", "a02", "a01"), tables(over), false, false},
		{query("0", "a01", "a01", "a01", "a01", "a01"), tables(over), true, true},
		// What leads nowhere is left out ahead of the ways, wherever it stands.
		{query("0", "a01", "b02", "c1"), tables(over, over, none), true, false},
		{query("0", "a01", "b02", "c1"), tables(over, over, one), true, false},
		{query("0", "c1", "a01", "b02"), tables(over, over, none), true, true},
		{query("0", "a01", "b02", "c0"), tables(over, over, first), true, false},
		{query("0", "c0", "a01", "b02"), tables(over, over, first), true, true},
		{query("0", "a01", "b02", "c0", "c0", "c0"), tables(over, over, first), true, false},
		{query("0", "a01", "b02", "c0", "b03", "c3"), tables(over, over, first), true, false},
		// What leaves all of them in does not help.
		{query("0", "a01", "b02", "c0"), tables(over, over, counted(2)), false, false},
		{query("0", "c0", "a01", "b02"), tables(over, over, counted(2)), false, false},
		// The last atom makes them too many, or one in the middle.
		{query("", "c3", "c3", "c3", "a01", "b02"), tables(full, full, one), true, true},
		{query("", "c3", "c3", "c3", "a01", "b02"), tables(over, over, one), false, false},
		{query("", "a01", "b02", "c3", "c3", "c3"), tables(full, full, one), true, true},
		{query("", "a01", "b02", "c3", "c3", "c3"), tables(over, over, one), false, false},
	})
}

func TestByATreeAtManyWays(t *testing.T) {
	checkTreeWays(t, []treeWays{
		{query("0", "a0"), tables(counted(impl.MaxRows)), true, true},
		{query("", "a0", "a1"), tables(counted(impl.MaxRows)), false, false},
		{query("", "a0", "a1"), tables(counted(20)), true, true},
		{query("", "a0", "a1"), tables(counted(21)), false, false},
		{query("", "a0", "a1", "b0"), tables(counted(21), table(1)), true, false},
		{query("", "a0", "a1", "b0"), tables(counted(21), counted(19)), true, false},
		{query("", "a0", "a1", "b0"), tables(counted(21), counted(20)), false, false},
		{query("", "a0", "a1", "a2"), tables(counted(7)), true, true},
		{query("", "a0", "a1", "a2"), tables(counted(8)), false, false},
		{query("", "a0", "a1", "a2", "a3"), tables(counted(4)), true, true},
		{query("", "a0", "a1", "a2", "a3"), tables(counted(5)), false, false},
		{query("", "a0", "a1", "a2", "a3", "a4"), tables(counted(3)), true, true},
		{query("", "a0", "a1", "a2", "a3", "a4"), tables(counted(4)), false, false},
		{query("", "a01", "a12"), tables(crossOfCounted(7, 8)), true, true},
		{query("", "a01", "a23"), tables(crossOfCounted(4, 5)), true, true},
		{query("", "a01", "a23"), tables(crossOfCounted(3, 7)), false, false},
		{query("", "a01", "a23", "b0", "b2"), tables(crossOfCounted(3, 7), counted(2)), true, false},
	})
}

func TestByATreeAt60RowsAnd61(t *testing.T) {
	checkTreeWays(t, []treeWays{
		{query("0", "a0"), tables(counted(60)), true, true},
		{query("012", "a01", "b02"), tables(pairsBy(6, 0), pairsBy(10, 0)), true, true},
		{query("012", "a01", "b02"), tables(pairsBy(6, 1), pairsBy(10, 1)), false, false},
		{query("021021", "a01", "b02"), tables(pairsBy(6, 1), pairsBy(10, 1)), false, false},
		// The further way tells a row that is there already.
		{query("12", "a01", "b02"), tables(pairsBy(6, 1), pairsBy(10, 1)), true, true},
		{query("", "a01", "b02"), tables(pairsBy(6, 1), pairsBy(10, 1)), true, true},
		{query("01", "a0", "a1"), tables(counted(7)), true, true},
		{query("01", "a0", "a1"), tables(counted(8)), false, false},
		{query("0", "a0", "a1"), tables(counted(20)), true, true},
	})
}

func checkTreeRefused(t *testing.T, q impl.Query, l []impl.Table) {
	t.Helper()
	if own, ok := impl.ReduceAll(q, l); len(own) > 0 || ok {
		t.Errorf("ReduceAll(%v, %v) = %v, %v", q, l, own, ok)
	}
	if got, gone, ok := impl.EvalByTree(q, l); !isNoTable(got) || gone != 0 || ok {
		t.Errorf("EvalByTree(%v, %v) = %v, %v, %v", q, l, got, gone, ok)
	}
}

func TestByATreeRefusesWhatIsNone(t *testing.T) {
	for _, q := range noTrees() {
		for _, l := range [][]impl.Table{tables(table(2), table(3)), fullTables(columnsOf(2, 3)), tables(crossOfCounted(3, 3), onceOf(3, lists("012", "120")...))} {
			if _, ok := impl.EvalQuery(q, l); !ok {
				t.Errorf("EvalQuery(%v, %v) is refused", q, l)
			}
			checkTreeRefused(t, q, l)
		}
	}
}

func TestByATreeRefuses(t *testing.T) {
	for _, one := range badAsked() {
		checkTreeRefused(t, one.q, one.l)
	}
	for _, one := range goodQueries() {
		if _, ok := impl.ReduceAll(one.q, fullTables(one.tables)); ok != hangAsTree(one.q.Atoms) {
			t.Errorf("ReduceAll(%v) tells %v", one.q, ok)
		}
	}
}

func TestEarsAreRefused(t *testing.T) {
	for _, one := range badQueries() {
		if got, ok := impl.EdgesOf(one.q, one.tables); len(got) > 0 || ok {
			t.Errorf("EdgesOf(%v, %v) = %v, %v", one.q, one.tables, got, ok)
		}
		if got, is, ok := impl.EarsOf(one.q, one.tables); len(got) > 0 || is || ok {
			t.Errorf("EarsOf(%v, %v) = %v, %v, %v", one.q, one.tables, got, is, ok)
		}
		for _, l := range [][]impl.Ear{nil, ears("0-"), ears("01", "1-"), ears("01", "12", "2-"), ears("01", "12", "23", "34", "4-"), ears("01", "12", "23", "34", "45", "5-"), ears("9-")} {
			if is, ok := impl.IsTree(one.q, l, one.tables); is || ok {
				t.Errorf("IsTree(%v, %v, %v) = %v, %v", one.q, l, one.tables, is, ok)
			}
		}
	}
}

func earsAnswers(q impl.Query, tables []int) []any {
	l, all, ok := impl.EarsOf(q, tables)
	return []any{l, all, ok}
}

func byTreeAnswers(q impl.Query, l []impl.Table) []any {
	told, gone, ok := impl.EvalByTree(q, l)
	return []any{told, gone, ok}
}

func anyEars() [][]impl.Ear {
	return [][]impl.Ear{
		nil, {}, ears("0-"), ears("01", "1-"), ears("10", "0-"), ears("01", "12", "2-"), ears("01", "12", "23", "3-"), ears("01", "12", "23", "34", "4-"),
		{{Atom: -1, Up: -1}}, {{Atom: math.MinInt, Up: math.MaxInt}, {Atom: 0, Up: -1}}, {{Atom: 0, Up: math.MaxInt}, {Atom: 1, Up: math.MinInt}}, make([]impl.Ear, 100),
	}
}

// anyTreeQueries has questions whose atoms are a tree, or not, and such as are none.
func anyTreeQueries() []askedQuery {
	out := anyQueries()
	for _, q := range noTrees() {
		out = append(out, askedQuery{q, columnsOf(2, 3)})
	}
	return out
}

// Promise 19: each function of chapter 11 answers at any arguments, the same each time, in new memory, and writes into none.
func TestTreesAnswerAndWriteNothing(t *testing.T) {
	thrown := dice{1112}
	for _, one := range anyTreeQueries() {
		q, asked := withGuards(one.q), withGuards(one.tables)
		checkCall(t, "EdgesOf", func() []any { return answers(impl.EdgesOf(q, asked)) }, q, asked)
		checkCall(t, "EarsOf", func() []any { return earsAnswers(q, asked) }, q, asked)
		for _, l := range anyEars() {
			l := withGuards(l)
			checkCall(t, "IsTree", func() []any { return answers(impl.IsTree(q, l, asked)) }, q, l, asked)
		}
		for _, l := range thrown.anyTablesFor(one.tables) {
			l := withGuards(l)
			checkCall(t, "ReduceAll", func() []any { return answers(impl.ReduceAll(q, l)) }, q, l)
			checkCall(t, "EvalByTree", func() []any { return byTreeAnswers(q, l) }, q, l)
		}
	}
}

func TestSemiJoinAnswersAndWritesNothing(t *testing.T) {
	var some []impl.Table
	for _, one := range append(algebraTables()[:50], badTables()...) {
		some = append(some, withGuards(one))
	}
	for i, a := range some {
		for _, b := range []impl.Table{a, some[i*7%len(some)], some[len(some)-1-i]} {
			for _, pairs := range deltaPairs() {
				pairs := withGuards(pairs)
				checkCall(t, "SemiJoin", func() []any { return answers(impl.SemiJoin(a, b, pairs)) }, a, b, pairs)
			}
		}
	}
}

// A question whose lists share their memory, and a table twice, are handed in; what is told shares none, and is as if they had been apart.
func TestTreesThatShareTheirLists(t *testing.T) {
	vars := []int{1, 0, 1, 2, 2}
	q := impl.Query{Head: vars[:3], Atoms: []impl.Atom{{Vars: vars[:2]}, {Table: 1, Vars: vars[1:3]}, {Vars: vars[:2]}, {Table: 1, Vars: vars[2:4]}, {Vars: vars[3:]}}}
	apart, asked := copyOfQuery(q), columnsOf(2, 2)
	both := pairsOnce("11", "12", "21", "22", "31")
	l, other := tables(both, both), tables(both, pairsOnce("11", "12", "21", "22", "31"))
	checkCall(t, "EdgesOf", func() []any { return answers(impl.EdgesOf(q, asked)) }, q, asked)
	checkCall(t, "EarsOf", func() []any { return earsAnswers(q, asked) }, q, asked)
	checkCall(t, "ReduceAll", func() []any { return answers(impl.ReduceAll(q, l)) }, q, l)
	checkCall(t, "EvalByTree", func() []any { return byTreeAnswers(q, l) }, q, l)
	checkCall(t, "SemiJoin", func() []any { return answers(impl.SemiJoin(both, both, lists("00"))) }, both)
	if got, want := treeAnswers(q, asked, nil, l), treeAnswers(apart, asked, nil, other); got != want {
		t.Errorf("%v: %s, apart %s", q, got, want)
	}
}

func treeAnswers(q impl.Query, tables []int, of []impl.Ear, l []impl.Table) string {
	return fmt.Sprint(answers(impl.EdgesOf(q, tables)), earsAnswers(q, tables), answers(impl.IsTree(q, of, tables)), answers(impl.ReduceAll(q, l)), byTreeAnswers(q, l))
}

// What lies behind a list's length does not count.
func TestTreesDoNotReadBehindTheirLists(t *testing.T) {
	thrown := dice{1113}
	for _, one := range anyTreeQueries() {
		for _, l := range thrown.anyTablesFor(one.tables) {
			of := anyEars()[thrown.below(len(anyEars()))]
			plain := treeAnswers(one.q, one.tables, of, l)
			if got := treeAnswers(withGuards(one.q), withGuards(one.tables), withGuards(of), withGuards(l)); got != plain {
				t.Errorf("%v, %v, %v, %v: %s, with guards behind the lists %s", one.q, one.tables, of, l, plain, got)
			}
		}
	}
	for i, a := range algebraTables() {
		b := algebraTables()[i*7%len(algebraTables())]
		for _, pairs := range deltaPairs() {
			plain := fmt.Sprint(impl.SemiJoin(a, b, pairs))
			if got := fmt.Sprint(impl.SemiJoin(withGuards(a), withGuards(b), withGuards(pairs))); got != plain {
				t.Errorf("SemiJoin(%v, %v, %v): %s, with guards behind the lists %s", a, b, pairs, plain, got)
			}
		}
	}
}
