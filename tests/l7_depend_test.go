package tests

import (
	"cmp"
	"fmt"
	"math"
	"reflect"
	"slices"
	"strings"
	"testing"

	"loop.example/g00305/impl"
)

// digits tells the list of a text's digits: "013" is 0, 1, 3.
func digits(s string) []int {
	var out []int
	for _, c := range s {
		out = append(out, int(c-'0'))
	}
	return out
}

// depend tells the dependency of a text: "01>2" is From 0, 1 and To 2.
func depend(s string) impl.Depend {
	from, to, _ := strings.Cut(s, ">")
	return impl.Depend{From: digits(from), To: digits(to)}
}

func depends(texts ...string) []impl.Depend {
	var out []impl.Depend
	for _, s := range texts {
		out = append(out, depend(s))
	}
	return out
}

func lists(texts ...string) [][]int {
	var out [][]int
	for _, s := range texts {
		out = append(out, digits(s))
	}
	return out
}

func sameLists(a, b [][]int) bool {
	return slices.EqualFunc(a, b, slices.Equal)
}

func sameDependLists(a, b []impl.Depend) bool {
	return slices.EqualFunc(a, b, func(x, y impl.Depend) bool {
		return slices.Equal(x.From, y.From) && slices.Equal(x.To, y.To)
	})
}

func timesOver(many int, d impl.Depend) []impl.Depend {
	return slices.Repeat([]impl.Depend{d}, many)
}

// allParts has all rising lists of a list's numbers, by how many they are, then by the first number that is unlike.
func allParts(l []int) [][]int {
	parts := [][]int{nil}
	for _, n := range l {
		for _, part := range slices.Clone(parts) {
			parts = append(parts, append(slices.Clone(part), n))
		}
	}
	slices.SortFunc(parts, func(a, b []int) int {
		return cmp.Or(cmp.Compare(len(a), len(b)), slices.Compare(a, b))
	})
	return parts
}

func hasAll(l, wanted []int) bool {
	return !slices.ContainsFunc(wanted, func(n int) bool { return !slices.Contains(l, n) })
}

func firstColumns(columns int) []int {
	return digits("012345"[:columns])
}

func without(l []int, number int) []int {
	return slices.DeleteFunc(slices.Clone(l), func(n int) bool { return n == number })
}

// closureByHand says again what the closure is: of all lists that have these columns and of which nothing more follows the one with the fewest.
func closureByHand(l []impl.Depend, columns int, from []int) []int {
	for _, part := range allParts(firstColumns(columns)) {
		open := func(d impl.Depend) bool { return hasAll(part, d.From) && !hasAll(part, d.To) }
		if hasAll(part, from) && !slices.ContainsFunc(l, open) {
			return part
		}
	}
	return nil
}

func impliedByHand(l []impl.Depend, columns int, d impl.Depend) bool {
	return hasAll(closureByHand(l, columns, d.From), d.To)
}

// holdsByHand says again what holds: as many picks of From as there are of From and To.
func holdsByHand(t impl.Table, d impl.Depend) bool {
	from, both := map[string]bool{}, map[string]bool{}
	for _, one := range t.Rows {
		ahead, _ := pickByHand(one.Row.Cells, d.From)
		behind, _ := pickByHand(one.Row.Cells, d.To)
		from[fmt.Sprint(ahead)] = true
		both[fmt.Sprint(ahead, behind)] = true
	}
	return len(from) == len(both)
}

func allHoldByHand(t impl.Table, l []impl.Depend) bool {
	return !slices.ContainsFunc(l, func(d impl.Depend) bool { return !holdsByHand(t, d) })
}

func keysByHand(l []impl.Depend, columns int) [][]int {
	tellsAll := func(part []int) bool { return len(closureByHand(l, columns, part)) == columns }
	var keys [][]int
	for _, part := range allParts(firstColumns(columns)) {
		less := func(n int) bool { return tellsAll(without(part, n)) }
		if tellsAll(part) && !slices.ContainsFunc(part, less) {
			keys = append(keys, part)
		}
	}
	return keys
}

func coverByHand(l []impl.Depend, columns int) ([]impl.Depend, bool) {
	var cover []impl.Depend
	for _, d := range l {
		for _, n := range d.To {
			one := impl.Depend{From: d.From, To: []int{n}}
			if !slices.ContainsFunc(cover, func(x impl.Depend) bool { return reflect.DeepEqual(x, one) }) {
				cover = append(cover, one)
			}
		}
	}
	for i := range cover {
		for _, n := range cover[i].From {
			less := impl.Depend{From: without(cover[i].From, n), To: cover[i].To}
			if impliedByHand(cover, columns, less) {
				cover[i] = less
			}
		}
	}
	for at := 0; at < len(cover); {
		others := slices.Delete(slices.Clone(cover), at, at+1)
		if impliedByHand(others, columns, cover[at]) {
			cover = others
			continue
		}
		at++
	}
	if len(cover) > 10 {
		return nil, false
	}
	return cover, true
}

func sameByHand(a, b []impl.Depend, columns int) bool {
	for _, d := range a {
		if !impliedByHand(b, columns, d) {
			return false
		}
	}
	for _, d := range b {
		if !impliedByHand(a, columns, d) {
			return false
		}
	}
	return true
}

func (d *dice) columns(columns int) []int {
	var out []int
	often := 1 + d.below(3)
	for n := range columns {
		if d.below(4) < often {
			out = append(out, n)
		}
	}
	return out
}

func (d *dice) depend(columns int) impl.Depend {
	return impl.Depend{From: d.columns(columns), To: d.columns(columns)}
}

// depends are at most so many good dependencies; some of them alike, some with a From of one column alone, as few follow from long ones.
func (d *dice) depends(columns, most int) []impl.Depend {
	var out []impl.Depend
	for range d.below(most + 1) {
		switch d.below(4) {
		case 0:
			out = append(out, impl.Depend{From: []int{d.below(columns)}, To: d.columns(columns)})
		case 1:
			out = append(out, impl.Depend{From: d.columns(columns), To: []int{d.below(columns)}})
		case 2:
			out = append(out, d.depend(columns))
		default:
			if len(out) > 0 && d.below(3) == 0 {
				out = append(out, out[d.below(len(out))])
				break
			}
			out = append(out, impl.Depend{From: []int{d.below(columns)}, To: []int{d.below(columns)}})
		}
	}
	return out
}

// tableWhere has thrown rows, each only if all dependencies still hold.
func (d *dice) tableWhere(l []impl.Depend, columns int) impl.Table {
	t := table(columns)
	for range 12 {
		var cells []int
		for range columns {
			cells = append(cells, d.below(3))
		}
		next, _ := sumByHand(columns, append(slices.Clone(t.Rows), weighted(d.oneOf(-2, -1, 1, 3), cells...)))
		if len(next.Rows) > len(t.Rows) && allHoldByHand(next, l) {
			t = next
		}
	}
	return t
}

// badLists are no rising lists of numbers of three columns.
func badLists() [][]int {
	return [][]int{
		{3}, {-1}, {0, 3}, {-1, 0}, {0, 0}, {2, 2}, {1, 0}, {2, 1}, {0, 2, 1}, {0, 1, 1}, {0, 1, 2, 2}, {0, 1, 2, 3},
		{math.MinInt}, {math.MaxInt}, {0, math.MaxInt}, {math.MinInt, 0}, {64}, {65}, make([]int, 100),
	}
}

// badDepends are no dependencies of three columns.
func badDepends() []impl.Depend {
	var out []impl.Depend
	for _, l := range badLists() {
		out = append(out,
			impl.Depend{From: l}, impl.Depend{To: l}, impl.Depend{From: l, To: l},
			impl.Depend{From: l, To: digits("012")}, impl.Depend{From: digits("012"), To: l})
	}
	return out
}

// badDependLists are no dependencies of three columns, some of them beside good ones.
func badDependLists() [][]impl.Depend {
	var out [][]impl.Depend
	for _, bad := range badDepends() {
		out = append(out,
			[]impl.Depend{bad},
			append(depends("0>1"), bad),
			append([]impl.Depend{bad}, depends("0>1", ">")...),
			append(timesOver(impl.MaxDepends-1, depend("0>1")), bad))
	}
	return append(out,
		timesOver(impl.MaxDepends+1, depend("0>1")),
		timesOver(impl.MaxDepends+1, depend(">")),
		timesOver(200, depend("0>12")))
}

func badColumns() []int {
	return []int{math.MinInt, -64, -1, 0, impl.MaxColumns + 1, 63, 64, 65, math.MaxInt}
}

func TestDependConstant(t *testing.T) {
	if impl.MaxDepends != 10 {
		t.Error(impl.MaxDepends)
	}
}

func TestGoodDepends(t *testing.T) {
	for _, c := range []struct {
		l       []impl.Depend
		columns int
	}{
		{nil, 1},
		{nil, impl.MaxColumns},
		{depends(), 3},
		{depends(">"), 1},
		{depends("0>"), 1},
		{depends(">0"), 1},
		{depends("0>0"), 1},
		{depends("0>1", "1>2", "0>2"), 3},
		{depends("0>1", "0>1"), 3},
		{depends("02>1", "12>0"), 3},
		{depends("012345>012345"), impl.MaxColumns},
		{depends("5>0"), 6},
		{timesOver(impl.MaxDepends, depend("012345>012345")), 6},
		{timesOver(impl.MaxDepends, depend(">")), 1},
		{[]impl.Depend{{From: []int{}, To: []int{}}}, 1},
	} {
		if !impl.GoodDepends(c.l, c.columns) {
			t.Errorf("GoodDepends(%v, %d) is false", c.l, c.columns)
		}
	}
	for _, bad := range badDependLists() {
		if impl.GoodDepends(bad, 3) {
			t.Errorf("GoodDepends(%v, 3) is true", bad)
		}
	}
	for _, columns := range badColumns() {
		for _, l := range [][]impl.Depend{nil, depends("0>"), depends(">")} {
			if impl.GoodDepends(l, columns) {
				t.Errorf("GoodDepends(%v, %d) is true", l, columns)
			}
		}
	}
}

func TestGoodDependsAtEachNumberOfColumns(t *testing.T) {
	for columns := 1; columns <= impl.MaxColumns; columns++ {
		for _, l := range listsUpTo(3, []int{-1, 0, 1, 2, 4, 5, 6}) {
			good := slices.Equal(slices.Compact(slices.Sorted(slices.Values(l))), l)
			for _, n := range l {
				good = good && n >= 0 && n < columns
			}
			if got := impl.GoodDepends([]impl.Depend{{From: l}}, columns); got != good {
				t.Fatalf("From %v of %d columns: %v", l, columns, got)
			}
			if got := impl.GoodDepends([]impl.Depend{{To: l}}, columns); got != good {
				t.Fatalf("To %v of %d columns: %v", l, columns, got)
			}
			if _, ok := impl.ClosureOf(nil, columns, l); ok != good {
				t.Fatalf("ClosureOf %v of %d columns: %v", l, columns, ok)
			}
		}
	}
}

func TestClosureOfAsTold(t *testing.T) {
	chain := depends("4>5", "3>4", "2>3", "1>2", "0>1")
	for _, c := range []struct {
		l          []impl.Depend
		columns    int
		from, want string
	}{
		{nil, 1, "", ""},
		{nil, 1, "0", "0"},
		{nil, 6, "", ""},
		{nil, 6, "135", "135"},
		{nil, 6, "012345", "012345"},
		{depends("0>1", "1>2", "0>2"), 4, "03", "0123"},
		{depends("0>1", "1>2", "0>2"), 4, "", ""},
		{depends("0>1", "1>2", "0>2"), 4, "1", "12"},
		{depends("0>1", "1>2", "0>2"), 4, "0123", "0123"},
		{depends("1>2", "0>1"), 3, "0", "012"},
		{chain, 6, "0", "012345"},
		{chain, 6, "3", "345"},
		{chain, 6, "25", "2345"},
		{depends(">0"), 2, "", "0"},
		{depends(">0", "0>1"), 2, "", "01"},
		{depends(">01"), 2, "1", "01"},
		{depends("0>"), 2, "0", "0"},
		{depends(">"), 2, "", ""},
		{depends("01>0"), 2, "1", "1"},
		{depends("01>2"), 3, "0", "0"},
		{depends("01>2"), 3, "1", "1"},
		{depends("01>2"), 3, "01", "012"},
		{depends("0>1", "0>1"), 3, "0", "01"},
		{depends("012>3"), 4, "012", "0123"},
		{depends("5>0", "05>3"), 6, "5", "035"},
		{depends("0>12", "2>0"), 3, "2", "012"},
		{timesOver(impl.MaxDepends, depend("0>5")), 6, "0", "05"},
	} {
		if got, ok := impl.ClosureOf(c.l, c.columns, digits(c.from)); !ok || !slices.Equal(got, digits(c.want)) {
			t.Errorf("ClosureOf(%v, %d, %v) = %v, %v, not %v", c.l, c.columns, c.from, got, ok, c.want)
		}
	}
}

func checkClosureRefused(t *testing.T, l []impl.Depend, columns int, from []int) {
	t.Helper()
	if got, ok := impl.ClosureOf(l, columns, from); len(got) != 0 || ok {
		t.Errorf("ClosureOf(%v, %d, %v) = %v, %v", l, columns, from, got, ok)
	}
}

func TestClosureOfRefuses(t *testing.T) {
	for _, bad := range badLists() {
		checkClosureRefused(t, nil, 3, bad)
		checkClosureRefused(t, depends("0>1"), 3, bad)
	}
	for _, bad := range badDependLists() {
		checkClosureRefused(t, bad, 3, nil)
		checkClosureRefused(t, bad, 3, digits("012"))
	}
	for _, columns := range badColumns() {
		checkClosureRefused(t, nil, columns, nil)
		checkClosureRefused(t, depends("0>1"), columns, digits("0"))
	}
}

func TestClosureOfByHand(t *testing.T) {
	thrown := dice{70}
	grown := 0
	for range 1500 {
		columns := 1 + thrown.below(impl.MaxColumns)
		l := thrown.depends(columns, impl.MaxDepends)
		for _, from := range [][]int{nil, thrown.columns(columns), firstColumns(columns)} {
			want := closureByHand(l, columns, from)
			got, ok := impl.ClosureOf(l, columns, from)
			if !ok || !slices.Equal(got, want) {
				t.Fatalf("ClosureOf(%v, %d, %v) = %v, %v, not %v", l, columns, from, got, ok, want)
			}
			if len(got) > len(from) {
				grown++
			}
		}
	}
	if grown < 1000 {
		t.Errorf("only %d closures had more than was asked for", grown)
	}
}

// What ClosureOf told is the same once more, has what was asked for, and has what it tells of less.
func TestAClosureIsItsOwnClosure(t *testing.T) {
	thrown := dice{71}
	for range 300 {
		columns := 1 + thrown.below(impl.MaxColumns)
		l := thrown.depends(columns, impl.MaxDepends)
		for _, from := range allParts(firstColumns(columns)) {
			once, ok := impl.ClosureOf(l, columns, from)
			twice, again := impl.ClosureOf(l, columns, once)
			if !ok || !again || !slices.Equal(once, twice) || !hasAll(once, from) {
				t.Fatalf("ClosureOf(%v, %d, %v) = %v, %v, once more %v, %v", l, columns, from, once, ok, twice, again)
			}
			for _, n := range from {
				less, ok := impl.ClosureOf(l, columns, without(from, n))
				if !ok || !hasAll(once, less) {
					t.Fatalf("ClosureOf(%v, %d, %v) = %v, without %d %v", l, columns, from, once, n, less)
				}
			}
		}
	}
}

func TestImpliesAsTold(t *testing.T) {
	for _, c := range []struct {
		l       []impl.Depend
		columns int
		d       string
		want    bool
	}{
		{nil, 1, ">", true},
		{nil, 1, "0>", true},
		{nil, 1, "0>0", true},
		{nil, 1, ">0", false},
		{nil, 6, "012345>012345", true},
		{nil, 6, "01234>5", false},
		{nil, 3, "012>1", true},
		{depends("0>1", "1>2"), 3, "0>2", true},
		{depends("0>1", "1>2"), 3, "0>12", true},
		{depends("0>1", "1>2"), 3, "0>012", true},
		{depends("0>1", "1>2"), 3, "2>0", false},
		{depends("0>1", "1>2"), 3, "1>02", false},
		{depends("0>1", "1>2"), 3, ">0", false},
		{depends("0>1"), 3, "02>12", true},
		{depends("01>2"), 3, "0>2", false},
		{depends(">2"), 3, "0>2", true},
		{depends(">012"), 3, ">", true},
		{depends(">012"), 3, ">012", true},
		{depends("0>12", "0>12"), 3, "0>2", true},
		{depends("01>0", ">"), 3, "1>0", false},
	} {
		if got, ok := impl.Implies(c.l, c.columns, depend(c.d)); !ok || got != c.want {
			t.Errorf("Implies(%v, %d, %s) = %v, %v", c.l, c.columns, c.d, got, ok)
		}
	}
}

func TestImpliesByHand(t *testing.T) {
	thrown := dice{72}
	seen := map[bool]int{}
	for range 2500 {
		columns := 1 + thrown.below(impl.MaxColumns)
		l, d := thrown.depends(columns, impl.MaxDepends), thrown.depend(columns)
		want := impliedByHand(l, columns, d)
		if got, ok := impl.Implies(l, columns, d); !ok || got != want {
			t.Fatalf("Implies(%v, %d, %v) = %v, %v", l, columns, d, got, ok)
		}
		seen[want]++
	}
	if seen[true] < 300 || seen[false] < 300 {
		t.Error(seen)
	}
}

func TestHoldsInAsTold(t *testing.T) {
	many := table(2)
	for n := range impl.MaxRows {
		many.Rows = append(many.Rows, weighted(1, n, n/2))
	}
	for _, c := range []struct {
		t    impl.Table
		d    string
		want bool
	}{
		{table(1), ">0", true},
		{table(6), ">012345", true},
		{table(6, weighted(1, 1, 2, 3, 4, 5, 6)), ">012345", true},
		{table(6, weighted(-1, 1, 2, 3, 4, 5, 6)), "012345>", true},
		{ones(weighted(1, 1), weighted(1, 2)), ">0", false},
		{ones(weighted(1, 1), weighted(-1, 2)), ">0", false},
		{ones(weighted(-3, 1), weighted(-1, 2)), ">0", false},
		{ones(weighted(1, 1), weighted(1, 2)), ">", true},
		{ones(weighted(1, 1), weighted(1, 2)), "0>", true},
		{ones(weighted(1, 1), weighted(1, 2)), "0>0", true},
		{table(2, weighted(1, 1, 5), weighted(1, 1, 6)), "0>1", false},
		{table(2, weighted(2, 1, 5), weighted(-1, 1, 6)), "0>1", false},
		{table(2, weighted(1, 1, 5), weighted(1, 1, 6)), "1>0", true},
		{table(2, weighted(1, 1, 5), weighted(1, 1, 6)), ">0", true},
		{table(2, weighted(1, 1, 5), weighted(1, 1, 6)), ">1", false},
		{table(2, weighted(1, 1, 5), weighted(1, 1, 6)), "01>01", true},
		{table(2, weighted(1, 1, 5), weighted(1, 2, 5)), "0>1", true},
		{table(3, weighted(1, 1, 1, 1), weighted(1, 1, 2, 2), weighted(1, 2, 1, 3)), "01>2", true},
		{table(3, weighted(1, 1, 1, 1), weighted(1, 1, 2, 2), weighted(1, 2, 1, 3)), "0>2", false},
		{table(3, weighted(1, 1, 1, 1), weighted(1, 1, 2, 2), weighted(1, 2, 1, 3)), "1>2", false},
		{table(3, weighted(1, 1, 1, 1), weighted(1, 1, 2, 2), weighted(1, 2, 1, 3)), "2>01", true},
		{table(3, weighted(1, 1, 1, 1), weighted(1, 2, 1, 2), weighted(1, 3, 2, 1)), "2>1", false},
		{table(3, weighted(1, 1, 1, 1), weighted(1, 1, 1, 2)), "0>12", false},
		{table(3, weighted(1, 1, 1, 1), weighted(1, 1, 2, 1)), "0>12", false},
		{many, "0>1", true},
		{many, "1>0", false},
	} {
		if got, ok := impl.HoldsIn(c.t, depend(c.d)); !ok || got != c.want {
			t.Errorf("HoldsIn(%v, %s) = %v, %v", c.t, c.d, got, ok)
		}
	}
}

// Of MaxRows rows two may be at odds wherever they stand.
func TestHoldsInAtAnyTwoRows(t *testing.T) {
	for i := range impl.MaxRows {
		for _, j := range []int{i + 1, i + 2, impl.MaxRows - 1} {
			if j <= i || j >= impl.MaxRows {
				continue
			}
			one := table(2)
			for n := range impl.MaxRows {
				told := n
				if n == j {
					told = i
				}
				one.Rows = append(one.Rows, weighted(1, n, told))
			}
			if holds, ok := impl.HoldsIn(one, depend("1>0")); holds || !ok {
				t.Fatalf("rows %d and %d: %v, %v", i, j, holds, ok)
			}
			if holds, ok := impl.HoldsIn(one, depend("0>1")); !holds || !ok {
				t.Fatalf("rows %d and %d: %v, %v", i, j, holds, ok)
			}
		}
	}
}

func checkHoldsInRefused(t *testing.T, one impl.Table, d impl.Depend) {
	t.Helper()
	if got, ok := impl.HoldsIn(one, d); got || ok {
		t.Errorf("HoldsIn(%v, %v) = %v, %v", one, d, got, ok)
	}
}

func TestHoldsInRefuses(t *testing.T) {
	for _, bad := range badTables() {
		checkHoldsInRefused(t, bad, depend(">"))
		checkHoldsInRefused(t, bad, depend("0>0"))
		checkHoldsInRefused(t, bad, depend("0>1"))
	}
	three := table(3, weighted(1, 1, 2, 3), weighted(1, 4, 5, 6))
	for _, bad := range badDepends() {
		checkHoldsInRefused(t, three, bad)
		checkHoldsInRefused(t, table(3), bad)
	}
	for columns := range impl.MaxColumns {
		one := impl.Depend{From: []int{columns}}
		checkHoldsInRefused(t, table(columns), one)
		checkHoldsInRefused(t, table(columns), impl.Depend{To: []int{columns}})
		if holds, ok := impl.HoldsIn(table(columns+1), one); !holds || !ok {
			t.Errorf("a table of %d columns: %v, %v", columns+1, holds, ok)
		}
	}
	// A dependency is one of 1..MaxColumns columns.
	checkHoldsInRefused(t, table(0), depend(">"))
	checkHoldsInRefused(t, table(0, weighted(1)), depend(">"))
}

func TestHoldsInByHand(t *testing.T) {
	seen := map[bool]int{}
	for _, one := range slices.Concat(squareTables(-1, 0, 2), goodTables()) {
		if one.Columns == 0 {
			continue
		}
		parts := allParts(firstColumns(min(one.Columns, 3)))
		for _, from := range parts {
			for _, to := range parts {
				d := impl.Depend{From: from, To: to}
				want := holdsByHand(one, d)
				if got, ok := impl.HoldsIn(one, d); !ok || got != want {
					t.Fatalf("HoldsIn(%v, %v) = %v, %v", one, d, got, ok)
				}
				seen[want]++
			}
		}
	}
	if seen[true] < 300 || seen[false] < 300 {
		t.Error(seen)
	}
}

// HoldsIn hangs on rows alone, not on how often they are there.
func TestHoldsInWhateverTheWeights(t *testing.T) {
	thrown := dice{73}
	for range 300 {
		columns := 1 + thrown.below(impl.MaxColumns)
		one, d := thrown.tableWhere(nil, columns), thrown.depend(columns)
		holds, ok := impl.HoldsIn(one, d)
		for _, by := range []int{-1, 5, -300} {
			scaled, good := impl.ScaleTable(one, by)
			if got, still := impl.HoldsIn(scaled, d); got != holds || !ok || !still || !good {
				t.Fatalf("HoldsIn(%v, %v) = %v, %v, of %v %v, %v", one, d, holds, ok, scaled, got, still)
			}
		}
	}
}

// twoRowTables has all tables of noughts and a row of noughts and ones.
func twoRowTables(columns int) []impl.Table {
	var out []impl.Table
	for _, part := range allParts(firstColumns(columns))[1:] {
		cells := make([]int, columns)
		for _, n := range part {
			cells[n] = 1
		}
		out = append(out, table(columns, weighted(1, make([]int, columns)...), weighted(1, cells...)))
	}
	return out
}

func checkHoldsWhereOthersDo(t *testing.T, one impl.Table, l []impl.Depend, d impl.Depend) bool {
	t.Helper()
	for _, other := range l {
		holds, ok := impl.HoldsIn(one, other)
		if !ok {
			t.Fatalf("HoldsIn(%v, %v) is refused", one, other)
		}
		if !holds {
			return false
		}
	}
	if holds, ok := impl.HoldsIn(one, d); !holds || !ok {
		t.Fatalf("%v implies %v, which does not hold in %v: %v", l, d, one, ok)
	}
	return true
}

// Promise 7: what is implied holds wherever the others do.
func TestWhatIsImpliedHoldsWhereverTheOthersDo(t *testing.T) {
	thrown := dice{74}
	tried, tall := 0, 0
	for range 400 {
		columns := 1 + thrown.below(impl.MaxColumns)
		l := thrown.depends(columns, 4)
		fits := []impl.Table{table(columns)}
		for range 3 {
			one := thrown.tableWhere(l, columns)
			fits = append(fits, one)
			if len(one.Rows) > 2 {
				tall++
			}
		}
		fits = append(fits, twoRowTables(columns)...)
		for range 10 {
			d := thrown.depend(columns)
			if implied, ok := impl.Implies(l, columns, d); !implied || !ok {
				continue
			}
			for _, one := range fits {
				if checkHoldsWhereOthersDo(t, one, l, d) && !hasAll(d.From, d.To) {
					tried++
				}
			}
		}
	}
	if tried < 3000 || tall < 300 {
		t.Errorf("%d were tried, %d tables had more than two rows", tried, tall)
	}
}

// Promise 7: of what is not implied there are two rows that show it.
func TestOfWhatIsNotImpliedTwoRowsShowIt(t *testing.T) {
	thrown := dice{75}
	shown := 0
	for range 2500 {
		columns := 1 + thrown.below(impl.MaxColumns)
		l, d := thrown.depends(columns, impl.MaxDepends), thrown.depend(columns)
		implied, ok := impl.Implies(l, columns, d)
		two, told := impl.WitnessFor(l, columns, d)
		if !ok || told == implied {
			t.Fatalf("Implies(%v, %d, %v) = %v, %v, WitnessFor %v, %v", l, columns, d, implied, ok, two, told)
		}
		if !told {
			continue
		}
		shown++
		if !goodByHand(two) || two.Columns != columns || len(two.Rows) != 2 {
			t.Fatalf("WitnessFor(%v, %d, %v) = %v", l, columns, d, two)
		}
		for _, other := range l {
			if holds, ok := impl.HoldsIn(two, other); !holds || !ok {
				t.Fatalf("WitnessFor(%v, %d, %v) = %v, in which %v does not hold: %v", l, columns, d, two, other, ok)
			}
		}
		if holds, ok := impl.HoldsIn(two, d); holds || !ok {
			t.Fatalf("WitnessFor(%v, %d, %v) = %v, in which it holds: %v", l, columns, d, two, ok)
		}
	}
	if shown < 500 {
		t.Errorf("only %d were shown", shown)
	}
}

// Promise 7: Implies says no more and no less than what all tables of two rows say.
func TestImpliesIsWhatTwoRowsSay(t *testing.T) {
	thrown := dice{76}
	for range 1000 {
		columns := 1 + thrown.below(impl.MaxColumns)
		l, d := thrown.depends(columns, impl.MaxDepends), thrown.depend(columns)
		want := true
		for _, two := range twoRowTables(columns) {
			if allHoldByHand(two, l) && !holdsByHand(two, d) {
				want = false
			}
		}
		if got, ok := impl.Implies(l, columns, d); got != want || !ok {
			t.Fatalf("Implies(%v, %d, %v) = %v, %v", l, columns, d, got, ok)
		}
	}
}

func TestWitnessForAsTold(t *testing.T) {
	for _, c := range []struct {
		l       []impl.Depend
		columns int
		d       string
		second  string
	}{
		{nil, 1, ">0", "1"},
		{nil, 6, ">0", "111111"},
		{nil, 6, "01234>5", "000001"},
		{nil, 6, "2>012345", "110111"},
		{depends("0>1", "1>2", "0>2"), 4, "1>0", "1001"},
		{depends("0>1", "1>2"), 3, "2>0", "110"},
		{depends("0>1", "1>2"), 3, ">2", "111"},
		{depends(">1"), 3, ">2", "101"},
		{depends(">1"), 3, "0>12", "001"},
		{depends("01>2", "0>", ">"), 3, "0>2", "011"},
		{timesOver(impl.MaxDepends, depend("0>1")), 6, "0>2", "001111"},
	} {
		want := table(c.columns, weighted(1, make([]int, c.columns)...), weighted(1, digits(c.second)...))
		if got, ok := impl.WitnessFor(c.l, c.columns, depend(c.d)); !ok || !sameTables(got, want) {
			t.Errorf("WitnessFor(%v, %d, %s) = %v, %v, not %v", c.l, c.columns, c.d, got, ok, want)
		}
	}
}

func TestWitnessForByHand(t *testing.T) {
	thrown := dice{77}
	for range 800 {
		columns := 1 + thrown.below(impl.MaxColumns)
		l, d := thrown.depends(columns, impl.MaxDepends), thrown.depend(columns)
		if impliedByHand(l, columns, d) {
			continue
		}
		second := make([]int, columns)
		for n := range second {
			if !slices.Contains(closureByHand(l, columns, d.From), n) {
				second[n] = 1
			}
		}
		want := table(columns, weighted(1, make([]int, columns)...), weighted(1, second...))
		if got, ok := impl.WitnessFor(l, columns, d); !ok || !sameTables(got, want) {
			t.Fatalf("WitnessFor(%v, %d, %v) = %v, %v, not %v", l, columns, d, got, ok, want)
		}
	}
}

func checkImpliesRefused(t *testing.T, l []impl.Depend, columns int, d impl.Depend) {
	t.Helper()
	if got, ok := impl.Implies(l, columns, d); got || ok {
		t.Errorf("Implies(%v, %d, %v) = %v, %v", l, columns, d, got, ok)
	}
	checkWitnessRefused(t, l, columns, d)
}

func checkWitnessRefused(t *testing.T, l []impl.Depend, columns int, d impl.Depend) {
	t.Helper()
	if got, ok := impl.WitnessFor(l, columns, d); !isNoTable(got) || ok {
		t.Errorf("WitnessFor(%v, %d, %v) = %v, %v", l, columns, d, got, ok)
	}
}

func TestImpliesAndWitnessForRefuse(t *testing.T) {
	for _, bad := range badDepends() {
		checkImpliesRefused(t, nil, 3, bad)
		checkImpliesRefused(t, depends(">012"), 3, bad)
	}
	for _, bad := range badDependLists() {
		checkImpliesRefused(t, bad, 3, depend(">"))
		checkImpliesRefused(t, bad, 3, depend(">2"))
	}
	for _, columns := range badColumns() {
		checkImpliesRefused(t, nil, columns, depend(">"))
		checkImpliesRefused(t, nil, columns, depend("0>1"))
		checkImpliesRefused(t, depends("0>1"), columns, depend("1>0"))
	}
}

func TestWitnessForRefusesWhatIsImplied(t *testing.T) {
	for _, c := range []struct {
		l       []impl.Depend
		columns int
		d       string
	}{
		{nil, 1, ">"},
		{nil, 1, "0>0"},
		{nil, 6, "012345>012345"},
		{nil, 3, "12>1"},
		{depends("0>1", "1>2"), 3, "0>2"},
		{depends("0>1", "1>2"), 3, "0>"},
		{depends(">012"), 3, "1>02"},
		{depends("0>12"), 3, "0>12"},
	} {
		checkWitnessRefused(t, c.l, c.columns, depend(c.d))
	}
}

func TestKeysOfAsTold(t *testing.T) {
	cycle := depends("0>1", "1>2", "2>3", "3>4", "4>5", "5>0")
	for _, c := range []struct {
		l       []impl.Depend
		columns int
		want    []string
	}{
		{nil, 1, []string{"0"}},
		{nil, 3, []string{"012"}},
		{nil, 6, []string{"012345"}},
		{depends(">", "0>", "01>1"), 3, []string{"012"}},
		{depends(">0"), 1, []string{""}},
		{depends(">012345"), 6, []string{""}},
		{depends("0>1", ">012", "2>1"), 3, []string{""}},
		{depends(">0", "0>12"), 3, []string{""}},
		{depends(">0"), 3, []string{"12"}},
		{depends("0>1", "1>2", "0>2"), 4, []string{"03"}},
		{depends("0>12"), 3, []string{"0"}},
		{depends("2>01"), 3, []string{"2"}},
		{depends("01>2", "2>0"), 3, []string{"01", "12"}},
		{depends("12>0", "0>1"), 3, []string{"02", "12"}},
		{depends("12>0", "0>12"), 3, []string{"0", "12"}},
		{depends("01>23", "3>012"), 4, []string{"3", "01"}},
		{depends("23>01", "03>12", "12>03"), 4, []string{"03", "12", "23"}},
		{depends("015>234", "24>0135", "3>012"), 6, []string{"24", "34", "35", "015"}},
		{cycle, 6, []string{"0", "1", "2", "3", "4", "5"}},
		{depends("012>345", "345>012"), 6, []string{"012", "345"}},
		{depends("012345>"), 6, []string{"012345"}},
		{depends("0>3", "3>0", "1>4", "4>1", "2>5", "5>2"), 6, []string{"012", "015", "024", "045", "123", "135", "234", "345"}},
		{depends("012>345", "013>245", "014>235", "015>234", "023>145", "024>135", "025>134", "034>125", "035>124", "045>123"), 6, []string{"012", "013", "014", "015", "023", "024", "025", "034", "035", "045"}},
	} {
		if got, ok := impl.KeysOf(c.l, c.columns); !ok || !sameLists(got, lists(c.want...)) {
			t.Errorf("KeysOf(%v, %d) = %v, %v, not %v", c.l, c.columns, got, ok, c.want)
		}
	}
}

func TestKeysOfByHand(t *testing.T) {
	thrown := dice{78}
	several := 0
	for range 600 {
		columns := 1 + thrown.below(impl.MaxColumns)
		l := thrown.depends(columns, impl.MaxDepends)
		want := keysByHand(l, columns)
		if got, ok := impl.KeysOf(l, columns); !ok || !sameLists(got, want) {
			t.Fatalf("KeysOf(%v, %d) = %v, %v, not %v", l, columns, got, ok, want)
		}
		if len(want) > 1 {
			several++
		}
	}
	if several < 100 {
		t.Errorf("only %d had several keys", several)
	}
}

// Each list tells all columns, no part of it does, and each list that tells all has one of them within.
func TestKeysTellAllAndNoneIsMissing(t *testing.T) {
	thrown := dice{79}
	for range 300 {
		columns := 1 + thrown.below(impl.MaxColumns)
		l := thrown.depends(columns, impl.MaxDepends)
		keys, ok := impl.KeysOf(l, columns)
		if !ok || len(keys) == 0 {
			t.Fatalf("KeysOf(%v, %d) = %v, %v", l, columns, keys, ok)
		}
		for _, part := range allParts(firstColumns(columns)) {
			told, _ := impl.ClosureOf(l, columns, part)
			within := slices.ContainsFunc(keys, func(key []int) bool { return hasAll(part, key) })
			if within != (len(told) == columns) {
				t.Fatalf("KeysOf(%v, %d) = %v, but %v tells %v", l, columns, keys, part, told)
			}
		}
		for i, key := range keys {
			for j, other := range keys {
				if i != j && hasAll(key, other) {
					t.Fatalf("KeysOf(%v, %d) = %v: %v is within %v", l, columns, keys, other, key)
				}
			}
			if i > 0 && cmp.Or(cmp.Compare(len(keys[i-1]), len(key)), slices.Compare(keys[i-1], key)) >= 0 {
				t.Fatalf("KeysOf(%v, %d) = %v: not in order", l, columns, keys)
			}
		}
	}
}

// pairsTell tells columns 4 and 5 by so many pairs of the others: none of these is implied by the others.
func pairsTell(both int, further ...string) []impl.Depend {
	pairs := []string{"01", "02", "03", "12", "13", "23"}
	var out []impl.Depend
	for _, pair := range pairs[:both] {
		out = append(out, depend(pair+">45"))
	}
	return append(out, depends(further...)...)
}

func TestCoverOfAsTold(t *testing.T) {
	for _, c := range []struct {
		l       []impl.Depend
		columns int
		want    []impl.Depend
	}{
		{nil, 1, nil},
		{nil, 6, nil},
		{depends(">"), 1, nil},
		{depends("0>"), 1, nil},
		{depends("0>0"), 1, nil},
		{depends(">0"), 1, depends(">0")},
		{depends("0>1", "1>2", "0>2"), 4, depends("0>1", "1>2")},
		{depends("0>2", "0>1", "1>2"), 3, depends("0>1", "1>2")},
		{depends("0>12"), 3, depends("0>1", "0>2")},
		{depends("0>012"), 3, depends("0>1", "0>2")},
		{depends("01>1", "012345>012345"), 6, nil},
		{depends("0>1", "0>1", "0>12"), 3, depends("0>1", "0>2")},
		{depends("1>2", "0>2", "1>0"), 3, depends("0>2", "1>0")},
		{depends("01>2", "0>1"), 3, depends("0>2", "0>1")},
		{depends("01>2", "1>0"), 3, depends("1>2", "1>0")},
		{depends("0>1", "01>2"), 3, depends("0>1", "0>2")},
		{depends("01>2", "0>1", "1>0"), 3, depends("1>2", "0>1", "1>0")},
		{depends("01>2", "0>2"), 3, depends("0>2")},
		{depends("01>2", "0>2", "1>2"), 3, depends("0>2", "1>2")},
		{depends("1>2", "01>2"), 3, depends("1>2")},
		{depends(">1", "01>2"), 3, depends(">1", "0>2")},
		{depends("01>2", ">0", ">1"), 3, depends(">2", ">0", ">1")},
		{depends("01>2", ">012"), 3, depends(">0", ">1", ">2")},
		{depends(">012"), 3, depends(">0", ">1", ">2")},
		{depends("0>1", "1>0", "0>2", "1>2"), 3, depends("0>1", "1>0", "1>2")},
		{depends("0>12", "1>02", "2>01"), 3, depends("0>2", "1>2", "2>0", "2>1")},
		{depends("012>3", "0>1"), 4, depends("02>3", "0>1")},
		{depends("012>3", "1>0"), 4, depends("12>3", "1>0")},
		{depends("012>3", "0>1", "1>2"), 4, depends("0>3", "0>1", "1>2")},
		{depends("5>4", "4>3", "3>2", "2>1", "1>0", "5>01234"), 6, depends("5>4", "4>3", "3>2", "2>1", "1>0")},
		{pairsTell(5), 6, depends("01>4", "01>5", "02>4", "02>5", "03>4", "03>5", "12>4", "12>5", "13>4", "13>5")},
		{pairsTell(4, "13>4", "23>5"), 6, depends("01>4", "01>5", "02>4", "02>5", "03>4", "03>5", "12>4", "12>5", "13>4", "23>5")},
		{pairsTell(5, "23>", "01>45", "0123>45"), 6, depends("01>4", "01>5", "02>4", "02>5", "03>4", "03>5", "12>4", "12>5", "13>4", "13>5")},
	} {
		if got, ok := impl.CoverOf(c.l, c.columns); !ok || !sameDependLists(got, c.want) {
			t.Errorf("CoverOf(%v, %d) = %v, %v, not %v", c.l, c.columns, got, ok, c.want)
		}
	}
}

// There may be more than MaxDepends on the way, as long as there are not at the end.
func TestCoverOfMayBeLongOnTheWay(t *testing.T) {
	for _, l := range [][]impl.Depend{
		depends("0>012345", "1>012345", "2>012345", "3>012345", "4>012345", "5>012345"),
		depends("0>12345", "01>2345", "012>345", "0123>45", "01234>5"),
		timesOver(impl.MaxDepends, depend(">012345")),
		depends("01>2345", "02>1345", "03>1245", "04>1235", "05>1234", "12>0345", "13>0245", "14>0235", "15>0234", ">012345"),
	} {
		want, fits := coverByHand(l, 6)
		if got, ok := impl.CoverOf(l, 6); !ok || !fits || !sameDependLists(got, want) {
			t.Errorf("CoverOf(%v, 6) = %v, %v, not %v, %v", l, got, ok, want, fits)
		}
	}
}

func checkCoverRefused(t *testing.T, l []impl.Depend, columns int) {
	t.Helper()
	if got, ok := impl.CoverOf(l, columns); len(got) != 0 || ok {
		t.Errorf("CoverOf(%v, %d) = %v, %v", l, columns, got, ok)
	}
}

func TestCoverOfRefuses(t *testing.T) {
	checkCoverRefused(t, pairsTell(5, "23>4"), 6)
	checkCoverRefused(t, pairsTell(5, "23>5"), 6)
	checkCoverRefused(t, pairsTell(6), 6)
	checkCoverRefused(t, pairsTell(6, "012>45", "013>45", "023>45", "123>45"), 6)
	for _, bad := range badDependLists() {
		checkCoverRefused(t, bad, 3)
	}
	for _, columns := range badColumns() {
		checkCoverRefused(t, nil, columns)
		checkCoverRefused(t, depends("0>1"), columns)
	}
}

func TestKeysOfRefuses(t *testing.T) {
	refused := func(l []impl.Depend, columns int) {
		t.Helper()
		if got, ok := impl.KeysOf(l, columns); len(got) != 0 || ok {
			t.Errorf("KeysOf(%v, %d) = %v, %v", l, columns, got, ok)
		}
	}
	for _, bad := range badDependLists() {
		refused(bad, 3)
	}
	for _, columns := range badColumns() {
		refused(nil, columns)
		refused(depends("0>1"), columns)
		refused(depends(">"), columns)
	}
}

func TestCoverOfByHand(t *testing.T) {
	thrown := dice{80}
	shorter, refused := 0, 0
	for range 1200 {
		columns := 1 + thrown.below(impl.MaxColumns)
		l := thrown.depends(columns, impl.MaxDepends)
		want, fits := coverByHand(l, columns)
		got, ok := impl.CoverOf(l, columns)
		if ok != fits || !sameDependLists(got, want) {
			t.Fatalf("CoverOf(%v, %d) = %v, %v, not %v, %v", l, columns, got, ok, want, fits)
		}
		if len(got) < len(l) {
			shorter++
		}
		if !ok {
			refused++
		}
	}
	if shorter < 300 {
		t.Errorf("%d covers were shorter, %d refused", shorter, refused)
	}
}

// A cover implies what it was made of and is implied by it, and none of it, and no number of a From in it, can go.
func TestACoverIsTheSameAndNothingOfItCanGo(t *testing.T) {
	thrown := dice{81}
	for range 400 {
		columns := 1 + thrown.below(impl.MaxColumns)
		l := thrown.depends(columns, impl.MaxDepends)
		cover, ok := impl.CoverOf(l, columns)
		if !ok {
			continue
		}
		for _, pair := range [][][]impl.Depend{{l, cover}, {cover, l}} {
			if same, good := impl.SameDepends(pair[0], pair[1], columns); !same || !good {
				t.Fatalf("CoverOf(%v, %d) = %v is not the same: %v", l, columns, cover, good)
			}
		}
		for i, d := range cover {
			if len(d.To) != 1 {
				t.Fatalf("CoverOf(%v, %d) = %v: not one number in To", l, columns, cover)
			}
			if less, _ := impl.SameDepends(l, slices.Delete(slices.Clone(cover), i, i+1), columns); less {
				t.Fatalf("CoverOf(%v, %d) = %v: %v can go", l, columns, cover, d)
			}
			for _, n := range d.From {
				shrunk := slices.Clone(cover)
				shrunk[i] = impl.Depend{From: without(d.From, n), To: d.To}
				if less, _ := impl.SameDepends(l, shrunk, columns); less {
					t.Fatalf("CoverOf(%v, %d) = %v: %d of %v can go", l, columns, cover, n, d)
				}
			}
		}
		again, _ := impl.CoverOf(cover, columns)
		if !sameDependLists(again, cover) {
			t.Fatalf("CoverOf(%v, %d) = %v, once more %v", l, columns, cover, again)
		}
	}
}

func TestSameDependsAsTold(t *testing.T) {
	for _, c := range []struct {
		a, b    []impl.Depend
		columns int
		want    bool
	}{
		{nil, nil, 1, true},
		{nil, depends(">", "0>", "0>0"), 1, true},
		{nil, depends(">0"), 1, false},
		{depends("0>1"), depends("0>1"), 2, true},
		{depends("0>1"), depends("1>0"), 2, false},
		{depends("0>1"), depends("0>1", "1>0"), 2, false},
		{depends("0>1", "1>2"), depends("0>1", "1>2", "0>2"), 3, true},
		{depends("0>12"), depends("0>1", "0>2"), 3, true},
		{depends("0>12"), depends("0>1", "1>2"), 3, false},
		{depends("0>1", "1>2", "2>0"), depends("0>2", "2>1", "1>0"), 3, true},
		{depends("01>2"), depends("0>2"), 3, false},
		{depends("01>2", "0>1"), depends("0>12"), 3, true},
		{depends(">012"), depends(">0", "0>12"), 3, true},
		{depends("012345>012345"), nil, 6, true},
		{timesOver(impl.MaxDepends, depend("0>5")), depends("0>5"), 6, true},
	} {
		for _, pair := range [][][]impl.Depend{{c.a, c.b}, {c.b, c.a}} {
			if got, ok := impl.SameDepends(pair[0], pair[1], c.columns); !ok || got != c.want {
				t.Errorf("SameDepends(%v, %v, %d) = %v, %v", pair[0], pair[1], c.columns, got, ok)
			}
		}
	}
}

func checkSameRefused(t *testing.T, a, b []impl.Depend, columns int) {
	t.Helper()
	if got, ok := impl.SameDepends(a, b, columns); got || ok {
		t.Errorf("SameDepends(%v, %v, %d) = %v, %v", a, b, columns, got, ok)
	}
	if got, ok := impl.SameDepends(b, a, columns); got || ok {
		t.Errorf("SameDepends(%v, %v, %d) = %v, %v", b, a, columns, got, ok)
	}
}

func TestSameDependsRefuses(t *testing.T) {
	for _, bad := range badDependLists() {
		checkSameRefused(t, bad, nil, 3)
		checkSameRefused(t, bad, depends("0>1"), 3)
		checkSameRefused(t, bad, bad, 3)
	}
	for _, columns := range badColumns() {
		checkSameRefused(t, nil, nil, columns)
		checkSameRefused(t, depends("0>1"), depends("0>1"), columns)
	}
}

func TestSameDependsByHand(t *testing.T) {
	thrown := dice{82}
	seen := map[bool]int{}
	for range 1500 {
		columns := 1 + thrown.below(3)
		a, b := thrown.depends(columns, 5), thrown.depends(columns, 5)
		want := sameByHand(a, b, columns)
		got, ok := impl.SameDepends(a, b, columns)
		back, too := impl.SameDepends(b, a, columns)
		if !ok || !too || got != want || back != want {
			t.Fatalf("SameDepends(%v, %v, %d) = %v, %v, back %v, %v", a, b, columns, got, ok, back, too)
		}
		seen[want]++
	}
	if seen[true] < 100 || seen[false] < 100 {
		t.Error(seen)
	}
}

// anyDepends are dependencies, good for some number of columns or for none.
func anyDepends() [][]impl.Depend {
	thrown := dice{83}
	out := append(badDependLists(), nil, depends(), pairsTell(5), pairsTell(6), depends("0>1", "1>2", "0>2"))
	for range 150 {
		out = append(out, thrown.depends(1+thrown.below(impl.MaxColumns), impl.MaxDepends))
	}
	return out
}

// Promise 19: each function of chapter 7 answers at any arguments, the same each time, in new memory, and writes into none.
func TestDependsAnswerAndWriteNothing(t *testing.T) {
	thrown := dice{84}
	single := append(badDepends(), depends(">", "0>1", "012>", ">012", "12>0", "012345>012345")...)
	asked := append(badLists(), lists("", "0", "12", "012", "012345")...)
	all := anyDepends()
	for i, l := range all {
		l := withGuards(l)
		other := withGuards(all[i*7%len(all)])
		from := withGuards(asked[i%len(asked)])
		d := withGuards(single[i%len(single)])
		for _, columns := range append(badColumns(), 1, 2, 3, 4, 5, 6) {
			checkCall(t, "GoodDepends", func() []any { return []any{impl.GoodDepends(l, columns)} }, l)
			checkCall(t, "ClosureOf", func() []any { return answers(impl.ClosureOf(l, columns, from)) }, l, from)
			checkCall(t, "Implies", func() []any { return answers(impl.Implies(l, columns, d)) }, l, d)
			checkCall(t, "WitnessFor", func() []any { return answers(impl.WitnessFor(l, columns, d)) }, l, d)
			checkCall(t, "KeysOf", func() []any { return answers(impl.KeysOf(l, columns)) }, l)
			checkCall(t, "CoverOf", func() []any { return answers(impl.CoverOf(l, columns)) }, l)
			checkCall(t, "SameDepends", func() []any { return answers(impl.SameDepends(l, other, columns)) }, l, other)
			checkCall(t, "SameDepends", func() []any { return answers(impl.SameDepends(l, l, columns)) }, l)
			if len(l) > 0 {
				checkCall(t, "Implies", func() []any { return answers(impl.Implies(l, columns, l[0])) }, l)
				checkCall(t, "WitnessFor", func() []any { return answers(impl.WitnessFor(l[1:], columns, l[0])) }, l)
				checkCall(t, "ClosureOf", func() []any { return answers(impl.ClosureOf(l, columns, l[0].From)) }, l)
			}
		}
	}
	for _, one := range slices.Concat(squareTables(-1, 0, 2), goodTables(), badTables()) {
		one := withGuards(one)
		for range 5 {
			d := withGuards(single[thrown.below(len(single))])
			checkCall(t, "HoldsIn", func() []any { return answers(impl.HoldsIn(one, d)) }, one, d)
		}
	}
}

// What lies behind a list's length does not count.
func TestDependsDoNotReadBehindTheirLists(t *testing.T) {
	all := func(l, other []impl.Depend, columns int, d impl.Depend) string {
		return fmt.Sprint(impl.GoodDepends(l, columns), answers(impl.ClosureOf(l, columns, d.From)), answers(impl.Implies(l, columns, d)), answers(impl.WitnessFor(l, columns, d)), answers(impl.KeysOf(l, columns)), answers(impl.CoverOf(l, columns)), answers(impl.SameDepends(l, other, columns)))
	}
	thrown := dice{85}
	for _, l := range anyDepends() {
		columns := 1 + thrown.below(impl.MaxColumns)
		d, other := thrown.depend(columns), thrown.depends(columns, 3)
		plain := all(l, other, columns, d)
		if got := all(withGuards(l), withGuards(other), columns, withGuards(d)); got != plain {
			t.Errorf("%v of %d columns: %s, with guards behind the lists %s", l, columns, plain, got)
		}
	}
	for _, one := range slices.Concat(squareTables(-1, 0, 2), goodTables(), badTables()) {
		d := depend("0>1")
		plain := fmt.Sprint(impl.HoldsIn(one, d))
		if got := fmt.Sprint(impl.HoldsIn(withGuards(one), withGuards(d))); got != plain {
			t.Errorf("%v: %s, with guards behind the lists %s", one, plain, got)
		}
	}
}

// Two lists of one answer share nothing, even where they are alike.
func TestDependsHandOutNewMemory(t *testing.T) {
	l := depends("0>12")
	cover, _ := impl.CoverOf(l, 3)
	cover[0].From[0], cover[0].To[0] = 9, 9
	if !sameDependLists(cover[1:], depends("0>2")) || !sameDependLists(l, depends("0>12")) {
		t.Error(cover, l)
	}
	from := digits("012")
	told, _ := impl.ClosureOf(l, 3, from)
	told[0] = 9
	if from[0] != 0 {
		t.Error("ClosureOf hands out what it was asked for")
	}
	two, _ := impl.WitnessFor(nil, 2, depend("0>1"))
	two.Rows[0].Row.Cells[0] = 9
	if two.Rows[1].Row.Cells[0] != 0 {
		t.Error(two)
	}
}
