package tests

import (
	"cmp"
	"fmt"
	"math"
	"slices"
	"testing"

	"loop.example/g00305/impl"
)

const maxTableauRows = 8

func tableau(columns int, rows ...[]int) impl.Tableau {
	t := impl.Tableau{Columns: columns}
	for _, cells := range rows {
		t.Rows = append(t.Rows, row(cells...))
	}
	return t
}

// wide is a tableau of a text for each row, a digit a cell.
func wide(rows ...string) impl.Tableau {
	return tableau(len(rows[0]), lists(rows...)...)
}

func sameTableaus(a, b impl.Tableau) bool {
	return a.Columns == b.Columns && sameLists(cellsOf(a), cellsOf(b))
}

func isNoTableau(t impl.Tableau) bool {
	return t.Columns == 0 && len(t.Rows) == 0
}

// cellsOf has the cells of each row, in memory of their own.
func cellsOf(t impl.Tableau) [][]int {
	var out [][]int
	for _, r := range t.Rows {
		out = append(out, slices.Clone(r.Cells))
	}
	return out
}

func columnOf(t impl.Tableau, column int) []int {
	var out []int
	for _, r := range t.Rows {
		out = append(out, r.Cells[column])
	}
	return out
}

func goodTableauByHand(t impl.Tableau) bool {
	if t.Columns < 1 || t.Columns > 6 || len(t.Rows) == 0 || len(t.Rows) > 8 {
		return false
	}
	wrong := func(r impl.Row) bool {
		return len(r.Cells) != t.Columns || slices.ContainsFunc(r.Cells, func(n int) bool { return n < 0 || n > 100000 })
	}
	return !slices.ContainsFunc(t.Rows, wrong)
}

// startByHand counts all places of eight rows of six cells from 1 on.
func startByHand(parts [][]int, columns int) impl.Tableau {
	var rows [][]int
	count := 0
	for _, part := range parts {
		var cells []int
		for column := range 6 {
			count++
			switch {
			case column >= columns:
			case slices.Contains(part, column):
				cells = append(cells, 0)
			default:
				cells = append(cells, count)
			}
		}
		rows = append(rows, cells)
	}
	return tableau(columns, rows...)
}

// place is where a dependency finds unlike cells: its number, two rows, and a column.
type place [4]int

// placesByHand has all places, in no order that counts.
func placesByHand(t impl.Tableau, l []impl.Depend) []place {
	var out []place
	for second, b := range t.Rows {
		for first, a := range t.Rows[:second] {
			for number, d := range l {
				ahead, _ := pickByHand(a.Cells, d.From)
				behind, _ := pickByHand(b.Cells, d.From)
				if !slices.Equal(ahead, behind) {
					continue
				}
				for _, column := range d.To {
					if a.Cells[column] != b.Cells[column] {
						out = append(out, place{number, first, second, column})
					}
				}
			}
		}
	}
	return out
}

func mergedAt(t impl.Tableau, at place) impl.Tableau {
	column := at[3]
	a, b := t.Rows[at[1]].Cells[column], t.Rows[at[2]].Cells[column]
	rows := cellsOf(t)
	for _, cells := range rows {
		if cells[column] == max(a, b) {
			cells[column] = min(a, b)
		}
	}
	return tableau(t.Columns, rows...)
}

// stepByHand takes the least of all places.
func stepByHand(t impl.Tableau, l []impl.Depend) (impl.Tableau, bool) {
	places := placesByHand(t, l)
	if len(places) == 0 {
		return impl.Tableau{}, false
	}
	first := slices.MinFunc(places, func(a, b place) int { return slices.Compare(a[:], b[:]) })
	return mergedAt(t, first), true
}

// chaseByHand takes the greatest place each time: what comes out hangs on no order, and each step takes one number out of a column.
func chaseByHand(t impl.Tableau, l []impl.Depend) (impl.Tableau, int) {
	chased := t
	for {
		places := placesByHand(chased, l)
		if len(places) == 0 {
			return chased, symbolsIn(t) - symbolsIn(chased)
		}
		last := slices.MaxFunc(places, func(a, b place) int { return slices.Compare(a[:], b[:]) })
		chased = mergedAt(chased, last)
	}
}

func symbolsIn(t impl.Tableau) int {
	count := 0
	for column := range t.Columns {
		count += len(slices.Compact(slices.Sorted(slices.Values(columnOf(t, column)))))
	}
	return count
}

func hasNoughts(t impl.Tableau) bool {
	return slices.ContainsFunc(t.Rows, func(r impl.Row) bool { return slices.Equal(r.Cells, make([]int, t.Columns)) })
}

func tableByHand(t impl.Tableau) impl.Table {
	rows := cellsOf(t)
	slices.SortFunc(rows, slices.Compare)
	return onceOf(t.Columns, slices.CompactFunc(rows, slices.Equal)...)
}

// tableau has cells of a few numbers, small ones or up to MaxCell.
func (d *dice) tableau(columns int) impl.Tableau {
	times, numbers := d.oneOf(1, 1, 17, impl.MaxCell/4), d.oneOf(2, 3, 5)
	var rows [][]int
	for range 1 + d.below(maxTableauRows) {
		var cells []int
		for range columns {
			cells = append(cells, d.below(numbers)*times)
		}
		rows = append(rows, cells)
	}
	return tableau(columns, rows...)
}

func goodTableaus() []impl.Tableau {
	most := impl.MaxCell
	return []impl.Tableau{
		wide("0"), wide("1"), tableau(1, []int{most}),
		wide("0", "0", "0", "0", "0", "0", "0", "0"),
		wide("0", "1", "2", "3", "4", "5", "6", "7"),
		wide("012345"), wide("000000"),
		tableau(6, slices.Repeat([][]int{{most, most, most, most, most, most}}, maxTableauRows)...),
		tableau(6, slices.Repeat([][]int{{0, most, 1, most - 1, 2, 0}}, maxTableauRows)...),
		wide("120", "012", "120", "000"),
	}
}

// badTableaus are no tableaus, most of them of a good one with one thing changed.
func badTableaus() []impl.Tableau {
	out := []impl.Tableau{
		{}, {Columns: 1}, {Columns: 3}, {Columns: 6}, {Columns: 3, Rows: []impl.Row{}},
		tableau(0, nil), tableau(0, []int{0}), tableau(1, nil), tableau(3, nil, nil),
		wide("0123456"), tableau(7, digits("012345")), tableau(6, digits("0123456")),
		wide("0", "0", "0", "0", "0", "0", "0", "0", "0"), tableau(3, slices.Repeat(lists("012"), 200)...),
		tableau(6, slices.Repeat(lists("012345"), maxTableauRows+1)...),
		tableau(100, make([]int, 100)),
	}
	for _, columns := range append(badColumns(), 1, 2, 4, 5, 6) {
		out = append(out, tableau(columns, digits("012"), digits("034")))
	}
	for at := range 3 {
		for _, cells := range [][]int{nil, {}, digits("0"), digits("01"), digits("0123"), digits("012345"), digits("0123456"), make([]int, 100)} {
			rows := lists("012", "034", "056")
			rows[at] = cells
			out = append(out, tableau(3, rows...))
		}
		for column := range 3 {
			for _, cell := range []int{-1, -impl.MaxCell, -impl.MaxCell - 1, impl.MaxCell + 1, math.MinInt, math.MaxInt} {
				rows := lists("012", "034", "056")
				rows[at][column] = cell
				out = append(out, tableau(3, rows...))
			}
		}
	}
	return out
}

func TestGoodTableau(t *testing.T) {
	for _, one := range goodTableaus() {
		if !impl.GoodTableau(one) {
			t.Errorf("GoodTableau(%v) is false", one)
		}
	}
	for _, one := range badTableaus() {
		if impl.GoodTableau(one) {
			t.Errorf("GoodTableau(%v) is true", one)
		}
	}
	for columns := 1; columns <= impl.MaxColumns; columns++ {
		for rows := range maxTableauRows + 2 {
			cells := slices.Repeat([]int{0}, columns)
			one := tableau(columns, slices.Repeat([][]int{cells}, rows)...)
			if got := impl.GoodTableau(one); got != (rows >= 1 && rows <= maxTableauRows) {
				t.Errorf("%d rows of %d columns: %v", rows, columns, got)
			}
		}
	}
}

func TestGoodTableauByHand(t *testing.T) {
	thrown := dice{900}
	seen := map[bool]int{}
	for range 2000 {
		one := thrown.tableau(1 + thrown.below(impl.MaxColumns))
		at := thrown.below(len(one.Rows))
		switch thrown.below(8) {
		case 0:
			one.Columns += thrown.oneOf(-1, 1)
		case 1:
			one.Rows[at].Cells = one.Rows[at].Cells[1:]
		case 2:
			one.Rows[at].Cells = append(one.Rows[at].Cells, 0)
		case 3:
			one.Rows[at].Cells[thrown.below(one.Columns)] = thrown.oneOf(-1, 0, impl.MaxCell, impl.MaxCell+1)
		case 4:
			one.Rows = append(one.Rows, one.Rows...)
		}
		want := goodTableauByHand(one)
		if got := impl.GoodTableau(one); got != want {
			t.Fatalf("GoodTableau(%v) is %v", one, got)
		}
		seen[want]++
	}
	if seen[true] < 500 || seen[false] < 500 {
		t.Error(seen)
	}
}

func TestStartTableauAsTold(t *testing.T) {
	for _, c := range []struct {
		parts   [][]int
		columns int
		want    impl.Tableau
	}{
		{lists("0"), 1, wide("0")},
		{lists("0", "0"), 1, wide("0", "0")},
		{slices.Repeat(lists("0"), maxParted), 1, wide("0", "0", "0", "0", "0", "0", "0", "0")},
		{lists("01", "12"), 3, tableau(3, []int{0, 0, 3}, []int{7, 0, 0})},
		{lists("12", "01"), 3, tableau(3, []int{1, 0, 0}, []int{0, 0, 9})},
		{lists("02", "02", "1"), 3, tableau(3, []int{0, 2, 0}, []int{0, 8, 0}, []int{13, 0, 15})},
		{lists("012"), 3, wide("000")},
		{lists("012", "1"), 3, tableau(3, []int{0, 0, 0}, []int{7, 0, 9})},
		{lists("012345"), 6, wide("000000")},
		{lists("0", "12345"), 6, tableau(6, []int{0, 2, 3, 4, 5, 6}, []int{7, 0, 0, 0, 0, 0})},
		{lists("5", "01234"), 6, tableau(6, []int{1, 2, 3, 4, 5, 0}, []int{0, 0, 0, 0, 0, 12})},
		{lists("0", "1", "0", "1", "0", "1", "0", "1"), 2, tableau(2, []int{0, 2}, []int{7, 0}, []int{0, 14}, []int{19, 0}, []int{0, 26}, []int{31, 0}, []int{0, 38}, []int{43, 0})},
		{append(slices.Repeat(lists("012345"), maxParted-1), digits("0")), 6, tableau(6, append(slices.Repeat(lists("000000"), maxParted-1), []int{0, 44, 45, 46, 47, 48})...)},
	} {
		got, ok := impl.StartTableau(c.parts, c.columns)
		if !ok || !sameTableaus(got, c.want) {
			t.Errorf("StartTableau(%v, %d) = %v, %v, not %v", c.parts, c.columns, got, ok, c.want)
		}
	}
}

func TestStartTableauByItsRule(t *testing.T) {
	thrown := dice{901}
	for range 1000 {
		columns := 1 + thrown.below(impl.MaxColumns)
		parts := thrown.parts(columns)
		got, ok := impl.StartTableau(parts, columns)
		if !ok || !sameTableaus(got, startByHand(parts, columns)) || !impl.GoodTableau(got) {
			t.Fatalf("StartTableau(%v, %d) = %v, %v", parts, columns, got, ok)
		}
		own := map[int]int{}
		for i, r := range got.Rows {
			for k, cell := range r.Cells {
				want := i*impl.MaxColumns + k + 1
				if slices.Contains(parts[i], k) {
					want = 0
				}
				if cell != want {
					t.Fatalf("StartTableau(%v, %d) = %v: row %d, column %d is %d", parts, columns, got, i, k, cell)
				}
				own[cell]++
			}
		}
		for number, count := range own {
			if number != 0 && count != 1 {
				t.Fatalf("StartTableau(%v, %d) = %v: %d stands %d times", parts, columns, got, number, count)
			}
		}
	}
}

func checkStartRefused(t *testing.T, parts [][]int, columns int) {
	t.Helper()
	if got, ok := impl.StartTableau(parts, columns); !isNoTableau(got) || ok {
		t.Errorf("StartTableau(%v, %d) = %v, %v", parts, columns, got, ok)
	}
}

func checkLosslessRefused(t *testing.T, l []impl.Depend, parts [][]int, columns int) {
	t.Helper()
	if got, ok := impl.IsLossless(l, parts, columns); got || ok {
		t.Errorf("IsLossless(%v, %v, %d) = %v, %v", l, parts, columns, got, ok)
	}
}

func TestStartTableauAndIsLosslessRefuse(t *testing.T) {
	for _, bad := range badPartLists() {
		checkStartRefused(t, bad, 3)
		checkLosslessRefused(t, nil, bad, 3)
		checkLosslessRefused(t, depends("0>12"), bad, 3)
		checkLosslessRefused(t, depends(">012"), bad, 3)
	}
	for _, columns := range badColumns() {
		for _, parts := range [][][]int{nil, lists("0"), lists("012345"), {{0, 1, 2, 3, 4, 5, 6}}} {
			checkStartRefused(t, parts, columns)
			checkLosslessRefused(t, nil, parts, columns)
			checkLosslessRefused(t, depends("0>"), parts, columns)
		}
	}
	for _, parts := range goodPartLists() {
		checkStartRefused(t, parts, 2)
		checkStartRefused(t, parts, 4)
		checkLosslessRefused(t, nil, parts, 2)
		checkLosslessRefused(t, nil, parts, 4)
	}
	for _, bad := range badDependLists() {
		checkLosslessRefused(t, bad, lists("012"), 3)
		checkLosslessRefused(t, bad, lists("01", "12"), 3)
		checkLosslessRefused(t, bad, lists("0", "1", "2"), 3)
	}
	for columns := 1; columns < impl.MaxColumns; columns++ {
		beyond := []impl.Depend{{From: []int{0}, To: []int{columns}}}
		checkLosslessRefused(t, beyond, [][]int{firstColumns(columns)}, columns)
		checkLosslessRefused(t, []impl.Depend{{From: []int{columns}}}, [][]int{firstColumns(columns)}, columns)
	}
}

type stepCase struct {
	t, want impl.Tableau
	l       []impl.Depend
}

func checkSteps(t *testing.T, cases []stepCase) {
	t.Helper()
	for _, c := range cases {
		if got, ok := impl.ChaseStep(c.t, c.l); !ok || !sameTableaus(got, c.want) {
			t.Errorf("ChaseStep(%v, %v) = %v, %v, not %v", c.t, c.l, got, ok, c.want)
		}
	}
}

func TestChaseStepMakesTheGreaterOneTheLesserOne(t *testing.T) {
	most := impl.MaxCell
	checkSteps(t, []stepCase{
		{wide("12", "14"), wide("12", "12"), depends("0>1")},
		{wide("14", "12"), wide("12", "12"), depends("0>1")},
		{wide("10", "14"), wide("10", "10"), depends("0>1")},
		{wide("14", "10"), wide("10", "10"), depends("0>1")},
		{tableau(2, []int{0, most}, []int{0, 0}), wide("00", "00"), depends("0>1")},
		{tableau(2, []int{most, most - 1}, []int{most, most}), tableau(2, []int{most, most - 1}, []int{most, most - 1}), depends("0>1")},
		{tableau(3, []int{0, 0, 3}, []int{7, 0, 0}), tableau(3, []int{0, 0, 0}, []int{7, 0, 0}), depends("1>2")},
		// In all rows of that column, whatever these have in From.
		{wide("14", "12", "94"), wide("12", "12", "92"), depends("0>1")},
		{wide("94", "12", "14"), wide("92", "12", "12"), depends("0>1")},
		{wide("94", "14", "84", "12", "74"), wide("92", "12", "82", "12", "72"), depends("0>1")},
		{wide("15", "12", "94", "95"), wide("12", "12", "94", "92"), depends("0>1")},
		// In no other column, though the same number stands there.
		{wide("144", "124", "444"), wide("124", "124", "424"), depends("0>1")},
		{wide("414", "412", "444"), wide("412", "412", "442"), depends("01>2")},
		{wide("44", "42"), wide("42", "42"), depends("0>1")},
		{wide("222222", "222221"), wide("222221", "222221"), depends("01234>5")},
		{wide("444444", "244444", "144444"), wide("244444", "244444", "144444"), depends("12345>0")},
		// At 1 and MaxColumns columns, 1 row ahead of 8 rows, an empty From.
		{wide("3", "1", "2"), wide("1", "1", "2"), depends(">0")},
		{wide("0", "1", "2", "3", "4", "5", "6", "7"), wide("0", "0", "2", "3", "4", "5", "6", "7"), depends(">0")},
		{wide("0", "0", "0", "0", "0", "0", "0", "7"), wide("0", "0", "0", "0", "0", "0", "0", "0"), depends(">0")},
		{wide("12", "34"), wide("12", "32"), depends(">1")},
		{wide("12", "34"), wide("12", "14"), depends(">01")},
		{wide("123456", "654321"), wide("123456", "154321"), depends(">012345")},
	})
}

func TestChaseStepTakesTheFirst(t *testing.T) {
	checkSteps(t, []stepCase{
		// The first dependency for which there is something.
		{wide("123", "145"), wide("123", "125"), depends("0>1", "0>2")},
		{wide("123", "145"), wide("123", "143"), depends("0>2", "0>1")},
		{wide("123", "145"), wide("123", "125"), depends("1>2", "2>0", ">", "012>", "0>0", "0>1", "0>2")},
		{wide("123", "145"), wide("123", "143"), append(timesOver(impl.MaxDepends-1, depend("1>2")), depend("0>2"))},
		// It goes ahead of rows: here the second one has rows ahead of the first one's.
		{wide("123", "124", "563"), wide("123", "124", "163"), depends("2>0", "0>2")},
		{wide("123", "124", "563"), wide("123", "123", "563"), depends("0>2", "2>0")},
		{wide("11", "12", "31", "42"), wide("11", "12", "11", "42"), depends("1>0", "0>1")},
		// The first one of two rows goes ahead of the second one.
		{wide("19", "25", "24", "13"), wide("13", "25", "24", "13"), depends("0>1")},
		{wide("25", "19", "13", "24"), wide("24", "19", "13", "24"), depends("0>1")},
		{wide("15", "17", "13"), wide("15", "15", "13"), depends("0>1")},
		{wide("13", "17", "15"), wide("13", "13", "15"), depends("0>1")},
		{wide("05", "17", "25", "29", "13"), wide("05", "13", "25", "29", "13"), depends("0>1")},
		// Rows that are alike in To are none such.
		{wide("15", "15", "13"), wide("13", "13", "13"), depends("0>1")},
		{wide("15", "15", "25", "23"), wide("13", "13", "23", "23"), depends("0>1")},
		{wide("11", "11", "11", "11", "11", "11", "12", "13"), wide("11", "11", "11", "11", "11", "11", "11", "13"), depends("0>1")},
		// Rows that are alike in some of From are none such.
		{wide("113", "124", "115"), wide("113", "124", "113"), depends("01>2")},
		{wide("113", "214", "215"), wide("113", "214", "214"), depends("01>2")},
		// The first column of To in which they are unlike.
		{wide("123", "145"), wide("123", "125"), depends("0>12")},
		{wide("123", "125"), wide("123", "123"), depends("0>12")},
		{wide("123", "125"), wide("123", "123"), depends("0>012")},
		{wide("312", "512"), wide("312", "312"), depends("12>012")},
		{wide("123456", "723856"), wide("123456", "123856"), depends("12>03")},
		// The first two rows go ahead of the first column.
		{wide("123", "124", "153"), wide("123", "123", "153"), depends("0>12")},
	})
}

func TestChaseStepFindsNothing(t *testing.T) {
	for _, c := range []stepCase{
		{t: wide("0")},
		{t: wide("0"), l: depends(">0")},
		{t: wide("123456"), l: depends(">012345", "0>1")},
		{t: wide("12", "14")},
		{t: wide("12", "14"), l: depends()},
		{t: wide("12", "14"), l: depends(">", "0>", "0>0", "01>01", "1>0", "1>01")},
		{t: wide("12", "34"), l: depends("0>1", "1>0")},
		{t: wide("12", "12"), l: depends("0>1", "1>0", ">01")},
		{t: wide("12", "21"), l: depends("0>1", "1>0")},
		{t: wide("123", "143", "523"), l: depends("01>2", "2>2")},
		{t: wide("0", "1", "2", "3", "4", "5", "6", "7"), l: depends("0>0", ">")},
		{t: wide("7", "7", "7", "7", "7", "7", "7", "7"), l: depends(">0")},
		{t: tableau(3, []int{0, 0, 3}, []int{7, 0, 0}), l: depends("0>12", "2>01")},
	} {
		if got, ok := impl.ChaseStep(c.t, c.l); !isNoTableau(got) || ok {
			t.Errorf("ChaseStep(%v, %v) = %v, %v", c.t, c.l, got, ok)
		}
		if got, steps, ok := impl.ChaseAll(c.t, c.l); !ok || steps != 0 || !sameTableaus(got, c.t) {
			t.Errorf("ChaseAll(%v, %v) = %v, %d, %v", c.t, c.l, got, steps, ok)
		}
	}
}

func TestChaseStepByHand(t *testing.T) {
	thrown := dice{902}
	found, nothing, several := 0, 0, 0
	for range 3000 {
		columns := 1 + thrown.below(impl.MaxColumns)
		one, l := thrown.tableau(columns), thrown.depends(columns, thrown.oneOf(1, 3, impl.MaxDepends))
		want, is := stepByHand(one, l)
		got, ok := impl.ChaseStep(one, l)
		if ok != is || !sameTableaus(got, want) {
			t.Fatalf("ChaseStep(%v, %v) = %v, %v, not %v, %v", one, l, got, ok, want, is)
		}
		if !ok {
			nothing++
			continue
		}
		found++
		if len(placesByHand(one, l)) > 1 {
			several++
		}
		if symbolsIn(got) != symbolsIn(one)-1 || !impl.GoodTableau(got) {
			t.Fatalf("ChaseStep(%v, %v) = %v", one, l, got)
		}
	}
	if found < 500 || nothing < 500 || several < 400 {
		t.Errorf("%d were found, %d of several, %d had nothing", found, several, nothing)
	}
}

func TestChaseAllAsTold(t *testing.T) {
	for _, c := range []struct {
		t, want impl.Tableau
		l       []impl.Depend
		steps   int
	}{
		{wide("0"), wide("0"), nil, 0},
		{wide("12", "14"), wide("12", "14"), nil, 0},
		{wide("12", "14"), wide("12", "12"), depends("0>1"), 1},
		{tableau(3, []int{0, 0, 3}, []int{7, 0, 0}), tableau(3, []int{0, 0, 0}, []int{7, 0, 0}), depends("1>2"), 1},
		{wide("15", "17", "13"), wide("13", "13", "13"), depends("0>1"), 2},
		{wide("15", "15", "13"), wide("13", "13", "13"), depends("0>1"), 1},
		{wide("123", "145"), wide("123", "123"), depends("0>1", "0>2"), 2},
		{wide("123", "145"), wide("123", "123"), depends("0>12"), 2},
		// One thing made alike makes others alike, ahead of it in the list, too.
		{wide("123", "145"), wide("123", "123"), depends("1>2", "0>1"), 2},
		{wide("123456", "189997"), wide("123456", "123456"), depends("4>5", "3>4", "2>3", "1>2", "0>1"), 5},
		{wide("12", "14", "32", "54"), wide("12", "12", "12", "12"), depends("0>1", "1>0"), 3},
		{wide("14", "12", "34", "52"), wide("12", "12", "32", "52"), depends("0>1"), 1},
		{wide("7", "6", "5", "4", "3", "2", "1", "0"), wide("0", "0", "0", "0", "0", "0", "0", "0"), depends(">0"), 7},
		{wide("7", "7", "5", "5", "3", "3", "1", "1"), wide("1", "1", "1", "1", "1", "1", "1", "1"), depends(">0"), 3},
		{wide("12", "34", "56"), wide("12", "32", "52"), depends(">1"), 2},
	} {
		got, steps, ok := impl.ChaseAll(c.t, c.l)
		if !ok || steps != c.steps || !sameTableaus(got, c.want) {
			t.Errorf("ChaseAll(%v, %v) = %v, %d, %v, not %v, %d", c.t, c.l, got, steps, ok, c.want, c.steps)
		}
	}
}

// As many steps as there can be: all numbers of all columns but one each.
func TestChaseAllOfTheMostSteps(t *testing.T) {
	var rows [][]int
	for i := range maxTableauRows {
		var cells []int
		for k := range impl.MaxColumns {
			cells = append(cells, impl.MaxCell-i*impl.MaxColumns-k)
		}
		rows = append(rows, cells)
	}
	one := tableau(impl.MaxColumns, rows...)
	want := tableau(impl.MaxColumns, slices.Repeat([][]int{rows[maxTableauRows-1]}, maxTableauRows)...)
	for _, l := range [][]impl.Depend{depends(">012345"), depends(">5", "5>4", "4>3", "3>2", "2>1", "1>0"), depends("1>0", "2>1", "3>2", "4>3", "5>4", ">5")} {
		got, steps, ok := impl.ChaseAll(one, l)
		if !ok || steps != (maxTableauRows-1)*impl.MaxColumns || !sameTableaus(got, want) {
			t.Errorf("ChaseAll(%v, %v) = %v, %d, %v", one, l, got, steps, ok)
		}
	}
}

// stepsOf does ChaseStep as often as it can be.
func stepsOf(t *testing.T, one impl.Tableau, l []impl.Depend) (impl.Tableau, int) {
	t.Helper()
	chased, steps := one, 0
	for {
		next, ok := impl.ChaseStep(chased, l)
		if !ok {
			return chased, steps
		}
		chased, steps = next, steps+1
		if steps > maxTableauRows*impl.MaxColumns {
			t.Fatalf("ChaseStep(%v, %v) finds no end", one, l)
		}
	}
}

func TestChaseAllIsChaseStepAsOftenAsItCanBe(t *testing.T) {
	thrown := dice{903}
	none, many := 0, 0
	for range 4000 {
		columns := 1 + thrown.below(impl.MaxColumns)
		one, l := thrown.tableau(columns), thrown.depends(columns, thrown.oneOf(1, 3, impl.MaxDepends))
		if thrown.below(3) == 0 {
			one, _ = impl.StartTableau(thrown.parts(columns), columns)
		}
		got, steps, ok := impl.ChaseAll(one, l)
		want, count := stepsOf(t, one, l)
		if !ok || steps != count || !sameTableaus(got, want) {
			t.Fatalf("ChaseAll(%v, %v) = %v, %d, %v, step by step %v, %d", one, l, got, steps, ok, want, count)
		}
		want, count = chaseByHand(one, l)
		if steps != count || !sameTableaus(got, want) {
			t.Fatalf("ChaseAll(%v, %v) = %v, %d, in another order %v, %d", one, l, got, steps, want, count)
		}
		if again, further, good := impl.ChaseAll(got, l); !good || further != 0 || !sameTableaus(again, got) {
			t.Fatalf("ChaseAll(%v, %v) = %v, %d, %v, though it was chased", got, l, again, further, good)
		}
		switch {
		case steps == 0:
			none++
		case steps > 3:
			many++
		}
	}
	if none < 300 || many < 300 {
		t.Errorf("%d had no steps, %d more than three", none, many)
	}
}

// What a chase comes to hangs on what the dependencies say together, not on how they are told.
func TestChaseAllOfTheSameDependsIsTheSame(t *testing.T) {
	thrown := dice{904}
	changed := 0
	for range 600 {
		columns := 1 + thrown.below(impl.MaxColumns)
		one, l := thrown.tableau(columns), thrown.depends(columns, 5)
		cover, ok := impl.CoverOf(l, columns)
		if !ok {
			continue
		}
		back := slices.Clone(l)
		slices.Reverse(back)
		want, steps, _ := impl.ChaseAll(one, l)
		for _, other := range [][]impl.Depend{cover, back, slices.Concat(l, l)} {
			if got, count, ok := impl.ChaseAll(one, other); !ok || count != steps || !sameTableaus(got, want) {
				t.Fatalf("ChaseAll(%v, %v) = %v, %d, %v, by %v %v, %d", one, other, got, count, ok, l, want, steps)
			}
		}
		if steps > 0 {
			changed++
		}
	}
	if changed < 200 {
		t.Errorf("only %d had steps", changed)
	}
}

func checkChaseRefused(t *testing.T, one impl.Tableau, l []impl.Depend) {
	t.Helper()
	if got, ok := impl.ChaseStep(one, l); !isNoTableau(got) || ok {
		t.Errorf("ChaseStep(%v, %v) = %v, %v", one, l, got, ok)
	}
	if got, steps, ok := impl.ChaseAll(one, l); !isNoTableau(got) || steps != 0 || ok {
		t.Errorf("ChaseAll(%v, %v) = %v, %d, %v", one, l, got, steps, ok)
	}
}

func TestChaseRefuses(t *testing.T) {
	for _, bad := range badTableaus() {
		for _, l := range [][]impl.Depend{nil, depends(">"), depends("0>"), depends(">0"), depends("0>1"), depends("0>12"), depends(">012")} {
			checkChaseRefused(t, bad, l)
		}
		if got, ok := impl.TableauTable(bad); !isNoTable(got) || ok {
			t.Errorf("TableauTable(%v) = %v, %v", bad, got, ok)
		}
	}
	for _, bad := range badDependLists() {
		checkChaseRefused(t, wide("012", "034"), bad)
		checkChaseRefused(t, wide("000"), bad)
		checkChaseRefused(t, wide("012", "034", "056", "078"), bad)
	}
	for columns := 1; columns < impl.MaxColumns; columns++ {
		one := tableau(columns, slices.Repeat([]int{1}, columns), slices.Repeat([]int{2}, columns))
		for _, beyond := range []impl.Depend{{To: []int{columns}}, {From: []int{columns}}, {From: []int{columns}, To: []int{0}}, {To: []int{0, columns}}} {
			checkChaseRefused(t, one, []impl.Depend{beyond})
			checkChaseRefused(t, one, []impl.Depend{depend(">0"), beyond})
		}
	}
}

func TestIsLosslessAsTold(t *testing.T) {
	for _, c := range []struct {
		l       []impl.Depend
		parts   [][]int
		columns int
		want    bool
	}{
		{nil, lists("0"), 1, true},
		{nil, lists("0", "0"), 1, true},
		{nil, slices.Repeat(lists("0"), maxParted), 1, true},
		{nil, lists("012345"), 6, true},
		{depends("0>1", ">5"), lists("012345"), 6, true},
		{nil, lists("0", "1"), 2, false},
		{nil, lists("01", "1"), 2, true},
		{nil, lists("1", "01"), 2, true},
		{nil, lists("01", "12"), 3, false},
		{nil, lists("01", "12", "02"), 3, false},
		{nil, lists("01", "12", "012"), 3, true},
		{nil, slices.Repeat(lists("01", "12"), maxParted/2), 3, false},
		{depends("1>2"), lists("01", "12"), 3, true},
		{depends("1>0"), lists("01", "12"), 3, true},
		{depends("0>1"), lists("01", "12"), 3, false},
		{depends("0>2", "2>0"), lists("01", "12"), 3, false},
		{depends("0>1"), lists("01", "02"), 3, true},
		{depends("0>1", "1>2"), lists("01", "02"), 3, true},
		{depends("0>1", "1>2"), lists("01", "12"), 3, true},
		{depends("0>1", "1>2"), lists("02", "12"), 3, false},
		{depends("0>1"), lists("02", "12"), 3, false},
		{depends(">1"), lists("0", "1"), 2, true},
		{depends(">0"), lists("0", "1"), 2, true},
		{depends(">0"), lists("0", "1", "2"), 3, false},
		{depends(">01"), lists("0", "1", "2"), 3, true},
		{depends("0>1"), lists("0", "1"), 2, false},
		{depends("0>123", "4>5"), lists("0123", "45", "04"), 6, true},
		{depends("0>123", "4>5"), lists("0123", "45"), 6, false},
		{depends("0>1", "1>2", "2>3", "3>4", "4>5"), lists("01", "12", "23", "34", "45"), 6, true},
		{depends("0>1", "1>2", "2>3", "3>4"), lists("01", "12", "23", "34", "45"), 6, false},
		// Aho, Beeri and Ullman: no part and no two of them tell the whole.
		{depends("0>2", "1>2", "2>3", "34>2", "24>0"), lists("03", "01", "14", "234", "04"), 5, true},
		{depends("0>2", "1>2", "2>3", "34>2"), lists("03", "01", "14", "234", "04"), 5, false},
		// By three steps, each of which the one ahead makes possible or goes with.
		{depends("0>3", "1>3", "23>0"), lists("01", "12", "023"), 4, true},
		{depends("0>3", "23>0"), lists("01", "12", "023"), 4, false},
		{depends("1>3", "23>0"), lists("01", "12", "023"), 4, false},
		{depends("0>3", "1>3"), lists("01", "12", "023"), 4, false},
		{depends("0>1", "2>3"), lists("01", "23", "02"), 4, true},
		{depends("0>1", "2>3"), lists("01", "23", "13"), 4, false},
	} {
		if got, ok := impl.IsLossless(c.l, c.parts, c.columns); !ok || got != c.want {
			t.Errorf("IsLossless(%v, %v, %d) = %v, %v", c.l, c.parts, c.columns, got, ok)
		}
	}
}

func TestIsLosslessByHand(t *testing.T) {
	thrown := dice{905}
	seen := map[bool]int{}
	for range 2000 {
		columns := 1 + thrown.below(impl.MaxColumns)
		l, parts := thrown.depends(columns, thrown.oneOf(2, 5, impl.MaxDepends)), thrown.parts(columns)
		chased, _ := chaseByHand(startByHand(parts, columns), l)
		want := hasNoughts(chased)
		if got, ok := impl.IsLossless(l, parts, columns); !ok || got != want {
			t.Fatalf("IsLossless(%v, %v, %d) = %v, %v", l, parts, columns, got, ok)
		}
		seen[want]++
	}
	if seen[true] < 300 || seen[false] < 300 {
		t.Error(seen)
	}
}

// Heath's rule: two parts tell the whole just if what both have tells one of them.
func TestIsLosslessOfTwoPartsIsHeathsRule(t *testing.T) {
	thrown := dice{906}
	seen := map[bool]int{}
	for range 150 {
		columns := 2 + thrown.below(3)
		l := thrown.depends(columns, 4)
		all := allParts(firstColumns(columns))[1:]
		for _, first := range all {
			for _, second := range all {
				parts := [][]int{first, second}
				if !goodPartsByHand(parts, columns) {
					continue
				}
				both := common(first, second)
				want := impliedByHand(l, columns, impl.Depend{From: both, To: first}) || impliedByHand(l, columns, impl.Depend{From: both, To: second})
				if got, ok := impl.IsLossless(l, parts, columns); !ok || got != want {
					t.Fatalf("IsLossless(%v, %v, %d) = %v, %v", l, parts, columns, got, ok)
				}
				seen[want]++
			}
		}
	}
	if seen[true] < 500 || seen[false] < 500 {
		t.Error(seen)
	}
}

// In whatever order the parts stand, and some of them twice, the same is told; a further part takes nothing away.
func TestIsLosslessHangsOnNoOrder(t *testing.T) {
	thrown := dice{907}
	seen := map[bool]int{}
	for range 800 {
		columns := 1 + thrown.below(impl.MaxColumns)
		l, parts := thrown.depends(columns, 5), thrown.parts(columns)
		want, _ := impl.IsLossless(l, parts, columns)
		back := slices.Clone(parts)
		slices.Reverse(back)
		others := [][][]int{back}
		if len(parts) < maxParted {
			others = append(others, append(slices.Clone(parts), parts[0]))
		}
		for _, other := range others {
			if got, ok := impl.IsLossless(l, other, columns); !ok || got != want {
				t.Fatalf("IsLossless(%v, %v, %d) = %v, %v, of %v %v", l, other, columns, got, ok, parts, want)
			}
		}
		if len(parts) < maxParted {
			further := append(slices.Clone(parts), thrown.some(columns))
			if got, ok := impl.IsLossless(l, further, columns); !ok || want && !got {
				t.Fatalf("IsLossless(%v, %v, %d) = %v, %v, of %v %v", l, further, columns, got, ok, parts, want)
			}
		}
		seen[want]++
	}
	if seen[true] < 150 || seen[false] < 150 {
		t.Error(seen)
	}
}

// Parts that NormalParts tells always tell the whole.
func TestNormalPartsAreLossless(t *testing.T) {
	thrown := dice{908}
	parted := 0
	for range 1500 {
		columns := 1 + thrown.below(impl.MaxColumns)
		l := thrown.depends(columns, thrown.oneOf(3, 5, impl.MaxDepends))
		parts, good := impl.NormalParts(l, columns)
		if got, ok := impl.IsLossless(l, parts, columns); !good || !ok || !got {
			t.Fatalf("IsLossless(%v, %v, %d) = %v, %v", l, parts, columns, got, ok)
		}
		if len(parts) > 1 {
			parted++
		}
	}
	if parted < 500 {
		t.Errorf("only %d had two parts or more", parted)
	}
}

func TestTableauTableAsTold(t *testing.T) {
	most := impl.MaxCell
	for _, c := range []struct {
		t    impl.Tableau
		want impl.Table
	}{
		{wide("0"), onceOf(1, []int{0})},
		{tableau(1, []int{most}), onceOf(1, []int{most})},
		{wide("0", "0"), onceOf(1, []int{0})},
		{wide("0", "0", "0", "0", "0", "0", "0", "0"), onceOf(1, []int{0})},
		{wide("7", "6", "5", "4", "3", "2", "1", "0"), table(1, countedRows(8, 0, 1)...)},
		{wide("21", "12", "21", "11", "12"), table(2, weighted(1, 1, 1), weighted(1, 1, 2), weighted(1, 2, 1))},
		{wide("10", "01"), table(2, weighted(1, 0, 1), weighted(1, 1, 0))},
		{tableau(2, []int{10, 0}, []int{9, 0}, []int{0, most}, []int{0, 0}), table(2, weighted(1, 0, 0), weighted(1, 0, most), weighted(1, 9, 0), weighted(1, 10, 0))},
		{wide("123456", "123455", "123456"), table(6, weighted(1, 1, 2, 3, 4, 5, 5), weighted(1, 1, 2, 3, 4, 5, 6))},
		{wide("000000"), table(6, weighted(1, 0, 0, 0, 0, 0, 0))},
	} {
		if got, ok := impl.TableauTable(c.t); !ok || !sameTables(got, c.want) {
			t.Errorf("TableauTable(%v) = %v, %v, not %v", c.t, got, ok, c.want)
		}
	}
}

func TestTableauTableByHand(t *testing.T) {
	thrown := dice{909}
	fewer := 0
	for range 1500 {
		one := thrown.tableau(1 + thrown.below(impl.MaxColumns))
		got, ok := impl.TableauTable(one)
		if !ok || !sameTables(got, tableByHand(one)) || !impl.GoodTable(got) {
			t.Fatalf("TableauTable(%v) = %v, %v", one, got, ok)
		}
		if len(got.Rows) < len(one.Rows) {
			fewer++
		}
	}
	if fewer < 200 {
		t.Errorf("only %d had rows alike", fewer)
	}
}

// Dependencies hold in what was chased by them; and ChaseStep finds nothing just where they hold.
func TestDependenciesHoldInWhatWasChased(t *testing.T) {
	thrown := dice{910}
	held, broken := 0, 0
	for range 1200 {
		columns := 1 + thrown.below(impl.MaxColumns)
		one, l := thrown.tableau(columns), thrown.depends(columns, 5)
		before, _ := impl.TableauTable(one)
		_, found := impl.ChaseStep(one, l)
		if found == allHoldByHand(before, l) {
			t.Fatalf("ChaseStep(%v, %v) finds something: %v", one, l, found)
		}
		chased, _, _ := impl.ChaseAll(one, l)
		after, ok := impl.TableauTable(chased)
		if !ok || !allHoldByHand(after, l) {
			t.Fatalf("%v do not all hold in %v, which was chased of %v", l, after, one)
		}
		for _, d := range l {
			if holds, good := impl.HoldsIn(after, d); !holds || !good {
				t.Fatalf("HoldsIn(%v, %v) = %v, %v", after, d, holds, good)
			}
		}
		if found {
			broken++
		} else {
			held++
		}
	}
	if held < 200 || broken < 200 {
		t.Errorf("%d held, %d did not", held, broken)
	}
}

// Promise 9: parts tell the whole if the chase says so.
func TestPartsTellTheWholeIfTheChaseSaysSo(t *testing.T) {
	thrown := dice{911}
	var seen restored
	for range 2500 {
		columns := 1 + thrown.below(impl.MaxColumns)
		l, parts := thrown.depends(columns, 5), thrown.parts(columns)
		lossless, ok := impl.IsLossless(l, parts, columns)
		if !ok {
			t.Fatalf("IsLossless(%v, %v, %d) is refused", l, parts, columns)
		}
		if !lossless {
			continue
		}
		one := thrown.onceWhere(l, columns, thrown.oneOf(8, 25), thrown.oneOf(2, 3, 12))
		seen.check(t, l, one, parts)
	}
	if seen.some < 200 || seen.tall < 100 {
		t.Errorf("%+v", seen)
	}
}

// checkNotTold fails unless what was chased is a table in which all dependencies hold, and of which the parts do not tell the whole. It tells whether there was room to join it.
func checkNotTold(t *testing.T, l []impl.Depend, parts [][]int, columns int) bool {
	t.Helper()
	start, _ := impl.StartTableau(parts, columns)
	chased, _, _ := impl.ChaseAll(start, l)
	one, ok := impl.TableauTable(chased)
	if !ok || !allHoldByHand(one, l) {
		t.Fatalf("of %v, %v: %v do not all hold in %v, %v", parts, chased, l, one, ok)
	}
	joined, room := partAndJoin(t, one, parts)
	if room && (sameTables(joined, one) || len(joined.Rows) <= len(one.Rows)) {
		t.Fatalf("%v hold in %v, of whose parts %v is joined: %v", l, one, parts, joined)
	}
	// Even without room: the row of noughts is there in all parts, but not in the table.
	tables, _ := impl.PartTables(one, parts)
	for i, part := range parts {
		if !isAbove(tables[i], row(make([]int, len(part))...)) {
			t.Fatalf("%v has no noughts in %v", one, part)
		}
	}
	if isAbove(one, row(make([]int, columns)...)) {
		t.Fatalf("%v has noughts everywhere", one)
	}
	return room
}

// Promise 9: if the chase does not say so the chased rows are a table of which the parts do not tell the whole.
func TestPartsDoNotTellTheChasedRowsIfTheChaseDoesNotSaySo(t *testing.T) {
	thrown := dice{912}
	told, refused := 0, 0
	for range 3000 {
		columns := 1 + thrown.below(impl.MaxColumns)
		l, parts := thrown.depends(columns, 4), thrown.parts(columns)
		lossless, ok := impl.IsLossless(l, parts, columns)
		if !ok {
			t.Fatalf("IsLossless(%v, %v, %d) is refused", l, parts, columns)
		}
		if lossless {
			continue
		}
		if checkNotTold(t, l, parts, columns) {
			told++
		} else {
			refused++
		}
	}
	if told < 400 {
		t.Errorf("%d told more, %d had no room", told, refused)
	}
}

// smallDependLists are all lists of up to two dependencies of three columns with a To of one further column.
func smallDependLists() [][]impl.Depend {
	var single []impl.Depend
	for _, from := range lists("", "0", "1", "2", "01", "02", "12") {
		for n := range 3 {
			if !slices.Contains(from, n) {
				single = append(single, impl.Depend{From: from, To: []int{n}})
			}
		}
	}
	out := [][]impl.Depend{nil}
	for i, first := range single {
		out = append(out, []impl.Depend{first})
		for _, second := range single[:i] {
			out = append(out, []impl.Depend{first, second})
		}
	}
	return out
}

// Promise 9, at all tables of three columns with few cells: the chase says so just if all of them in which the dependencies hold are joined again as they were, with what was chased among them.
func TestTheChaseSaysSoOfAllSmallTables(t *testing.T) {
	var cells [][]int
	for _, l := range listsUpTo(3, []int{0, 1}) {
		if len(l) == 3 {
			cells = append(cells, l)
		}
	}
	var all []impl.Table
	for _, some := range allParts([]int{0, 1, 2, 3, 4, 5, 6, 7}) {
		var rows [][]int
		for _, n := range some {
			rows = append(rows, cells[n])
		}
		all = append(all, onceOf(3, rows...))
	}
	partings := [][][]int{lists("012"), lists("01", "12"), lists("02", "12"), lists("01", "2"), lists("01", "12", "02"), lists("0", "1", "2"), lists("02", "02", "1")}
	stays := make([][]bool, len(partings))
	for i, parts := range partings {
		for _, one := range all {
			joined, room := partAndJoin(t, one, parts)
			stays[i] = append(stays[i], room && sameTables(joined, one))
		}
	}
	seen := map[bool]int{}
	for _, l := range smallDependLists() {
		var held []int
		for n, one := range all {
			if allHoldByHand(one, l) {
				held = append(held, n)
			}
		}
		for i, parts := range partings {
			lossless, ok := impl.IsLossless(l, parts, 3)
			if !ok {
				t.Fatalf("IsLossless(%v, %v, 3) is refused", l, parts)
			}
			for _, n := range held {
				if lossless && !stays[i][n] {
					t.Fatalf("IsLossless(%v, %v, 3), but %v is joined as another one", l, parts, all[n])
				}
			}
			if !lossless && !checkNotTold(t, l, parts, 3) {
				t.Fatalf("%v, %v: no room", l, parts)
			}
			seen[lossless]++
		}
	}
	if seen[true] < 50 || seen[false] < 50 {
		t.Error(seen)
	}
}

func chaseAnswers(one impl.Tableau, l []impl.Depend) []any {
	chased, steps, ok := impl.ChaseAll(one, l)
	return []any{chased, steps, ok}
}

func anyTableaus() []impl.Tableau {
	thrown := dice{913}
	out := append(goodTableaus(), badTableaus()...)
	for range 60 {
		out = append(out, thrown.tableau(1+thrown.below(impl.MaxColumns)))
	}
	return out
}

// Promise 19: each function of chapter 9 answers at any arguments, the same each time, in new memory, and writes into none.
func TestChaseAnswersAndWritesNothing(t *testing.T) {
	thrown := dice{914}
	all := anyDepends()
	for _, one := range anyTableaus() {
		one := withGuards(one)
		checkCall(t, "GoodTableau", func() []any { return []any{impl.GoodTableau(one)} }, one)
		checkCall(t, "TableauTable", func() []any { return answers(impl.TableauTable(one)) }, one)
		asked := [][]impl.Depend{nil, depends(">0"), depends("0>1", "1>2"), depends(">012345"), all[thrown.below(len(all))], all[thrown.below(len(all))]}
		if one.Columns >= 1 && one.Columns <= impl.MaxColumns {
			asked = append(asked, thrown.depends(one.Columns, impl.MaxDepends), thrown.depends(one.Columns, 3))
		}
		for _, l := range asked {
			l := withGuards(l)
			checkCall(t, "ChaseStep", func() []any { return answers(impl.ChaseStep(one, l)) }, one, l)
			checkCall(t, "ChaseAll", func() []any { return chaseAnswers(one, l) }, one, l)
		}
	}
	for _, parts := range anyPartLists() {
		parts := withGuards(parts)
		for _, columns := range append(badColumns(), 1, 2, 3, 4, 5, 6) {
			l := withGuards(all[thrown.below(len(all))])
			checkCall(t, "StartTableau", func() []any { return answers(impl.StartTableau(parts, columns)) }, parts)
			checkCall(t, "IsLossless", func() []any { return answers(impl.IsLossless(l, parts, columns)) }, l, parts)
			checkCall(t, "IsLossless", func() []any { return answers(impl.IsLossless(nil, parts, columns)) }, parts)
		}
	}
}

// Rows that share their cells are handed in; what is told shares none, and has them as if they had been apart.
func TestChaseOfRowsThatShareTheirCells(t *testing.T) {
	cells := []int{5, 4, 3, 2, 1, 0}
	whole := impl.Tableau{Columns: 3, Rows: []impl.Row{{Cells: cells[:3]}, {Cells: cells[1:4]}, {Cells: cells[:3]}, {Cells: cells[3:6]}}}
	apart := tableau(3, cellsOf(whole)...)
	for _, l := range [][]impl.Depend{nil, depends(">0"), depends(">12"), depends("0>12", ">0"), depends(">012")} {
		checkCall(t, "ChaseStep", func() []any { return answers(impl.ChaseStep(whole, l)) }, whole, l)
		checkCall(t, "ChaseAll", func() []any { return chaseAnswers(whole, l) }, whole, l)
		if got, want := fmt.Sprint(answers(impl.ChaseStep(whole, l)), chaseAnswers(whole, l)), fmt.Sprint(answers(impl.ChaseStep(apart, l)), chaseAnswers(apart, l)); got != want {
			t.Errorf("%v by %v: %s, apart %s", whole, l, got, want)
		}
	}
	checkCall(t, "TableauTable", func() []any { return answers(impl.TableauTable(whole)) }, whole)
}

// What lies behind a list's length does not count.
func TestChaseDoesNotReadBehindItsLists(t *testing.T) {
	all := func(one impl.Tableau, l []impl.Depend, parts [][]int, columns int) string {
		return fmt.Sprint(impl.GoodTableau(one), answers(impl.TableauTable(one)), answers(impl.ChaseStep(one, l)), chaseAnswers(one, l), answers(impl.StartTableau(parts, columns)), answers(impl.IsLossless(l, parts, columns)))
	}
	thrown := dice{915}
	partings := anyPartLists()
	for i, one := range anyTableaus() {
		parts, columns := partings[i%len(partings)], cmp.Or(min(max(one.Columns, 0), impl.MaxColumns), 1)
		for _, l := range [][]impl.Depend{nil, thrown.depends(columns, 5), depends(">0", "0>12")} {
			plain := all(one, l, parts, columns)
			if got := all(withGuards(one), withGuards(l), withGuards(parts), columns); got != plain {
				t.Errorf("%v by %v, parts %v: %s, with guards behind the lists %s", one, l, parts, plain, got)
			}
		}
	}
}
