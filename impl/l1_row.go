package impl

import (
	"strconv"
	"strings"
)

const MaxColumns = 6
const MaxCell = 100000

type Row struct {
	Cells []int
}

const (
	rowLess = iota - 1
	rowSame
	rowMore
)

const (
	leftOfPair = iota
	rightOfPair
	placesOfPair
)

const bytesOfCell = 3

// cellArray has a good row's cells raised above 0, and 0 behind the last one:
// so a row that ends is less by the rule for cells, and rows are alike just
// where their arrays are.
type cellArray [MaxColumns]int

func GoodRow(r Row) bool {
	if len(r.Cells) > MaxColumns {
		return false
	}
	for _, cell := range r.Cells {
		if cell < -MaxCell || cell > MaxCell {
			return false
		}
	}
	return true
}

func CompareRows(a Row, b Row) (int, bool) {
	if !GoodRow(a) || !GoodRow(b) {
		return 0, false
	}
	return compareArrays(arrayOf(a), arrayOf(b)), true
}

func arrayOf(r Row) cellArray {
	var cells cellArray
	for i, cell := range r.Cells {
		cells[i] = cell + MaxCell + 1
	}
	return cells
}

func compareArrays(a cellArray, b cellArray) int {
	if a == b {
		return rowSame
	}
	// The arrays are unlike, so the loop ends ahead of their end.
	at := 0
	for a[at] == b[at] {
		at++
	}
	if a[at] < b[at] {
		return rowLess
	}
	return rowMore
}

func RowBytes(r Row) (string, bool) {
	if !GoodRow(r) {
		return "", false
	}
	text := []byte{byte(len(r.Cells))}
	for _, cell := range r.Cells {
		raised := cell + MaxCell
		text = append(text, byte(raised>>16), byte(raised>>8), byte(raised))
	}
	return string(text), true
}

func ReadRow(s string) (Row, bool) {
	if len(s)%bytesOfCell != 1 || int(s[0]) != len(s)/bytesOfCell {
		return Row{}, false
	}
	var r Row
	for at := 1; at < len(s); at += bytesOfCell {
		raised := int(s[at])<<16 | int(s[at+1])<<8 | int(s[at+2])
		r.Cells = append(r.Cells, raised-MaxCell)
	}
	if !GoodRow(r) {
		return Row{}, false
	}
	return r, true
}

func PickCells(r Row, columns []int) (Row, bool) {
	if !GoodRow(r) || len(columns) > MaxColumns {
		return Row{}, false
	}
	var picked Row
	for _, column := range columns {
		if column < 0 || column >= len(r.Cells) {
			return Row{}, false
		}
		picked.Cells = append(picked.Cells, r.Cells[column])
	}
	return picked, true
}

func JoinRows(a Row, b Row, pairs [][]int) (Row, bool) {
	if !arePairs(pairs) {
		return Row{}, false
	}
	columnsOfB := sideOf(pairs, rightOfPair)
	pickedA, goodA := PickCells(a, sideOf(pairs, leftOfPair))
	pickedB, goodB := PickCells(b, columnsOfB)
	if !goodA || !goodB || arrayOf(pickedA) != arrayOf(pickedB) {
		return Row{}, false
	}
	joined := joinCells(a, b, columnsOfB)
	if !GoodRow(joined) {
		return Row{}, false
	}
	return joined, true
}

func arePairs(pairs [][]int) bool {
	if len(pairs) > MaxColumns {
		return false
	}
	for _, pair := range pairs {
		if len(pair) != placesOfPair {
			return false
		}
	}
	return true
}

func sideOf(pairs [][]int, side int) []int {
	var columns []int
	for _, pair := range pairs {
		columns = append(columns, pair[side])
	}
	return columns
}

// joinCells takes columns of b that were found to be there.
func joinCells(a Row, b Row, pairedOfB []int) Row {
	var paired [MaxColumns]bool
	for _, column := range pairedOfB {
		paired[column] = true
	}
	var joined Row
	joined.Cells = append(joined.Cells, a.Cells...)
	for column, cell := range b.Cells {
		if !paired[column] {
			joined.Cells = append(joined.Cells, cell)
		}
	}
	return joined
}

func RowText(r Row) (string, bool) {
	if !GoodRow(r) {
		return "", false
	}
	var words []string
	for _, cell := range r.Cells {
		words = append(words, strconv.Itoa(cell))
	}
	return strings.Join(words, ","), true
}
