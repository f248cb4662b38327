package tests

import (
	"fmt"
	"math"
	"slices"
	"strings"
	"testing"

	"loop.example/g00305/impl"
)

// runOf tells the run of a text: "r10 w02" is a read of item 0 by transaction 1, then a write of item 2 by transaction 0.
func runOf(s string) []impl.Step {
	var out []impl.Step
	for _, one := range strings.Fields(s) {
		kind := 1 + strings.IndexByte("rw", one[0])
		out = append(out, impl.Step{Txn: int(one[1] - '0'), Kind: kind, Item: int(one[2] - '0')})
	}
	return out
}

func readBy(txn, item int) impl.Step {
	return impl.Step{Txn: txn, Kind: impl.StepRead, Item: item}
}

func writeBy(txn, item int) impl.Step {
	return impl.Step{Txn: txn, Kind: impl.StepWrite, Item: item}
}

// mostSteps has as many steps as there may be, of all transactions and all items.
func mostSteps() []impl.Step {
	var out []impl.Step
	for n := range impl.MaxSteps {
		out = append(out, impl.Step{Txn: n % 6, Kind: 1 + n/6%2, Item: n / 3 % 4})
	}
	return out
}

// oneByOne has all transactions from the last one to the first, each with all items.
func oneByOne() []impl.Step {
	var out []impl.Step
	for n := range 24 {
		out = append(out, impl.Step{Txn: 5 - n/4, Kind: 1 + n%2, Item: n % 4})
	}
	return out
}

func goodStepByHand(s impl.Step) bool {
	return slices.Contains(digits("012345"), s.Txn) && slices.Contains(digits("12"), s.Kind) && slices.Contains(digits("0123"), s.Item)
}

func goodRunByHand(l []impl.Step) bool {
	good := len(l) <= 40
	for _, s := range l {
		good = good && goodStepByHand(s)
	}
	return good
}

func clashByHand(a, b impl.Step) bool {
	return a.Txn != b.Txn && a.Item == b.Item && (a.Kind == impl.StepWrite || b.Kind == impl.StepWrite)
}

// conflictsByHand asks of each two transactions whether some pair of their steps clashes.
func conflictsByHand(l []impl.Step) [][]int {
	out := make([][]int, 6)
	for txn := range out {
		for other := range out {
			found := false
			for i, a := range l {
				for j, b := range l {
					found = found || i < j && a.Txn == txn && b.Txn == other && clashByHand(a, b)
				}
			}
			if found {
				out[txn] = append(out[txn], other)
			}
		}
	}
	return out
}

func txnsByHand(l []impl.Step) []int {
	var out []int
	for txn := range 6 {
		if slices.ContainsFunc(l, func(s impl.Step) bool { return s.Txn == txn }) {
			out = append(out, txn)
		}
	}
	return out
}

// standsAhead tells whether each transaction of the order stands ahead of all that it has to.
func standsAhead(order []int, of [][]int) bool {
	for at, txn := range order {
		for _, other := range of[txn] {
			if slices.Index(order, other) < at {
				return false
			}
		}
	}
	return true
}

// serialOrdersByHand has all orders that will do, the least one first.
func serialOrdersByHand(l []impl.Step) [][]int {
	of := conflictsByHand(l)
	return slices.DeleteFunc(ordersOf(txnsByHand(l)), func(order []int) bool { return !standsAhead(order, of) })
}

// lastWriteByHand looks back from a place in the run.
func lastWriteByHand(l []impl.Step, ahead, item int) int {
	for n := ahead - 1; n >= 0; n-- {
		if l[n].Item == item && l[n].Kind == impl.StepWrite {
			return n
		}
	}
	return -1
}

func readsByHand(l []impl.Step) ([]impl.Source, []int) {
	var sources []impl.Source
	for n, s := range l {
		if s.Kind == impl.StepRead {
			sources = append(sources, impl.Source{Step: n, From: lastWriteByHand(l, n, s.Item)})
		}
	}
	var last []int
	for item := range 4 {
		last = append(last, lastWriteByHand(l, len(l), item))
	}
	return sources, last
}

func serialRunByHand(l []impl.Step, order []int) []impl.Step {
	out := slices.Clone(l)
	slices.SortStableFunc(out, func(a, b impl.Step) int { return slices.Index(order, a.Txn) - slices.Index(order, b.Txn) })
	return out
}

// playByHand has each write lay down who it is, and each read note what it finds: what all transactions noted, and what lies there at the end.
func playByHand(l []impl.Step) string {
	var items [4]string
	var notes [6][]string
	for _, s := range l {
		note := fmt.Sprint(s.Item, " is ", items[s.Item])
		if s.Kind == impl.StepWrite {
			items[s.Item] = fmt.Sprint(s.Txn, "'s step ", len(notes[s.Txn]))
			note = fmt.Sprint(s.Item, " was written")
		}
		notes[s.Txn] = append(notes[s.Txn], note)
	}
	return fmt.Sprintf("%q %q", notes, items)
}

func sameRunsByHand(a, b []impl.Step) bool {
	return playByHand(a) == playByHand(b)
}

// run throws steps of so many transactions and items, a write one time of so many.
func (d *dice) run(steps, txns, items, writes int) []impl.Step {
	var out []impl.Step
	for range steps {
		kind := impl.StepRead
		if d.below(writes) == 0 {
			kind = impl.StepWrite
		}
		out = append(out, impl.Step{Txn: d.below(txns), Kind: kind, Item: d.below(items)})
	}
	return out
}

// apartRun has some transactions, each with few steps: so there are orders of many of them.
func (d *dice) apartRun() []impl.Step {
	return d.run(d.below(14), 1+d.below(6), 1+d.below(4), 1+d.below(5))
}

// nearlySerial changes some neighbours of a serial run that do not clash, and now and then some that do.
func (d *dice) nearlySerial() []impl.Step {
	orders := ordersOf(firstNumbers(6))
	l := serialRunByHand(d.run(6+d.below(35), 6, 1+d.below(4), 1+d.below(4)), orders[d.below(len(orders))])
	bold := d.below(3) == 0
	for range 200 {
		k := d.below(len(l) - 1)
		if l[k].Txn != l[k+1].Txn && (!clashByHand(l[k], l[k+1]) || bold && d.below(150) == 0) {
			l[k], l[k+1] = l[k+1], l[k]
		}
	}
	return l
}

func (d *dice) anyRun() []impl.Step {
	switch d.below(4) {
	case 0:
		return d.apartRun()
	case 1:
		return d.nearlySerial()
	case 2:
		return d.run(d.below(41), 1+d.below(6), 1+d.below(4), 1+d.below(8))
	}
	return d.run(d.below(8), 1+d.below(3), 1+d.below(2), 2)
}

// runsUpTo has all runs of so many steps at most, of some transactions and items.
func runsUpTo(longest, txns, items int) [][]impl.Step {
	var out [][]impl.Step
	for _, l := range listsUpTo(longest, firstNumbers(txns*items*2)) {
		var run []impl.Step
		for _, n := range l {
			run = append(run, impl.Step{Txn: n / 2 / items, Kind: 1 + n%2, Item: n / 2 % items})
		}
		out = append(out, run)
	}
	return out
}

func smallRuns() [][]impl.Step {
	return slices.Concat(runsUpTo(4, 2, 2), runsUpTo(5, 3, 1), runsUpTo(6, 2, 1), runsUpTo(2, 6, 4))
}

func goodRuns() [][]impl.Step {
	return [][]impl.Step{
		nil, {}, runOf("r00"), runOf("w00"), runOf("r53"), runOf("w53"), runOf("r00 r00"), runOf("w00 r00 w00"),
		runOf("r10 w01 w10 r00"), runOf("r00 r10 w00 w10"), runOf("w00 w10 w11 w01"), runOf("w00 r10 w11 r21 w22 r02"),
		runOf("r00 w10 w00 w20"), runOf("r20 r30 r51 r50 r00"), runOf("w20 r30 w51 r50 w00 r23 w33"),
		mostSteps(), mostSteps()[:39], oneByOne(),
		slices.Repeat(runOf("r00"), 40), slices.Repeat(runOf("w53"), 40), slices.Repeat(runOf("w00 w10"), 20),
	}
}

// changedRuns has a good run with one step changed each.
func changedRuns(l []impl.Step) [][]impl.Step {
	var out [][]impl.Step
	change := func(n int, by func(*impl.Step)) {
		copied := slices.Clone(l)
		by(&copied[n])
		out = append(out, copied)
	}
	for n := range l {
		if n > 1 && n < len(l)-1 && n != len(l)/2 {
			continue
		}
		for _, bad := range []int{-1, 6, 7, 64, -6, math.MinInt, math.MaxInt} {
			change(n, func(s *impl.Step) { s.Txn = bad })
		}
		for _, bad := range []int{-1, 4, 5, 64, -4, math.MinInt, math.MaxInt} {
			change(n, func(s *impl.Step) { s.Item = bad })
		}
		for _, bad := range []int{0, 3, -1, 4, -2, math.MinInt, math.MaxInt} {
			change(n, func(s *impl.Step) { s.Kind = bad })
		}
		change(n, func(s *impl.Step) { *s = impl.Step{} })
	}
	return out
}

func badRuns() [][]impl.Step {
	out := [][]impl.Step{
		append(mostSteps(), readBy(0, 0)), append([]impl.Step{writeBy(5, 3)}, mostSteps()...), slices.Repeat(runOf("r00"), 41), slices.Repeat(runOf("w10"), 41),
		slices.Repeat(mostSteps(), 25), slices.Repeat([]impl.Step{{}}, 40), make([]impl.Step, 1), make([]impl.Step, 41), make([]impl.Step, 1000),
	}
	for _, l := range goodRuns() {
		out = append(out, changedRuns(l)...)
	}
	return out
}

func TestGoodStepsAsTold(t *testing.T) {
	if impl.MaxTxns != 6 || impl.MaxItems != 4 || impl.MaxSteps != 40 || impl.StepRead != 1 || impl.StepWrite != 2 {
		t.Error(impl.MaxTxns, impl.MaxItems, impl.MaxSteps, impl.StepRead, impl.StepWrite)
	}
	for _, l := range append(goodRuns(), smallRuns()...) {
		if !impl.GoodSteps(l) || !goodRunByHand(l) {
			t.Errorf("GoodSteps(%v) is false", l)
		}
	}
	for _, l := range badRuns() {
		if impl.GoodSteps(l) || goodRunByHand(l) {
			t.Errorf("GoodSteps(%v) is true", l)
		}
	}
}

func TestGoodStepsAtEachNumber(t *testing.T) {
	for many := range 60 {
		for _, one := range runOf("r00 w53") {
			if got := impl.GoodSteps(slices.Repeat([]impl.Step{one}, many)); got != (many <= 40) {
				t.Errorf("of %d steps GoodSteps is %v", many, got)
			}
		}
	}
	for txn := -2; txn < 9; txn++ {
		for kind := -2; kind < 6; kind++ {
			for item := -2; item < 7; item++ {
				s := impl.Step{Txn: txn, Kind: kind, Item: item}
				for _, l := range [][]impl.Step{{s}, {s, readBy(0, 0)}, {writeBy(5, 3), s}} {
					if got := impl.GoodSteps(l); got != goodStepByHand(s) {
						t.Errorf("GoodSteps(%v) = %v", l, got)
					}
				}
			}
		}
	}
}

func checkConflicts(t *testing.T, l []impl.Step, want [][]int) {
	t.Helper()
	if got, ok := impl.ConflictsOf(l); !ok || !sameLists(got, want) {
		t.Fatalf("ConflictsOf(%v) = %v, %v, not %v", l, got, ok, want)
	}
}

func TestConflictsOfAsTold(t *testing.T) {
	none := lists("", "", "", "", "", "")
	for _, one := range []struct {
		run  string
		want [][]int
	}{
		{"", none},
		{"r00", none}, {"w53", none},
		// Of one transaction alone.
		{"w00 r00 w00", none},
		// Two that read do not clash, whoever else does.
		{"r00 r10", none}, {"r00 r10 r20 r30 r40 r50 r00", none},
		// Two items.
		{"w00 w11", none}, {"r00 w11 w02 r13", none},
		{"r00 w10", lists("1", "", "", "", "", "")},
		{"w00 r10", lists("1", "", "", "", "", "")},
		{"w00 w10", lists("1", "", "", "", "", "")},
		{"w10 w00", lists("", "0", "", "", "", "")},
		{"w53 r03", lists("", "", "", "", "", "0")},
		// Not only what stands next to it.
		{"r30 r51 r42 w00", lists("", "", "", "0", "", "")},
		{"w10 r10 w20 r30 r00", lists("", "023", "03", "", "", "")},
		{"r10 w01 w10 r00", lists("", "0", "", "", "", "")},
		// Rings.
		{"r00 r10 w00 w10", lists("1", "0", "", "", "", "")},
		{"w00 r10 w11 r21 w22 r02", lists("1", "2", "0", "", "", "")},
		// All of them, and from the last one on.
		{"w00 w10 w20 w30 w40 w50", lists("12345", "2345", "345", "45", "5", "")},
		{"w50 r40 r30 r20 r10 w00", lists("", "0", "0", "0", "0", "01234")},
		{"w00 w10 w20 w30 w40 w50 w00 w10 w20 w30 w40 w50", lists("12345", "02345", "01345", "01245", "01235", "01234")},
	} {
		checkConflicts(t, runOf(one.run), one.want)
		checkConflicts(t, runOf(one.run), conflictsByHand(runOf(one.run)))
	}
}

func TestConflictsOfByHand(t *testing.T) {
	for _, l := range append(goodRuns(), smallRuns()...) {
		checkConflicts(t, l, conflictsByHand(l))
	}
	thrown := dice{1301}
	for range 3000 {
		l := thrown.anyRun()
		checkConflicts(t, l, conflictsByHand(l))
	}
}

func checkSerialOrder(t *testing.T, l []impl.Step, want []int, wanted bool) {
	t.Helper()
	if got, is, ok := impl.SerialOrder(l); !ok || is != wanted || !slices.Equal(got, want) {
		t.Fatalf("SerialOrder(%v) = %v, %v, %v, not %v, %v", l, got, is, ok, want, wanted)
	}
}

// checkSerialByHand tells how many orders there are.
func checkSerialByHand(t *testing.T, l []impl.Step) int {
	t.Helper()
	orders := serialOrdersByHand(l)
	if len(orders) == 0 {
		checkSerialOrder(t, l, nil, false)
	} else {
		checkSerialOrder(t, l, orders[0], true)
	}
	return len(orders)
}

func TestSerialOrderAsTold(t *testing.T) {
	for _, one := range []struct {
		run   string
		order string
		is    bool
	}{
		// No steps: no transaction, and nothing in the way.
		{"", "", true},
		{"r00", "0", true}, {"w53", "5", true}, {"w20 r20 w20", "2", true},
		{"r10 w01 w10 r00", "10", true},
		// Reads alone: the least order, of those that have steps.
		{"r50 r30 r00 r50", "035", true}, {"r50 r40 r30 r20 r10 r00", "012345", true}, {"w53 w31 w02", "035", true},
		{"w10 w00", "10", true}, {"w00 w10", "01", true}, {"r50 w00", "50", true},
		// 0 comes last, and the others in the least order; or in between.
		{"w50 r00", "50", true}, {"r50 w40 r41 w01 r13 r23", "12540", true}, {"w50 w30 w00 r22 r11", "12530", true}, {"w40 w10 r53 r03 r33", "03415", true},
		// Who may come next hangs on who stands: a lesser one than some that might have all along, or a greater one.
		{"w30 w20 w21 w01 w42 w12", "32041", true}, {"w30 w50 w51 w01 r42", "3450", true},
		{"w50 w40 w30 w20 w10 w00", "543210", true}, {"w00 w10 w20 w30 w40 w50", "012345", true},
		// Rings.
		{"r00 r10 w00 w10", "", false}, {"w00 w10 w00", "", false}, {"w10 r00 w10", "", false}, {"r10 w00 r10", "", false}, {"w00 w10 w11 w01", "", false},
		{"w00 r10 w11 r21 w22 r02", "", false}, {"w30 w50 w51 w41 w42 w32", "", false},
		// A ring of some, behind and ahead of others.
		{"w00 w10 w20 w10 w30", "", false}, {"w50 w40 w50 r01", "", false}, {"r02 r12 w30 w20 w30", "", false},
		// A ring through all six.
		{"w00 w10 w11 w21 w22 w32 w33 w43 w40 w50 w51 w01", "", false},
	} {
		checkSerialOrder(t, runOf(one.run), digits(one.order), one.is)
		checkSerialByHand(t, runOf(one.run))
	}
}

func TestSerialOrderByHand(t *testing.T) {
	for _, l := range append(goodRuns(), smallRuns()...) {
		checkSerialByHand(t, l)
	}
	thrown := dice{1302}
	none, one, several, wide := 0, 0, 0, 0
	for n := range 1500 {
		l := thrown.anyRun()
		if n%2 == 0 {
			l = thrown.nearlySerial()
		}
		switch many := checkSerialByHand(t, l); {
		case many == 0:
			none++
		case many == 1:
			one++
		default:
			several++
			if len(txnsByHand(l)) == 6 {
				wide++
			}
		}
	}
	if none < 200 || one < 200 || several < 300 || wide < 80 {
		t.Error(none, one, several, wide)
	}
}

// Two and three transactions in a ring, whatever the kinds of their steps: there is no order as soon as all of them clash.
func TestRingsHaveNoOrder(t *testing.T) {
	kinds := []func(int, int) impl.Step{readBy, writeBy}
	for many := 2; many <= 4; many++ {
		for _, l := range listsUpTo(2*many, digits("01")) {
			if len(l) != 2*many {
				continue
			}
			var run []impl.Step
			clashes := 0
			for txn := range many {
				run = append(run, kinds[l[2*txn]](txn, txn), kinds[l[2*txn+1]]((txn+1)%many, txn))
				clashes += max(l[2*txn], l[2*txn+1])
			}
			if _, is, ok := impl.SerialOrder(run); !ok || is != (clashes < many) {
				t.Errorf("SerialOrder(%v) tells %v, %v", run, is, ok)
			}
		}
	}
}

func checkReads(t *testing.T, l []impl.Step, sources []impl.Source, last []int) {
	t.Helper()
	got, of, ok := impl.ReadsFrom(l)
	if !ok || !slices.Equal(got, sources) || !slices.Equal(of, last) {
		t.Fatalf("ReadsFrom(%v) = %v, %v, %v, not %v, %v", l, got, of, ok, sources, last)
	}
}

func TestReadsFromAsTold(t *testing.T) {
	for _, one := range []struct {
		run     string
		sources []impl.Source
		last    []int
	}{
		{"", nil, []int{-1, -1, -1, -1}},
		{"r00", []impl.Source{{Step: 0, From: -1}}, []int{-1, -1, -1, -1}},
		{"w00", nil, []int{0, -1, -1, -1}},
		{"w53", nil, []int{-1, -1, -1, 0}},
		{"r10 w01 w10 r00", []impl.Source{{Step: 0, From: -1}, {Step: 3, From: 2}}, []int{2, 1, -1, -1}},
		// A write is none of what is read ahead of it, and another item's none at all.
		{"r00 w00", []impl.Source{{Step: 0, From: -1}}, []int{1, -1, -1, -1}},
		{"w01 r00", []impl.Source{{Step: 1, From: -1}}, []int{-1, 0, -1, -1}},
		// What it wrote itself.
		{"w00 r00", []impl.Source{{Step: 1, From: 0}}, []int{0, -1, -1, -1}},
		{"w00 w10 r00 r10", []impl.Source{{Step: 2, From: 1}, {Step: 3, From: 1}}, []int{1, -1, -1, -1}},
		// The last one of several.
		{"w30 w30 r20 w40 r20 r50", []impl.Source{{Step: 2, From: 1}, {Step: 4, From: 3}, {Step: 5, From: 3}}, []int{3, -1, -1, -1}},
		{"w00 w11 w22 w33 r43 r42 r41 r40", []impl.Source{{Step: 4, From: 3}, {Step: 5, From: 2}, {Step: 6, From: 1}, {Step: 7, From: 0}}, []int{0, 1, 2, 3}},
	} {
		checkReads(t, runOf(one.run), one.sources, one.last)
		sources, last := readsByHand(runOf(one.run))
		checkReads(t, runOf(one.run), sources, last)
	}
}

func TestReadsFromByHand(t *testing.T) {
	some := append(goodRuns(), smallRuns()...)
	thrown := dice{1303}
	for range 5000 {
		some = append(some, thrown.anyRun())
	}
	never, own, others := 0, 0, 0
	for _, l := range some {
		sources, last := readsByHand(l)
		checkReads(t, l, sources, last)
		for _, one := range sources {
			switch {
			case one.From < 0:
				never++
			case l[one.From].Txn == l[one.Step].Txn:
				own++
			default:
				others++
			}
		}
	}
	if never < 1000 || own < 1000 || others < 1000 {
		t.Error(never, own, others)
	}
}

// All reads, or all writes.
func TestReadsFromOfOneKind(t *testing.T) {
	reads, writes := slices.Repeat(runOf("r00 r51"), 20), slices.Repeat(runOf("w00 w51"), 20)
	sources, last, ok := impl.ReadsFrom(reads)
	if !ok || len(sources) != 40 || !slices.Equal(last, []int{-1, -1, -1, -1}) {
		t.Errorf("of reads alone %v, %v, %v", sources, last, ok)
	}
	for n, one := range sources {
		if one != (impl.Source{Step: n, From: -1}) {
			t.Errorf("read %d is told as %v", n, one)
		}
	}
	if sources, last, ok := impl.ReadsFrom(writes); !ok || len(sources) != 0 || !slices.Equal(last, []int{38, 39, -1, -1}) {
		t.Errorf("of writes alone %v, %v, %v", sources, last, ok)
	}
}

func TestSerialRunAsTold(t *testing.T) {
	for _, one := range []struct {
		run, order, want string
	}{
		{"", "", ""},
		{"w53", "5", "w53"},
		{"r10 w01 w10 r00", "10", "r10 w10 w01 r00"},
		{"r10 w01 w10 r00", "01", "w01 r00 r10 w10"},
		// An order need not be one that SerialOrder would tell.
		{"r00 r10 w00 w10", "01", "r00 w00 r10 w10"},
		{"r00 r10 w00 w10", "10", "r10 w10 r00 w00"},
		{"w50 r03 r31 w52 w02 r30", "305", "r31 r30 r03 w02 w50 w52"},
		{"w00 w10 w20 w30 w40 w50", "543210", "w50 w40 w30 w20 w10 w00"},
		{"r20 r20 w20", "2", "r20 r20 w20"},
	} {
		got, ok := impl.SerialRun(runOf(one.run), digits(one.order))
		if !ok || !slices.Equal(got, runOf(one.want)) || !slices.Equal(got, serialRunByHand(runOf(one.run), digits(one.order))) {
			t.Errorf("SerialRun(%s, %s) = %v, %v", one.run, one.order, got, ok)
		}
	}
}

func TestSerialRunByHand(t *testing.T) {
	some := append(goodRuns(), smallRuns()...)
	thrown := dice{1304}
	for range 150 {
		some = append(some, thrown.anyRun())
	}
	for _, l := range some {
		for _, order := range ordersOf(txnsByHand(l)) {
			got, ok := impl.SerialRun(l, order)
			if !ok || !slices.Equal(got, serialRunByHand(l, order)) {
				t.Fatalf("SerialRun(%v, %v) = %v, %v", l, order, got, ok)
			}
		}
	}
}

// Of each list of up to four numbers just the orders of the three transactions that have steps will do.
func TestSerialRunOfEachList(t *testing.T) {
	l := runOf("r40 w01 w20 r01 w43")
	var found [][]int
	for _, order := range listsUpTo(4, []int{-1, 0, 1, 2, 3, 4, 5, 6}) {
		if got, ok := impl.SerialRun(l, order); ok {
			found = append(found, order)
		} else if len(got) != 0 {
			t.Errorf("SerialRun(%v, %v) = %v, false", l, order, got)
		}
	}
	if !sameLists(found, ordersOf(digits("024"))) {
		t.Error(found)
	}
}

func checkSame(t *testing.T, a, b []impl.Step, want bool) {
	t.Helper()
	for range 2 {
		if got, ok := impl.SameRuns(a, b); !ok || got != want {
			t.Fatalf("SameRuns(%v, %v) = %v, %v", a, b, got, ok)
		}
		a, b = b, a
	}
}

func TestSameRunsAsTold(t *testing.T) {
	for _, one := range []struct {
		a, b string
		want bool
	}{
		{"", "", true}, {"", "r00", false}, {"r00", "r00", true}, {"r00", "w00", false}, {"r00", "r01", false}, {"r00", "r10", false}, {"r00", "r00 r00", false},
		{"r10 w01 w10 r00", "r10 w10 w01 r00", true}, {"r10 w01 w10 r00", "w01 r10 w10 r00", true},
		// 0 reads ahead of what 1 writes.
		{"r10 w01 w10 r00", "w01 r00 r10 w10", false},
		// The same steps, but not one transaction's in their order.
		{"r00 w01", "w01 r00", false}, {"r00 r01", "r01 r00", false}, {"w00 w01", "w01 w00", false}, {"r00 r10", "r10 r00", true},
		// The same reads of the same items, in each transaction, from other ones.
		{"w00 r10", "r10 w00", false}, {"w00 w10 r20", "w10 w00 r20", false},
		// From the same transaction, but not from the same one of its writes.
		{"w00 r10 w00", "w00 w00 r10", false}, {"w00 r10 w00 w20", "w00 w00 r10 w20", false},
		{"w00 w01 r10 r11 w00", "w00 w01 w00 r10 r11", false},
		// Only the last write is unlike.
		{"w00 w10", "w10 w00", false}, {"w00 w10 w20", "w10 w00 w20", true}, {"w00 w10 w20", "w00 w20 w10", false},
		{"w03 w13", "w13 w03", false}, {"w00 w01 w10 w11", "w00 w10 w01 w11", true}, {"w00 w01 w10 w11", "w10 w00 w01 w11", false},
		// What it wrote itself.
		{"w00 r00 w10", "w00 r00 w10", true}, {"w00 r00 w10 w20", "w00 w10 r00 w20", false}, {"w00 r00 w10 w20", "w10 w00 r00 w20", true},
		// No order, but as 0, 1, 2 one after the other: what 1 and 0 write nobody reads.
		{"r00 w10 w00 w20", "r00 w00 w10 w20", true}, {"r00 w10 w00 w20", "w10 r00 w00 w20", false},
		{"r00 r10 w00 w10", "r00 w00 r10 w10", false}, {"r00 r10 w00 w10", "r10 w10 r00 w00", false},
		// Transactions that have changed places are others.
		{"r00 w11", "r10 w01", false},
	} {
		a, b := runOf(one.a), runOf(one.b)
		checkSame(t, a, b, one.want)
		checkSame(t, a, b, sameRunsByHand(a, b))
		checkSame(t, a, a, true)
		checkSame(t, b, b, true)
	}
}

func TestSameRunsOfSmallOnes(t *testing.T) {
	same, unlike := 0, 0
	for _, all := range [][][]impl.Step{runsUpTo(3, 2, 2), runsUpTo(4, 2, 1), runsUpTo(3, 3, 1)} {
		var played, serial []string
		for _, l := range all {
			played = append(played, playByHand(l))
			serial = append(serial, fmt.Sprint(serialRunByHand(l, firstNumbers(6))))
		}
		for n, a := range all {
			for m, b := range all {
				want := played[n] == played[m]
				if got, ok := impl.SameRuns(a, b); !ok || got != want {
					t.Fatalf("SameRuns(%v, %v) = %v, %v", a, b, got, ok)
				}
				if want && n != m {
					same++
				}
				if !want && serial[n] == serial[m] {
					unlike++
				}
			}
		}
	}
	if same < 500 || unlike < 500 {
		t.Error(same, unlike)
	}
}

// shuffled mingles the transactions of a run otherwise, each one's steps as they stood.
func (d *dice) shuffled(l []impl.Step) []impl.Step {
	out := slices.Clone(l)
	for range d.below(3 * len(l)) {
		k := d.below(len(l) - 1)
		if out[k].Txn != out[k+1].Txn {
			out[k], out[k+1] = out[k+1], out[k]
		}
	}
	return out
}

func TestSameRunsByHand(t *testing.T) {
	thrown := dice{1305}
	same, unlike := 0, 0
	for range 6000 {
		a := thrown.run(2+thrown.below(39), 1+thrown.below(6), 1+thrown.below(4), 1+thrown.below(12))
		b := thrown.shuffled(a)
		if thrown.below(8) == 0 {
			n := thrown.below(len(b))
			b[n] = thrown.run(1, 6, 4, 2)[0]
		}
		want := sameRunsByHand(a, b)
		checkSame(t, a, b, want)
		if !want {
			unlike++
		} else if !slices.Equal(a, b) {
			same++
		}
	}
	if same < 800 || unlike < 800 {
		t.Error(same, unlike)
	}
}

// Promise 13: where SerialOrder tells an order the run and SerialRun of it are the same; where it tells none no order stands as ConflictsOf asks for.
func TestRunsAreAsOneAfterTheOther(t *testing.T) {
	some := append(goodRuns(), smallRuns()...)
	thrown := dice{1306}
	for range 2500 {
		some = append(some, thrown.anyRun())
	}
	mingled, none := 0, 0
	for _, l := range some {
		order, is, ok := impl.SerialOrder(l)
		of, good := impl.ConflictsOf(l)
		if !ok || !good {
			t.Fatalf("of %v: %v, %v", l, ok, good)
		}
		if !is {
			none++
			if slices.ContainsFunc(ordersOf(txnsByHand(l)), func(order []int) bool { return standsAhead(order, of) }) {
				t.Fatalf("SerialOrder(%v) tells none", l)
			}
			continue
		}
		serial, ok := impl.SerialRun(l, order)
		same, good := impl.SameRuns(l, serial)
		if !ok || !good || !same || !sameRunsByHand(l, serial) || !standsAhead(order, of) {
			t.Fatalf("SerialOrder(%v) = %v, SerialRun %v, %v, SameRuns %v, %v", l, order, serial, ok, same, good)
		}
		if !slices.Equal(l, serial) {
			mingled++
		}
	}
	if mingled < 2000 || none < 2000 {
		t.Error(mingled, none)
	}
}

// Promise 13, of each order that stands as ConflictsOf asks for, not only of the least one.
func TestAllSerialOrdersAreTheSameRun(t *testing.T) {
	thrown := dice{1307}
	several := 0
	for range 400 {
		l := thrown.nearlySerial()
		orders := serialOrdersByHand(l)
		for _, order := range orders[:min(len(orders), 20)] {
			serial, ok := impl.SerialRun(l, order)
			if !ok {
				t.Fatalf("SerialRun(%v, %v) is refused", l, order)
			}
			checkSame(t, l, serial, true)
		}
		if len(orders) > 1 {
			several++
		}
	}
	if several < 100 {
		t.Error(several)
	}
}

// Promise 13: steps that do not clash, changing places one by one, lead from the run to the serial one; with each of them the run is the same.
func TestSwapsLeadToTheSerialRun(t *testing.T) {
	thrown := dice{1308}
	swaps := 0
	for range 500 {
		l := thrown.nearlySerial()
		order, is, _ := impl.SerialOrder(l)
		if !is {
			continue
		}
		now := l
		for range len(l) {
			for k := range len(l) - 1 {
				if slices.Index(order, now[k].Txn) <= slices.Index(order, now[k+1].Txn) {
					continue
				}
				next, ok := impl.SwapSteps(now, k)
				if !ok {
					t.Fatalf("of %v SwapSteps(%v, %d) is refused", l, now, k)
				}
				swaps++
				now = next
			}
			checkSame(t, l, now, true)
		}
		if serial, _ := impl.SerialRun(l, order); !slices.Equal(now, serial) {
			t.Fatalf("of %v: %v, not %v", l, now, serial)
		}
	}
	if swaps < 5000 {
		t.Error(swaps)
	}
}

// A run may be as one after the other though its clashes go both ways: SerialOrder does not tell so.
func TestSerialOrderGoesByClashesAlone(t *testing.T) {
	l := runOf("r00 w10 w00 w20")
	serial, ok := impl.SerialRun(l, digits("012"))
	same, good := impl.SameRuns(l, serial)
	if order, is, told := impl.SerialOrder(l); !ok || !good || !told || !same || is || len(order) != 0 {
		t.Errorf("SerialOrder(%v) = %v, %v, %v; as 0, 1, 2: %v", l, order, is, told, same)
	}
}

func TestSwapStepsAsTold(t *testing.T) {
	for _, one := range []struct {
		run  string
		k    int
		want string
	}{
		{"r10 w01 w10 r00", 0, "w01 r10 w10 r00"},
		{"r10 w01 w10 r00", 1, "r10 w10 w01 r00"},
		{"r00 r10", 0, "r10 r00"},
		{"w00 w11", 0, "w11 w00"}, {"r00 w11", 0, "w11 r00"}, {"w03 r52", 0, "r52 w03"},
		{"w00 r00 r10 r20 w20", 2, "w00 r00 r20 r10 w20"},
		{"w20 w30 r51 r42", 2, "w20 w30 r42 r51"},
	} {
		got, ok := impl.SwapSteps(runOf(one.run), one.k)
		if !ok || !slices.Equal(got, runOf(one.want)) {
			t.Errorf("SwapSteps(%s, %d) = %v, %v", one.run, one.k, got, ok)
		}
	}
}

// Steps that do not clash change places: the run is the same, its clashes are, and so it is once more; all others are refused.
func TestSwapStepsByHand(t *testing.T) {
	some := append(goodRuns(), smallRuns()...)
	thrown := dice{1309}
	for range 300 {
		some = append(some, thrown.anyRun())
	}
	swaps, refused := 0, 0
	for _, l := range some {
		of, _ := impl.ConflictsOf(l)
		for k := -2; k < len(l)+2; k++ {
			got, ok := impl.SwapSteps(l, k)
			if k < 0 || k >= len(l)-1 || l[k].Txn == l[k+1].Txn || clashByHand(l[k], l[k+1]) {
				refused++
				if ok || len(got) != 0 {
					t.Fatalf("SwapSteps(%v, %d) = %v, %v", l, k, got, ok)
				}
				continue
			}
			swaps++
			want := slices.Concat(l[:k], []impl.Step{l[k+1], l[k]}, l[k+2:])
			if !ok || !slices.Equal(got, want) {
				t.Fatalf("SwapSteps(%v, %d) = %v, %v", l, k, got, ok)
			}
			checkSame(t, l, got, true)
			checkConflicts(t, got, of)
			if again, ok := impl.SwapSteps(got, k); !ok || !slices.Equal(again, l) {
				t.Fatalf("SwapSteps(%v, %d) = %v, %v", got, k, again, ok)
			}
		}
	}
	if swaps < 5000 || refused < 5000 {
		t.Error(swaps, refused)
	}
}

// A read and a write of one item that change places all the same make another run.
func TestReadsAndWritesThatClashMakeAnotherRun(t *testing.T) {
	for _, l := range smallRuns() {
		for k := range max(len(l)-1, 0) {
			if !clashByHand(l[k], l[k+1]) || l[k].Kind == l[k+1].Kind {
				continue
			}
			other := slices.Clone(l)
			other[k], other[k+1] = l[k+1], l[k]
			checkSame(t, l, other, false)
		}
	}
}

func TestSwapStepsAreRefused(t *testing.T) {
	for _, one := range []struct {
		run string
		k   int
	}{
		// k is no step's number, or the last one's.
		{"", 0}, {"", -1}, {"", 1}, {"r00", 0}, {"r00", -1}, {"r00", 1}, {"r00 r10", 1}, {"r00 r10", -1}, {"r00 r10", 2}, {"r00 r10", 40},
		{"r00 r10", math.MinInt}, {"r00 r10", math.MaxInt}, {"", math.MinInt}, {"", math.MaxInt}, {"r00 r10", math.MaxInt - 1},
		// Two of one transaction.
		{"r00 r00", 0}, {"r00 r01", 0}, {"w00 w01", 0}, {"r00 w13 r12", 1},
		// Two that clash.
		{"r00 w10", 0}, {"w00 r10", 0}, {"w00 w10", 0}, {"r41 w53 w23", 1},
	} {
		if got, ok := impl.SwapSteps(runOf(one.run), one.k); ok || len(got) != 0 {
			t.Errorf("SwapSteps(%s, %d) = %v, %v", one.run, one.k, got, ok)
		}
	}
}

func checkOrderOfRunRefused(t *testing.T, l []impl.Step, order []int) {
	t.Helper()
	if got, ok := impl.SerialRun(l, order); ok || len(got) != 0 {
		t.Errorf("SerialRun(%v, %v) = %v, %v", l, order, got, ok)
	}
}

func TestSerialRunsAreRefused(t *testing.T) {
	for _, one := range []struct {
		run    string
		orders [][]int
	}{
		{"", [][]int{{0}, {-1}, {5}, {0, 1, 2, 3, 4, 5}, {math.MinInt}}},
		{"r00", [][]int{nil, {1}, {0, 0}, {0, 1}, {1, 0}, {-1}, {64}, {-64}, {math.MaxInt}}},
		{"w30 r10", [][]int{nil, {1}, {3}, {1, 1}, {3, 3}, {1, 3, 1}, {3, 1, 3}, {0, 1, 3}, {1, 3, 5}, {1, 2}, {0, 1}, {1, 67}, {-61, 3}, make([]int, 1000)}},
		{"w00 w10 w20 w30 w40 w50", append(badLists(), digits("01234"), digits("12345"), digits("0123455"), digits("0123450"), digits("0123456"), digits("012344"), digits("002345"), digits("012346"), []int{-1, 1, 2, 3, 4, 5})},
	} {
		for _, order := range one.orders {
			checkOrderOfRunRefused(t, runOf(one.run), order)
		}
	}
}

func checkStepsRefused(t *testing.T, l []impl.Step) {
	t.Helper()
	if of, ok := impl.ConflictsOf(l); ok || len(of) != 0 {
		t.Errorf("ConflictsOf(%v) = %v, %v", l, of, ok)
	}
	if order, is, ok := impl.SerialOrder(l); ok || is || len(order) != 0 {
		t.Errorf("SerialOrder(%v) = %v, %v, %v", l, order, is, ok)
	}
	if sources, last, ok := impl.ReadsFrom(l); ok || len(sources) != 0 || len(last) != 0 {
		t.Errorf("ReadsFrom(%v) = %v, %v, %v", l, sources, last, ok)
	}
	for _, order := range [][]int{nil, digits("0"), digits("5"), digits("01"), txnsByHand(l), digits("012345"), {-1}, {6}} {
		checkOrderOfRunRefused(t, l, order)
	}
	for k := -1; k < min(len(l), 45); k++ {
		if got, ok := impl.SwapSteps(l, k); ok || len(got) != 0 {
			t.Errorf("SwapSteps(%v, %d) = %v, %v", l, k, got, ok)
		}
	}
}

func checkPairRefused(t *testing.T, a, b []impl.Step) {
	t.Helper()
	if same, ok := impl.SameRuns(a, b); same || ok {
		t.Errorf("SameRuns(%v, %v) = %v, %v", a, b, same, ok)
	}
}

func TestRunsAreRefused(t *testing.T) {
	bad := badRuns()
	for n, l := range bad {
		checkStepsRefused(t, l)
		checkPairRefused(t, l, l)
		checkPairRefused(t, l, slices.Clone(l))
		checkPairRefused(t, l, bad[(n+1)%len(bad)])
		for _, good := range goodRuns() {
			checkPairRefused(t, l, good)
			checkPairRefused(t, good, l)
		}
	}
}

func threeAnswers[A, B any](a A, b B, ok bool) []any {
	return []any{a, b, ok}
}

func someOrdersOf(l []impl.Step) [][]int {
	orders := ordersOf(txnsByHand(l))
	return append(badLists(), nil, []int{}, orders[0], orders[len(orders)-1], orders[len(orders)/2])
}

// Promise 19: each function of chapter 13 answers at any arguments, the same each time, in new memory, and writes into none.
func TestRunsAnswerAndWriteNothing(t *testing.T) {
	thrown := dice{1310}
	some := append(goodRuns(), badRuns()...)
	for range 200 {
		some = append(some, thrown.anyRun())
	}
	for n, l := range some {
		l := withGuards(l)
		checkCall(t, "GoodSteps", func() []any { return []any{impl.GoodSteps(l)} }, l)
		checkCall(t, "ConflictsOf", func() []any { return answers(impl.ConflictsOf(l)) }, l)
		checkCall(t, "SerialOrder", func() []any { return threeAnswers(impl.SerialOrder(l)) }, l)
		checkCall(t, "ReadsFrom", func() []any { return threeAnswers(impl.ReadsFrom(l)) }, l)
		for _, order := range someOrdersOf(l) {
			order := withGuards(order)
			checkCall(t, "SerialRun", func() []any { return answers(impl.SerialRun(l, order)) }, l, order)
		}
		for _, k := range []int{-1, 0, 1, 2, len(l) / 2, len(l) - 2, len(l) - 1, len(l), math.MinInt, math.MaxInt} {
			checkCall(t, "SwapSteps", func() []any { return answers(impl.SwapSteps(l, k)) }, l)
		}
		for _, other := range [][]impl.Step{l, some[(n+1)%len(some)], some[n/2]} {
			other := withGuards(other)
			checkCall(t, "SameRuns", func() []any { return answers(impl.SameRuns(l, other)) }, l, other)
		}
	}
}

func runAnswers(l []impl.Step, order []int, k int, other []impl.Step) string {
	return fmt.Sprint(impl.GoodSteps(l), answers(impl.ConflictsOf(l)), threeAnswers(impl.SerialOrder(l)), threeAnswers(impl.ReadsFrom(l)),
		answers(impl.SerialRun(l, order)), answers(impl.SwapSteps(l, k)), answers(impl.SameRuns(l, other)))
}

// Runs that share their memory are handed in; what is told shares none, and is as if they had been apart.
func TestRunsThatShareTheirSteps(t *testing.T) {
	whole := append(mostSteps(), runOf("w00 r10")...)
	for from := range 4 {
		for to := from; to <= len(whole); to++ {
			l := whole[from:to]
			for _, other := range [][]impl.Step{l, whole[from : from+(to-from)/2], whole[:to-from]} {
				order := txnsByHand(l)
				checkCall(t, "SameRuns", func() []any { return answers(impl.SameRuns(l, other)) }, l, other)
				got := runAnswers(l, order, 0, other)
				if want := runAnswers(slices.Clone(l), order, 0, slices.Clone(other)); got != want {
					t.Errorf("%v: %s, apart %s", l, got, want)
				}
			}
		}
	}
}

// What lies behind a list's length does not count, be it good steps or not.
func TestRunsDoNotReadBehindTheirLists(t *testing.T) {
	for _, l := range append(goodRuns(), badRuns()...) {
		order := txnsByHand(l)
		long := append(slices.Clone(l), runOf("w00 w10 w21 r50")...)
		for k := -1; k <= min(len(l), 41); k++ {
			plain := runAnswers(l, order, k, l)
			if got := runAnswers(withGuards(l), withGuards(order), k, withGuards(l)); got != plain {
				t.Errorf("%v, %d: %s, with guards behind the lists %s", l, k, plain, got)
			}
			if got := runAnswers(long[:len(l)], order, k, long[:len(l)]); got != plain {
				t.Errorf("%v, %d: %s, with steps behind the run %s", l, k, plain, got)
			}
		}
	}
}

// The empty list and the nil list are the same value.
func TestEmptyRunsAndNone(t *testing.T) {
	if a, b := runAnswers(nil, nil, 0, nil), runAnswers([]impl.Step{}, []int{}, 0, []impl.Step{}); a != b {
		t.Error(a, b)
	}
	for _, a := range [][]impl.Step{nil, {}} {
		for _, b := range [][]impl.Step{nil, {}} {
			checkSame(t, a, b, true)
		}
	}
	of, ok := impl.ConflictsOf(nil)
	if !ok || !sameLists(of, make([][]int, 6)) {
		t.Error(of, ok)
	}
}

// An answer is the caller's own: what is written into it is not told by a later one.
func TestRunsAreTheCallersOwn(t *testing.T) {
	l := oneByOne()
	plain := runAnswers(l, digits("012345"), 3, l)
	of, _ := impl.ConflictsOf(l)
	for n := range of {
		of[n] = append(of[n][:0], guard)
	}
	order, _, _ := impl.SerialOrder(l)
	order[0] = guard
	sources, last, _ := impl.ReadsFrom(l)
	sources[0], last[0] = impl.Source{}, guard
	serial, _ := impl.SerialRun(l, digits("012345"))
	serial[0] = impl.Step{}
	if again := runAnswers(l, digits("012345"), 3, l); again != plain {
		t.Errorf("%s, then %s", plain, again)
	}
}
