package tests

import (
	"fmt"
	"math"
	"slices"
	"strings"
	"testing"

	"loop.example/g00305/impl"
)

func doneBy(txn int) impl.Ask {
	return impl.Ask{Kind: impl.AskDone, Step: impl.Step{Txn: txn}}
}

// asksOf tells the asks of a text: "r10 w02 d1" is a read of item 0 by transaction 1, a write of item 2 by transaction 0, and the end of 1.
func asksOf(s string) []impl.Ask {
	var out []impl.Ask
	for _, one := range strings.Fields(s) {
		if one[0] == 'd' {
			out = append(out, doneBy(int(one[1]-'0')))
			continue
		}
		out = append(out, impl.Ask{Kind: impl.AskStep, Step: runOf(one)[0]})
	}
	return out
}

func locks(held, waits, run, done, stopped string) impl.Locks {
	return impl.Locks{Held: runOf(held), Waits: runOf(waits), Run: runOf(run), Done: digits(done), Stopped: digits(stopped)}
}

func copyOfLocks(k impl.Locks) impl.Locks {
	return impl.Locks{
		Held: slices.Clone(k.Held), Waits: slices.Clone(k.Waits), Run: slices.Clone(k.Run),
		Done: slices.Clone(k.Done), Stopped: slices.Clone(k.Stopped),
	}
}

func sameLocks(a, b impl.Locks) bool {
	return slices.Equal(a.Held, b.Held) && slices.Equal(a.Waits, b.Waits) && slices.Equal(a.Run, b.Run) &&
		slices.Equal(a.Done, b.Done) && slices.Equal(a.Stopped, b.Stopped)
}

func isNoLocks(k impl.Locks) bool {
	return sameLocks(k, impl.Locks{})
}

func isOf(txn int) func(impl.Step) bool {
	return func(s impl.Step) bool { return s.Txn == txn }
}

// kindByHand looks through all that is held.
func kindByHand(held []impl.Step, txn, item int) int {
	for _, lock := range held {
		if lock.Txn == txn && lock.Item == item {
			return lock.Kind
		}
	}
	return 0
}

func timesIn(l []int, n int) int {
	times := 0
	for _, one := range l {
		if one == n {
			times++
		}
	}
	return times
}

func goodLocksByHand(k impl.Locks) bool {
	good := goodRunByHand(slices.Concat(k.Run, k.Waits))
	for n, lock := range k.Held {
		good = good && goodStepByHand(lock) && (n == 0 || 4*k.Held[n-1].Txn+k.Held[n-1].Item < 4*lock.Txn+lock.Item)
		for _, other := range k.Held {
			good = good && !clashByHand(lock, other)
		}
	}
	for n, step := range k.Waits {
		good = good && !slices.ContainsFunc(k.Waits[:n], isOf(step.Txn))
	}
	left := slices.Concat(k.Done, k.Stopped)
	for _, txn := range left {
		good = good && slices.Contains(digits("012345"), txn) && timesIn(left, txn) == 1 && !slices.ContainsFunc(slices.Concat(k.Held, k.Waits), isOf(txn))
	}
	return good
}

// waitsByHand asks of each two transactions whether one's lock clashes with the other's wait.
func waitsByHand(k impl.Locks) [][]int {
	out := make([][]int, 6)
	for txn := range out {
		for other := range out {
			for _, step := range k.Waits {
				for item := range 4 {
					lock := impl.Step{Txn: other, Kind: kindByHand(k.Held, other, item), Item: item}
					if step.Txn == txn && lock.Kind > 0 && clashByHand(lock, step) {
						out[txn] = append(out[txn], other)
					}
				}
			}
		}
	}
	return out
}

// isRing goes on from each transaction to those it waits for, and to those these wait for, six times.
func isRing(waits [][]int) bool {
	for txn := range waits {
		reached := slices.Clone(waits[txn])
		for range waits {
			for _, other := range slices.Clone(reached) {
				reached = append(reached, waits[other]...)
			}
			slices.Sort(reached)
			reached = slices.Compact(reached)
		}
		if slices.Contains(reached, txn) {
			return true
		}
	}
	return false
}

func mayGoByHand(k impl.Locks, s impl.Step) bool {
	return !slices.ContainsFunc(k.Held, func(lock impl.Step) bool { return clashByHand(lock, s) })
}

// goByHand asks of each transaction and item anew how it is held.
func goByHand(k impl.Locks, s impl.Step) impl.Locks {
	k.Run = append(slices.Clone(k.Run), s)
	var held []impl.Step
	for txn := range 6 {
		for item := range 4 {
			kind := kindByHand(k.Held, txn, item)
			if s.Txn == txn && s.Item == item {
				kind = max(kind, s.Kind)
			}
			if kind > 0 {
				held = append(held, impl.Step{Txn: txn, Kind: kind, Item: item})
			}
		}
	}
	k.Held = held
	return k
}

// leaveByHand looks at all waits from the first on again each time that one goes.
func leaveByHand(k impl.Locks, txn int) impl.Locks {
	k.Held = slices.DeleteFunc(slices.Clone(k.Held), isOf(txn))
	k.Waits = slices.DeleteFunc(slices.Clone(k.Waits), isOf(txn))
	for {
		first := slices.IndexFunc(k.Waits, func(s impl.Step) bool { return mayGoByHand(k, s) })
		if first < 0 {
			return k
		}
		s := k.Waits[first]
		k.Waits = slices.Delete(slices.Clone(k.Waits), first, first+1)
		k = goByHand(k, s)
	}
}

// takeByHand leaves all as it was where it tells 0.
func takeByHand(k impl.Locks, a impl.Ask) (impl.Locks, int) {
	txn := a.Step.Txn
	if !slices.Contains(digits("012345"), txn) || slices.Contains(slices.Concat(k.Done, k.Stopped), txn) || slices.ContainsFunc(k.Waits, isOf(txn)) {
		return k, 0
	}
	if a == doneBy(txn) {
		k.Done = append(slices.Clone(k.Done), txn)
		return leaveByHand(k, txn), 4
	}
	if a.Kind != impl.AskStep || !goodStepByHand(a.Step) || len(k.Run)+len(k.Waits)+1 > 40 {
		return k, 0
	}
	if mayGoByHand(k, a.Step) {
		return goByHand(k, a.Step), 1
	}
	k.Waits = append(slices.Clone(k.Waits), a.Step)
	if !isRing(waitsByHand(k)) {
		return k, 2
	}
	k.Stopped = append(slices.Clone(k.Stopped), txn)
	return leaveByHand(k, txn), 3
}

func playAsksByHand(l []impl.Ask) (impl.Locks, []int) {
	var k impl.Locks
	var told []int
	for _, a := range l {
		next, one := takeByHand(k, a)
		k, told = next, append(told, one)
	}
	return k, told
}

// asks has some transactions ask for steps, a write one time of so many, and end one time of so many.
func (d *dice) asks(many, txns, items, writes, ends int) []impl.Ask {
	var out []impl.Ask
	for range many {
		if d.below(ends) == 0 {
			out = append(out, doneBy(d.below(txns)))
			continue
		}
		out = append(out, impl.Ask{Kind: impl.AskStep, Step: d.run(1, txns, items, writes)[0]})
	}
	return out
}

// anyAsks has a wrong ask in between now and then.
func (d *dice) anyAsks() []impl.Ask {
	out := d.asks(d.below(61), 1+d.below(6), 1+d.below(4), 1+d.below(5), 2+d.below(15))
	wrong := badAsks()
	for n := range out {
		if d.below(30) == 0 {
			out[n] = wrong[d.below(len(wrong))]
		}
	}
	return out
}

// locks are good, but not always what asks would lead to: there may be waits that might go, and rings.
func (d *dice) locks() impl.Locks {
	var k impl.Locks
	var here []int
	for _, s := range d.shuffled(runOf("r00 r10 r20 r30 r40 r50")) {
		switch d.below(7) {
		case 0:
			k.Done = append(k.Done, s.Txn)
		case 1:
			k.Stopped = append(k.Stopped, s.Txn)
		default:
			here = append(here, s.Txn)
		}
	}
	k.Run = d.run(d.below(36), 6, 4, 3)
	for _, txn := range here {
		if d.below(2) == 0 && len(k.Run)+len(k.Waits) < 40 {
			k.Waits = append(k.Waits, impl.Step{Txn: txn, Kind: 1 + d.below(2), Item: d.below(4)})
		}
		for item := range 4 {
			lock := impl.Step{Txn: txn, Kind: 1 + d.below(2), Item: item}
			if d.below(3) == 0 && mayGoByHand(k, lock) {
				k.Held = append(k.Held, lock)
			}
		}
	}
	slices.SortFunc(k.Held, func(a, b impl.Step) int { return 4*(a.Txn-b.Txn) + a.Item - b.Item })
	return k
}

// asksUpTo has all lists of so many asks at most, of some transactions and items.
func asksUpTo(longest, txns, items int) [][]impl.Ask {
	var letters []impl.Ask
	for txn := range txns {
		letters = append(letters, doneBy(txn))
		for item := range items {
			letters = append(letters, impl.Ask{Kind: impl.AskStep, Step: readBy(txn, item)}, impl.Ask{Kind: impl.AskStep, Step: writeBy(txn, item)})
		}
	}
	var out [][]impl.Ask
	for _, l := range listsUpTo(longest, firstNumbers(len(letters))) {
		var asks []impl.Ask
		for _, n := range l {
			asks = append(asks, letters[n])
		}
		out = append(out, asks)
	}
	return out
}

func smallAsks() [][]impl.Ask {
	return slices.Concat(asksUpTo(6, 2, 1), asksUpTo(4, 2, 2), asksUpTo(4, 3, 1))
}

// wellAsked are some lists of asks that lead far.
func wellAsked() [][]impl.Ask {
	return [][]impl.Ask{
		nil, asksOf("r00"), asksOf("d5"), asksOf("r00 r10 w00 w10 d0 d1"), asksOf("w00 r10 w20 r30 d0"), asksOf("w00 w11 w22 w01 w12 w20"),
		asksOf("w00 w11 w22 w33 r10 r21 r32 d0"), asksOf("r00 r10 r20 w30 d0 d1"), asksOf("w50 r41 d3 d2 w40"),
		slices.Repeat(asksOf("r00"), 60), slices.Repeat(asksOf("r00 w11 r12 d2"), 15), slices.Repeat(asksOf("w03 r53 w43"), 20),
	}
}

func anyAskLists() [][]impl.Ask {
	out := slices.Concat(wellAsked(), smallAsks())
	thrown := dice{1401}
	for range 3000 {
		out = append(out, thrown.anyAsks())
	}
	return out
}

// allHeld has all the locks that there may be, each item being read by all.
func allHeld() impl.Locks {
	var k impl.Locks
	for n := range 24 {
		k.Held = append(k.Held, readBy(n/4, n%4))
	}
	return k
}

func goodLocks() []impl.Locks {
	return []impl.Locks{
		{}, {Held: []impl.Step{}, Waits: []impl.Step{}, Run: []impl.Step{}, Done: []int{}, Stopped: []int{}},
		locks("r00", "", "r00", "", ""), locks("w53", "", "w53", "", ""),
		locks("r00 r10", "", "r00 r10", "", ""), locks("r00 r01 w02 w03 r10 r11", "", "r00", "", ""),
		locks("w00", "r10", "w00", "", ""), locks("r00 r10", "w00", "r00 r10", "", ""),
		locks("w00", "r20 w10 w50", "w00", "3", "4"), locks("", "", "", "543210", ""), locks("", "", "", "", "250314"), locks("", "", "", "531", "024"),
		// The run may be of any transactions; who waits may not have to, and there may be a ring.
		locks("r30", "", "", "", ""), locks("", "", "w00 w10 w20", "", ""), locks("", "r00 w10 w20", "", "", ""), locks("w00", "r00", "", "", ""),
		locks("w00 w11", "w01 w10", "w00 w11", "", ""), locks("w00 w11 w22", "w20 w01 w12", "w00 w11 w22", "", "5"),
		locks("w00 w11", "w01 w10 r30 r41", "w00 w11", "5", ""), locks("", "", "r00 w00 r13", "0", "1"),
		allHeld(), {Run: mostSteps()}, {Run: mostSteps()[:34], Waits: runOf("r50 w40 r30 w20 r10 w00")}, {Run: mostSteps()[:39], Held: runOf("w00 w51"), Waits: runOf("r20")},
		{Run: mostSteps()[:38], Held: runOf("w00 w11"), Waits: runOf("r20")}, {Run: mostSteps()[:38], Held: runOf("r00 r10"), Waits: runOf("w00"), Done: digits("2")},
	}
}

// changedLocks has good locks with one thing changed each, so that they are not good.
func changedLocks(k impl.Locks) []impl.Locks {
	var out []impl.Locks
	change := func(by func(*impl.Locks)) {
		copied := copyOfLocks(k)
		by(&copied)
		out = append(out, copied)
	}
	for _, bad := range changedRuns(k.Held) {
		if !goodRunByHand(bad) {
			change(func(k *impl.Locks) { k.Held = bad })
		}
	}
	for _, bad := range changedRuns(k.Waits) {
		change(func(k *impl.Locks) { k.Waits = bad })
	}
	for _, bad := range changedRuns(k.Run[:min(len(k.Run), 2)]) {
		change(func(k *impl.Locks) { k.Run = bad })
	}
	for _, bad := range []int{-1, 6, 7, 64, -58, -64, math.MinInt, math.MaxInt} {
		change(func(k *impl.Locks) { k.Done = append(k.Done, bad) })
		change(func(k *impl.Locks) { k.Stopped = append(k.Stopped, bad) })
	}
	for _, txn := range slices.Concat(k.Done, k.Stopped) {
		change(func(k *impl.Locks) { k.Done = append(k.Done, txn) })
		change(func(k *impl.Locks) { k.Stopped = append([]int{txn}, k.Stopped...) })
		change(func(k *impl.Locks) { k.Held = []impl.Step{readBy(txn, 0)} })
		change(func(k *impl.Locks) { k.Waits, k.Run = []impl.Step{writeBy(txn, 3)}, nil })
	}
	for _, step := range slices.Concat(k.Held, k.Waits) {
		change(func(k *impl.Locks) { k.Done = append(k.Done, step.Txn) })
		change(func(k *impl.Locks) { k.Stopped = append(k.Stopped, step.Txn) })
	}
	for n := range k.Held {
		change(func(k *impl.Locks) { k.Held = slices.Insert(k.Held, n, k.Held[n]) })
	}
	for _, step := range k.Waits {
		change(func(k *impl.Locks) { k.Waits, k.Run = append(k.Waits, readBy(step.Txn, 2)), nil })
	}
	return out
}

func badLocks() []impl.Locks {
	out := []impl.Locks{
		// Held does not rise, has a lock twice, or two that clash.
		locks("r01 r00", "", "", "", ""), locks("r10 r00", "", "", "", ""), locks("r00 r10 r01", "", "", "", ""), locks("r00 r00", "", "", "", ""), locks("w53 w53", "", "", "", ""),
		locks("r00 w00", "", "", "", ""), locks("w00 r00", "", "", "", ""), locks("r00 w10", "", "", "", ""), locks("w00 r10", "", "", "", ""), locks("w00 w10", "", "", "", ""),
		locks("r00 r10 w50", "", "", "", ""), locks("r03 r11 w13 r22", "", "", "", ""),
		// Two waits of one transaction.
		locks("", "r00 r00", "", "", ""), locks("w00", "r10 w11", "", "", ""), locks("w00", "r10 w20 w10", "", "", ""), locks("", "w53 r51", "", "", ""),
		// A lock or a wait of one that has ended or was stopped.
		locks("r00", "", "", "0", ""), locks("r00", "", "", "", "0"), locks("", "r00", "", "0", ""), locks("", "r00", "", "", "0"), locks("r30 w53", "", "", "0125", ""), locks("w00", "r10 r40", "", "32", "54"),
		// One twice.
		locks("", "", "", "00", ""), locks("", "", "", "", "11"), locks("", "", "", "2", "2"), locks("", "", "", "012340", ""), locks("", "", "", "5", "0125"), locks("", "", "", "0123450", ""),
		{Done: []int{-1}}, {Done: []int{6}}, {Stopped: []int{-1}}, {Stopped: []int{6}}, {Done: []int{math.MinInt}}, {Stopped: []int{math.MaxInt}}, {Done: []int{64}, Stopped: []int{0}},
		// Run and Waits are too many.
		{Run: append(mostSteps(), readBy(0, 0))}, {Run: mostSteps(), Waits: runOf("r00")}, {Run: mostSteps()[:35], Waits: runOf("r50 w40 r30 w20 r10 w00")}, {Run: mostSteps()[:39], Waits: runOf("r50 r40")},
		{Waits: slices.Repeat(runOf("r00"), 41)}, {Waits: slices.Repeat(runOf("r00"), 7)}, {Held: slices.Repeat(runOf("r00"), 41)}, {Held: mostSteps()}, {Done: make([]int, 1000)}, {Stopped: make([]int, 1000)},
		{Held: make([]impl.Step, 1)}, {Waits: make([]impl.Step, 1)}, {Run: make([]impl.Step, 1)}, {Run: make([]impl.Step, 1000)},
	}
	for _, k := range goodLocks() {
		out = append(out, changedLocks(k)...)
	}
	return out
}

// badAsks can't be done, whatever is held.
func badAsks() []impl.Ask {
	var out []impl.Ask
	for _, kind := range []int{0, 3, -1, 4, math.MinInt, math.MaxInt} {
		out = append(out, impl.Ask{Kind: kind}, impl.Ask{Kind: kind, Step: readBy(0, 0)}, impl.Ask{Kind: kind, Step: writeBy(5, 3)}, impl.Ask{Kind: kind, Step: impl.Step{Txn: 5}})
	}
	for _, l := range slices.Concat(changedRuns(runOf("r00")), changedRuns(runOf("w53")), changedRuns(runOf("r32"))) {
		out = append(out, impl.Ask{Kind: impl.AskStep, Step: l[0]})
	}
	for _, bad := range []int{1, 2, 3, -1, 4, math.MinInt, math.MaxInt} {
		for txn := range 6 {
			out = append(out, impl.Ask{Kind: impl.AskDone, Step: impl.Step{Txn: txn, Kind: bad}}, impl.Ask{Kind: impl.AskDone, Step: impl.Step{Txn: txn, Item: bad}})
		}
	}
	for _, bad := range []int{-1, 6, 7, 64, -64, math.MinInt, math.MaxInt} {
		out = append(out, doneBy(bad))
	}
	return append(out, impl.Ask{Kind: impl.AskDone, Step: readBy(0, 0)}, impl.Ask{Kind: impl.AskDone, Step: writeBy(5, 3)})
}

// allAsks has each good ask once.
func allAsks() []impl.Ask {
	var out []impl.Ask
	for _, l := range asksUpTo(1, 6, 4) {
		out = append(out, l...)
	}
	return out
}

// thrownLocks are good ones, made by hand and by asks.
func thrownLocks(many int, thrown dice) []impl.Locks {
	out := goodLocks()
	for range many {
		k, _ := playAsksByHand(thrown.anyAsks())
		out = append(out, k, thrown.locks())
	}
	return out
}

func TestGoodLocksAsTold(t *testing.T) {
	if impl.MaxAsks != 60 || impl.AskStep != 1 || impl.AskDone != 2 {
		t.Error(impl.MaxAsks, impl.AskStep, impl.AskDone)
	}
	for _, k := range thrownLocks(1500, dice{1402}) {
		if !impl.GoodLocks(k) || !goodLocksByHand(k) {
			t.Fatalf("GoodLocks(%v) is false", k)
		}
	}
	for _, k := range badLocks() {
		if impl.GoodLocks(k) || goodLocksByHand(k) {
			t.Errorf("GoodLocks(%v) is true", k)
		}
	}
}

func TestGoodLocksAtEachNumber(t *testing.T) {
	for run := 30; run < 44; run++ {
		for waits := range 7 {
			k := impl.Locks{Run: slices.Repeat(runOf("w12"), run), Waits: runOf("r00 w10 r20 w30 r40 w50")[:waits]}
			if got := impl.GoodLocks(k); got != (run+waits <= 40) {
				t.Errorf("with a run of %d and %d waits GoodLocks is %v", run, waits, got)
			}
		}
	}
	for txn := -2; txn < 9; txn++ {
		for other := -2; other < 9; other++ {
			both := txn >= 0 && txn < 6 && other >= 0 && other < 6
			for _, k := range []impl.Locks{{Done: []int{txn, other}}, {Stopped: []int{txn, other}}, {Done: []int{txn}, Stopped: []int{other}}} {
				if got := impl.GoodLocks(k); got != (both && txn != other) {
					t.Errorf("GoodLocks(%v) = %v", k, got)
				}
			}
			for _, k := range []impl.Locks{
				{Done: []int{txn}, Held: []impl.Step{readBy(other, 0)}}, {Stopped: []int{txn}, Held: []impl.Step{writeBy(other, 3)}},
				{Done: []int{txn}, Waits: []impl.Step{writeBy(other, 2)}}, {Stopped: []int{txn}, Waits: []impl.Step{readBy(other, 1)}},
				{Waits: []impl.Step{readBy(txn, 0), writeBy(other, 1)}},
			} {
				if got := impl.GoodLocks(k); got != (both && txn != other) {
					t.Errorf("GoodLocks(%v) = %v", k, got)
				}
			}
		}
	}
}

// Of any two locks it is told whether they may be held together, in this order.
func TestGoodLocksOfTwo(t *testing.T) {
	var all []impl.Step
	for n := range 48 {
		all = append(all, impl.Step{Txn: n / 8, Kind: 1 + n%2, Item: n / 2 % 4})
	}
	for _, a := range all {
		for _, b := range all {
			rising := a.Txn < b.Txn || a.Txn == b.Txn && a.Item < b.Item
			if got := impl.GoodLocks(impl.Locks{Held: []impl.Step{a, b}}); got != (rising && !clashByHand(a, b)) {
				t.Errorf("GoodLocks of %v and %v is %v", a, b, got)
			}
		}
	}
}

type played struct {
	asks, told string
	want       impl.Locks
}

func checkPlays(t *testing.T, cases []played) {
	t.Helper()
	for _, one := range cases {
		k, told, ok := impl.PlayAsks(asksOf(one.asks))
		if !ok || !slices.Equal(told, digits(one.told)) || !sameLocks(k, one.want) {
			t.Errorf("PlayAsks(%s) = %v, %v, %v, not %v, %s", one.asks, k, told, ok, one.want, one.told)
		}
		if byHand, of := playAsksByHand(asksOf(one.asks)); !slices.Equal(of, digits(one.told)) || !sameLocks(byHand, one.want) {
			t.Errorf("by hand %s is %v, %v", one.asks, byHand, of)
		}
	}
}

func TestPlayAsksAsTold(t *testing.T) {
	checkPlays(t, []played{
		{"", "", impl.Locks{}},
		{"r00", "1", locks("r00", "", "r00", "", "")},
		{"w53", "1", locks("w53", "", "w53", "", "")},
		{"w53 r10 r02 w01", "1111", locks("w01 r02 r10 w53", "", "w53 r10 r02 w01", "", "")},
		// Two that read one item, and one's own lock.
		{"r00 r10", "11", locks("r00 r10", "", "r00 r10", "", "")},
		{"r50 r10 r30", "111", locks("r10 r30 r50", "", "r50 r10 r30", "", "")},
		{"r00 r00", "11", locks("r00", "", "r00 r00", "", "")},
		{"w00 w00", "11", locks("w00", "", "w00 w00", "", "")},
		// Held to read and then to write, and the other way round.
		{"r00 w00", "11", locks("w00", "", "r00 w00", "", "")},
		{"w00 r00", "11", locks("w00", "", "w00 r00", "", "")},
		{"r00 w00 r00 r10", "1112", locks("w00", "r10", "r00 w00 r00", "", "")},
		{"w00 r00 r10", "112", locks("w00", "r10", "w00 r00", "", "")},
		// Another one's lock is in the way.
		{"r00 w10", "12", locks("r00", "w10", "r00", "", "")},
		{"w00 r10", "12", locks("w00", "r10", "w00", "", "")},
		{"w00 w10", "12", locks("w00", "w10", "w00", "", "")},
		{"r00 r10 w00", "112", locks("r00 r10", "w00", "r00 r10", "", "")},
		{"w00 w11", "11", locks("w00 w11", "", "w00 w11", "", "")},
		{"w00 w30 r20 r10", "1222", locks("w00", "w30 r20 r10", "w00", "", "")},
		// Who may go does not stand behind those who wait.
		{"r00 w10 r20", "121", locks("r00 r20", "w10", "r00 r20", "", "")},
		{"w00 w10 w00", "121", locks("w00", "w10", "w00 w00", "", "")},
	})
}

func TestWhoEndsOrWaitsAsTold(t *testing.T) {
	checkPlays(t, []played{
		// The end of a transaction that never took a step, and of several.
		{"d0", "4", locks("", "", "", "0", "")},
		{"d5 d0 d3", "444", locks("", "", "", "503", "")},
		{"r00 d0", "14", locks("", "", "r00", "0", "")},
		{"r00 w11 w02 d0", "1114", locks("w11", "", "r00 w11 w02", "0", "")},
		// Who has ended or waits can't ask.
		{"d3 d3 r30 w30", "4000", locks("", "", "", "3", "")},
		{"r00 d0 w01 r00 d0", "14000", locks("", "", "r00", "0", "")},
		{"w00 r10 r10 r11 w12 d1", "120000", locks("w00", "r10", "w00", "", "")},
		// Who waited goes, and may ask again.
		{"w00 r10 d0", "124", locks("r10", "", "w00 r10", "0", "")},
		{"w00 w10 d0 r00 w11 d1", "124014", locks("", "", "w00 w10 w11", "01", "")},
		{"r00 r10 w00 d1", "1124", locks("w00", "", "r00 r10 w00", "1", "")},
		{"r00 r10 r20 w00 d1", "11124", locks("r00 r20", "w00", "r00 r10 r20", "1", "")},
		{"r00 r10 r20 w00 d1 d2", "111244", locks("w00", "", "r00 r10 r20 w00", "12", "")},
		// Several go by one end, in the order in which they came.
		{"w00 r50 r10 r30 d0", "12224", locks("r10 r30 r50", "", "w00 r50 r10 r30", "0", "")},
		{"w00 w01 w02 w52 r31 w10 d0", "1112224", locks("w10 r31 w52", "", "w00 w01 w02 w52 r31 w10", "0", "")},
		// Of those that clash the first one goes, the others wait on.
		{"w00 w20 r10 w30 d0", "12224", locks("w20", "r10 w30", "w00 w20", "0", "")},
		{"w00 r10 w30 r20 d0", "12224", locks("r10 r20", "w30", "w00 r10 r20", "0", "")},
		{"w00 w20 r10 w30 d0 d2", "122244", locks("r10", "w30", "w00 w20 r10", "02", "")},
		// The first one may not go still, a later one may.
		{"r00 r10 w20 w01 r31 d0", "112124", locks("r10 r31", "w20", "r00 r10 w01 r31", "0", "")},
		{"r00 r10 w20 w01 r31 d0 d1", "1121244", locks("w20 r31", "", "r00 r10 w01 r31 w20", "01", "")},
		// Not all who wait are let go by an end.
		{"w00 w11 r20 r31 d1", "11224", locks("w00 r31", "r20", "w00 w11 r31", "1", "")},
	})
}

// The one that asked last is stopped.
func TestRingsAreBrokenAsTold(t *testing.T) {
	checkPlays(t, []played{
		{"r00 r10 w00 w10 d0 d1", "112340", locks("", "", "r00 r10 w00", "0", "1")},
		{"r00 r10 w10 w00", "1123", locks("w10", "", "r00 r10 w10", "", "0")},
		{"w00 w11 w01 w10", "1123", locks("w00 w01", "", "w00 w11 w01", "", "1")},
		{"w00 w11 r10 r01", "1123", locks("r10 w11", "", "w00 w11 r10", "", "0")},
		// Two that read do not wait for each other.
		{"r00 r11 r01 r10", "1111", locks("r00 r01 r10 r11", "", "r00 r11 r01 r10", "", "")},
		// A ring of three, whoever asks last.
		{"w00 w11 w22 w01 w12 w20", "111223", locks("w00 w11 w12", "w01", "w00 w11 w22 w12", "", "2")},
		{"w00 w11 w22 w12 w20 w01", "111223", locks("w11 w20 w22", "w12", "w00 w11 w22 w20", "", "0")},
		{"w00 w11 w22 w20 w01 w12", "111223", locks("w00 w01 w22", "w20", "w00 w11 w22 w01", "", "1")},
		{"w00 w11 w22 w01 w12 w20 d1 d0 d2", "111223440", locks("", "", "w00 w11 w22 w12 w01", "10", "2")},
		// Of four.
		{"w00 w11 w22 w33 r01 r12 r23 r30", "11112223", locks("w00 w11 w22 r23", "r01 r12", "w00 w11 w22 w33 r23", "", "3")},
		// Some others still stand in the way once the ring is broken.
		{"r00 r10 r20 w00 w10", "11123", locks("r00 r20", "w00", "r00 r10 r20", "", "1")},
		{"r00 r10 r20 w00 w10 w20", "111233", locks("w00", "", "r00 r10 r20 w00", "", "12")},
		// Who is stopped gives up all locks, and several go by that, in the order in which they came.
		{"w00 w11 r21 r31 w01 r10", "112223", locks("w00 r21 r31", "w01", "w00 w11 r21 r31", "", "1")},
		{"w00 w11 w01 r21 r31 r10", "112223", locks("w00 w01", "r21 r31", "w00 w11 w01", "", "1")},
		{"w00 w11 w12 w52 r01 r10", "111223", locks("w00 r01 w52", "", "w00 w11 w12 w52 r01", "", "1")},
		// Who waits for one in no ring, or behind one who waits, goes on waiting.
		{"w00 w11 w10 w21", "1122", locks("w00 w11", "w10 w21", "w00 w11", "", "")},
		// Who was stopped can't ask any more.
		{"r00 r10 w00 w10 r10 w13 d1", "1123000", locks("w00", "", "r00 r10 w00", "", "1")},
		// One who never took a step is in no ring.
		{"w00 w11 w01 r20 r21", "11220", locks("w00 w11", "w01 r20", "w00 w11", "", "")},
	})
}

func checkPlay(t *testing.T, l []impl.Ask) (impl.Locks, []int) {
	t.Helper()
	k, told, ok := impl.PlayAsks(l)
	want, of := playAsksByHand(l)
	if !ok || !slices.Equal(told, of) || !sameLocks(k, want) {
		t.Fatalf("PlayAsks(%v) = %v, %v, %v, not %v, %v", l, k, told, ok, want, of)
	}
	return k, told
}

func TestPlayAsksByHand(t *testing.T) {
	var times [5]int
	for _, l := range anyAskLists() {
		_, told := checkPlay(t, l)
		for _, one := range told {
			times[one]++
		}
	}
	if slices.Min(times[:]) < 1000 {
		t.Error(times)
	}
}

// PlayAsks is TakeAsk, ask by ask: what could not be done is told as 0 and leaves all as it was; all that is made is good, and nobody waits in a ring behind it.
func TestPlayAsksIsTakeAskByAsk(t *testing.T) {
	refused := 0
	for _, l := range anyAskLists() {
		var k impl.Locks
		var told []int
		for _, a := range l {
			next, one, ok := impl.TakeAsk(k, a)
			if ok != (one >= 1 && one <= 4) || !ok && !isNoLocks(next) {
				t.Fatalf("TakeAsk(%v, %v) = %v, %d, %v", k, a, next, one, ok)
			}
			told = append(told, one)
			if !ok {
				refused++
				continue
			}
			k = next
			waits, good := impl.WaitsFor(k)
			if !impl.GoodLocks(k) || !goodLocksByHand(k) || !good || isRing(waits) {
				t.Fatalf("of %v %v comes to be %v, waits for %v, %v", l, a, k, waits, good)
			}
			if free := slices.IndexFunc(k.Waits, func(s impl.Step) bool { return mayGoByHand(k, s) }); free >= 0 {
				t.Fatalf("of %v %v comes to be %v, where wait %d might go", l, a, k, free)
			}
		}
		if got, of, ok := impl.PlayAsks(l); !ok || !sameLocks(got, k) || !slices.Equal(of, told) {
			t.Fatalf("PlayAsks(%v) = %v, %v, %v, ask by ask %v, %v", l, got, of, ok, k, told)
		}
	}
	if refused < 1000 {
		t.Error(refused)
	}
}

// What TakeAsk makes of good locks is good, wherever these come from.
func TestTakeAskByHand(t *testing.T) {
	asks := append(allAsks(), badAsks()...)
	var times [5]int
	for _, k := range thrownLocks(300, dice{1403}) {
		for _, a := range asks {
			got, told, ok := impl.TakeAsk(k, a)
			want, of := takeByHand(k, a)
			times[of]++
			if of == 0 {
				want = impl.Locks{}
			}
			if ok != (of > 0) || told != of || !sameLocks(got, want) {
				t.Fatalf("TakeAsk(%v, %v) = %v, %d, %v, not %v, %d", k, a, got, told, ok, want, of)
			}
			if ok && (!impl.GoodLocks(got) || !goodLocksByHand(got)) {
				t.Fatalf("TakeAsk(%v, %v) = %v, which is not good", k, a, got)
			}
		}
	}
	if slices.Min(times[:]) < 300 {
		t.Error(times)
	}
}

// Locks need not be what asks lead to: a wait that might go goes by the next end, and any ring stops the one that asks.
func TestTakeAskOfLocksByOtherWays(t *testing.T) {
	for _, one := range []struct {
		k    impl.Locks
		ask  string
		told int
		want impl.Locks
	}{
		{locks("", "r00 w10 w21", "", "", ""), "r30", 1, locks("r30", "r00 w10 w21", "r30", "", "")},
		{locks("", "r00 w10 w21", "", "", ""), "d3", 4, locks("r00 w21", "w10", "r00 w21", "3", "")},
		{locks("w00 w11 w22", "w01 w10", "", "", ""), "r42", 3, locks("w00 w11 w22", "w01 w10", "", "", "4")},
		{locks("w00 w11 w22", "w01 w10", "", "", ""), "d2", 4, locks("w00 w11", "w01 w10", "", "2", "")},
		{locks("w00 w11", "w01 w10", "", "", ""), "w22", 1, locks("w00 w11 w22", "w01 w10", "w22", "", "")},
		{locks("r00", "", "", "3", "4"), "w10", 2, locks("r00", "w10", "", "3", "4")},
		{locks("r00", "", "", "3", "4"), "d1", 4, locks("r00", "", "", "31", "4")},
		{locks("r00 r10", "w00", "", "3", "4"), "w10", 3, locks("w00", "", "w00", "3", "41")},
	} {
		got, told, ok := impl.TakeAsk(one.k, asksOf(one.ask)[0])
		if !ok || told != one.told || !sameLocks(got, one.want) {
			t.Errorf("TakeAsk(%v, %s) = %v, %d, %v", one.k, one.ask, got, told, ok)
		}
	}
}

// Each of two to six holds one item to read or to write and asks for the next one's: the last ask closes a ring as soon as all clash. Items are four, so a ring of more has a lesser one within.
func TestRingsStopWhoAsksLast(t *testing.T) {
	kinds := []func(int, int) impl.Step{readBy, writeBy}
	for many := 2; many <= 4; many++ {
		for _, l := range listsUpTo(2*many, digits("01")) {
			if len(l) != 2*many {
				continue
			}
			var asks []impl.Ask
			clashes, want := 0, slices.Repeat([]int{1}, many)
			for txn := range many {
				asks = append(asks, impl.Ask{Kind: impl.AskStep, Step: kinds[l[txn]](txn, txn)})
			}
			for txn := range many {
				next := (txn + 1) % many
				asks = append(asks, impl.Ask{Kind: impl.AskStep, Step: kinds[l[many+txn]](txn, next)})
				clash := max(l[next], l[many+txn])
				clashes += clash
				want = append(want, 1+clash)
			}
			// The last one asks for the first one's item, which that one still has as it is.
			if clashes == many {
				want[2*many-1] = 3
			}
			k, told := checkPlay(t, asks)
			if !slices.Equal(told, want) || slices.Contains(told, 3) != slices.Equal(k.Stopped, []int{many - 1}) {
				t.Errorf("PlayAsks(%v) = %v, %v, not %v", asks, k, told, want)
			}
		}
	}
}

func TestNoMoreAsksThanMaxAsks(t *testing.T) {
	for _, letters := range []string{"r00", "d0", "r00 w10 d1", "w00 w11 w01 w10"} {
		for many := range 130 {
			var l []impl.Ask
			for len(l) < many {
				l = append(l, asksOf(letters)...)
			}
			l = l[:many]
			k, told, ok := impl.PlayAsks(l)
			if many > 60 {
				if ok || len(told) != 0 || !isNoLocks(k) {
					t.Errorf("of %d asks PlayAsks tells %v, %v, %v", many, k, told, ok)
				}
				continue
			}
			if !ok || len(told) != many {
				t.Errorf("of %d asks PlayAsks tells %v, %v, %v", many, k, told, ok)
			}
			checkPlay(t, l)
		}
	}
	if k, told, ok := impl.PlayAsks(slices.Repeat([]impl.Ask{{}}, 61)); ok || len(told) != 0 || !isNoLocks(k) {
		t.Error(k, told, ok)
	}
}

// Run and Waits are at most MaxSteps together: each step that waits keeps its place.
func TestRunsHaveRoomForThoseWhoWait(t *testing.T) {
	asks := slices.Concat(slices.Repeat(asksOf("r00"), 37), asksOf("r10 w10 r00 r00 w00 r20 d2 d0 d1"))
	k, told := checkPlay(t, asks)
	want := append(slices.Repeat([]int{1}, 37), digits("121000444")...)
	if !slices.Equal(told, want) || len(k.Run) != 40 || k.Run[39] != writeBy(1, 0) || !slices.Equal(k.Done, digits("201")) {
		t.Errorf("%v, %v", k, told)
	}
	// Without room nobody is stopped, either.
	full := impl.Locks{Held: runOf("r00 r10"), Waits: runOf("w00"), Run: mostSteps()[:39]}
	if got, told, ok := impl.TakeAsk(full, asksOf("w10")[0]); ok || told != 0 || !isNoLocks(got) {
		t.Errorf("TakeAsk(%v) of w10 = %v, %d, %v", full, got, told, ok)
	}
	full.Run = full.Run[:38]
	if got, told, ok := impl.TakeAsk(full, asksOf("w10")[0]); !ok || told != 3 || len(got.Run) != 39 || len(got.Waits) != 0 {
		t.Errorf("TakeAsk(%v) of w10 = %v, %d, %v", full, got, told, ok)
	}
	for run := 30; run <= 40; run++ {
		for waits := 0; run+waits <= 40 && waits < 5; waits++ {
			k := impl.Locks{Held: runOf("w00"), Waits: runOf("r10 w20 r30 w40")[:waits], Run: mostSteps()[:run]}
			for _, one := range asksOf("r00 r01 r50 w51 w53") {
				if _, told, ok := impl.TakeAsk(k, one); ok != (run+waits < 40) || ok != (told > 0) {
					t.Errorf("with a run of %d and %d waits TakeAsk of %v tells %d, %v", run, waits, one, told, ok)
				}
			}
			if _, told, ok := impl.TakeAsk(k, doneBy(5)); !ok || told != 4 {
				t.Errorf("with a run of %d and %d waits the end is told as %d, %v", run, waits, told, ok)
			}
		}
	}
}

func TestWaitsForAsTold(t *testing.T) {
	lists := func(l ...string) [][]int {
		var out [][]int
		for _, one := range l {
			out = append(out, digits(one))
		}
		return out
	}
	for _, one := range []struct {
		k    impl.Locks
		want [][]int
	}{
		{impl.Locks{}, lists("", "", "", "", "", "")},
		{locks("w21", "r31", "w21", "", ""), lists("", "", "", "2", "", "")},
		{locks("r00 r10", "w00", "", "", ""), lists("1", "", "", "", "", "")},
		{locks("r00 r10 r20 r30 r40", "w50", "", "", ""), lists("", "", "", "", "", "01234")},
		{locks("r00 r10 r20 r30 r40 r50", "w50 w00", "", "", ""), lists("12345", "", "", "", "", "01234")},
		{locks("w00 w11 w22", "w01 w12 w20", "", "", ""), lists("1", "2", "0", "", "", "")},
		// Those who wait ahead hold nothing yet; who waits for what nobody holds waits for nobody.
		{locks("w00", "w10 w20 w30", "", "", ""), lists("", "0", "0", "0", "", "")},
		{locks("r00 w01", "r10 w50 r31 w22", "", "", ""), lists("", "", "", "0", "", "0")},
		{locks("", "", "w00 w10", "0", "1"), lists("", "", "", "", "", "")},
	} {
		if got, ok := impl.WaitsFor(one.k); !ok || !sameLists(got, one.want) {
			t.Errorf("WaitsFor(%v) = %v, %v", one.k, got, ok)
		}
	}
}

func TestWaitsForByHand(t *testing.T) {
	waiting, rings := 0, 0
	for _, k := range thrownLocks(2000, dice{1404}) {
		want := waitsByHand(k)
		got, ok := impl.WaitsFor(k)
		if !ok || len(got) != impl.MaxTxns || !sameLists(got, want) {
			t.Fatalf("WaitsFor(%v) = %v, %v, not %v", k, got, ok, want)
		}
		if slices.ContainsFunc(got, func(l []int) bool { return len(l) > 1 }) {
			waiting++
		}
		if isRing(got) {
			rings++
		}
	}
	if waiting < 250 || rings < 50 {
		t.Error(waiting, rings)
	}
}

func TestHasLockByLookingThroughHeld(t *testing.T) {
	places := []int{-64, -1, 0, 1, 2, 3, 4, 5, 6, 64, math.MinInt, math.MaxInt}
	reads, writes, none := 0, 0, 0
	for _, k := range thrownLocks(500, dice{1405}) {
		for _, txn := range places {
			for _, item := range places {
				want := kindByHand(k.Held, txn, item)
				if got, ok := impl.HasLock(k, txn, item); ok != (want > 0) || got != want {
					t.Fatalf("HasLock(%v, %d, %d) = %d, %v", k, txn, item, got, ok)
				}
				switch want {
				case impl.StepRead:
					reads++
				case impl.StepWrite:
					writes++
				default:
					none++
				}
			}
		}
	}
	if reads < 500 || writes < 500 || none < 500 {
		t.Error(reads, writes, none)
	}
}

// A lock that is held to read and then to write is held to write, and stays so.
func TestLocksAreNeverMadeLess(t *testing.T) {
	for _, one := range []struct {
		asks string
		want int
	}{
		{"r21", 1}, {"w21", 2}, {"r21 r21", 1}, {"r21 w21", 2}, {"w21 r21", 2}, {"w21 w21", 2}, {"r21 w21 r21", 2}, {"w21 r21 r21", 2},
		{"r20 w22 r21 r11 r31", 1}, {"r11 w21 d1", 2}, {"r21 r11 w21", 1}, {"r21 r11 w21 d1", 2}, {"w11 r21 d1", 1}, {"w11 r21 d1 w21 r21", 2},
		{"", 0}, {"w11", 0}, {"w20 r22", 0}, {"r21 d2", 0}, {"w11 r21", 0}, {"r21 r11 w11 w21", 0},
	} {
		k, _ := checkPlay(t, asksOf(one.asks))
		if got, ok := impl.HasLock(k, 2, 1); got != one.want || ok != (one.want > 0) {
			t.Errorf("after %s HasLock tells %d, %v", one.asks, got, ok)
		}
	}
}

func TestRunDoneAsTold(t *testing.T) {
	for _, one := range []struct {
		k    impl.Locks
		want string
	}{
		{impl.Locks{}, ""},
		{locks("", "", "r00 w11 r22", "", ""), ""},
		{locks("", "", "r00 w11 r22 w01", "0", ""), "r00 w01"},
		{locks("", "", "r00 w11 r22 w01", "20", "1"), "r00 r22 w01"},
		{locks("", "", "r00 w11 r22 w01", "210", ""), "r00 w11 r22 w01"},
		{locks("", "", "r00 w11 r22 w01", "543", "210"), ""},
		{locks("w00", "r10", "w00 r53 w53", "5", ""), "r53 w53"},
	} {
		if got, ok := impl.RunDone(one.k); !ok || !slices.Equal(got, runOf(one.want)) {
			t.Errorf("RunDone(%v) = %v, %v", one.k, got, ok)
		}
	}
	for _, k := range thrownLocks(500, dice{1406}) {
		want := slices.DeleteFunc(slices.Clone(k.Run), func(s impl.Step) bool { return timesIn(k.Done, s.Txn) == 0 })
		if got, ok := impl.RunDone(k); !ok || !slices.Equal(got, want) {
			t.Fatalf("RunDone(%v) = %v, %v", k, got, ok)
		}
	}
}

// endedInOrder has those that have ended, in the order in which they did, without those that took no step.
func endedInOrder(k impl.Locks, run []impl.Step) []int {
	return slices.DeleteFunc(slices.Clone(k.Done), func(txn int) bool { return !slices.ContainsFunc(run, isOf(txn)) })
}

// checkEnded tells whether the run of those that have ended mingles steps, and has clashes.
func checkEnded(t *testing.T, l []impl.Ask) (bool, bool) {
	t.Helper()
	k, _, played := impl.PlayAsks(l)
	run, ok := impl.RunDone(k)
	order := endedInOrder(k, run)
	serial, told := impl.SerialRun(run, order)
	same, good := impl.SameRuns(run, serial)
	if !played || !ok || !told || !good || !same {
		t.Fatalf("of %v: %v, RunDone %v, %v, SerialRun %v, %v, SameRuns %v, %v", l, k, run, ok, serial, told, same, good)
	}
	of := conflictsByHand(run)
	if !sameRunsByHand(run, serialRunByHand(run, order)) || !standsAhead(order, of) {
		t.Fatalf("of %v: %v, %v is not as one after the other by %v", l, k, run, order)
	}
	return !slices.Equal(run, serial), slices.ContainsFunc(of, func(l []int) bool { return len(l) > 0 })
}

// Promise 14: what has ended ran as one after the other, in the order in which it ended.
func TestWhatHasEndedRanAsOneAfterTheOther(t *testing.T) {
	for _, l := range slices.Concat(wellAsked(), smallAsks()) {
		checkEnded(t, l)
	}
	thrown := dice{1407}
	both := 0
	for range 6000 {
		mingled, clashes := checkEnded(t, thrown.asks(20+thrown.below(41), 2+thrown.below(5), 1+thrown.below(4), 1+thrown.below(5), 3+thrown.below(9)))
		if mingled && clashes {
			both++
		}
	}
	if both < 800 {
		t.Error(both)
	}
}

// Promise 14, where all who can end do so behind the asks: no step of those is left out.
func TestWhatHasEndedRanAsOneAfterTheOtherWhenAllEnd(t *testing.T) {
	thrown := dice{1408}
	all, both := 0, 0
	for range 3000 {
		l := thrown.asks(10+thrown.below(31), 6, 1+thrown.below(4), 1+thrown.below(6), 12)
		for range 3 {
			l = append(l, asksOf("d3 d1 d5 d0 d2 d4")...)
		}
		k, _ := checkPlay(t, l)
		if len(k.Done)+len(k.Stopped) == 6 {
			all++
		}
		if mingled, clashes := checkEnded(t, l); mingled && clashes && len(k.Done) > 3 {
			both++
		}
	}
	if all < 2000 || both < 500 {
		t.Error(all, both)
	}
}

// Without an end in between all locks are kept: no step of another one clashes with what was done till its transaction has ended.
func TestLocksAreKeptTillTheEnd(t *testing.T) {
	thrown := dice{1409}
	for range 1500 {
		var k impl.Locks
		for _, a := range thrown.anyAsks() {
			next, _, ok := impl.TakeAsk(k, a)
			if !ok {
				continue
			}
			for _, s := range next.Run[len(k.Run):] {
				for _, ahead := range k.Run {
					gone := slices.Contains(slices.Concat(next.Done, next.Stopped), ahead.Txn)
					if clashByHand(ahead, s) && !gone {
						t.Fatalf("of %v %v lets %v go, which clashes with %v", k, a, s, ahead)
					}
				}
			}
			k = next
		}
	}
}

func TestAsksAreRefused(t *testing.T) {
	for _, k := range goodLocks() {
		for _, a := range badAsks() {
			if got, told, ok := impl.TakeAsk(k, a); ok || told != 0 || !isNoLocks(got) {
				t.Errorf("TakeAsk(%v, %v) = %v, %d, %v", k, a, got, told, ok)
			}
		}
	}
	for _, a := range badAsks() {
		k, told := checkPlay(t, slices.Concat(asksOf("w00 r10"), []impl.Ask{a, a}, asksOf("d0"), []impl.Ask{a}))
		if !slices.Equal(told, digits("120040")) || !sameLocks(k, locks("r10", "", "w00 r10", "0", "")) {
			t.Errorf("with %v in between %v, %v", a, k, told)
		}
	}
}

// Who has ended, was stopped or waits can't ask, whatever for.
func TestAsksOfThoseWhoAreNotFreeAreRefused(t *testing.T) {
	k := locks("w00 w11", "r40 w51", "w00 w11", "2", "3")
	for _, a := range allAsks() {
		got, told, ok := impl.TakeAsk(k, a)
		if ok != (a.Step.Txn < 2) || !ok && (told != 0 || !isNoLocks(got)) {
			t.Errorf("TakeAsk(%v, %v) = %v, %d, %v", k, a, got, told, ok)
		}
	}
}

func checkLocksRefused(t *testing.T, k impl.Locks) {
	t.Helper()
	if impl.GoodLocks(k) {
		t.Errorf("GoodLocks(%v) is true", k)
	}
	for _, a := range slices.Concat(asksOf("r00 w00 r31 w53 d0 d1 d3 d5"), badAsks()[:4]) {
		if got, told, ok := impl.TakeAsk(k, a); ok || told != 0 || !isNoLocks(got) {
			t.Errorf("TakeAsk(%v, %v) = %v, %d, %v", k, a, got, told, ok)
		}
	}
	if got, ok := impl.WaitsFor(k); ok || len(got) != 0 {
		t.Errorf("WaitsFor(%v) = %v, %v", k, got, ok)
	}
	if got, ok := impl.RunDone(k); ok || len(got) != 0 {
		t.Errorf("RunDone(%v) = %v, %v", k, got, ok)
	}
	for _, lock := range append(slices.Clone(k.Held), runOf("r00 r10 w53")...) {
		if got, ok := impl.HasLock(k, lock.Txn, lock.Item); ok || got != 0 {
			t.Errorf("HasLock(%v, %d, %d) = %d, %v", k, lock.Txn, lock.Item, got, ok)
		}
	}
}

func TestLocksAreRefused(t *testing.T) {
	for _, k := range badLocks() {
		checkLocksRefused(t, k)
	}
}

// Promise 19: each function of chapter 14 answers at any arguments, the same each time, in new memory, and writes into none.
func TestLocksAnswerAndWriteNothing(t *testing.T) {
	asks := slices.Concat(asksOf("r00 w00 w11 r22 w33 r41 w50 d0 d1 d3 d5"), badAsks()[:2], badAsks()[24:26])
	for n, k := range slices.Concat(thrownLocks(100, dice{1410}), badLocks()) {
		k := withGuards(k)
		checkCall(t, "GoodLocks", func() []any { return []any{impl.GoodLocks(k)} }, k)
		checkCall(t, "WaitsFor", func() []any { return answers(impl.WaitsFor(k)) }, k)
		checkCall(t, "RunDone", func() []any { return answers(impl.RunDone(k)) }, k)
		for _, a := range asks {
			checkCall(t, "TakeAsk", func() []any { return threeAnswers(impl.TakeAsk(k, a)) }, k, a)
		}
		for _, at := range [][2]int{{n % 6, n % 4}, {0, 0}, {5, 3}, {-1, 0}, {6, 4}, {0, -1}, {math.MinInt, math.MaxInt}, {math.MaxInt, math.MinInt}} {
			checkCall(t, "HasLock", func() []any { return answers(impl.HasLock(k, at[0], at[1])) }, k)
		}
	}
	thrown := dice{1411}
	some := append(wellAsked(), slices.Repeat(asksOf("r00"), 61), make([]impl.Ask, 60), make([]impl.Ask, 1000), badAsks()[:60])
	for range 300 {
		some = append(some, thrown.anyAsks())
	}
	for _, l := range some {
		l := withGuards(l)
		checkCall(t, "PlayAsks", func() []any { return threeAnswers(impl.PlayAsks(l)) }, l)
	}
}

func lockAnswers(k impl.Locks) string {
	all := fmt.Sprint(impl.GoodLocks(k), answers(impl.WaitsFor(k)), answers(impl.RunDone(k)))
	for _, a := range asksOf("r00 w10 w21 r32 w43 r50 d0 d2 d5") {
		all += fmt.Sprint(threeAnswers(impl.TakeAsk(k, a)), answers(impl.HasLock(k, a.Step.Txn, a.Step.Item)))
	}
	return all
}

// Locks whose lists share their memory are handed in; what is told shares none, and is as if they had been apart.
func TestLocksThatShareTheirLists(t *testing.T) {
	steps, numbers := runOf("r00 w13 r20 r31 w42 r53 r03 w10"), digits("4531")
	for from := range len(steps) {
		for to := from; to <= len(steps); to++ {
			for _, k := range []impl.Locks{
				{Held: steps[from:to], Waits: steps[from:to], Run: steps[from:to]},
				{Held: steps[:from], Waits: steps[from:to], Run: steps[:to], Done: numbers[:1], Stopped: numbers[1:3]},
				{Held: steps[from:to], Waits: steps[:from], Run: steps, Done: numbers[:0], Stopped: numbers[:1]},
				{Held: steps[:from], Waits: steps[to:], Run: steps[from:to], Done: numbers[:2], Stopped: numbers[:2]},
			} {
				for _, a := range asksOf("r00 w10 w21 d2 d0") {
					checkCall(t, "TakeAsk", func() []any { return threeAnswers(impl.TakeAsk(k, a)) }, k, a)
				}
				if got, want := lockAnswers(k), lockAnswers(copyOfLocks(k)); got != want {
					t.Errorf("%v: %s, apart %s", k, got, want)
				}
			}
		}
	}
}

// What lies behind a list's length does not count, be it good or not.
func TestLocksDoNotReadBehindTheirLists(t *testing.T) {
	behind := func(l, more []impl.Step) []impl.Step { return append(slices.Clone(l), more...)[:len(l)] }
	for _, k := range append(thrownLocks(100, dice{1412}), badLocks()...) {
		plain := lockAnswers(k)
		if got := lockAnswers(withGuards(k)); got != plain {
			t.Errorf("%v: %s, with guards behind the lists %s", k, plain, got)
		}
		long := impl.Locks{
			Held: behind(k.Held, runOf("w53 r00")), Waits: behind(k.Waits, runOf("r10 w20")), Run: behind(k.Run, runOf("w00 w10")),
			Done: append(slices.Clone(k.Done), 0, 1)[:len(k.Done)], Stopped: append(slices.Clone(k.Stopped), 2, 3)[:len(k.Stopped)],
		}
		if got := lockAnswers(long); got != plain {
			t.Errorf("%v: %s, with more behind the lists %s", k, plain, got)
		}
	}
	for _, l := range wellAsked() {
		k, told, ok := impl.PlayAsks(l)
		long := append(slices.Clone(l), asksOf("w00 d1")...)[:len(l)]
		if got, of, good := impl.PlayAsks(long); good != ok || !slices.Equal(of, told) || !sameLocks(got, k) {
			t.Errorf("PlayAsks(%v) = %v, %v, with more behind the list %v, %v", l, k, told, got, of)
		}
	}
}

// The empty list and the nil list are the same value.
func TestEmptyLocksAndNone(t *testing.T) {
	empty := impl.Locks{Held: []impl.Step{}, Waits: []impl.Step{}, Run: []impl.Step{}, Done: []int{}, Stopped: []int{}}
	if a, b := lockAnswers(impl.Locks{}), lockAnswers(empty); a != b {
		t.Error(a, b)
	}
	for _, l := range [][]impl.Ask{nil, {}} {
		if k, told, ok := impl.PlayAsks(l); !ok || len(told) != 0 || !isNoLocks(k) {
			t.Error(k, told, ok)
		}
	}
}

// An answer is the caller's own: what is written into it is not told by a later one.
func TestLocksAreTheCallersOwn(t *testing.T) {
	k := locks("w00 r11 r21", "r30 w12 w41", "w00 r11 r21 w52", "5", "")
	plain := lockAnswers(k)
	for _, a := range asksOf("r00 r01 d0 d2 w01") {
		got, _, ok := impl.TakeAsk(k, a)
		if !ok {
			t.Fatalf("TakeAsk(%v, %v) is refused", k, a)
		}
		for _, l := range [][]impl.Step{got.Held, got.Waits, got.Run} {
			whole := l[:cap(l)]
			for n := range whole {
				whole[n] = impl.Step{Txn: guard}
			}
		}
		got.Done[0] = guard
	}
	waits, _ := impl.WaitsFor(k)
	for n := range waits {
		waits[n] = append(waits[n][:0], guard)
	}
	run, _ := impl.RunDone(k)
	run[0] = impl.Step{}
	if again := lockAnswers(k); again != plain {
		t.Errorf("%s, then %s", plain, again)
	}
	asks := asksOf("w00 r10 d0 w20")
	first, told, _ := impl.PlayAsks(asks)
	first.Run[0], first.Done[0], told[0] = impl.Step{}, guard, guard
	if second, of, ok := impl.PlayAsks(asks); !ok || !slices.Equal(of, digits("1242")) || !sameLocks(second, locks("r10", "w20", "w00 r10", "0", "")) {
		t.Error(second, of, ok)
	}
}
