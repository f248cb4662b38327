package tests

import (
	"fmt"
	"maps"
	"math"
	"math/big"
	"slices"
	"strconv"
	"strings"
	"testing"

	"loop.example/g00305/impl"
)

const (
	snapRoom     = 12
	snapRecorded = 200
	snapSent     = 1000000
	snapTogether = 2000000000
)

func numberOf(s string) int {
	n, fault := strconv.Atoi(s)
	if fault != nil {
		panic(fault)
	}
	return n
}

func numbersOf(s string) []int {
	var out []int
	for _, one := range strings.Split(s, ",") {
		if one != "" {
			out = append(out, numberOf(one))
		}
	}
	return out
}

// snap tells the snap of a text: "5 7!9 | 01=3,0 10~+4": process 0 has 5, 1 has 7 and is Done with 9 saved; on the wire from 0 to 1 are 3 and a marker; the one from 1 to 0 is Open, and 4 is Recorded there.
func snap(s string) impl.Snap {
	procs, wires, _ := strings.Cut(s, "|")
	var out impl.Snap
	for _, one := range strings.Fields(procs) {
		amount, saved, done := strings.Cut(one, "!")
		p := impl.Proc{Amount: numberOf(amount), Done: done}
		if done {
			p.Saved = numberOf(saved)
		}
		out.Procs = append(out.Procs, p)
	}
	out.Wires = make([]impl.Wire, len(out.Procs)*len(out.Procs))
	for _, one := range strings.Fields(wires) {
		rest, recorded, _ := strings.Cut(one, "+")
		rest, words, _ := strings.Cut(rest, "=")
		ends, _, open := strings.Cut(rest, "~")
		out.Wires[int(ends[0]-'0')*len(out.Procs)+int(ends[1]-'0')] = impl.Wire{Words: numbersOf(words), Recorded: numbersOf(recorded), Open: open}
	}
	return out
}

// snapStepsOf tells the steps of a text: "s01:5 t10 p0": 0 sends 5 to 1, 0 takes what comes from 1, 0 starts a picture.
func snapStepsOf(s string) []impl.SnapStep {
	var out []impl.SnapStep
	for _, one := range strings.Fields(s) {
		ends, by, _ := strings.Cut(one[1:], ":")
		from := int(ends[0] - '0')
		switch one[0] {
		case 's':
			out = append(out, sendBy(from, int(ends[1]-'0'), numberOf(by)))
		case 't':
			out = append(out, takeFrom(from, int(ends[1]-'0')))
		case 'p':
			out = append(out, startBy(from))
		}
	}
	return out
}

func sendBy(from, to, by int) impl.SnapStep {
	return impl.SnapStep{Kind: impl.SnapSend, From: from, To: to, By: by}
}

func takeFrom(from, to int) impl.SnapStep {
	return impl.SnapStep{Kind: impl.SnapTake, From: from, To: to}
}

func startBy(from int) impl.SnapStep {
	return impl.SnapStep{Kind: impl.SnapStart, From: from}
}

// didOf tells "110" of true, true, false.
func didOf(l []bool) string {
	var b strings.Builder
	for _, one := range l {
		if one {
			b.WriteByte('1')
		} else {
			b.WriteByte('0')
		}
	}
	return b.String()
}

func sameWires(a, b impl.Wire) bool {
	return slices.Equal(a.Words, b.Words) && slices.Equal(a.Recorded, b.Recorded) && a.Open == b.Open
}

func sameSnaps(a, b impl.Snap) bool {
	return slices.Equal(a.Procs, b.Procs) && slices.EqualFunc(a.Wires, b.Wires, sameWires)
}

func isNoSnap(s impl.Snap) bool {
	return sameSnaps(s, impl.Snap{})
}

func copyOfSnap(s impl.Snap) impl.Snap {
	out := impl.Snap{Procs: slices.Clone(s.Procs), Wires: slices.Clone(s.Wires)}
	for n, w := range s.Wires {
		out.Wires[n] = impl.Wire{Words: slices.Clone(w.Words), Recorded: slices.Clone(w.Recorded), Open: w.Open}
	}
	return out
}

func allWithin(l []int, least, most int) bool {
	return !slices.ContainsFunc(l, func(n int) bool { return n < least || n > most })
}

// numbersTold has all amounts of a snap: what is there, and what is saved.
func numbersTold(s impl.Snap) ([]int, []int) {
	var there, saved []int
	for _, p := range s.Procs {
		there, saved = append(there, p.Amount), append(saved, p.Saved)
	}
	for _, w := range s.Wires {
		there, saved = append(there, w.Words...), append(saved, w.Recorded...)
	}
	return there, saved
}

func sumByBig(l []int) *big.Int {
	sum := new(big.Int)
	for _, n := range l {
		sum.Add(sum, big.NewInt(int64(n)))
	}
	return sum
}

func goodSnapByHand(s impl.Snap) bool {
	wires := map[int]int{2: 4, 3: 9, 4: 16}[len(s.Procs)]
	if wires == 0 || len(s.Wires) != wires {
		return false
	}
	good := true
	for to, p := range s.Procs {
		good = good && allWithin([]int{p.Amount, p.Saved}, 0, snapTogether) && (p.Done || p.Saved == 0)
		for from := range s.Procs {
			w := s.Wires[from*len(s.Procs)+to]
			good = good && len(w.Words) <= snapRoom && allWithin(w.Words, 0, snapSent) && len(w.Recorded) <= snapRecorded && allWithin(w.Recorded, 1, snapSent)
			if !p.Done || from == to {
				good = good && !w.Open && len(w.Recorded) == 0
			}
			if from == to {
				good = good && len(w.Words) == 0
			}
		}
	}
	there, saved := numbersTold(s)
	return good && sumByBig(append(there, saved...)).Cmp(big.NewInt(snapTogether)) <= 0
}

type wireAt struct {
	from, to int
}

// book tells a snap otherwise: by maps, where saved has those alone that are Done.
type book struct {
	many            int
	amounts, saved  map[int]int
	words, recorded map[wireAt][]int
	open            map[wireAt]bool
}

func bookOf(s impl.Snap) book {
	b := book{len(s.Procs), map[int]int{}, map[int]int{}, map[wireAt][]int{}, map[wireAt][]int{}, map[wireAt]bool{}}
	for n, p := range s.Procs {
		b.amounts[n] = p.Amount
		if p.Done {
			b.saved[n] = p.Saved
		}
	}
	for n, w := range s.Wires {
		at := wireAt{n / b.many, n % b.many}
		b.words[at], b.recorded[at], b.open[at] = slices.Clone(w.Words), slices.Clone(w.Recorded), w.Open
	}
	return b
}

func (b book) snap() impl.Snap {
	var s impl.Snap
	for n := range b.many {
		saved, done := b.saved[n]
		s.Procs = append(s.Procs, impl.Proc{Amount: b.amounts[n], Saved: saved, Done: done})
		for to := range b.many {
			at := wireAt{n, to}
			s.Wires = append(s.Wires, impl.Wire{Words: b.words[at], Recorded: b.recorded[at], Open: b.open[at]})
		}
	}
	return s
}

// save has the process saved, all wires to it but one Open, and a marker on all wires from it, be there room or not.
func (b book) save(who int, but wireAt) {
	b.saved[who] = b.amounts[who]
	for at := range maps.Keys(b.words) {
		if at.from == at.to {
			continue
		}
		if at.from == who {
			b.words[at] = append(b.words[at], 0)
		}
		if at.to == who && at != but {
			b.open[at] = true
		}
	}
}

func (b book) come(at wireAt, word int) {
	if word > 0 {
		b.amounts[at.to] += word
		if b.open[at] {
			b.recorded[at] = append(b.recorded[at], word)
		}
		return
	}
	if _, done := b.saved[at.to]; done {
		b.open[at] = false
		return
	}
	b.save(at.to, at)
}

// stepSnapByHand does the step first, be there room or not, and then asks whether what came of it is good; it leaves all as it was where it tells false.
func stepSnapByHand(s impl.Snap, x impl.SnapStep) (impl.Snap, bool) {
	b, at := bookOf(s), wireAt{x.From, x.To}
	_, from := b.amounts[x.From]
	_, to := b.amounts[x.To]
	_, done := b.saved[x.From]
	between := from && to && x.From != x.To
	switch {
	case x.Kind == 1 && between && x.By > 0 && x.By <= b.amounts[x.From]:
		b.amounts[x.From] -= x.By
		b.words[at] = append(b.words[at], x.By)
	case x.Kind == 2 && between && len(b.words[at]) > 0 && len(b.recorded[at]) < snapRecorded:
		word := b.words[at][0]
		b.words[at] = b.words[at][1:]
		b.come(at, word)
	case x.Kind == 3 && from && !done:
		b.save(x.From, wireAt{-1, -1})
	default:
		return s, false
	}
	if next := b.snap(); goodSnapByHand(next) {
		return next, true
	}
	return s, false
}

func newSnapByHand(amounts []int) impl.Snap {
	var s impl.Snap
	for _, amount := range amounts {
		s.Procs = append(s.Procs, impl.Proc{Amount: amount})
	}
	s.Wires = make([]impl.Wire, len(amounts)*len(amounts))
	return s
}

func playSnapByHand(amounts []int, l []impl.SnapStep) (impl.Snap, []bool) {
	s := newSnapByHand(amounts)
	var did []bool
	for _, x := range l {
		next, done := stepSnapByHand(s, x)
		s, did = next, append(did, done)
	}
	return s, did
}

func totalByHand(s impl.Snap) int {
	there, _ := numbersTold(s)
	return int(sumByBig(there).Int64())
}

func pictureByHand(s impl.Snap) (int, bool) {
	for _, p := range s.Procs {
		if !p.Done {
			return 0, false
		}
	}
	for _, w := range s.Wires {
		if w.Open {
			return 0, false
		}
	}
	_, saved := numbersTold(s)
	return int(sumByBig(saved).Int64()), true
}

// finishByHand looks for a wire that has words from each process to each other one in turn, anew each time.
func finishByHand(s impl.Snap) (impl.Snap, int, bool) {
	begun := slices.ContainsFunc(s.Procs, func(p impl.Proc) bool { return p.Done })
	for taken := 0; begun; taken++ {
		x, found := impl.SnapStep{}, false
		for from := len(s.Procs) - 1; from >= 0; from-- {
			for to := len(s.Procs) - 1; to >= 0; to-- {
				if len(s.Wires[from*len(s.Procs)+to].Words) > 0 {
					x, found = takeFrom(from, to), true
				}
			}
		}
		if !found {
			_, whole := pictureByHand(s)
			return s, taken, whole
		}
		next, done := stepSnapByHand(s, x)
		if !done {
			return s, taken, false
		}
		s = next
	}
	return s, 0, false
}

// word is an amount, or a marker now and then.
func (d *dice) word() int {
	return d.oneOf(0, 1, 1, 2, 5, 30, 999999, snapSent)
}

func (d *dice) wire(toDone bool) impl.Wire {
	var w impl.Wire
	for range d.oneOf(0, 0, 0, 1, 1, 2, 4, 10, 11, 12) {
		w.Words = append(w.Words, d.word())
	}
	if toDone {
		w.Open = d.below(2) == 0
		for range d.oneOf(0, 0, 0, 1, 2, 3, 198, 199, 200) {
			w.Recorded = append(w.Recorded, d.oneOf(1, 1, 1, 1, 2, 3, 1000, snapSent))
		}
	}
	return w
}

// anySnap is good as far as its fields tell, but not always what steps would lead to; one time of three all amounts together come near what they may be.
func (d *dice) anySnap() impl.Snap {
	var s impl.Snap
	many := 2 + d.below(3)
	for range many {
		p := impl.Proc{Amount: d.oneOf(0, 1, 2, 10, 999999, snapSent, snapSent+1, 50000000), Done: d.below(2) == 0}
		if p.Done {
			p.Saved = d.oneOf(0, 0, 1, 7, 90000000)
		}
		s.Procs = append(s.Procs, p)
	}
	for n := range many * many {
		if n/many == n%many {
			s.Wires = append(s.Wires, impl.Wire{})
		} else {
			s.Wires = append(s.Wires, d.wire(s.Procs[n%many].Done))
		}
	}
	there, saved := numbersTold(s)
	left := snapTogether - int(sumByBig(append(there, saved...)).Int64())
	if left < 0 {
		return d.anySnap()
	}
	if d.below(3) == 0 {
		s.Procs[d.below(many)].Amount += max(left-d.oneOf(0, 0, 1, 2, 10, snapSent, 50000000), 0)
	}
	return s
}

// snapSteps have each process send, take, and start a picture, as often as told.
func (d *dice) snapSteps(steps, many, sends, takes, starts int) []impl.SnapStep {
	var out []impl.SnapStep
	for range steps {
		from := d.below(many)
		to := (from + 1 + d.below(many-1)) % many
		which := d.below(sends + takes + starts)
		switch {
		case which < sends:
			out = append(out, sendBy(from, to, d.oneOf(1, 1, 2, 3, 8, 1000, snapSent)))
		case which < sends+takes:
			out = append(out, takeFrom(from, to))
		default:
			out = append(out, startBy(from))
		}
	}
	return out
}

func (d *dice) amounts(many int) []int {
	var out []int
	for range many {
		out = append(out, d.oneOf(0, 1, 2, 10, 40, 5000, snapSent, 20000000))
	}
	return out
}

type playedSnap struct {
	amounts []int
	steps   []impl.SnapStep
}

// anyPlay has a wrong step in between now and then.
func (d *dice) anyPlay() playedSnap {
	many := 2 + d.below(3)
	p := playedSnap{d.amounts(many), d.snapSteps(d.below(121), many, 1+d.below(6), 1+d.below(6), 1)}
	if d.below(8) == 0 {
		p.amounts[d.below(many)] = snapTogether / many
	}
	wrong := badSnapSteps(many)
	for n := range p.steps {
		if d.below(25) == 0 {
			p.steps[n] = wrong[d.below(len(wrong))]
		}
	}
	return p
}

// playsUpTo has all lists of so many steps at most, each process sending 1 alone.
func playsUpTo(longest int, amounts ...int) []playedSnap {
	var letters []impl.SnapStep
	for from := range amounts {
		letters = append(letters, startBy(from))
		for to := range amounts {
			if from != to {
				letters = append(letters, sendBy(from, to, 1), takeFrom(from, to))
			}
		}
	}
	var out []playedSnap
	for _, l := range listsUpTo(longest, firstNumbers(len(letters))) {
		p := playedSnap{amounts: amounts}
		for _, n := range l {
			p.steps = append(p.steps, letters[n])
		}
		out = append(out, p)
	}
	return out
}

// wellPlayed are some plays that lead far.
func wellPlayed() []playedSnap {
	return []playedSnap{
		{[]int{0, 0}, nil}, {[]int{10, 20}, snapStepsOf("s10:5 p0 t10 t01")}, {[]int{10, 20}, snapStepsOf("s10:5 s01:2 p0 p1 t10 t10 t01 t01")},
		{[]int{5, 5, 5}, snapStepsOf("s01:1 s12:2 s20:3 p1 t01 s01:1 t20 t12 t12 t10 t01 t20 t21 t02 t02")},
		{[]int{snapTogether, 0}, snapStepsOf("s01:1000000 p1 t10 p0 t01")}, {[]int{0, snapTogether - 5, 5, 0}, snapStepsOf("p3 t31 p2 t32 s20:5 t20 p0 t30 t01")},
		{[]int{12, 0}, slices.Concat(slices.Repeat(snapStepsOf("s01:1"), 13), snapStepsOf("p0 p1 t01 p0 t01 t10 p0"))},
		{[]int{7, 0, 0, 0}, slices.Repeat(snapStepsOf("p2 s01:1 t21 t01 s13:1 t20"), 20)},
		{[]int{1, 0}, slices.Repeat(snapStepsOf("s01:1 t01 s10:1 t10"), 30)}, {[]int{3, 3}, slices.Repeat(snapStepsOf("p0"), 120)},
	}
}

func anyPlays() []playedSnap {
	out := slices.Concat(wellPlayed(), playsUpTo(5, 1, 1), playsUpTo(6, 2, 0), playsUpTo(3, 1, 0, 1))
	thrown := dice{1501}
	for range 2000 {
		out = append(out, thrown.anyPlay())
	}
	return out
}

func goodSnaps() []impl.Snap {
	many := strings.Repeat(",1", snapRecorded)[1:]
	words := strings.Repeat(",1", snapRoom)[1:]
	return []impl.Snap{
		snap("0 0"), snap("0 0 0"), snap("0 0 0 0"), snap("2000000000 0"), snap("0 0 0 2000000000"), snap("500000000 500000000 500000000 500000000"),
		snap("10!10 20"), snap("10!0 20"), snap("0!10 0!20"), snap("0!0 0!0"), snap("0!2000000000 0"), snap("1000000000!1000000000 0!0"),
		snap("5 6 | 01=3,0,4 10=0"), snap("5 6 | 01=" + words), snap("5!5 6 | 01=0 10~=" + words + "+" + many), snap("5!5 6!6 | 01+" + many + " 10+" + many),
		snap("5!5 6!6 | 01~=1000000,0,1+1000000,1 10~=0,0,0,0,0,0,0,0,0,0,0,0+7"), snap("1998999999!0 0!0 | 01=1000000 10+1"), snap("1998999998!1 0!0 | 01~=1000000 10+1"),
		snap("5!5 6!6 7!7 | 01=1 02~+3 10~=0 12=4 20~+1 21+2"), snap("1!2 3!4 5!6 7!8 | 01~ 02~ 03~ 10~ 12~ 13~ 20~ 21~ 23~ 30~ 31~ 32~"),
		// No step leads here: who is Done has all wires shut with none of the others Done; more than one marker; none, though another one is Done.
		snap("5!5 6 7"), snap("5 6 | 01=0,0,0"), snap("5 6 7 8 | 32=0,0"), snap("5!1 6!1 | 01~ 10~"), snap("3!9 4!9 5!9"),
	}
}

// changedSnaps are all bad, each by one number or one list of a good one.
func changedSnaps(s impl.Snap) []impl.Snap {
	var out []impl.Snap
	change := func(by func(*impl.Snap)) {
		copied := copyOfSnap(s)
		by(&copied)
		if !goodSnapByHand(copied) {
			out = append(out, copied)
		}
	}
	change(func(s *impl.Snap) { s.Procs = s.Procs[1:] })
	change(func(s *impl.Snap) { s.Procs = append(s.Procs, impl.Proc{}) })
	change(func(s *impl.Snap) { s.Wires = s.Wires[1:] })
	change(func(s *impl.Snap) { s.Wires = append(s.Wires, impl.Wire{}) })
	change(func(s *impl.Snap) { s.Procs, s.Wires = append(s.Procs, impl.Proc{}), append(s.Wires, impl.Wire{}) })
	for n, p := range s.Procs {
		for _, bad := range []int{-1, -snapTogether, snapTogether + 1, math.MinInt, math.MaxInt, math.MaxInt / 2} {
			change(func(s *impl.Snap) { s.Procs[n].Amount = bad })
			change(func(s *impl.Snap) { s.Procs[n].Saved = bad })
			change(func(s *impl.Snap) { s.Procs[n].Saved, s.Procs[n].Done = bad, true })
			change(func(s *impl.Snap) { s.Procs[n].Amount, s.Procs[n].Saved, s.Procs[n].Done = -bad, bad, true })
		}
		change(func(s *impl.Snap) { s.Procs[n].Done = !p.Done })
		change(func(s *impl.Snap) { s.Procs[n].Saved++ })
		there, saved := numbersTold(s)
		change(func(s *impl.Snap) {
			s.Procs[n].Amount += snapTogether + 1 - int(sumByBig(append(there, saved...)).Int64())
		})
	}
	for n, w := range s.Wires {
		for _, bad := range []int{-1, snapSent + 1, math.MinInt, math.MaxInt} {
			change(func(s *impl.Snap) { s.Wires[n].Words = append([]int{bad}, w.Words[min(1, len(w.Words)):]...) })
			change(func(s *impl.Snap) { s.Wires[n].Recorded = append(w.Recorded[:max(len(w.Recorded)-1, 0)], bad) })
		}
		change(func(s *impl.Snap) { s.Wires[n].Recorded = []int{0} })
		change(func(s *impl.Snap) { s.Wires[n].Recorded = append(s.Wires[n].Recorded, 1) })
		change(func(s *impl.Snap) { s.Wires[n].Recorded = slices.Repeat([]int{1}, snapRecorded+1) })
		change(func(s *impl.Snap) { s.Wires[n].Words = slices.Repeat([]int{1}, snapRoom+1) })
		change(func(s *impl.Snap) { s.Wires[n].Words = make([]int, snapRoom+1) })
		change(func(s *impl.Snap) { s.Wires[n].Words = append(s.Wires[n].Words, 0) })
		change(func(s *impl.Snap) { s.Wires[n].Open = true })
	}
	return out
}

func badSnaps() []impl.Snap {
	long := slices.Repeat([]int{1}, 1000)
	out := []impl.Snap{
		{}, {Procs: []impl.Proc{}, Wires: []impl.Wire{}}, {Procs: make([]impl.Proc, 1), Wires: make([]impl.Wire, 1)}, {Procs: make([]impl.Proc, 5), Wires: make([]impl.Wire, 25)},
		{Procs: make([]impl.Proc, 2)}, {Wires: make([]impl.Wire, 4)}, {Procs: make([]impl.Proc, 3), Wires: make([]impl.Wire, 4)}, {Procs: make([]impl.Proc, 2), Wires: make([]impl.Wire, 9)},
		{Procs: make([]impl.Proc, 4), Wires: make([]impl.Wire, 15)}, {Procs: make([]impl.Proc, 4), Wires: make([]impl.Wire, 12)}, {Procs: make([]impl.Proc, 4), Wires: make([]impl.Wire, 17)},
		{Procs: make([]impl.Proc, 1000), Wires: make([]impl.Wire, 1000)}, {Procs: make([]impl.Proc, 1000)}, {Wires: make([]impl.Wire, 1000)},
		// Saved, Open or Recorded without Done.
		{Procs: []impl.Proc{{Saved: 1}, {}}, Wires: make([]impl.Wire, 4)}, snap("5 6 | 01~"), snap("5!5 6 | 01~"), snap("5!5 6 | 01+1"), snap("5 6!6 | 10~"), snap("5!5 6!6 7 | 12~"), snap("5!5 6!6 7 | 02+4"),
		// A wire from one to itself.
		snap("5!5 6!6 | 00~"), snap("5!5 6!6 | 11~"), snap("5 6 | 00=1"), snap("5 6 | 11=0"), snap("5!5 6!6 | 00+1"), snap("5!5 6!6 7!7 8!8 | 33+1"), snap("5!5 6!6 7!7 | 11~=0"),
		// Too much together.
		snap("2000000000 1"), snap("1000000000 1000000001"), snap("2000000000 0!1"), snap("2000000000 0 | 01=1"), snap("2000000000 0!0 | 01+1"), snap("0!2000000000 0!1"), snap("1!2000000000 0"), snap("0!1000001 1999000000"),
		snap("1999000000 0 | 01=1000000 10=1"), snap("1999000000!0 0!0 | 01+1000000 10+1"), snap("1000000000!1000000000 0!1"), snap("1000000000!999999999 0!0 | 01=1 10+1"), snap("500000000 500000000 500000000 500000001"),
		snap("9000000000000000000 9000000000000000000"), snap("9000000000000000000!9000000000000000000 0"), snap("9223372036854775807 1"), snap("0!9223372036854775807 1!1"), snap("-5 9"), snap("5!-5 9!9"), snap("9!9 -5!9"),
		snap("5 6 | 01=9223372036854775807,1"), snap("5 6 | 01=4611686018427387904,4611686018427387904"), snap("5!5 6!6 | 01+9223372036854775807,1"),
		{Procs: make([]impl.Proc, 2), Wires: []impl.Wire{{}, {Words: long}, {}, {}}}, {Procs: []impl.Proc{{Done: true}, {Done: true}}, Wires: []impl.Wire{{}, {Recorded: long}, {}, {}}},
	}
	for _, s := range goodSnaps() {
		out = append(out, changedSnaps(s)...)
	}
	return out
}

// badSnapSteps can't be done, whatever there is.
func badSnapSteps(many int) []impl.SnapStep {
	var out []impl.SnapStep
	for _, kind := range []int{0, 4, -1, 5, math.MinInt, math.MaxInt} {
		out = append(out, impl.SnapStep{Kind: kind}, impl.SnapStep{Kind: kind, From: 1, By: 1}, impl.SnapStep{Kind: kind, To: 1, By: 1})
	}
	for _, bad := range []int{-1, many, many + 1, many * many, -many, 64, math.MinInt, math.MaxInt} {
		out = append(out, startBy(bad), impl.SnapStep{Kind: impl.SnapStart, From: bad, To: 1, By: 1})
		for here := range many {
			out = append(out, sendBy(bad, here, 1), sendBy(here, bad, 1), takeFrom(bad, here), takeFrom(here, bad))
		}
		out = append(out, sendBy(bad, bad, 1), takeFrom(bad, bad))
	}
	for here := range many {
		out = append(out, sendBy(here, here, 1), takeFrom(here, here))
		for _, bad := range []int{0, -1, snapSent + 1, -snapSent, snapTogether, math.MinInt, math.MaxInt} {
			out = append(out, sendBy(here, (here+1)%many, bad))
		}
	}
	return out
}

// allSnapSteps has each take and each start, and of each two processes some sends.
func allSnapSteps(many int) []impl.SnapStep {
	var out []impl.SnapStep
	for from := range many {
		out = append(out, startBy(from))
		for to := range many {
			if from == to {
				continue
			}
			out = append(out, takeFrom(from, to))
			for _, by := range []int{1, 2, 10, 11, 999999, snapSent} {
				out = append(out, sendBy(from, to, by))
			}
		}
	}
	return out
}

// thrownSnaps are good ones, made by hand and by steps.
func thrownSnaps(many int, thrown dice) []impl.Snap {
	out := goodSnaps()
	for range many {
		p := thrown.anyPlay()
		s, _ := playSnapByHand(p.amounts, p.steps)
		out = append(out, s, thrown.anySnap())
	}
	return out
}

func TestNewSnapAsTold(t *testing.T) {
	if impl.MaxProcs != 4 || impl.MaxOnWay != snapRoom || impl.MaxSnapSteps != 120 || impl.SnapSend != 1 || impl.SnapTake != 2 || impl.SnapStart != 3 {
		t.Error(impl.MaxProcs, impl.MaxOnWay, impl.MaxSnapSteps, impl.SnapSend, impl.SnapTake, impl.SnapStart)
	}
	for _, one := range []struct {
		amounts []int
		want    string
	}{
		{numbersOf("10,20"), "10 20"}, {numbersOf("0,0"), "0 0"}, {numbersOf("0,1,2"), "0 1 2"}, {numbersOf("3,0,1,2"), "3 0 1 2"},
		{numbersOf("2000000000,0"), "2000000000 0"}, {numbersOf("0,0,0,2000000000"), "0 0 0 2000000000"}, {numbersOf("1000000000,999999999,1"), "1000000000 999999999 1"},
	} {
		if got, ok := impl.NewSnap(one.amounts); !ok || !sameSnaps(got, snap(one.want)) || !impl.GoodSnap(got) {
			t.Errorf("NewSnap(%v) = %v, %v", one.amounts, got, ok)
		}
	}
}

func badAmounts() [][]int {
	return [][]int{
		nil, {}, {0}, {5}, {snapTogether}, {0, 0, 0, 0, 0}, {1, 2, 3, 4, 5}, make([]int, 6), make([]int, 16), make([]int, 100000),
		{-1, 0}, {0, -1}, {5, 5, -5}, {0, 0, 0, -1}, {-1, snapTogether}, {math.MinInt, 0}, {0, math.MinInt}, {math.MinInt, math.MinInt}, {math.MinInt, math.MaxInt, 1},
		{snapTogether + 1, 0}, {0, snapTogether + 1}, {snapTogether, 1}, {1, snapTogether}, {snapTogether, snapTogether}, {1000000000, 1000000000, 1}, {500000000, 500000000, 500000000, 500000001},
		{math.MaxInt, 0}, {math.MaxInt, 1}, {math.MaxInt, math.MaxInt}, {math.MaxInt, math.MaxInt, 2}, {1 << 62, 1 << 62}, {1 << 62, 1 << 62, 1 << 62, 1 << 62},
	}
}

func TestNewSnapIsRefused(t *testing.T) {
	for _, amounts := range badAmounts() {
		if got, ok := impl.NewSnap(amounts); ok || !isNoSnap(got) {
			t.Errorf("NewSnap(%v) = %v, %v", amounts, got, ok)
		}
		for _, l := range [][]impl.SnapStep{nil, snapStepsOf("p0"), snapStepsOf("s01:1 p1 t01")} {
			if got, did, ok := impl.PlaySnap(amounts, l); ok || len(did) != 0 || !isNoSnap(got) {
				t.Errorf("PlaySnap(%v, %v) = %v, %v, %v", amounts, l, got, did, ok)
			}
		}
	}
}

func TestGoodSnapAsTold(t *testing.T) {
	for _, s := range thrownSnaps(1500, dice{1502}) {
		if !impl.GoodSnap(s) || !goodSnapByHand(s) {
			t.Fatalf("GoodSnap(%v) is false", s)
		}
	}
	for _, s := range badSnaps() {
		if impl.GoodSnap(s) || goodSnapByHand(s) {
			t.Errorf("GoodSnap(%v) is true", s)
		}
	}
}

func TestGoodSnapAtEachNumber(t *testing.T) {
	for procs := range 8 {
		for wires := range 40 {
			s := impl.Snap{Procs: make([]impl.Proc, procs), Wires: make([]impl.Wire, wires)}
			if got := impl.GoodSnap(s); got != (procs >= 2 && procs <= 4 && wires == procs*procs) {
				t.Errorf("with %d processes and %d wires GoodSnap is %v", procs, wires, got)
			}
		}
	}
	done := snap("0!0 0!0 0!0")
	for many := range 210 {
		s := copyOfSnap(done)
		s.Wires[5].Words = slices.Repeat([]int{3}, many)
		if got := impl.GoodSnap(s); got != (many <= 12) {
			t.Errorf("with %d words GoodSnap is %v", many, got)
		}
		s = copyOfSnap(done)
		s.Wires[5].Recorded = slices.Repeat([]int{3}, many)
		if got := impl.GoodSnap(s); got != (many <= 200) {
			t.Errorf("with %d amounts Recorded GoodSnap is %v", many, got)
		}
	}
	for _, n := range []int{math.MinInt, -snapSent, -2, -1, 0, 1, 2, snapSent - 1, snapSent, snapSent + 1, snapTogether, math.MaxInt} {
		s := copyOfSnap(done)
		s.Wires[7].Words = []int{0, 4, n}
		if got := impl.GoodSnap(s); got != (n >= 0 && n <= 1000000) {
			t.Errorf("with the word %d GoodSnap is %v", n, got)
		}
		s = copyOfSnap(done)
		s.Wires[7].Recorded = []int{4, n}
		if got := impl.GoodSnap(s); got != (n >= 1 && n <= 1000000) {
			t.Errorf("with %d Recorded GoodSnap is %v", n, got)
		}
	}
}

// All amounts together count, wherever they are: up to 2000000000 and no more.
func TestGoodSnapOfAllTogether(t *testing.T) {
	places := []func(*impl.Snap, int){
		func(s *impl.Snap, n int) { s.Procs[0].Amount += n },
		func(s *impl.Snap, n int) { s.Procs[2].Amount += n },
		func(s *impl.Snap, n int) { s.Procs[0].Saved += n },
		func(s *impl.Snap, n int) { s.Procs[2].Saved += n },
		func(s *impl.Snap, n int) { s.Wires[1].Words = append(s.Wires[1].Words, n) },
		func(s *impl.Snap, n int) { s.Wires[7].Words = append(s.Wires[7].Words, n) },
		func(s *impl.Snap, n int) { s.Wires[1].Recorded = append(s.Wires[1].Recorded, n) },
		func(s *impl.Snap, n int) { s.Wires[7].Recorded = append(s.Wires[7].Recorded, n) },
	}
	for a, first := range places {
		for b, further := range places {
			for _, more := range []int{1, 2, 5, snapSent} {
				s := snap("600000000!400000000 0!0 500000000!498999999")
				first(&s, more)
				further(&s, 1000000)
				if got := impl.GoodSnap(s); got != (more == 1) {
					t.Errorf("with %d at %d and a million at %d GoodSnap(%v) is %v", more, a, b, s, got)
				}
			}
		}
	}
}

// Of each wire and each who is Done it is told whether it may have words, be Open, and have Recorded.
func TestGoodSnapOfEachWire(t *testing.T) {
	for many := 2; many <= 4; many++ {
		for done := range 1 << many {
			s := newSnapByHand(make([]int, many))
			for n := range many {
				s.Procs[n].Done = done>>n&1 == 1
			}
			if !impl.GoodSnap(s) {
				t.Errorf("GoodSnap(%v) is false", s)
			}
			for n := range many * many {
				self, toDone := n/many == n%many, s.Procs[n%many].Done
				for _, one := range []struct {
					w    impl.Wire
					want bool
				}{
					{impl.Wire{Words: []int{0}}, !self}, {impl.Wire{Words: []int{7}}, !self},
					{impl.Wire{Open: true}, !self && toDone}, {impl.Wire{Recorded: []int{7}}, !self && toDone},
					{impl.Wire{Words: []int{1, 0}, Recorded: []int{7}, Open: true}, !self && toDone},
				} {
					other := copyOfSnap(s)
					other.Wires[n] = one.w
					if got := impl.GoodSnap(other); got != one.want {
						t.Errorf("with wire %d GoodSnap(%v) is %v", n, other, got)
					}
				}
			}
			for n := range many {
				other := copyOfSnap(s)
				other.Procs[n].Saved = 3
				if got := impl.GoodSnap(other); got != s.Procs[n].Done {
					t.Errorf("GoodSnap(%v) is %v", other, got)
				}
			}
		}
	}
}

type snapStepCase struct {
	from, step, want string
}

// checkSnapSteps takes a want of "" for what can't be done.
func checkSnapSteps(t *testing.T, cases []snapStepCase) {
	t.Helper()
	for _, one := range cases {
		s, x := snap(one.from), snapStepsOf(one.step)[0]
		want, done := impl.Snap{}, one.want != ""
		if done {
			want = snap(one.want)
		}
		if got, ok := impl.StepSnap(s, x); ok != done || !sameSnaps(got, want) {
			t.Errorf("StepSnap of %s by %s = %v, %v, not %s", one.from, one.step, got, ok, one.want)
		}
		if byHand, ok := stepSnapByHand(s, x); ok != done || done && !sameSnaps(byHand, want) || !goodSnapByHand(s) {
			t.Errorf("by hand %s of %s is %v, %v", one.step, one.from, byHand, ok)
		}
	}
}

func TestSendsAsTold(t *testing.T) {
	room := strings.Repeat(",7", snapRoom)[1:]
	checkSnapSteps(t, []snapStepCase{
		{"10 20", "s01:3", "7 20 | 01=3"},
		{"10 20", "s10:3", "10 17 | 10=3"},
		{"7 20 | 01=3", "s01:4", "3 20 | 01=3,4"},
		{"7 20 | 01=3,0", "s01:4", "3 20 | 01=3,0,4"},
		{"7 20 30 | 20=3", "s21:4", "7 20 26 | 20=3 21=4"},
		{"7 20 30 40", "s31:1", "7 20 30 39 | 31=1"},
		// All that there is, and more.
		{"10 20", "s01:10", "0 20 | 01=10"},
		{"10 20", "s01:11", ""},
		{"10 20", "s10:11", "10 9 | 10=11"},
		{"0 20", "s01:1", ""},
		{"1 0", "s01:1", "0 0 | 01=1"},
		{"3000000 0", "s01:1000000", "2000000 0 | 01=1000000"},
		{"1000000 0", "s01:1000000", "0 0 | 01=1000000"},
		{"999999 0", "s01:1000000", ""},
		{"3000000 0", "s01:1000001", ""},
		{"2000000000 0", "s01:1000000", "1999000000 0 | 01=1000000"},
		{"10 20", "s01:0", ""},
		{"10 20", "s01:-1", ""},
		{"10 20", "s00:1", ""},
		{"10 20", "s11:1", ""},
		{"10 20", "s02:1", ""},
		{"10 20", "s21:1", ""},
		// There is room for so many words, whatever the other wires have.
		{"10 20 | 01=" + room[2:], "s01:5", "5 20 | 01=" + room[2:] + ",5"},
		{"10 20 | 01=" + room, "s01:5", ""},
		{"10 20 | 01=0,0,0,0,0,0,0,0,0,0,0,0", "s01:5", ""},
		{"10 20 | 01=" + room, "s10:5", "10 15 | 01=" + room + " 10=5"},
		{"10 20 30 | 01=" + room, "s02:5", "5 20 30 | 01=" + room + " 02=5"},
		// What is Saved, Recorded and Open stays.
		{"10!4 20!9 | 01~=0+3 10~=1", "s01:2", "8!4 20!9 | 01~=0,2+3 10~=1"},
		{"10!4 20 | 10~", "s01:2", "8!4 20 | 01=2 10~"},
	})
}

func TestTakesAsTold(t *testing.T) {
	many := strings.Repeat(",1", snapRecorded)[1:]
	checkSnapSteps(t, []snapStepCase{
		{"10 20 | 01=3", "t01", "10 23"},
		{"10 20 | 01=3,4,5", "t01", "10 23 | 01=4,5"},
		{"10 20 | 01=3 10=4", "t10", "14 20 | 01=3"},
		{"1 2 3 4 | 32=1,0 23=5", "t32", "1 2 4 4 | 32=0 23=5"},
		{"0 0 | 01=1000000,1000000", "t01", "0 1000000 | 01=1000000"},
		{"1999999999 0 | 01=1", "t01", "1999999999 1"},
		// An amount is recorded where its wire is Open, and there alone.
		{"10!7 20!9 | 01~=3,4", "t01", "10!7 23!9 | 01~=4+3"},
		{"10!7 20!9 | 01~=3,4+8,2", "t01", "10!7 23!9 | 01~=4+8,2,3"},
		{"10!7 20!9 | 01=3,4", "t01", "10!7 23!9 | 01=4"},
		{"10!7 20!9 | 01=3,4+8", "t01", "10!7 23!9 | 01=4+8"},
		{"10!7 20!9 | 01=3 10~", "t01", "10!7 23!9 | 10~"},
		{"10!7 20 | 01=3 10~=5", "t10", "15!7 20 | 01=3 10~+5"},
		{"10!7 20 | 01=3 10~=5", "t01", "10!7 23 | 10~=5"},
		// So many are recorded, and then none comes.
		{"1!1 2!2 | 01~=3,4+" + many[2:], "t01", "1!1 5!2 | 01~=4+" + many[2:] + ",3"},
		{"1!1 2!2 | 01~=3,4+" + many, "t01", ""},
		{"1!1 2!2 | 01=3,4+" + many, "t01", ""},
		{"1!1 2!2 | 01~=0+" + many, "t01", ""},
		{"1!1 2!2 | 01~=0+" + many[2:], "t01", "1!1 2!2 | 01+" + many[2:]},
		{"1!1 2!2 | 01~=3+" + many + " 10~=4", "t10", "5!1 2!2 | 01~=3+" + many + " 10~+4"},
		// Nothing comes of a wire without words.
		{"10 20", "t01", ""},
		{"10 20 | 10=3", "t01", ""},
		{"10 20 | 01=3", "t10", ""},
		{"10!7 20!9 | 01~ 10~=4", "t01", ""},
		{"10 20 | 01=3", "t00", ""},
		{"10 20 | 01=3", "t11", ""},
		{"10 20 | 01=3", "t02", ""},
		{"10 20 | 01=3", "t21", ""},
		// What is recorded counts with all else together.
		{"1000000000!999999998 0!0 | 01~=1", "t01", "1000000000!999999998 1!0 | 01~+1"},
		{"1000000000!999999999 0!0 | 01~=1", "t01", ""},
		{"1000000000!999999999 0!0 | 01=1", "t01", "1000000000!999999999 1!0"},
	})
}

func TestMarkersAsTold(t *testing.T) {
	room := strings.Repeat(",7", snapRoom)[1:]
	checkSnapSteps(t, []snapStepCase{
		// One that comes first saves its process, opens all wires that lead to it but its own and goes on each wire to others.
		{"10!10 20 | 01=0 10~", "t01", "10!10 20!20 | 10~=0"},
		{"10!10 20 30 | 01=0 02=0 10~ 20~", "t01", "10!10 20!20 30 | 02=0 10~=0 12=0 20~ 21~"},
		{"1!1 2 3 4 | 02=0,9 10~=5 20~=6", "t02", "1!1 2 3!3 4 | 02=9 10~=5 20~=6,0 12~ 32~ 21=0 23=0"},
		{"1 2 3 4 | 13=0", "t13", "1 2 3 4!4 | 03~ 23~ 30=0 31=0 32=0"},
		{"5 6 | 01=0,0", "t01", "5 6!6 | 01=0 10=0"},
		{"5 0 | 01=0", "t01", "5 0!0 | 10=0"},
		// One that comes later shuts its wire, and no other one.
		{"10!10 20!20 | 10~=0", "t10", "10!10 20!20"},
		{"10!7 20!9 | 01~=0,3+8 10~=0", "t01", "10!7 20!9 | 01=3+8 10~=0"},
		{"1!1 2!2 3!3 | 01~=0 21~ 12~=0", "t01", "1!1 2!2 3!3 | 21~ 12~=0"},
		{"10!7 20!9 | 01=0,3", "t01", "10!7 20!9 | 01=3"},
		// Who is saved has what it had when the marker came.
		{"10 20 | 01=0,5", "t01", "10 20!20 | 01=5 10=0"},
		{"10 25 | 01=0", "t01", "10 25!25 | 10=0"},
		// A picture is started so, too; all wires that lead there are Open then.
		{"10 20", "p0", "10!10 20 | 01=0 10~"},
		{"10 20", "p1", "10 20!20 | 10=0 01~"},
		{"0 20 | 01=3 10=4", "p0", "0!0 20 | 01=3,0 10~=4"},
		{"1 2 3", "p1", "1 2!2 3 | 10=0 12=0 01~ 21~"},
		{"1 2 3 4", "p3", "1 2 3 4!4 | 30=0 31=0 32=0 03~ 13~ 23~"},
		{"10!10 20 | 01=0 10~", "p1", "10!10 20!20 | 01~=0 10~=0"},
		{"10!10 20 | 01=0 10~", "p0", ""},
		{"10!10 20!20", "p0", ""},
		{"10!10 20!20", "p1", ""},
		{"10!0 20", "p0", ""},
		{"10 20", "p2", ""},
		// A marker finds room on each wire, or nothing is done.
		{"1 2 | 01=" + room[2:], "p0", "1!1 2 | 01=" + room[2:] + ",0 10~"},
		{"1 2 | 01=" + room, "p0", ""},
		{"1 2 | 01=" + room, "p1", "1 2!2 | 01~=" + room + " 10=0"},
		{"1 2 3 4 | 20=" + room, "p2", ""},
		{"1 2 3 4 | 21=" + room, "p2", ""},
		{"1 2 3 4 | 23=" + room, "p2", ""},
		{"1 2 3 4 | 02=" + room + " 32=" + room, "p2", "1 2 3!3 4 | 02~=" + room + " 12~ 32~=" + room + " 20=0 21=0 23=0"},
		{"1 2 | 01=0 10=" + room[2:], "t01", "1 2!2 | 10=" + room[2:] + ",0"},
		{"1 2 | 01=0 10=" + room, "t01", ""},
		{"1 2 3 4 | 02=0 20=" + room, "t02", ""},
		{"1 2 3 4 | 02=0 21=" + room, "t02", ""},
		{"1 2 3 4 | 02=0 23=" + room, "t02", ""},
		{"1!1 2!2 | 01~=0 10=" + room, "t01", "1!1 2!2 | 10=" + room},
		// What is saved counts with all else together.
		{"1000000000 0", "p0", "1000000000!1000000000 0 | 01=0 10~"},
		{"1000000001 0", "p0", ""},
		{"2000000000 0", "p0", ""},
		{"2000000000 0", "p1", "2000000000 0!0 | 10=0 01~"},
		{"2000000000 0!0 | 10=0 01~", "t10", ""},
		{"1000000000 0!0 | 10=0 01~", "t10", "1000000000!1000000000 0!0 | 01~=0"},
		{"1000000000 1!0 | 10=0 01~", "t10", ""},
		{"1000000000 0!0 | 10=0 01~=1", "t10", ""},
	})
}

// What a step has beside what its kind asks for does not count.
func TestStepsThatHaveMore(t *testing.T) {
	s := snap("10!7 20 30 | 01=3,0 10~=5,0 20=0")
	for _, more := range []int{1, -1, 3, snapSent + 1, math.MinInt, math.MaxInt} {
		for _, x := range snapStepsOf("t01 t10 t20 t21") {
			want, done := stepSnapByHand(s, x)
			x.By = more
			if got, ok := impl.StepSnap(s, x); ok != done || ok && !sameSnaps(got, want) || !ok && !isNoSnap(got) {
				t.Errorf("StepSnap(%v, %v) = %v, %v", s, x, got, ok)
			}
		}
		for from := range 3 {
			want, done := stepSnapByHand(s, startBy(from))
			x := impl.SnapStep{Kind: impl.SnapStart, From: from, To: more, By: -more}
			if got, ok := impl.StepSnap(s, x); ok != done || ok && !sameSnaps(got, want) || !ok && !isNoSnap(got) {
				t.Errorf("StepSnap(%v, %v) = %v, %v", s, x, got, ok)
			}
		}
	}
}

func checkSnapStep(t *testing.T, s impl.Snap, x impl.SnapStep) (impl.Snap, bool) {
	t.Helper()
	want, done := stepSnapByHand(s, x)
	got, ok := impl.StepSnap(s, x)
	if ok != done || ok && !sameSnaps(got, want) || !ok && !isNoSnap(got) {
		t.Fatalf("StepSnap(%v, %v) = %v, %v, not %v, %v", s, x, got, ok, want, done)
	}
	if ok && !impl.GoodSnap(got) {
		t.Fatalf("StepSnap(%v, %v) = %v, which is not good", s, x, got)
	}
	return want, ok
}

// What StepSnap makes of good snaps is good, wherever these come from; all that there is stays the same.
func TestStepSnapByHand(t *testing.T) {
	var did, refused [4]int
	for _, s := range thrownSnaps(700, dice{1503}) {
		total, good := impl.TotalIn(s)
		if !good || total != totalByHand(s) {
			t.Fatalf("TotalIn(%v) = %d, %v", s, total, good)
		}
		for _, x := range allSnapSteps(len(s.Procs)) {
			next, ok := checkSnapStep(t, s, x)
			if !ok {
				refused[x.Kind]++
				continue
			}
			did[x.Kind]++
			if behind, good := impl.TotalIn(next); !good || behind != total {
				t.Fatalf("of %v %v makes %v with %d, %v, not %d", s, x, next, behind, good, total)
			}
		}
		for _, x := range badSnapSteps(len(s.Procs)) {
			if got, ok := impl.StepSnap(s, x); ok || !isNoSnap(got) {
				t.Fatalf("StepSnap(%v, %v) = %v, %v", s, x, got, ok)
			}
		}
	}
	if slices.Min(did[1:]) < 300 || slices.Min(refused[1:]) < 300 {
		t.Error(did, refused)
	}
}

type playSnapCase struct {
	amounts, steps, did, want string
}

func TestPlaySnapAsTold(t *testing.T) {
	for _, one := range []playSnapCase{
		{"0,0", "", "", "0 0"},
		{"1,2,3,4", "", "", "1 2 3 4"},
		{"10,20", "s10:5 p0 t10 t01", "1111", "15!10 15!15 | 10~=0+5"},
		{"10,20", "s10:5 p0 t10 t01 t10", "11111", "15!10 15!15 | 10+5"},
		// What was sent behind the marker is not in the picture.
		{"10,20", "p0 s01:4 t01 t01 s10:6 t10 t10", "1111111", "12!10 18!20"},
		{"10,20", "s01:4 p0 t01 t01 t10", "11111", "6!6 24!24"},
		// What can't be done leaves all as it was.
		{"10,20", "t01 s01:11 s01:4 p2 t10 s00:1 t01 t01 s02:1", "001000100", "6 24"},
		{"10,20", "p0 p0 t10 t01 t01 p1 t10 p0", "10010010", "10!10 20!20"},
		// Two pictures begun at once are one.
		{"10,20", "p0 p1 t01 t10", "1111", "10!10 20!20"},
		{"10,20", "s01:3 s10:4 p0 p1 t01 t01 t10 t10", "11111111", "11!7 19!16 | 01+3 10+4"},
		{"1,2,3", "s02:1 p0 p1 t12 t02 t02 t20 t10 t21 t01", "1111111111", "0!0 2!2 4!3 | 02+1"},
		{"5,5,5,5", "p0 p1 p2 p3", "1111", "5!5 5!5 5!5 5!5 | 01~=0 02~=0 03~=0 10~=0 12~=0 13~=0 20~=0 21~=0 23~=0 30~=0 31~=0 32~=0"},
		// There is room for twelve words.
		{"20,0", "s01:1 s01:1 s01:1 s01:1 s01:1 s01:1 s01:1 s01:1 s01:1 s01:1 s01:1 s01:1 s01:1 p0 t01 p0", "1111111111110011", "8!8 1 | 01=1,1,1,1,1,1,1,1,1,1,1,0 10~"},
	} {
		got, did, ok := impl.PlaySnap(numbersOf(one.amounts), snapStepsOf(one.steps))
		if !ok || didOf(did) != one.did || !sameSnaps(got, snap(one.want)) {
			t.Errorf("PlaySnap of %s by %s = %v, %s, %v, not %s, %s", one.amounts, one.steps, got, didOf(did), ok, one.want, one.did)
		}
		if byHand, of := playSnapByHand(numbersOf(one.amounts), snapStepsOf(one.steps)); didOf(of) != one.did || !sameSnaps(byHand, snap(one.want)) {
			t.Errorf("by hand %s of %s is %v, %s", one.steps, one.amounts, byHand, didOf(of))
		}
	}
}

// PlaySnap is StepSnap, step by step: what can't be done leaves all as it was; what is made is good, and has all that there was.
func TestPlaySnapIsStepSnapByStep(t *testing.T) {
	var did, refused [4]int
	for _, p := range anyPlays() {
		s, ok := impl.NewSnap(p.amounts)
		total, _ := impl.TotalIn(s)
		if !ok || !sameSnaps(s, newSnapByHand(p.amounts)) || total != int(sumByBig(p.amounts).Int64()) {
			t.Fatalf("NewSnap(%v) = %v, %v with %d", p.amounts, s, ok, total)
		}
		var of []bool
		for _, x := range p.steps {
			kind := max(0, min(x.Kind, 3))
			next, done := checkSnapStep(t, s, x)
			of = append(of, done)
			if !done {
				refused[kind]++
				continue
			}
			did[kind]++
			s = next
			if behind, good := impl.TotalIn(s); !good || behind != total || !goodSnapByHand(s) {
				t.Fatalf("of %v %v comes to be %v with %d, %v, not %d", p, x, s, behind, good, total)
			}
		}
		if got, told, ok := impl.PlaySnap(p.amounts, p.steps); !ok || !sameSnaps(got, s) || !slices.Equal(told, of) || !impl.GoodSnap(got) {
			t.Fatalf("PlaySnap(%v) = %v, %v, %v, step by step %v, %v", p, got, told, ok, s, of)
		}
	}
	if slices.Min(did[1:]) < 1000 || slices.Min(refused[1:]) < 1000 {
		t.Error(did, refused)
	}
}

func TestPlaySnapOfEachNumberOfSteps(t *testing.T) {
	for _, many := range []int{0, 1, 2, 60, 119, 120, 121, 122, 1000} {
		l := slices.Repeat(snapStepsOf("s01:1 t01 s10:1 t10"), 250)[:many]
		s, did, ok := impl.PlaySnap([]int{5, 5}, l)
		if many > 120 {
			if ok || len(did) != 0 || !isNoSnap(s) {
				t.Errorf("PlaySnap of %d steps is %v, %v, %v", many, s, did, ok)
			}
			continue
		}
		want, of := playSnapByHand([]int{5, 5}, l)
		if !ok || !sameSnaps(s, want) || !slices.Equal(did, of) || strings.Contains(didOf(did), "0") {
			t.Errorf("PlaySnap of %d steps is %v, %v, %v", many, s, did, ok)
		}
	}
	for _, l := range [][]impl.SnapStep{make([]impl.SnapStep, 120), badSnapSteps(2)[:40]} {
		if s, did, ok := impl.PlaySnap([]int{5, 6}, l); !ok || len(did) != len(l) || slices.Contains(did, true) || !sameSnaps(s, snap("5 6")) {
			t.Errorf("PlaySnap of %v is %v, %v, %v", l, s, did, ok)
		}
	}
	if s, did, ok := impl.PlaySnap([]int{5, 6}, make([]impl.SnapStep, 121)); ok || len(did) != 0 || !isNoSnap(s) {
		t.Error(s, did, ok)
	}
}

func TestTotalAndPictureAsTold(t *testing.T) {
	for _, one := range []struct {
		s              string
		total, picture int
		whole          bool
	}{
		{"0 0", 0, 0, false}, {"10 20", 30, 0, false}, {"10 20 | 01=3,0,4 10=5", 42, 0, false},
		{"10!7 20!8", 30, 15, true}, {"10!7 20!8 | 01=3+1,2 10=0,4+5", 37, 23, true}, {"0!0 0!0", 0, 0, true}, {"0!0 0!0 0!0 | 12=9", 9, 0, true},
		{"0!2000000000 0!0", 0, snapTogether, true}, {"2000000000!0 0!0", snapTogether, 0, true}, {"999000000!999000000 0!0 | 01=1000000 10+1000000", snapTogether / 2, snapTogether / 2, true},
		// One is not Done, or one wire is Open.
		{"10!7 20", 30, 0, false}, {"10 20!8", 30, 0, false}, {"1!1 2!2 3", 6, 0, false}, {"1 2!2 3!3 4!4", 10, 0, false},
		{"10!7 20!8 | 01~", 30, 0, false}, {"10!7 20!8 | 10~", 30, 0, false}, {"10!7 20!8 | 10~+4", 30, 0, false}, {"1!1 2!2 3!3 4!4 | 32~", 10, 0, false}, {"1!1 2!2 3!3 4!4 | 03~=0", 10, 0, false},
		{"1!2 3!4 5!6 7!8 | 01=9+10 02=11+12 03=13+14 10=15+16 12=17+18 13=19+20 20=21+22 21=23+24 23=25+26 30=27+28 31=29+30 32=31+32", 16 + 240, 20 + 252, true},
	} {
		s := snap(one.s)
		if got, ok := impl.TotalIn(s); !ok || got != one.total || got != totalByHand(s) {
			t.Errorf("TotalIn(%s) = %d, %v", one.s, got, ok)
		}
		byHand, _ := pictureByHand(s)
		if got, ok := impl.PictureOf(s); ok != one.whole || got != one.picture || got != byHand {
			t.Errorf("PictureOf(%s) = %d, %v", one.s, got, ok)
		}
	}
}

func TestPictureByHand(t *testing.T) {
	whole := 0
	for _, s := range thrownSnaps(2000, dice{1504}) {
		want, is := pictureByHand(s)
		if got, ok := impl.PictureOf(s); ok != is || got != want {
			t.Fatalf("PictureOf(%v) = %d, %v, not %d, %v", s, got, ok, want, is)
		}
		if is {
			whole++
		}
	}
	if whole < 200 {
		t.Error(whole)
	}
}

func TestFinishSnapAsTold(t *testing.T) {
	many := strings.Repeat(",1", snapRecorded)[1:]
	room := strings.Repeat(",7", snapRoom)[1:]
	for _, one := range []struct {
		from  string
		taken int
		want  string
	}{
		{"15!10 15!15 | 10~=0+5", 1, "15!10 15!15 | 10+5"},
		{"10!10 20 | 01=0 10~", 2, "10!10 20!20"},
		{"0!0 0 | 01=0 10~", 2, "0!0 0!0"},
		{"10 20!20 | 10=0 01~", 2, "10!10 20!20"},
		// What comes ahead of the markers is saved or recorded, what comes behind is neither.
		{"10!10 20 | 01=3,0,4 10~=5,6", 6, "21!10 27!23 | 10+5,6"},
		{"1!10 2 3 | 01=0,9 02=0 10~=4 20~ 12=6 21=7", 10, "5!10 18!2 9!3 | 10+4 12+6 21+7"},
		// The wires are taken from the first on: here 2 comes to be saved ahead of what 1 has sent it.
		{"1!1 2 3 | 01=0 02=0 10~ 20~ 21=5", 7, "1!1 7!2 3!3 | 21+5"},
		{"1!1 2 3!3 | 01=0 02~=0 10~ 20~=0 21=0 12~", 6, "1!1 2!2 3!3"},
		// Two begun at once, and all at once.
		{"7!7 16!16 | 01~=3,0 10~=4,0", 4, "11!7 19!16 | 01+3 10+4"},
		{"5!5 5!5 5!5 5!5 | 01~=0 02~=0 03~=0 10~=0 12~=0 13~=0 20~=0 21~=0 23~=0 30~=0 31~=0 32~=0", 12, "5!5 5!5 5!5 5!5"},
		{"1 2 3 4!4 | 30=0 31=0 32=0 03~ 13~ 23~", 12, "1!1 2!2 3!3 4!4"},
		// Nothing is on its way any more.
		{"10!10 20!20", 0, "10!10 20!20"},
		{"15!10 15!15 | 10+5", 0, "15!10 15!15 | 10+5"},
		{"10!10 20!20 | 01=3,4,5", 3, "10!10 32!20"},
		{"10!10 20 | 10~", -1, ""},
		{"10!10 20!20 | 10~", -1, ""},
		{"10!10 20!20 | 10~=4", -1, ""},
		{"10!10 20 | 01=5", -1, ""},
		// None is Done.
		{"10 20", -1, ""},
		{"10 20 | 01=3", -1, ""},
		{"10 20 | 01=0", -1, ""},
		{"10 20 30 | 01=0 12=0", -1, ""},
		// A marker has no room, no more are recorded, or it is too much together.
		{"10!10 20 30 | 01=0 02=0 12=" + room + " 10~ 20~", -1, ""},
		{"10!10 20 30 | 01=0 02=0 21=" + room + " 10~ 20~", -1, ""},
		{"10!10 20 30 | 01=0 02=0 10~=" + room + " 20~", -1, ""},
		{"10!10 20 30 | 01=0 02=0 10~ 20~=" + room[2:], 17, "87!10 20!20 30!30 | 20+" + room[2:]},
		{"1!1 2!2 | 01~=0+" + many, -1, ""},
		{"1!1 2!2 | 01=5+" + many, -1, ""},
		{"1!1 2!2 | 01~=5,0+" + many[2:], -1, ""},
		{"1!1 2!2 | 01~=5,0+" + many[4:], 2, "1!1 7!2 | 01+" + many[4:] + ",5"},
		{"1!1 2!2 | 01~=0+" + many[2:], 1, "1!1 2!2 | 01+" + many[2:]},
		{"2000000000 0!0 | 10=0 01~", -1, ""},
		{"1000000000 0!0 | 10=0 01~", 2, "1000000000!1000000000 0!0"},
		{"1000000001 0!0 | 10=0 01~", -1, ""},
		// So many words as may be, all taken.
		{"0!0 0 | 01=1,1,1,1,1,1,1,1,1,1,1,0 10~=0,0,0,0,0,0,0,0,0,0,0", 24, "0!0 11!11"},
	} {
		want := impl.Snap{}
		if one.want != "" {
			want = snap(one.want)
		}
		if got, taken, ok := impl.FinishSnap(snap(one.from)); ok != (one.taken >= 0) || taken != max(one.taken, 0) || !sameSnaps(got, want) {
			t.Errorf("FinishSnap(%s) = %v, %d, %v, not %s, %d", one.from, got, taken, ok, one.want, one.taken)
		}
	}
}

// FinishSnap takes from the first wire that has words, again and again.
func TestFinishSnapByHand(t *testing.T) {
	finished, refused, most := 0, 0, 0
	for _, s := range thrownSnaps(2500, dice{1505}) {
		want, times, whole := finishByHand(s)
		if !whole {
			want, times = impl.Snap{}, 0
			refused++
		} else {
			finished++
		}
		got, taken, ok := impl.FinishSnap(s)
		if ok != whole || taken != times || !sameSnaps(got, want) {
			t.Fatalf("FinishSnap(%v) = %v, %d, %v, not %v, %d, %v", s, got, taken, ok, want, times, whole)
		}
		most = max(most, taken)
	}
	if finished < 500 || refused < 500 || most < 40 {
		t.Error(finished, refused, most)
	}
}

func TestFinishSnapIsSnapTakeAgainAndAgain(t *testing.T) {
	thrown := dice{1506}
	finished := 0
	for range 600 {
		p := thrown.anyPlay()
		s, _, ok := impl.PlaySnap(p.amounts, p.steps)
		got, taken, whole := impl.FinishSnap(s)
		if !ok || !whole {
			continue
		}
		finished++
		for times := 0; ; times++ {
			first := slices.IndexFunc(s.Wires, func(w impl.Wire) bool { return len(w.Words) > 0 })
			if first < 0 {
				if times != taken || !sameSnaps(got, s) {
					t.Fatalf("of %v FinishSnap tells %v, %d, not %v, %d", p, got, taken, s, times)
				}
				break
			}
			if s, ok = impl.StepSnap(s, takeFrom(first/len(p.amounts), first%len(p.amounts))); !ok {
				t.Fatalf("of %v step %d can't be done", p, times)
			}
		}
	}
	if finished < 200 {
		t.Error(finished)
	}
}

// checkPictureHasAll asks whether a picture, where there is one, has all that there is, and tells whether it has more than what is saved.
func checkPictureHasAll(t *testing.T, p playedSnap, s impl.Snap) bool {
	t.Helper()
	total, good := impl.TotalIn(s)
	picture, whole := impl.PictureOf(s)
	if !good || whole && picture != total || total != int(sumByBig(p.amounts).Int64()) {
		t.Fatalf("of %v %v has %d, %v and the picture %d, %v", p, s, total, good, picture, whole)
	}
	recorded := func(w impl.Wire) bool { return len(w.Recorded) > 0 }
	return whole && slices.ContainsFunc(s.Wires, recorded)
}

// Promise 15: what PlaySnap made a picture of has all that there is.
func TestPicturesHaveAllThatThereIs(t *testing.T) {
	pictures := 0
	check := func(p playedSnap) {
		s, _, ok := impl.PlaySnap(p.amounts, p.steps)
		if !ok {
			t.Fatalf("PlaySnap(%v) is refused", p)
		}
		if checkPictureHasAll(t, p, s) {
			pictures++
		}
	}
	for _, p := range anyPlays() {
		check(p)
	}
	thrown := dice{1507}
	for range 4000 {
		many := 2 + thrown.below(3)
		p := playedSnap{thrown.amounts(many), thrown.snapSteps(thrown.below(30), many, 3, 2, 0)}
		p.steps = append(p.steps, thrown.snapSteps(120-len(p.steps), many, 1, 4, 1)...)
		check(p)
	}
	if pictures < 1000 {
		t.Error(pictures)
	}
}

// Promise 15, where SnapStart began a picture and FinishSnap ended it, whatever was sent and taken meanwhile.
func TestFinishedPicturesHaveAllThatThereIs(t *testing.T) {
	thrown := dice{1508}
	finished, recorded, refused := 0, 0, 0
	for range 5000 {
		many := 2 + thrown.below(3)
		p := playedSnap{amounts: thrown.amounts(many)}
		p.steps = append(p.steps, thrown.snapSteps(thrown.below(60), many, 2+thrown.below(3), 2, 0)...)
		p.steps = append(p.steps, startBy(thrown.below(many)))
		p.steps = append(p.steps, thrown.snapSteps(thrown.below(60), many, 1+thrown.below(4), 2, thrown.below(2))...)
		s, _, ok := impl.PlaySnap(p.amounts, p.steps)
		begun := slices.ContainsFunc(s.Procs, func(p impl.Proc) bool { return p.Done })
		last, _, whole := impl.FinishSnap(s)
		if !ok {
			t.Fatalf("PlaySnap(%v) is refused", p)
		}
		if !whole {
			refused++
			if _, _, byHand := finishByHand(s); byHand || !begun && !isNoSnap(last) {
				t.Fatalf("FinishSnap(%v) = %v", s, last)
			}
			continue
		}
		finished++
		if checkPictureHasAll(t, p, last) {
			recorded++
		}
		if _, is := impl.PictureOf(last); !is || slices.ContainsFunc(last.Wires, func(w impl.Wire) bool { return len(w.Words) > 0 }) {
			t.Fatalf("FinishSnap(%v) = %v", s, last)
		}
	}
	if finished < 3000 || recorded < 1000 || refused > 1500 {
		t.Error(finished, recorded, refused)
	}
}

// cut is what a picture might have been of: what was sent and came ahead of it, each by its process, and nothing else. There is no bound on what is on its way.
type cut struct {
	amounts []int
	words   map[wireAt][]int
}

// goOn takes a step that was done to s.
func (c *cut) goOn(s impl.Snap, x impl.SnapStep) bool {
	at := wireAt{x.From, x.To}
	switch x.Kind {
	case impl.SnapSend:
		if s.Procs[x.From].Done {
			return true
		}
		c.amounts[x.From] -= x.By
		c.words[at] = append(c.words[at], x.By)
		return c.amounts[x.From] >= 0
	case impl.SnapTake:
		word := s.Wires[x.From*len(s.Procs)+x.To].Words[0]
		if s.Procs[x.To].Done || word == 0 {
			return true
		}
		if len(c.words[at]) == 0 || c.words[at][0] != word {
			return false
		}
		c.words[at] = c.words[at][1:]
		c.amounts[x.To] += word
	}
	return true
}

func (c *cut) isPictureOf(s impl.Snap) bool {
	for n, p := range s.Procs {
		if p.Saved != c.amounts[n] {
			return false
		}
	}
	for n, w := range s.Wires {
		if !slices.Equal(w.Recorded, c.words[wireAt{n / len(s.Procs), n % len(s.Procs)}]) {
			return false
		}
	}
	return true
}

func TestPicturesMightHaveBeen(t *testing.T) {
	thrown := dice{1509}
	pictures := 0
	for range 3000 {
		many := 2 + thrown.below(3)
		amounts := thrown.amounts(many)
		s, ahead := newSnapByHand(amounts), cut{slices.Clone(amounts), map[wireAt][]int{}}
		steps := append(thrown.snapSteps(thrown.below(40), many, 3, 2, 0), thrown.snapSteps(80, many, 1, 3, 1)...)
		for _, x := range steps {
			next, ok := impl.StepSnap(s, x)
			if !ok {
				continue
			}
			if !ahead.goOn(s, x) {
				t.Fatalf("of %v, %v the step %v could not have been", amounts, steps, x)
			}
			s = next
		}
		if _, whole := impl.PictureOf(s); !whole {
			continue
		}
		pictures++
		if !ahead.isPictureOf(s) {
			t.Fatalf("of %v, %v %v is no picture of %v", amounts, steps, s, ahead)
		}
	}
	if pictures < 1000 {
		t.Error(pictures)
	}
}

// Two hundred amounts come by one wire that is Open, one more does not.
func TestSoManyAmountsAreRecorded(t *testing.T) {
	s := snap("300 0!0 | 01~")
	for n := range 205 {
		sent, ok := impl.StepSnap(s, sendBy(0, 1, 1))
		if !ok {
			t.Fatalf("%v can't send", s)
		}
		next, took := impl.StepSnap(sent, takeFrom(0, 1))
		if took != (n < 200) {
			t.Fatalf("with %d Recorded StepSnap tells %v, %v", n, next, took)
		}
		if took {
			s = next
		}
	}
	want := impl.Wire{Recorded: slices.Repeat([]int{1}, 200), Open: true}
	if !sameWires(s.Wires[1], want) || s.Procs[1].Amount != 200 || s.Procs[0].Amount != 100 {
		t.Error(s)
	}
}

func checkSnapRefused(t *testing.T, s impl.Snap) {
	t.Helper()
	if impl.GoodSnap(s) {
		t.Errorf("GoodSnap(%v) is true", s)
	}
	for _, x := range append(snapStepsOf("s01:1 s10:1 s32:1 t01 t10 t12 t23 p0 p1 p3"), impl.SnapStep{}) {
		if got, ok := impl.StepSnap(s, x); ok || !isNoSnap(got) {
			t.Errorf("StepSnap(%v, %v) = %v, %v", s, x, got, ok)
		}
	}
	if got, ok := impl.TotalIn(s); ok || got != 0 {
		t.Errorf("TotalIn(%v) = %d, %v", s, got, ok)
	}
	if got, ok := impl.PictureOf(s); ok || got != 0 {
		t.Errorf("PictureOf(%v) = %d, %v", s, got, ok)
	}
	if got, taken, ok := impl.FinishSnap(s); ok || taken != 0 || !isNoSnap(got) {
		t.Errorf("FinishSnap(%v) = %v, %d, %v", s, got, taken, ok)
	}
}

func TestSnapsAreRefused(t *testing.T) {
	for _, s := range badSnaps() {
		checkSnapRefused(t, s)
	}
}

// Promise 19: each function of chapter 15 answers at any arguments, the same each time, in new memory, and writes into none.
func TestSnapsAnswerAndWriteNothing(t *testing.T) {
	for n, s := range slices.Concat(thrownSnaps(100, dice{1510}), badSnaps()) {
		s := withGuards(s)
		checkCall(t, "GoodSnap", func() []any { return []any{impl.GoodSnap(s)} }, s)
		checkCall(t, "TotalIn", func() []any { return answers(impl.TotalIn(s)) }, s)
		checkCall(t, "PictureOf", func() []any { return answers(impl.PictureOf(s)) }, s)
		checkCall(t, "FinishSnap", func() []any { return threeAnswers(impl.FinishSnap(s)) }, s)
		bad := badSnapSteps(4)
		for _, x := range append(snapStepsOf("s01:1 s10:1 s21:2 t01 t10 t12 t20 t32 p0 p1 p2 p3"), bad[n%len(bad)], impl.SnapStep{}) {
			checkCall(t, "StepSnap", func() []any { return answers(impl.StepSnap(s, x)) }, s, x)
		}
	}
	thrown := dice{1511}
	plays := append(wellPlayed(), playedSnap{[]int{5, 5}, make([]impl.SnapStep, 120)}, playedSnap{[]int{5, 5}, make([]impl.SnapStep, 121)}, playedSnap{[]int{5, 5}, badSnapSteps(2)[:100]})
	for _, amounts := range badAmounts() {
		plays = append(plays, playedSnap{amounts, snapStepsOf("s01:1 p0 t01")})
	}
	for range 300 {
		plays = append(plays, thrown.anyPlay())
	}
	for _, p := range plays {
		amounts, l := withGuards(p.amounts), withGuards(p.steps)
		checkCall(t, "NewSnap", func() []any { return answers(impl.NewSnap(amounts)) }, amounts)
		checkCall(t, "PlaySnap", func() []any { return threeAnswers(impl.PlaySnap(amounts, l)) }, amounts, l)
	}
}

func snapAnswers(s impl.Snap) string {
	all := fmt.Sprint(impl.GoodSnap(s), answers(impl.TotalIn(s)), answers(impl.PictureOf(s)), threeAnswers(impl.FinishSnap(s)))
	for _, x := range snapStepsOf("s01:1 s10:2 s12:1 t01 t10 t21 t02 t32 p0 p1 p2 p3") {
		all += fmt.Sprint(answers(impl.StepSnap(s, x)))
	}
	return all
}

// Wires whose lists share their memory are handed in; what is told shares none, and is as if they had been apart.
func TestSnapsThatShareTheirLists(t *testing.T) {
	numbers := numbersOf("1,3,1,2,1000000,7")
	words := numbersOf("3,0,1,0,7,2")
	for from := range len(numbers) {
		for to := from; to <= len(numbers); to++ {
			for _, many := range []int{2, 3, 4} {
				s := newSnapByHand(slices.Repeat([]int{9}, many))
				for n := range s.Procs {
					s.Procs[n].Done = n > 0
				}
				for n := range s.Wires {
					if n/many == n%many {
						continue
					}
					s.Wires[n].Words = [][]int{words[from:to], numbers[from:to], words[:from], numbers[:to]}[n%4]
					if n%many > 0 {
						s.Wires[n].Open, s.Wires[n].Recorded = n%3 > 0, numbers[from:to]
					}
				}
				if !impl.GoodSnap(s) {
					t.Fatalf("GoodSnap(%v) is false", s)
				}
				for _, x := range snapStepsOf("s01:1 s10:2 t01 t10 t12 p0") {
					checkCall(t, "StepSnap", func() []any { return answers(impl.StepSnap(s, x)) }, s, x)
				}
				checkCall(t, "FinishSnap", func() []any { return threeAnswers(impl.FinishSnap(s)) }, s)
				if got, want := snapAnswers(s), snapAnswers(copyOfSnap(s)); got != want {
					t.Errorf("%v: %s, apart %s", s, got, want)
				}
			}
		}
	}
}

// What lies behind a list's length does not count, be it good or not.
func TestSnapsDoNotReadBehindTheirLists(t *testing.T) {
	for _, s := range append(thrownSnaps(100, dice{1512}), badSnaps()...) {
		plain := snapAnswers(s)
		if got := snapAnswers(withGuards(s)); got != plain {
			t.Errorf("%v: %s, with guards behind the lists %s", s, plain, got)
		}
		long := copyOfSnap(s)
		long.Procs = append(long.Procs, impl.Proc{Amount: 5, Saved: 5, Done: true})[:len(s.Procs)]
		long.Wires = append(long.Wires, impl.Wire{Words: []int{0}, Open: true})[:len(s.Wires)]
		for n, w := range s.Wires {
			long.Wires[n].Words = append(long.Wires[n].Words, 0, 3)[:len(w.Words)]
			long.Wires[n].Recorded = append(long.Wires[n].Recorded, 4, 1)[:len(w.Recorded)]
		}
		if got := snapAnswers(long); got != plain {
			t.Errorf("%v: %s, with more behind the lists %s", s, plain, got)
		}
	}
	for _, p := range wellPlayed() {
		s, did, ok := impl.PlaySnap(p.amounts, p.steps)
		amounts := append(slices.Clone(p.amounts), 3, 1)[:len(p.amounts)]
		steps := append(slices.Clone(p.steps), snapStepsOf("s01:1 p1")...)[:len(p.steps)]
		if got, of, good := impl.PlaySnap(amounts, steps); good != ok || !slices.Equal(of, did) || !sameSnaps(got, s) {
			t.Errorf("PlaySnap(%v) = %v, %v, with more behind the lists %v, %v", p, s, did, got, of)
		}
		if got, good := impl.NewSnap(amounts); !good || !sameSnaps(got, newSnapByHand(p.amounts)) {
			t.Errorf("NewSnap(%v) = %v, %v", p.amounts, got, good)
		}
	}
}

// The empty list and the nil list are the same value.
func TestEmptyWiresAndNone(t *testing.T) {
	for _, text := range []string{"5 6", "5!5 6 | 01=0 10~", "5!5 6!6", "5!5 6!6 7 8 | 12=3 01~"} {
		s := snap(text)
		empty := copyOfSnap(s)
		for n := range empty.Wires {
			empty.Wires[n].Words, empty.Wires[n].Recorded = append([]int{}, s.Wires[n].Words...), append([]int{}, s.Wires[n].Recorded...)
		}
		if a, b := snapAnswers(s), snapAnswers(empty); a != b || !impl.GoodSnap(empty) {
			t.Error(a, b)
		}
	}
	for _, l := range [][]impl.SnapStep{nil, {}} {
		if s, did, ok := impl.PlaySnap([]int{1, 2}, l); !ok || len(did) != 0 || !sameSnaps(s, snap("1 2")) {
			t.Error(s, did, ok)
		}
	}
}

// An answer is the caller's own: what is written into it is not told by a later one, and what comes of it is not either.
func TestSnapsAreTheCallersOwn(t *testing.T) {
	s := snap("10!7 20 30!30 | 01=3,0,4 10~=5+1 12~=0+2,2 20~=0 21=0")
	plain := snapAnswers(s)
	spoil := func(got impl.Snap) {
		for n := range got.Procs {
			got.Procs[n] = impl.Proc{Amount: guard}
		}
		for n, w := range got.Wires {
			for _, l := range [][]int{w.Words[:cap(w.Words)], w.Recorded[:cap(w.Recorded)]} {
				for i := range l {
					l[i] = -guard
				}
			}
			got.Wires[n] = impl.Wire{Open: true}
		}
	}
	for _, x := range snapStepsOf("s01:1 s20:30 t01 t10 t12 t21 p1") {
		got, ok := impl.StepSnap(s, x)
		if !ok {
			t.Fatalf("StepSnap(%v, %v) is refused", s, x)
		}
		spoil(got)
	}
	last, _, ok := impl.FinishSnap(s)
	if !ok {
		t.Fatalf("FinishSnap(%v) is refused", s)
	}
	spoil(last)
	whole := snap("10!7 20!9 | 01+3")
	if last, taken, ok := impl.FinishSnap(whole); !ok || taken != 0 || !sameSnaps(last, whole) {
		t.Error(last, taken, ok)
	} else {
		spoil(last)
	}
	if again := snapAnswers(s); again != plain || !sameSnaps(whole, snap("10!7 20!9 | 01+3")) {
		t.Errorf("%s, then %s", plain, again)
	}
	amounts, steps := []int{10, 20}, snapStepsOf("s10:5 p0 t10 t01")
	first, did, _ := impl.PlaySnap(amounts, steps)
	spoil(first)
	did[0] = false
	if second, of, ok := impl.PlaySnap(amounts, steps); !ok || didOf(of) != "1111" || !sameSnaps(second, snap("15!10 15!15 | 10~=0+5")) {
		t.Error(second, of, ok)
	}
	begun, _ := impl.NewSnap(amounts)
	spoil(begun)
	if again, ok := impl.NewSnap(amounts); !ok || !sameSnaps(again, snap("10 20")) {
		t.Error(again, ok)
	}
}
