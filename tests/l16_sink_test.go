package tests

import (
	"fmt"
	"math"
	"slices"
	"strings"
	"testing"

	"loop.example/g00305/impl"
)

const (
	sinkSource = 30
	sinkStored = 4
	sinkNo     = 1000
)

// sink tells the sink of a text: "7,8,9,10 | 7 #2 | 3=8 4=9 | 10": 7 is given out, 2 is the Last, 3 and 4 are Stored with 8 and 9, and 10 is Pending; Upto and At are as much as there is so.
func sink(text string) impl.Sink {
	parts := strings.Split(text, "|")
	out, last, _ := strings.Cut(parts[1], "#")
	s := impl.Sink{Source: numbersOf(strings.TrimSpace(parts[0])), Out: numbersOf(strings.TrimSpace(out)), Last: numberOf(strings.TrimSpace(last))}
	s.Upto = len(s.Out)
	s.At = s.Upto
	for _, one := range strings.Fields(parts[2]) {
		no, rows, _ := strings.Cut(one, "=")
		p := impl.Prepared{No: numberOf(no), Rows: numbersOf(rows)}
		s.At += len(p.Rows)
		p.Upto = s.At
		s.Stored = append(s.Stored, p)
	}
	s.Pending = numbersOf(strings.TrimSpace(parts[3]))
	s.At += len(s.Pending)
	return s
}

// kindsOf tells the kinds of a text: "rpcxt": read, prepare, commit, crash, torn; "?" is none.
func kindsOf(text string) []int {
	var out []int
	for _, one := range text {
		out = append(out, strings.IndexRune("?rpcxt", one))
	}
	return out
}

func samePrepared(a, b impl.Prepared) bool {
	return a.No == b.No && a.Upto == b.Upto && slices.Equal(a.Rows, b.Rows)
}

func sameSinks(a, b impl.Sink) bool {
	return slices.Equal(a.Source, b.Source) && a.At == b.At && slices.Equal(a.Pending, b.Pending) &&
		slices.EqualFunc(a.Stored, b.Stored, samePrepared) && slices.Equal(a.Out, b.Out) && a.Last == b.Last && a.Upto == b.Upto
}

func isNoSink(s impl.Sink) bool {
	return sameSinks(s, impl.Sink{})
}

func copyOfSink(s impl.Sink) impl.Sink {
	out := s
	out.Source, out.Pending, out.Out = slices.Clone(s.Source), slices.Clone(s.Pending), slices.Clone(s.Out)
	out.Stored = nil
	for _, p := range s.Stored {
		out.Stored = append(out.Stored, impl.Prepared{No: p.No, Upto: p.Upto, Rows: slices.Clone(p.Rows)})
	}
	return out
}

// goodSinkByHand lays all lists behind one another: they are as much of the source as was read, and each number tells how much is ahead.
func goodSinkByHand(s impl.Sink) bool {
	laid := slices.Clone(s.Out)
	good := s.Upto == len(laid) && len(s.Source) <= sinkSource && len(s.Stored) <= sinkStored
	no := s.Last
	for _, p := range s.Stored {
		laid = append(laid, p.Rows...)
		good = good && p.No > no && p.No-1 == no && p.No <= sinkNo && p.Upto == len(laid)
		no = p.No
	}
	laid = append(laid, s.Pending...)
	if len(laid) > len(s.Source) || s.Last < 0 || s.Last > sinkNo {
		return false
	}
	return good && s.At == len(laid) && slices.Equal(laid, s.Source[:len(laid)])
}

const (
	atNotRead = 0
	atPending = -1
	atOut     = -2
)

// places tell a sink otherwise: of each number of the source where it is, atNotRead, atPending, atOut or the No of what it is stored in.
type places struct {
	source []int
	where  []int
	nos    []int
	last   int
}

func placesOf(s impl.Sink) places {
	p := places{source: slices.Clone(s.Source), where: make([]int, len(s.Source)), last: s.Last}
	lay := func(many, where int) {
		for range many {
			p.where[slices.Index(p.where, atNotRead)] = where
		}
	}
	lay(len(s.Out), atOut)
	for _, one := range s.Stored {
		lay(len(one.Rows), one.No)
		p.nos = append(p.nos, one.No)
	}
	lay(len(s.Pending), atPending)
	return p
}

func (p places) numbersAt(where int) []int {
	var out []int
	for n, one := range p.where {
		if one == where {
			out = append(out, p.source[n])
		}
	}
	return out
}

func (p places) sink() impl.Sink {
	s := impl.Sink{Source: p.source, Pending: p.numbersAt(atPending), Out: p.numbersAt(atOut), Last: p.last}
	s.Upto = len(s.Out)
	upto := s.Upto
	for _, no := range p.nos {
		rows := p.numbersAt(no)
		upto += len(rows)
		s.Stored = append(s.Stored, impl.Prepared{No: no, Upto: upto, Rows: rows})
	}
	s.At = len(p.source) - len(p.numbersAt(atNotRead))
	return s
}

func (p places) move(from, to int) {
	for n, one := range p.where {
		if one == from {
			p.where[n] = to
		}
	}
}

// stepSinkByHand leaves all as it was where it tells false.
func stepSinkByHand(s impl.Sink, kind int) (impl.Sink, bool) {
	p := placesOf(s)
	next, stored := slices.Index(p.where, atNotRead), len(p.nos)
	switch {
	case kind == 1 && next >= 0:
		p.where[next] = atPending
	case kind == 2 && slices.Contains(p.where, atPending) && stored < sinkStored && p.last+stored < sinkNo:
		p.nos = append(p.nos, p.last+stored+1)
		p.move(atPending, p.nos[stored])
	case kind == 3 && stored > 0:
		p.last = p.nos[0]
		p.move(p.last, atOut)
		p.nos = p.nos[1:]
	case kind == 4:
		p.move(atPending, atNotRead)
	case kind == 5 && stored > 1:
		p.move(p.nos[stored-1], atNotRead)
		p.nos = p.nos[:stored-1]
		p.move(atPending, atNotRead)
	default:
		return s, false
	}
	return p.sink(), true
}

func againByHand(s impl.Sink, kind int) (impl.Sink, int) {
	often := 0
	for next, done := stepSinkByHand(s, kind); done; next, done = stepSinkByHand(s, kind) {
		s = next
		often++
	}
	return s, often
}

func playSinkByHand(source []int, l []int) (impl.Sink, []bool) {
	s := impl.Sink{Source: source}
	var did []bool
	for _, kind := range l {
		next, done := stepSinkByHand(s, kind)
		s, did = next, append(did, done)
	}
	return s, did
}

// recoverByHand looks at the lists alone: what is Stored comes behind Out, and nothing else was read.
func recoverByHand(s impl.Sink) (impl.Sink, int) {
	out := impl.Sink{Source: s.Source, Out: slices.Clone(s.Out), Last: s.Last + len(s.Stored)}
	for _, p := range s.Stored {
		out.Out = append(out.Out, p.Rows...)
	}
	out.Upto, out.At = len(out.Out), len(out.Out)
	return out, len(s.Stored)
}

// drainByHand looks at the lists alone: all comes out, as long as there is a No for what is in no Stored.
func drainByHand(s impl.Sink) (impl.Sink, int) {
	out, _ := recoverByHand(s)
	rest := s.Source[out.Upto:]
	if len(rest) > 0 && out.Last < sinkNo {
		out.Out, rest = append(out.Out, rest...), nil
		out.Last++
	}
	out.Upto, out.At, out.Pending = len(out.Out), len(s.Source), rest
	return out, len(out.Out) - len(s.Out)
}

func (d *dice) source() []int {
	var out []int
	alike := d.below(3) == 0
	for n := range d.oneOf(0, 1, 2, 3, 5, 10, 29, sinkSource, sinkSource) {
		if alike {
			out = append(out, d.oneOf(0, 1, 1))
		} else {
			out = append(out, d.oneOf(n, n, n, -n, n*1000000, math.MaxInt-n, math.MinInt+n))
		}
	}
	return out
}

// anySink is good, but not always what steps from a new one would lead to: what is prepared may have no Rows, and Last may be any number.
func (d *dice) anySink() impl.Sink {
	s := impl.Sink{Source: d.source(), Last: d.oneOf(0, 1, 2, 30, 500, 995, 996, 997, 998, 999, sinkNo)}
	upTo := func() int { return s.At + d.below(len(s.Source)-s.At+1)/d.oneOf(1, 2, 5) }
	take := func(upto int) []int {
		from := s.At
		s.At = upto
		return slices.Clone(s.Source[from:upto])
	}
	s.Out = take(upTo())
	s.Upto = s.At
	for n := range min(d.below(sinkStored+1), sinkNo-s.Last) {
		rows := take(upTo())
		s.Stored = append(s.Stored, impl.Prepared{No: s.Last + 1 + n, Upto: s.At, Rows: rows})
	}
	s.Pending = take(d.oneOf(s.At, upTo(), len(s.Source)))
	return s
}

// kinds have some that are none now and then.
func (d *dice) kinds(many int) []int {
	often := slices.Concat(slices.Repeat([]int{1}, 1+d.below(8)), slices.Repeat([]int{2}, 1+d.below(4)), slices.Repeat([]int{3}, 1+d.below(3)))
	rare := slices.Concat(kindsOf("xt")[:d.below(3)], badKinds()[:d.below(3)])
	var out []int
	for range many {
		out = append(out, d.oneOf(append(often, rare...)...))
	}
	return out
}

func badKinds() []int {
	return []int{0, 6, -1, 7, -5, 64, 1000, math.MinInt, math.MaxInt}
}

// counting has no two numbers alike.
func counting(many int) []int {
	var out []int
	for n := range many {
		out = append(out, 101+n)
	}
	return out
}

// reachedSinks are all that steps of a new sink lead to.
func reachedSinks(source []int) []impl.Sink {
	out := []impl.Sink{{Source: source}}
	seen := map[string]bool{fmt.Sprint(out[0]): true}
	for n := 0; n < len(out); n++ {
		for kind := 1; kind <= 5; kind++ {
			next, _ := stepSinkByHand(out[n], kind)
			if key := fmt.Sprint(next); !seen[key] {
				seen[key] = true
				out = append(out, next)
			}
		}
	}
	return out
}

func goodSinks() []impl.Sink {
	long := strings.Repeat(",5", sinkSource)[1:]
	return []impl.Sink{
		{}, sink(" | #0 | | "), sink("7 | #0 | | "), sink("7 | #0 | | 7"), sink("7 | #0 | 1=7 | "), sink("7 | 7 #1 | | "), sink("7,8,9 | 7 #1 | 2=8 | 9"), sink("7,8,9,10 | 7 #1 | 2=8 | 9"),
		sink(long + " | #0 | | "), sink(long + " | #0 | | " + long), sink(long + " | #0 | 1=" + long + " | "), sink(long + " | " + long + " #1 | | "), sink(long + " | 5,5 #2 | 3=5,5 4=5 5=5 6=5,5,5 | 5,5"),
		sink("1,2,3,4,5,6 | 1 #1 | 2=2 3=3 4=4 5=5 | 6"), sink("1,2,3,4,5,6,7 | 1 #1 | 2=2 3=3 4=4 5=5 | 6"), sink("1,2,3,4 | #0 | 1=1 2=2 3=3 4=4 | "), sink("1,2,3,4,5 | #0 | 1=1 2=2 3=3 4=4 | "),
		sink("7,7,7,7 | 7 #1 | 2=7 | 7"), sink("0,0,0 | 0 #1 | 2=0 | 0"), sink("-3,9223372036854775807,-9223372036854775808,0 | -3 #1 | 2=9223372036854775807 | -9223372036854775808"),
		// The numbers end at 1000.
		sink("1,2,3 | 1 #999 | 1000=2 | 3"), sink("1,2,3 | 1 #1000 | | 2"), sink("1,2,3 | 1 #1000 | | "), sink("1,2,3 | 1,2,3 #1000 | | "), sink("1,2,3,4,5,6 | #996 | 997=1 998=2 999=3 1000=4 | 5"), sink("1,2,3,4,5,6 | #997 | 998=1 | 2,3"),
		sink("1,2,3,4,5 | #998 | 999=1 1000=2 | 3"), sink("1,2,3,4,5 | #998 | 999=1 | 2,3"),
		// No steps lead here: what is prepared has no Rows; Last is beyond what is out, or behind it.
		sink("7,8,9 | 7 #1 | 2= | 8"), sink(" | #0 | 1= 2= 3= 4= | "), sink("7,8 | #0 | 1=7 2= 3=8 | "), sink("7,8 | #0 | 1= 2=7 | 8"), sink("7,8 | #5 | | "), sink("7,8 | 7,8 #0 | | "), sink("7,8 | 7 #0 | 1=8 | "), sink(" | #1000 | | "), sink(" | #999 | 1000= | "),
	}
}

// changedSinks are all bad, each by one number or one list of a good one.
func changedSinks(s impl.Sink) []impl.Sink {
	var out []impl.Sink
	change := func(by func(*impl.Sink)) {
		copied := copyOfSink(s)
		by(&copied)
		if !goodSinkByHand(copied) {
			out = append(out, copied)
		}
	}
	far := []int{-1, 1, -2, 2, sinkSource + 1, sinkNo + 1, -sinkNo, 1 << 62, math.MinInt, math.MaxInt}
	for _, by := range far {
		change(func(s *impl.Sink) { s.At += by })
		change(func(s *impl.Sink) { s.Upto += by })
		change(func(s *impl.Sink) { s.Last += by })
		change(func(s *impl.Sink) { s.At, s.Upto = s.At+by, s.Upto+by })
		for n := range s.Stored {
			change(func(s *impl.Sink) { s.Stored[n].No += by })
			change(func(s *impl.Sink) { s.Stored[n].Upto += by })
		}
	}
	lists := []func(*impl.Sink) *[]int{
		func(s *impl.Sink) *[]int { return &s.Source }, func(s *impl.Sink) *[]int { return &s.Pending }, func(s *impl.Sink) *[]int { return &s.Out },
	}
	for n := range s.Stored {
		lists = append(lists, func(s *impl.Sink) *[]int { return &s.Stored[n].Rows })
	}
	for _, list := range lists {
		for n := range *list(&s) {
			change(func(s *impl.Sink) { (*list(s))[n]++ })
			change(func(s *impl.Sink) { *list(s) = slices.Delete(*list(s), n, n+1) })
			change(func(s *impl.Sink) { *list(s) = (*list(s))[:n] })
			change(func(s *impl.Sink) { (*list(s))[n], (*list(s))[0] = (*list(s))[0], (*list(s))[n] })
		}
		change(func(s *impl.Sink) { *list(s) = append(*list(s), 7) })
		change(func(s *impl.Sink) { *list(s) = append([]int{7}, *list(s)...) })
		change(func(s *impl.Sink) { *list(s) = make([]int, 100) })
	}
	for n := range s.Stored {
		change(func(s *impl.Sink) { s.Stored = slices.Delete(s.Stored, n, n+1) })
		change(func(s *impl.Sink) { s.Stored[0], s.Stored[n] = s.Stored[n], s.Stored[0] })
		change(func(s *impl.Sink) { s.Stored = slices.Insert(s.Stored, n, s.Stored[n]) })
	}
	change(func(s *impl.Sink) { s.Stored = append(s.Stored, impl.Prepared{}) })
	change(func(s *impl.Sink) { s.Stored = make([]impl.Prepared, 100) })
	return out
}

func badSources() [][]int {
	return [][]int{make([]int, sinkSource+1), counting(sinkSource + 1), counting(32), counting(60), make([]int, 1000)}
}

func badSinks() []impl.Sink {
	seven, five := []int{7}, []int{5, 6, 7, 8, 9, 10}
	stored := func(l ...impl.Prepared) impl.Sink { return impl.Sink{Source: five, At: 3, Stored: l} }
	out := []impl.Sink{
		{At: 1}, {Upto: 1}, {Pending: seven}, {Out: seven}, {Last: -1}, {Last: sinkNo + 1}, {At: -1}, {Upto: -1}, {Stored: []impl.Prepared{{}}}, {At: 1, Pending: seven}, {At: 1, Upto: 1, Out: seven},
		// At below 0 or beyond the source.
		{Source: five, At: -1}, {Source: five, At: 7, Pending: append(slices.Clone(five), 11)}, {Source: five, At: 7, Pending: five}, {Source: five, At: math.MaxInt, Pending: five}, {Source: five, At: math.MinInt},
		// Upto below 0 or beyond At.
		{Source: five, At: 0, Upto: -1}, {Source: five, At: 1, Upto: -1, Pending: []int{5}}, {Source: five, At: 1, Upto: 2, Out: []int{5, 6}}, {Source: five, At: 0, Upto: 1, Out: []int{5}}, {Source: five, At: 6, Upto: 7, Out: five},
		{Source: five, At: -1, Upto: -1}, {Source: five, At: 6, Upto: math.MaxInt, Out: five}, {Source: five, At: 6, Upto: math.MinInt, Pending: five}, {Source: five, At: math.MinInt, Upto: math.MinInt}, {Source: five, At: math.MaxInt, Upto: math.MaxInt},
		// 5 Stored.
		sink("1,2,3,4,5 | #0 | 1=1 2=2 3=3 4=4 5=5 | "), sink("1 | #0 | 1= 2= 3= 4= 5= | "), sink("1,2,3,4,5,6,7 | 1 #7 | 8=2 9=3 10=4 11=5 12=6 | 7"),
		// A No that isn't one more than the one ahead, or above 1000.
		sink("1,2 | #0 | 0=1 | "), sink("1,2 | #0 | 2=1 | "), sink("1,2 | #0 | 1=1 1=2 | "), sink("1,2 | #0 | 1=1 3=2 | "), sink("1,2 | #0 | 2=1 1=2 | "), sink("1,2 | #3 | 1=1 2=2 | "), sink("1,2 | #3 | 4=1 4=2 | "), sink("1,2 | #0 | -1=1 | "),
		sink("1,2 | #1000 | 1001=1 | "), sink("1,2 | #999 | 1000=1 1001=2 | "), sink("1,2,3,4 | #997 | 998=1 999=2 1000=3 1001=4 | "), sink("1 | #1000 | 1001= | "), sink("1,2 | #1000 | 1=1 | "), sink("1,2 | #9223372036854775807 | -9223372036854775808=1 | "),
		// An Upto of a prepared one below the one ahead's, or beyond At; Rows that aren't the source's there.
		stored(impl.Prepared{No: 1, Upto: -1}), stored(impl.Prepared{No: 1, Upto: 4, Rows: five[:4]}), stored(impl.Prepared{No: 1, Upto: 3, Rows: five[:3]}, impl.Prepared{No: 2, Upto: 2}), stored(impl.Prepared{No: 1, Upto: 7, Rows: five}),
		stored(impl.Prepared{No: 1, Upto: math.MaxInt, Rows: five}), stored(impl.Prepared{No: 1, Upto: math.MinInt}), stored(impl.Prepared{No: 1, Upto: 3, Rows: five[:3]}, impl.Prepared{No: 2, Upto: 4, Rows: five[3:4]}),
		stored(impl.Prepared{No: 1, Upto: 2, Rows: five[:2]}, impl.Prepared{No: 2, Upto: 1}, impl.Prepared{No: 3, Upto: 3, Rows: five[1:3]}), stored(impl.Prepared{No: 1, Upto: 3, Rows: five[:2]}), stored(impl.Prepared{No: 1, Upto: 3, Rows: five[:4]}),
		stored(impl.Prepared{No: 1, Upto: 3}), stored(impl.Prepared{No: 1, Upto: 3, Rows: []int{5, 7, 6}}), stored(impl.Prepared{No: 1, Upto: 3, Rows: five[1:4]}), stored(impl.Prepared{No: 1, Rows: five[:3]}), stored(impl.Prepared{No: 1, Upto: 0, Rows: five[:1]}),
		{Source: five, At: 3, Upto: 2, Out: five[:2], Stored: []impl.Prepared{{No: 1, Upto: 1}}}, {Source: five, At: 3, Upto: 2, Out: five[:2], Stored: []impl.Prepared{{No: 1, Upto: 3, Rows: five[:3]}}},
		// An Out that isn't the source's first Upto numbers.
		{Source: five, At: 2, Upto: 2, Out: []int{5}}, {Source: five, At: 2, Upto: 2, Out: []int{5, 5}}, {Source: five, At: 2, Upto: 2, Out: []int{6, 5}}, {Source: five, At: 2, Upto: 2, Out: five[:3]}, {Source: five, At: 2, Upto: 2}, {Source: five, At: 2, Upto: 0, Out: five[:2]},
		sink("7,8 | 8 #1 | | "), sink("7,8 | 7,7 #2 | | "), sink("7,8 | 7 #1 | 2=7 | "),
		// A Pending that isn't the source's from the last Stored's Upto to At.
		sink("7,8,9 | 7 #1 | 2=8 | 8"), sink("7,8,9 | 7 #1 | | 9"), sink("7,8,9 | #0 | | 8,7"), {Source: five, At: 2, Pending: five[:1]}, {Source: five, At: 2, Pending: five[:3]}, {Source: five, At: 2}, {Source: five, At: 2, Pending: []int{5, 5}}, {Source: five, Pending: five[:1]},
		{Source: five, At: 3, Pending: five[:3], Stored: []impl.Prepared{{No: 1, Upto: 1, Rows: five[:1]}}}, {Source: five, At: 3, Pending: five[1:3], Upto: 2, Out: five[:2]},
		// Last below 0 or above 1000.
		sink("7,8 | #-1 | | "), sink("7,8 | 7 #1001 | | "), sink("7,8 | #-1 | 0=7 | "), sink("7,8 | #-9223372036854775808 | | "), sink("7,8 | #9223372036854775807 | | "), sink("7,8 | #1001 | 1002=7 | "), sink("7,8 | #-5 | -4=7 | "), sink("7,8 | #1001 | | 7"),
	}
	for _, source := range badSources() {
		out = append(out, impl.Sink{Source: source}, impl.Sink{Source: source, At: len(source), Pending: source}, impl.Sink{Source: source, At: 1, Upto: 1, Out: source[:1], Last: 1}, impl.Sink{Source: source, At: len(source), Upto: len(source), Out: source, Last: 1})
	}
	for _, s := range goodSinks() {
		out = append(out, changedSinks(s)...)
	}
	return out
}

// thrownSinks are good ones, made by hand and by steps.
func thrownSinks(many int, thrown dice) []impl.Sink {
	out := goodSinks()
	for range many {
		s, _ := playSinkByHand(thrown.source(), thrown.kinds(thrown.below(121)))
		out = append(out, s, thrown.anySink())
	}
	return out
}

func TestNewSinkAsTold(t *testing.T) {
	if impl.MaxSource != sinkSource || impl.MaxSinkSteps != 120 || impl.SinkRead != 1 || impl.SinkPrepare != 2 || impl.SinkCommit != 3 || impl.SinkCrash != 4 || impl.SinkTorn != 5 {
		t.Error(impl.MaxSource, impl.MaxSinkSteps, impl.SinkRead, impl.SinkPrepare, impl.SinkCommit, impl.SinkCrash, impl.SinkTorn)
	}
	for many := range 40 {
		source := counting(many)
		got, ok := impl.NewSink(source)
		if ok != (many <= 30) || ok && !sameSinks(got, impl.Sink{Source: source}) || !ok && !isNoSink(got) {
			t.Errorf("NewSink of %d numbers is %v, %v", many, got, ok)
		}
		if ok && !impl.GoodSink(got) {
			t.Errorf("GoodSink(%v) is false", got)
		}
	}
	for _, source := range [][]int{nil, {}, {0}, {7, 7, 7}, {3, 1, 2}, {math.MinInt, math.MaxInt, -1, 0, 1}, make([]int, sinkSource), slices.Repeat([]int{math.MaxInt}, sinkSource)} {
		if got, ok := impl.NewSink(source); !ok || !sameSinks(got, impl.Sink{Source: source}) || !impl.GoodSink(got) {
			t.Errorf("NewSink(%v) = %v, %v", source, got, ok)
		}
	}
}

func TestSourcesAreRefused(t *testing.T) {
	for _, source := range badSources() {
		if got, ok := impl.NewSink(source); ok || !isNoSink(got) {
			t.Errorf("NewSink of %d numbers is %v, %v", len(source), got, ok)
		}
		for _, l := range [][]int{nil, kindsOf("r"), kindsOf("rrprcxt?")} {
			if got, did, ok := impl.PlaySink(source, l); ok || len(did) != 0 || !isNoSink(got) {
				t.Errorf("PlaySink of %d numbers and %v is %v, %v, %v", len(source), l, got, did, ok)
			}
		}
	}
}

func TestGoodSinkAsTold(t *testing.T) {
	for _, s := range append(thrownSinks(2000, dice{1601}), reachedSinks(counting(5))...) {
		if !impl.GoodSink(s) || !goodSinkByHand(s) {
			t.Fatalf("GoodSink(%v) is false", s)
		}
	}
	for _, s := range badSinks() {
		if impl.GoodSink(s) || goodSinkByHand(s) {
			t.Errorf("GoodSink(%v) is true", s)
		}
	}
}

// Of what is good each number may be as it is alone, and Last any that leaves a No to each that is Stored.
func TestGoodSinkAtEachNumber(t *testing.T) {
	s := sink("1,2,3,4,5,6,7,8 | 1,2 #4 | 5=3 6=4,5 | 6,7")
	for n := -3; n < 40; n++ {
		for _, one := range []struct {
			name   string
			right  int
			change func(*impl.Sink)
		}{
			{"At", 7, func(s *impl.Sink) { s.At = n }},
			{"Upto", 2, func(s *impl.Sink) { s.Upto = n }},
			{"Last", 4, func(s *impl.Sink) { s.Last = n }},
			{"the first No", 5, func(s *impl.Sink) { s.Stored[0].No = n }},
			{"the second No", 6, func(s *impl.Sink) { s.Stored[1].No = n }},
			{"the first one's Upto", 3, func(s *impl.Sink) { s.Stored[0].Upto = n }},
			{"the second one's Upto", 5, func(s *impl.Sink) { s.Stored[1].Upto = n }},
		} {
			changed := copyOfSink(s)
			one.change(&changed)
			if got := impl.GoodSink(changed); got != (n == one.right) {
				t.Errorf("with %d as %s GoodSink is %v", n, one.name, got)
			}
		}
	}
	for last := -3; last <= sinkNo+10; last++ {
		for many := range 7 {
			s := impl.Sink{Source: counting(8), Last: last}
			for n := range many {
				s.Stored = append(s.Stored, impl.Prepared{No: last + 1 + n, Upto: n + 1, Rows: s.Source[n : n+1]})
			}
			s.At = many
			if got := impl.GoodSink(s); got != (last >= 0 && last+many <= 1000 && many <= 4) {
				t.Errorf("with Last %d and %d Stored GoodSink is %v", last, many, got)
			}
		}
	}
	for many := range 40 {
		source := counting(many)
		if got := impl.GoodSink(impl.Sink{Source: source, At: many, Pending: source}); got != (many <= 30) {
			t.Errorf("with a source of %d numbers GoodSink is %v", many, got)
		}
	}
}

// All lists are the source's, number by number, also where several are alike.
func TestGoodSinkOfEachList(t *testing.T) {
	for _, text := range []string{"1,2,3,4,5,6,7,8,9 | 1,2 #4 | 5=3 6=4,5 7= | 6,7", "4,4,4,5,5,4,4,4,5 | 4,4 #4 | 5=4 6=5,5 7= | 4,4"} {
		right := sink(text)
		for from := range 10 {
			for upto := from; upto < 10; upto++ {
				piece := right.Source[from:min(upto, 9)]
				for _, one := range []struct {
					name string
					want []int
					list func(*impl.Sink) *[]int
				}{
					{"Out", right.Out, func(s *impl.Sink) *[]int { return &s.Out }},
					{"Pending", right.Pending, func(s *impl.Sink) *[]int { return &s.Pending }},
					{"the first Rows", right.Stored[0].Rows, func(s *impl.Sink) *[]int { return &s.Stored[0].Rows }},
					{"the second Rows", right.Stored[1].Rows, func(s *impl.Sink) *[]int { return &s.Stored[1].Rows }},
					{"the third Rows", nil, func(s *impl.Sink) *[]int { return &s.Stored[2].Rows }},
				} {
					s := copyOfSink(right)
					*one.list(&s) = piece
					if got := impl.GoodSink(s); got != slices.Equal(piece, one.want) {
						t.Errorf("with %v as %s GoodSink(%v) is %v", piece, one.name, s, got)
					}
				}
			}
		}
	}
}

type sinkStepCase struct {
	from, want string
}

// checkSinkSteps takes a want of "" for what can't be done.
func checkSinkSteps(t *testing.T, kind int, cases []sinkStepCase) {
	t.Helper()
	for _, one := range cases {
		s, want, done := sink(one.from), impl.Sink{}, one.want != ""
		if done {
			want = sink(one.want)
		}
		if got, ok := impl.StepSink(s, kind); ok != done || !sameSinks(got, want) {
			t.Errorf("StepSink of %s by %d = %v, %v, not %s", one.from, kind, got, ok, one.want)
		}
		if byHand, ok := stepSinkByHand(s, kind); ok != done || done && !sameSinks(byHand, want) {
			t.Errorf("by hand %d of %s is %v, %v", kind, one.from, byHand, ok)
		}
	}
}

func TestSinkReadAsTold(t *testing.T) {
	checkSinkSteps(t, impl.SinkRead, []sinkStepCase{
		{"7,8,9 | #0 | | ", "7,8,9 | #0 | | 7"},
		{"7,8,9 | #0 | | 7", "7,8,9 | #0 | | 7,8"},
		{"7,8,9 | 7 #1 | | ", "7,8,9 | 7 #1 | | 8"},
		{"7,8,9 | 7 #1 | 2=8 | ", "7,8,9 | 7 #1 | 2=8 | 9"},
		{"7,7,7 | 7 #1 | | 7", "7,7,7 | 7 #1 | | 7,7"},
		{"1,2,3,4,5 | #0 | 1=1 2=2 3=3 4=4 | ", "1,2,3,4,5 | #0 | 1=1 2=2 3=3 4=4 | 5"},
		{"7,8 | #1000 | | ", "7,8 | #1000 | | 7"},
		{"-9223372036854775808,9223372036854775807 | #0 | | -9223372036854775808", "-9223372036854775808,9223372036854775807 | #0 | | -9223372036854775808,9223372036854775807"},
		// At the source's end.
		{" | #0 | | ", ""},
		{"7 | #0 | | 7", ""},
		{"7 | #0 | 1=7 | ", ""},
		{"7 | 7 #1 | | ", ""},
		{"7,8,9 | 7 #1 | 2=8 | 9", ""},
		{" | #4 | 5= | ", ""},
	})
}

func TestSinkPrepareAsTold(t *testing.T) {
	checkSinkSteps(t, impl.SinkPrepare, []sinkStepCase{
		{"7,8,9 | #0 | | 7", "7,8,9 | #0 | 1=7 | "},
		{"7,8,9 | #0 | | 7,8,9", "7,8,9 | #0 | 1=7,8,9 | "},
		{"7,8,9 | 7 #1 | | 8", "7,8,9 | 7 #1 | 2=8 | "},
		{"7,8,9 | 7 #5 | 6=8 | 9", "7,8,9 | 7 #5 | 6=8 7=9 | "},
		{"7,8,9 | 7 #5 | 6= | 8", "7,8,9 | 7 #5 | 6= 7=8 | "},
		{"1,2,3,4,5 | #0 | 1=1 2=2 3=3 | 4", "1,2,3,4,5 | #0 | 1=1 2=2 3=3 4=4 | "},
		// Nothing is Pending.
		{"7,8,9 | #0 | | ", ""},
		{" | #0 | | ", ""},
		{"7,8,9 | #0 | 1=7,8 | ", ""},
		{"7,8,9 | 7,8,9 #3 | | ", ""},
		// 4 are Stored.
		{"1,2,3,4,5 | #0 | 1=1 2=2 3=3 4=4 | 5", ""},
		{"1,2 | #0 | 1= 2= 3= 4= | 1,2", ""},
		{"1,2,3,4,5,6 | 1 #30 | 31=2 32=3 33=4 34=5 | 6", ""},
		// There is no number but up to 1000.
		{"7,8,9 | 7 #998 | | 8", "7,8,9 | 7 #998 | 999=8 | "},
		{"7,8,9 | 7 #999 | | 8", "7,8,9 | 7 #999 | 1000=8 | "},
		{"7,8,9 | 7 #1000 | | 8", ""},
		{"7,8,9 | 7 #998 | 999=8 | 9", "7,8,9 | 7 #998 | 999=8 1000=9 | "},
		{"7,8,9 | 7 #999 | 1000=8 | 9", ""},
		{"7,8,9 | #998 | 999=7 1000=8 | 9", ""},
		{"1,2,3,4 | #997 | 998=1 999=2 1000=3 | 4", ""},
		{"1,2,3,4 | #996 | 997=1 998=2 999=3 | 4", "1,2,3,4 | #996 | 997=1 998=2 999=3 1000=4 | "},
	})
}

func TestSinkCommitAsTold(t *testing.T) {
	checkSinkSteps(t, impl.SinkCommit, []sinkStepCase{
		{"7,8,9 | #0 | 1=7 | ", "7,8,9 | 7 #1 | | "},
		{"7,8,9 | #0 | 1=7,8 | 9", "7,8,9 | 7,8 #1 | | 9"},
		{"7,8,9 | 7 #1 | 2=8 3=9 | ", "7,8,9 | 7,8 #2 | 3=9 | "},
		{"7,8,9 | 7 #1 | 2= 3=8 | 9", "7,8,9 | 7 #2 | 3=8 | 9"},
		{"7,8,9 | 7 #1 | 2= | 8", "7,8,9 | 7 #2 | | 8"},
		{"1,2,3,4,5 | #8 | 9=1 10=2 11=3 12=4 | 5", "1,2,3,4,5 | 1 #9 | 10=2 11=3 12=4 | 5"},
		{"7,8 | #999 | 1000=7 | 8", "7,8 | 7 #1000 | | 8"},
		{"7,7,7 | 7 #1 | 2=7 3=7 | ", "7,7,7 | 7,7 #2 | 3=7 | "},
		// Nothing is Stored.
		{"7,8,9 | #0 | | ", ""},
		{"7,8,9 | #0 | | 7", ""},
		{" | #0 | | ", ""},
		{"7,8,9 | 7,8,9 #3 | | ", ""},
		{"7,8,9 | 7 #1000 | | ", ""},
	})
}

// A crash can be done always: where nothing is Pending all is as it was.
func TestSinkCrashAsTold(t *testing.T) {
	checkSinkSteps(t, impl.SinkCrash, []sinkStepCase{
		{"7,8,9 | #0 | | 7,8", "7,8,9 | #0 | | "},
		{"7,8,9 | 7 #1 | | 8,9", "7,8,9 | 7 #1 | | "},
		{"7,8,9 | 7 #1 | 2=8 | 9", "7,8,9 | 7 #1 | 2=8 | "},
		{"7,8,9 | 7 #1 | 2= | 8,9", "7,8,9 | 7 #1 | 2= | "},
		{"1,2,3,4,5 | #0 | 1=1 2=2 3=3 4=4 | 5", "1,2,3,4,5 | #0 | 1=1 2=2 3=3 4=4 | "},
		{"7,8 | #1000 | | 7", "7,8 | #1000 | | "},
		{"7,8,9 | #0 | | ", "7,8,9 | #0 | | "},
		{" | #0 | | ", " | #0 | | "},
		{"7,8,9 | 7 #1 | | ", "7,8,9 | 7 #1 | | "},
		{"7,8,9 | #0 | 1=7 | ", "7,8,9 | #0 | 1=7 | "},
		{"7,8,9 | 7,8,9 #1 | | ", "7,8,9 | 7,8,9 #1 | | "},
	})
}

// A torn one can be done where two or more are Stored: the last of them is lost, and what is Pending.
func TestSinkTornAsTold(t *testing.T) {
	checkSinkSteps(t, impl.SinkTorn, []sinkStepCase{
		{"7,8,9 | #0 | 1=7 2=8 | 9", "7,8,9 | #0 | 1=7 | "},
		{"7,8,9 | #0 | 1=7 2=8 | ", "7,8,9 | #0 | 1=7 | "},
		{"7,8,9 | 7 #1 | 2= 3=8 | 9", "7,8,9 | 7 #1 | 2= | "},
		{"7,8,9 | 7 #1 | 2=8 3= | 9", "7,8,9 | 7 #1 | 2=8 | "},
		{"1,2,3,4,5 | #0 | 1=1 2=2 3=3 4=4 | 5", "1,2,3,4,5 | #0 | 1=1 2=2 3=3 | "},
		{"1,2,3,4,5 | 1 #9 | 10=2 11=3 12=4 | 5", "1,2,3,4,5 | 1 #9 | 10=2 11=3 | "},
		{"1,2,3 | #998 | 999=1 1000=2 | 3", "1,2,3 | #998 | 999=1 | "},
		{"1,2,3,4 | #0 | 1=1 2=2 3=3 | 4", "1,2,3,4 | #0 | 1=1 2=2 | "},
		{"7,8 | #0 | 1= 2= | 7,8", "7,8 | #0 | 1= | "},
		// One is Stored.
		{"7,8,9 | #0 | 1=7 | 8", ""},
		{"7,8,9 | #0 | 1=7 | ", ""},
		{"7,8,9 | 7 #1 | 2= | 8", ""},
		{"7,8,9 | 7 #1 | 2=8,9 | ", ""},
		{"7,8 | #999 | 1000=7 | 8", ""},
		{" | #0 | 1= | ", ""},
		// Nothing is Stored.
		{"7,8,9 | 7 #1 | | 8", ""},
		{"7,8,9 | #0 | | 7,8", ""},
		{"7,8,9 | #0 | | ", ""},
		{"7,8,9 | 7,8,9 #3 | | ", ""},
		{"7,8 | 7 #1000 | | 8", ""},
		{" | #0 | | ", ""},
	})
}

// What StepSink makes of good sinks is good, wherever these come from; other kinds can't be done.
func TestStepSinkByHand(t *testing.T) {
	var did, refused [6]int
	for _, s := range slices.Concat(thrownSinks(3000, dice{1602}), reachedSinks(counting(6)), reachedSinks([]int{4, 4, 5, 4})) {
		for kind := 1; kind <= 5; kind++ {
			want, done := stepSinkByHand(s, kind)
			got, ok := impl.StepSink(s, kind)
			if ok != done || ok && !sameSinks(got, want) || !ok && !isNoSink(got) {
				t.Fatalf("StepSink(%v, %d) = %v, %v, not %v, %v", s, kind, got, ok, want, done)
			}
			if !ok {
				refused[kind]++
				continue
			}
			did[kind]++
			if !impl.GoodSink(got) || !goodSinkByHand(got) {
				t.Fatalf("StepSink(%v, %d) = %v, which is not good", s, kind, got)
			}
		}
		for _, kind := range badKinds() {
			if got, ok := impl.StepSink(s, kind); ok || !isNoSink(got) {
				t.Fatalf("StepSink(%v, %d) = %v, %v", s, kind, got, ok)
			}
		}
	}
	if slices.Min(did[1:]) < 1000 || min(refused[1], refused[2], refused[3], refused[5]) < 1000 || refused[4] != 0 {
		t.Error(did, refused)
	}
}

func TestPlaySinkAsTold(t *testing.T) {
	for _, one := range []struct {
		source, kinds, did, want string
	}{
		{"", "", "", " | #0 | | "},
		{"7,8,9", "", "", "7,8,9 | #0 | | "},
		{"7,8,9", "rprxcrp", "1111111", "7,8,9 | 7 #1 | 2=8 | "},
		{"7,8,9", "rrprc", "11111", "7,8,9 | 7,8 #1 | | 9"},
		// What can't be done leaves all as it was.
		{"", "rpcxt?", "000100", " | #0 | | "},
		{"7,8", "pcrpprrc?cpcrc", "00110101001100", "7,8 | 7,8 #2 | | "},
		{"7", "rrpprcc", "1010010", "7 | 7 #1 | | "},
		{"7,8", "t", "0", "7,8 | #0 | | "},
		{"7,8", "rt", "10", "7,8 | #0 | | 7"},
		{"7,8", "rprt", "1110", "7,8 | #0 | 1=7 | 8"},
		{"7,8,9", "rprpxcrt", "11111110", "7,8,9 | 7 #1 | 2=8 | 9"},
		{"7,8,9", "rprprpttt", "111111110", "7,8,9 | #0 | 1=7 | "},
		// What is lost is read anew.
		{"7,8,9", "rrxrprtrpt", "1111110111", "7,8,9 | #0 | 1=7 | "},
		{"7,8,9", "rprptcrpc", "111111111", "7,8,9 | 7,8 #2 | | "},
		// 4 may be Stored.
		{"1,2,3,4,5", "rprprprprp", "1111111110", "1,2,3,4,5 | #0 | 1=1 2=2 3=3 4=4 | 5"},
		{"1,2,3,4,5", "rprprprprpcp", "111111111011", "1,2,3,4,5 | 1 #1 | 2=2 3=3 4=4 5=5 | "},
	} {
		got, did, ok := impl.PlaySink(numbersOf(one.source), kindsOf(one.kinds))
		if !ok || didOf(did) != one.did || !sameSinks(got, sink(one.want)) {
			t.Errorf("PlaySink of %s by %s = %v, %s, %v, not %s, %s", one.source, one.kinds, got, didOf(did), ok, one.want, one.did)
		}
		if byHand, of := playSinkByHand(numbersOf(one.source), kindsOf(one.kinds)); didOf(of) != one.did || !sameSinks(byHand, sink(one.want)) {
			t.Errorf("by hand %s of %s is %v, %s", one.kinds, one.source, byHand, didOf(of))
		}
	}
}

type playedSink struct {
	source, kinds []int
}

// anyPlayedSinks have all lists of up to five kinds, of a new sink and behind two that are Stored, and thrown ones of up to 120.
func anyPlayedSinks(many int, thrown dice) []playedSink {
	var out []playedSink
	for _, source := range [][]int{nil, {7}, {7, 7}, {7, 8, 9}} {
		for _, l := range listsUpTo(5, kindsOf("rpcxt")) {
			out = append(out, playedSink{source, l})
		}
	}
	for _, l := range listsUpTo(5, kindsOf("rpcxt")) {
		out = append(out, playedSink{counting(4), slices.Concat(kindsOf("rprp"), l)})
	}
	for range many {
		out = append(out, playedSink{thrown.source(), thrown.kinds(thrown.below(121))})
	}
	return out
}

// PlaySink is StepSink, kind by kind: what can't be done leaves all as it was; what is made is good.
func TestPlaySinkIsStepSinkKindByKind(t *testing.T) {
	var did, refused [6]int
	for _, p := range anyPlayedSinks(3000, dice{1603}) {
		s, ok := impl.NewSink(p.source)
		if !ok || !sameSinks(s, impl.Sink{Source: p.source}) {
			t.Fatalf("NewSink(%v) = %v, %v", p.source, s, ok)
		}
		var of []bool
		for _, kind := range p.kinds {
			next, done := impl.StepSink(s, kind)
			of = append(of, done)
			if kind < 0 || kind > 5 {
				kind = 0
			}
			if !done {
				refused[kind]++
				continue
			}
			did[kind]++
			s = next
		}
		want, byHand := playSinkByHand(p.source, p.kinds)
		if !sameSinks(s, want) || !slices.Equal(of, byHand) {
			t.Fatalf("%v comes to be %v, %v, by hand %v, %v", p, s, of, want, byHand)
		}
		if got, told, ok := impl.PlaySink(p.source, p.kinds); !ok || !sameSinks(got, s) || !slices.Equal(told, of) || !impl.GoodSink(got) {
			t.Fatalf("PlaySink(%v) = %v, %v, %v, kind by kind %v, %v", p, got, told, ok, s, of)
		}
	}
	if slices.Min(did[1:]) < 1000 || min(slices.Min(refused[:4]), refused[5]) < 1000 || did[0]+refused[4] != 0 {
		t.Error(did, refused)
	}
}

func TestPlaySinkOfEachNumberOfKinds(t *testing.T) {
	for _, text := range []string{"rpc", "x", "rprprprprpct", "?", "rrxpc"} {
		for _, many := range []int{0, 1, 2, 60, 119, 120, 121, 122, 1000} {
			l := slices.Repeat(kindsOf(text), 1000)[:many]
			s, did, ok := impl.PlaySink(counting(sinkSource), l)
			if many > 120 {
				if ok || len(did) != 0 || !isNoSink(s) {
					t.Errorf("PlaySink of %d kinds is %v, %v, %v", many, s, did, ok)
				}
				continue
			}
			if want, of := playSinkByHand(counting(sinkSource), l); !ok || !sameSinks(s, want) || !slices.Equal(did, of) {
				t.Errorf("PlaySink of %d kinds is %v, %v, %v", many, s, did, ok)
			}
		}
	}
	// All of the greatest source comes out by 90 kinds, and more of them find nothing to read.
	s, did, ok := impl.PlaySink(counting(sinkSource), slices.Repeat(kindsOf("rpc"), 40))
	if !ok || !slices.Equal(s.Out, counting(30)) || s.Last != 30 || didOf(did) != strings.Repeat("1", 90)+strings.Repeat("0", 30) {
		t.Error(s, did, ok)
	}
}

func TestPlaySinkOfOtherKinds(t *testing.T) {
	for _, kind := range badKinds() {
		if s, did, ok := impl.PlaySink([]int{7, 8}, []int{kind}); !ok || didOf(did) != "0" || !sameSinks(s, impl.Sink{Source: []int{7, 8}}) {
			t.Errorf("PlaySink by %d is %v, %v, %v", kind, s, did, ok)
		}
		s, did, ok := impl.PlaySink([]int{7, 8}, []int{1, kind, 2, kind, 3, kind, kind})
		if !ok || didOf(did) != "1010100" || !sameSinks(s, sink("7,8 | 7 #1 | | ")) {
			t.Errorf("PlaySink with %d in between is %v, %v, %v", kind, s, did, ok)
		}
	}
}

func TestRecoverSinkAsTold(t *testing.T) {
	for _, one := range []struct {
		from  string
		often int
		want  string
	}{
		{" | #0 | | ", 0, " | #0 | | "},
		{"7,8,9 | #0 | | ", 0, "7,8,9 | #0 | | "},
		{"7,8,9 | #0 | | 7,8", 0, "7,8,9 | #0 | | "},
		{"7,8,9 | 7 #1 | | 8,9", 0, "7,8,9 | 7 #1 | | "},
		{"7,8,9 | 7 #1 | 2=8 | ", 1, "7,8,9 | 7,8 #2 | | "},
		{"7,8,9 | 7 #1 | 2=8 | 9", 1, "7,8,9 | 7,8 #2 | | "},
		{"7,8,9 | #0 | 1=7 2=8,9 | ", 2, "7,8,9 | 7,8,9 #2 | | "},
		{"1,2,3,4,5,6 | 1 #30 | 31=2 32=3 33=4 34=5 | 6", 4, "1,2,3,4,5,6 | 1,2,3,4,5 #34 | | "},
		{"1,2 | #0 | 1= 2= 3= 4= | 1,2", 4, "1,2 | #4 | | "},
		{"7,8 | #999 | 1000=7 | 8", 1, "7,8 | 7 #1000 | | "},
		{"7,8 | 7 #1000 | | 8", 0, "7,8 | 7 #1000 | | "},
	} {
		got, often, ok := impl.RecoverSink(sink(one.from))
		if !ok || often != one.often || !sameSinks(got, sink(one.want)) {
			t.Errorf("RecoverSink of %s = %v, %d, %v, not %s, %d", one.from, got, often, ok, one.want, one.often)
		}
	}
}

// anySinks are good ones of all kinds.
func anySinks(many int, thrown dice) []impl.Sink {
	return slices.Concat(thrownSinks(many, thrown), reachedSinks(counting(6)), reachedSinks([]int{4, 4, 5, 4}))
}

// again takes StepSink as often as it can be.
func again(s impl.Sink, kind int) (impl.Sink, int) {
	often := 0
	for next, done := impl.StepSink(s, kind); done; next, done = impl.StepSink(s, kind) {
		s = next
		often++
	}
	return s, often
}

// RecoverSink is SinkCrash, and SinkCommit again and again; so it is by hand.
func TestRecoverSinkIsSinkCrashAndSinkCommit(t *testing.T) {
	var seen [5]int
	for _, s := range anySinks(3000, dice{1604}) {
		crashed, _ := impl.StepSink(s, impl.SinkCrash)
		want, times := again(crashed, impl.SinkCommit)
		got, often, ok := impl.RecoverSink(s)
		if !ok || often != times || !sameSinks(got, want) || !impl.GoodSink(got) {
			t.Fatalf("RecoverSink(%v) = %v, %d, %v, by steps %v, %d", s, got, often, ok, want, times)
		}
		if byHand, of := recoverByHand(s); of != often || !sameSinks(got, byHand) {
			t.Fatalf("RecoverSink(%v) = %v, %d, by hand %v, %d", s, got, often, byHand, of)
		}
		if twice, more, ok := impl.RecoverSink(got); !ok || more != 0 || !sameSinks(twice, got) {
			t.Fatalf("RecoverSink(%v) again = %v, %d, %v", got, twice, more, ok)
		}
		seen[often]++
	}
	if slices.Min(seen[:]) < 100 {
		t.Error(seen)
	}
}

func TestDrainSinkAsTold(t *testing.T) {
	for _, one := range []struct {
		from string
		came int
		want string
	}{
		{" | #0 | | ", 0, " | #0 | | "},
		{"7,8,9 | #0 | | ", 3, "7,8,9 | 7,8,9 #1 | | "},
		{"7,8,9 | #0 | | 7,8", 3, "7,8,9 | 7,8,9 #1 | | "},
		{"7,8,9 | 7 #1 | | ", 2, "7,8,9 | 7,8,9 #2 | | "},
		{"7,8,9 | 7 #1 | 2=8 | ", 2, "7,8,9 | 7,8,9 #3 | | "},
		{"7,8,9 | 7 #1 | 2=8 | 9", 2, "7,8,9 | 7,8,9 #3 | | "},
		// Nothing is left to read.
		{"7,8,9 | 7,8,9 #3 | | ", 0, "7,8,9 | 7,8,9 #3 | | "},
		{"7,8,9 | #0 | 1=7 2=8,9 | ", 3, "7,8,9 | 7,8,9 #2 | | "},
		{"7,8 | 7,8 #1 | 2= | ", 0, "7,8 | 7,8 #2 | | "},
		{"7,8 | 7 #1 | | 8", 1, "7,8 | 7,8 #2 | | "},
		// 4 are Stored, or fewer.
		{"1,2,3,4 | #0 | 1=1 2=2 3=3 4=4 | ", 4, "1,2,3,4 | 1,2,3,4 #4 | | "},
		{"1,2,3,4,5 | #0 | 1=1 2=2 3=3 4=4 | 5", 5, "1,2,3,4,5 | 1,2,3,4,5 #5 | | "},
		{"1,2,3,4,5,6 | 1 #1 | 2=2 3=3 4=4 5=5 | ", 5, "1,2,3,4,5,6 | 1,2,3,4,5,6 #6 | | "},
		{"1,2,3,4,5,6 | 1 #1 | 2=2 3=3 4=4 | 5", 5, "1,2,3,4,5,6 | 1,2,3,4,5,6 #5 | | "},
		{"1,2 | #0 | 1= 2= 3= 4= | 1", 2, "1,2 | 1,2 #5 | | "},
		// There is no number but up to 1000: what can't be prepared stays Pending.
		{"7,8,9 | 7 #999 | | ", 2, "7,8,9 | 7,8,9 #1000 | | "},
		{"7,8,9 | 7 #1000 | | ", 0, "7,8,9 | 7 #1000 | | 8,9"},
		{"7,8,9 | 7 #1000 | | 8", 0, "7,8,9 | 7 #1000 | | 8,9"},
		{"7,8,9 | 7 #999 | 1000=8 | ", 1, "7,8,9 | 7,8 #1000 | | 9"},
		{"7,8,9 | 7 #998 | 999=8 | ", 2, "7,8,9 | 7,8,9 #1000 | | "},
		{"1,2,3,4,5 | #996 | 997=1 998=2 999=3 1000=4 | ", 4, "1,2,3,4,5 | 1,2,3,4 #1000 | | 5"},
		{"1,2,3,4,5 | #995 | 996=1 997=2 998=3 999=4 | 5", 5, "1,2,3,4,5 | 1,2,3,4,5 #1000 | | "},
	} {
		got, came, ok := impl.DrainSink(sink(one.from))
		if !ok || came != one.came || !sameSinks(got, sink(one.want)) {
			t.Errorf("DrainSink of %s = %v, %d, %v, not %s, %d", one.from, got, came, ok, one.want, one.came)
		}
	}
}

// drainBySteps takes StepSink's own steps.
func drainBySteps(s impl.Sink) impl.Sink {
	if len(s.Stored) == 4 {
		s, _ = again(s, impl.SinkCommit)
	}
	s, _ = again(s, impl.SinkRead)
	if next, done := impl.StepSink(s, impl.SinkPrepare); done {
		s = next
	}
	s, _ = again(s, impl.SinkCommit)
	return s
}

func TestDrainSinkIsStepsOfItsOwn(t *testing.T) {
	var full, fewer, nothing, left int
	for _, s := range anySinks(3000, dice{1605}) {
		got, came, ok := impl.DrainSink(s)
		want := drainBySteps(s)
		if !ok || !sameSinks(got, want) || came != len(want.Out)-len(s.Out) || !impl.GoodSink(got) {
			t.Fatalf("DrainSink(%v) = %v, %d, %v, by steps %v", s, got, came, ok, want)
		}
		if byHand, of := drainByHand(s); of != came || !sameSinks(got, byHand) {
			t.Fatalf("DrainSink(%v) = %v, %d, by hand %v, %d", s, got, came, byHand, of)
		}
		if twice, more, ok := impl.DrainSink(got); !ok || more != 0 || !sameSinks(twice, got) {
			t.Fatalf("DrainSink(%v) again = %v, %d, %v", got, twice, more, ok)
		}
		switch {
		case len(got.Pending) > 0:
			left++
		case len(s.Stored) == 4:
			full++
		case s.At == len(s.Source):
			nothing++
		default:
			fewer++
		}
	}
	if min(full, fewer, nothing, left) < 100 {
		t.Error(full, fewer, nothing, left)
	}
}

func TestOutOfAsTold(t *testing.T) {
	for _, one := range []struct {
		from, out string
		left      int
	}{
		{" | #0 | | ", "", 0},
		{"7,8,9 | #0 | | ", "", 3},
		{"7,8,9 | #0 | 1=7 | 8,9", "", 3},
		{"7,8,9 | 7 #1 | | ", "7", 2},
		{"7,8,9 | 7,8 #1 | 2=9 | ", "7,8", 1},
		{"7,8,9 | 7,8,9 #2 | | ", "7,8,9", 0},
		{"7,7,7 | 7 #1 | | 7", "7", 2},
		{"7,8 | 7 #1000 | | 8", "7", 1},
	} {
		if out, left, ok := impl.OutOf(sink(one.from)); !ok || left != one.left || !slices.Equal(out, numbersOf(one.out)) {
			t.Errorf("OutOf(%s) = %v, %d, %v", one.from, out, left, ok)
		}
	}
	for _, s := range anySinks(1000, dice{1606}) {
		if out, left, ok := impl.OutOf(s); !ok || !slices.Equal(out, s.Out) || left != len(s.Source)-len(s.Out) {
			t.Fatalf("OutOf(%v) = %v, %d, %v", s, out, left, ok)
		}
	}
}

// who has what was given out, as somebody outside got it: what came can't be called back.
type who struct {
	source, got []int
}

func (w *who) check(t *testing.T, s impl.Sink, ahead []int) {
	t.Helper()
	out, left, ok := impl.OutOf(s)
	if !ok || len(out) < len(ahead) || !slices.Equal(out[:len(ahead)], ahead) {
		t.Fatalf("%v was given out, then %v of %v", ahead, out, s)
	}
	w.got = append(w.got, out[len(ahead):]...)
	if len(w.got) > len(w.source) || !slices.Equal(w.got, w.source[:len(w.got)]) || left != len(w.source)-len(w.got) {
		t.Fatalf("of %v %v was given out, and %d are left", w.source, w.got, left)
	}
}

// any takes a step, or recovers, or drains.
func (d *dice) anyOf(t *testing.T, s impl.Sink) impl.Sink {
	t.Helper()
	var next impl.Sink
	var ok bool
	switch kind := d.oneOf(1, 1, 1, 1, 1, 1, 1, 1, 1, 2, 2, 2, 2, 3, 3, 3, 4, 5, 6, 7); kind {
	case 6:
		next, _, ok = impl.RecoverSink(s)
	case 7:
		if d.below(10) > 0 {
			return s
		}
		next, _, ok = impl.DrainSink(s)
	default:
		if next, ok = impl.StepSink(s, kind); !ok {
			return s
		}
	}
	if !ok || !impl.GoodSink(next) {
		t.Fatalf("of %v comes %v, %v", s, next, ok)
	}
	return next
}

// Promise 16: whatever is read, prepared, committed, crashed, torn, recovered and drained, what was given out is the source's beginning, each number once.
func TestWhatIsGivenOutIsTheSourcesBeginning(t *testing.T) {
	thrown := dice{1607}
	all, some := 0, 0
	for n := range 4000 {
		source := counting(thrown.below(31))
		if n%4 == 0 {
			source = thrown.source()
		}
		s, _ := impl.NewSink(source)
		w := who{source: source}
		for range thrown.below(121) {
			next := thrown.anyOf(t, s)
			w.check(t, next, s.Out)
			s = next
		}
		if len(w.got) > 0 && len(w.got) == len(source) {
			all++
		} else if len(w.got) > 0 {
			some++
		}
	}
	if min(all, some) < 1000 {
		t.Error(all, some)
	}
}

// Promise 16, by PlaySink: each number that OutOf tells stands there as often as in the source's beginning.
func TestWhatPlaySinkGivesOutIsTheSourcesBeginning(t *testing.T) {
	given, lost := 0, 0
	for _, p := range anyPlayedSinks(5000, dice{1608}) {
		s, did, ok := impl.PlaySink(p.source, p.kinds)
		out, left, good := impl.OutOf(s)
		if !ok || !good || len(out)+left != len(p.source) || !slices.Equal(out, p.source[:len(out)]) {
			t.Fatalf("OutOf PlaySink(%v) = %v, %d", p, out, left)
		}
		read := 0
		for n, kind := range p.kinds {
			if did[n] && kind == impl.SinkRead {
				read++
			}
		}
		if read > s.At {
			lost++
		}
		if len(out) > 0 {
			given++
		}
	}
	if min(given, lost) < 1000 {
		t.Error(given, lost)
	}
}

// Promise 16: only what SinkCommit does comes out, and it is what was prepared first.
func TestOnlyCommitsGiveOut(t *testing.T) {
	for _, s := range anySinks(1000, dice{1609}) {
		for kind := 1; kind <= 5; kind++ {
			next, ok := impl.StepSink(s, kind)
			want := s.Out
			if kind == impl.SinkCommit && ok {
				want = slices.Concat(s.Out, s.Stored[0].Rows)
			}
			if ok && !slices.Equal(next.Out, want) {
				t.Fatalf("StepSink(%v, %d) = %v", s, kind, next)
			}
		}
	}
}

// Promise 16: what was prepared and not given out yet is given out by RecoverSink; what was Pending alone, and what was torn, is read anew by DrainSink, and then all of the source is out.
func TestWhatWasPreparedIsGivenOutAnew(t *testing.T) {
	stored, pending, torn := 0, 0, 0
	for n, source := range slices.Repeat([][]int{counting(6), counting(30), {4, 4, 5, 4, 4, 4, 5}}, 1000) {
		thrown := dice{uint64(1700 + n)}
		s, _, ok := impl.PlaySink(source, thrown.kinds(thrown.below(121)))
		if !ok {
			t.Fatal(source)
		}
		want := slices.Clone(s.Out)
		for _, p := range s.Stored {
			want = append(want, p.Rows...)
		}
		recovered, _, _ := impl.RecoverSink(s)
		if out, left, ok := impl.OutOf(recovered); !ok || !slices.Equal(out, want) || left != len(source)-len(want) {
			t.Fatalf("OutOf RecoverSink(%v) = %v, %d, not %v", s, out, left, want)
		}
		for _, kind := range []int{impl.SinkCrash, impl.SinkTorn} {
			stopped, done := impl.StepSink(s, kind)
			if done != (kind == impl.SinkCrash || len(s.Stored) > 1) {
				t.Fatalf("StepSink(%v, %d) = %v, %v", s, kind, stopped, done)
			}
			if !done {
				continue
			}
			if kind == impl.SinkTorn {
				torn++
			}
			for _, begun := range []impl.Sink{s, recovered, stopped} {
				drained, came, ok := impl.DrainSink(begun)
				if out, left, good := impl.OutOf(drained); !ok || !good || left != 0 || !slices.Equal(out, source) || came != len(source)-len(begun.Out) {
					t.Fatalf("OutOf DrainSink(%v) = %v, %d of %d", begun, out, left, came)
				}
			}
		}
		if len(s.Stored) > 0 {
			stored++
		}
		if len(s.Pending) > 0 {
			pending++
		}
	}
	if min(stored, pending, torn) < 300 {
		t.Error(stored, pending, torn)
	}
}

// Promise 16: one stop, of any kind, behind any number of kinds, changes nothing of what all comes to be.
func TestOneStopAnywhere(t *testing.T) {
	source := counting(12)
	for _, text := range []string{"rprcrprrpc", "rrprrprrprrpcccc", "rprprprpcrpcrpc", "rrrrrpcrrrpcrrrrpc"} {
		l := kindsOf(text)
		for at := range len(l) + 1 {
			for _, stop := range []string{"x", "t", "xx", "tt", "ttt", "xt", "xc", "tccc"} {
				s, _, ok := impl.PlaySink(source, slices.Concat(l[:at], kindsOf(stop), l[at:]))
				out, left, good := impl.OutOf(s)
				if !ok || !good || len(out)+left != 12 || !slices.Equal(out, source[:len(out)]) {
					t.Fatalf("with %s at %d of %s %v is given out", stop, at, text, out)
				}
				if last, came, ok := impl.DrainSink(s); !ok || came != left || !slices.Equal(last.Out, source) {
					t.Fatalf("with %s at %d of %s DrainSink tells %v, %d", stop, at, text, last, came)
				}
			}
		}
	}
}

func TestSinksAreRefused(t *testing.T) {
	for _, s := range badSinks() {
		for _, kind := range append(kindsOf("rpcxt"), badKinds()...) {
			if got, ok := impl.StepSink(s, kind); ok || !isNoSink(got) {
				t.Errorf("StepSink(%v, %d) = %v, %v", s, kind, got, ok)
			}
		}
		if got, often, ok := impl.RecoverSink(s); ok || often != 0 || !isNoSink(got) {
			t.Errorf("RecoverSink(%v) = %v, %d, %v", s, got, often, ok)
		}
		if got, came, ok := impl.DrainSink(s); ok || came != 0 || !isNoSink(got) {
			t.Errorf("DrainSink(%v) = %v, %d, %v", s, got, came, ok)
		}
		if out, left, ok := impl.OutOf(s); ok || left != 0 || len(out) != 0 {
			t.Errorf("OutOf(%v) = %v, %d, %v", s, out, left, ok)
		}
	}
}

// checkSinkCalls has what chapter 16 tells of a sink, each call asked for by checkCall.
func checkSinkCalls(t *testing.T, s impl.Sink, kinds []int) {
	t.Helper()
	checkCall(t, "GoodSink", func() []any { return []any{impl.GoodSink(s)} }, s)
	checkCall(t, "RecoverSink", func() []any { return threeAnswers(impl.RecoverSink(s)) }, s)
	checkCall(t, "DrainSink", func() []any { return threeAnswers(impl.DrainSink(s)) }, s)
	checkCall(t, "OutOf", func() []any { return threeAnswers(impl.OutOf(s)) }, s)
	for _, kind := range kinds {
		checkCall(t, "StepSink", func() []any { return answers(impl.StepSink(s, kind)) }, s, kind)
	}
}

// Promise 19: each function of chapter 16 answers at any arguments, the same each time, in new memory, and writes into none.
func TestSinksAnswerAndWriteNothing(t *testing.T) {
	for n, s := range slices.Concat(thrownSinks(600, dice{1610}), reachedSinks(counting(4)), badSinks()) {
		checkSinkCalls(t, withGuards(s), append(kindsOf("rpcxt"), badKinds()[n%len(badKinds())]))
	}
	thrown := dice{1611}
	plays := []playedSink{{nil, nil}, {counting(sinkSource), make([]int, 120)}, {counting(sinkSource), make([]int, 121)}, {nil, badKinds()}, {counting(2), slices.Repeat(badKinds(), 100)}}
	for _, source := range badSources() {
		plays = append(plays, playedSink{source, kindsOf("rrprcxt")}, playedSink{source, nil})
	}
	for range 600 {
		plays = append(plays, playedSink{thrown.source(), thrown.kinds(thrown.below(130))})
	}
	for _, p := range plays {
		source, l := withGuards(p.source), withGuards(p.kinds)
		checkCall(t, "NewSink", func() []any { return answers(impl.NewSink(source)) }, source)
		checkCall(t, "PlaySink", func() []any { return threeAnswers(impl.PlaySink(source, l)) }, source, l)
	}
}

func sinkAnswers(s impl.Sink) string {
	all := fmt.Sprint(impl.GoodSink(s), threeAnswers(impl.RecoverSink(s)), threeAnswers(impl.DrainSink(s)), threeAnswers(impl.OutOf(s)))
	for kind := range 7 {
		all += fmt.Sprint(answers(impl.StepSink(s, kind)))
	}
	return all
}

// All lists of a sink may be pieces of its source's memory: what is told shares none of it, and is as if they had been apart.
func TestSinksThatShareTheirLists(t *testing.T) {
	for _, s := range slices.Concat(thrownSinks(300, dice{1612}), reachedSinks(counting(4))) {
		shared := copyOfSink(s)
		shared.Source = withGuards(s.Source)
		shared.Out = shared.Source[:s.Upto]
		from := s.Upto
		for n, p := range s.Stored {
			shared.Stored[n].Rows = shared.Source[from:p.Upto]
			from = p.Upto
		}
		shared.Pending = shared.Source[from:s.At]
		checkSinkCalls(t, shared, kindsOf("rpcxt"))
		if got, want := sinkAnswers(shared), sinkAnswers(s); got != want {
			t.Fatalf("%v: %s, apart %s", s, got, want)
		}
	}
	kinds := kindsOf("rprcxt")
	checkCall(t, "PlaySink", func() []any { return threeAnswers(impl.PlaySink(kinds, kinds)) }, kinds, kinds)
}

// What lies behind a list's length does not count, be it good or not.
func TestSinksDoNotReadBehindTheirLists(t *testing.T) {
	for _, s := range slices.Concat(thrownSinks(300, dice{1613}), reachedSinks(counting(4)), badSinks()) {
		plain := sinkAnswers(s)
		if got := sinkAnswers(withGuards(s)); got != plain {
			t.Fatalf("%v: %s, with guards behind the lists %s", s, plain, got)
		}
		long := copyOfSink(s)
		long.Source = append(long.Source, 7, 8)[:len(s.Source)]
		long.Out = append(long.Out, s.Source[min(len(s.Out), len(s.Source)):]...)[:len(s.Out)]
		long.Pending = append(long.Pending, s.Source[min(max(s.At, 0), len(s.Source)):]...)[:len(s.Pending)]
		long.Stored = append(long.Stored, impl.Prepared{No: s.Last + len(s.Stored) + 1, Upto: s.At, Rows: s.Pending})[:len(s.Stored)]
		if got := sinkAnswers(long); got != plain {
			t.Fatalf("%v: %s, with more behind the lists %s", s, plain, got)
		}
	}
	for _, p := range anyPlayedSinks(100, dice{1614})[4000:] {
		s, did, ok := impl.PlaySink(p.source, p.kinds)
		source := append(slices.Clone(p.source), 3, 1)[:len(p.source)]
		kinds := append(slices.Clone(p.kinds), kindsOf("rpc")...)[:len(p.kinds)]
		if got, of, good := impl.PlaySink(source, kinds); good != ok || !slices.Equal(of, did) || !sameSinks(got, s) {
			t.Fatalf("PlaySink(%v) = %v, %v, with more behind the lists %v, %v", p, s, did, got, of)
		}
		if got, good := impl.NewSink(source); !good || !sameSinks(got, impl.Sink{Source: p.source}) {
			t.Fatalf("NewSink(%v) = %v, %v", p.source, got, good)
		}
	}
}

// The empty list and the nil list are the same value.
func TestEmptySinksAndNone(t *testing.T) {
	for _, s := range goodSinks() {
		empty := copyOfSink(s)
		empty.Source, empty.Pending, empty.Out = append([]int{}, s.Source...), append([]int{}, s.Pending...), append([]int{}, s.Out...)
		empty.Stored = append([]impl.Prepared{}, empty.Stored...)
		for n, p := range s.Stored {
			empty.Stored[n].Rows = append([]int{}, p.Rows...)
		}
		if a, b := sinkAnswers(s), sinkAnswers(empty); a != b || !impl.GoodSink(empty) {
			t.Error(a, b)
		}
	}
	for _, none := range [][]int{nil, {}} {
		for _, l := range [][]int{nil, {}} {
			if s, did, ok := impl.PlaySink(none, l); !ok || len(did) != 0 || !isNoSink(s) {
				t.Error(s, did, ok)
			}
		}
	}
}

// spoilSink writes into all that a sink has.
func spoilSink(s impl.Sink) {
	lists := [][]int{s.Source, s.Pending, s.Out}
	for n, p := range s.Stored {
		lists = append(lists, p.Rows)
		s.Stored[n] = impl.Prepared{No: guard, Upto: -guard}
	}
	for _, l := range lists {
		whole := l[:cap(l)]
		for i := range whole {
			whole[i] = -guard
		}
	}
}

// An answer is the caller's own: what is written into it is not told by a later one, and what comes of it is not either.
func TestSinksAreTheCallersOwn(t *testing.T) {
	for _, s := range goodSinks() {
		plain, copied := sinkAnswers(s), copyOfSink(s)
		for kind := range 6 {
			got, _ := impl.StepSink(s, kind)
			spoilSink(got)
		}
		recovered, _, _ := impl.RecoverSink(s)
		drained, _, _ := impl.DrainSink(s)
		out, _, _ := impl.OutOf(s)
		spoilSink(recovered)
		spoilSink(drained)
		spoilSink(impl.Sink{Out: out})
		if again := sinkAnswers(s); again != plain || !sameSinks(s, copied) {
			t.Errorf("%s, then %s", plain, again)
		}
	}
	source, kinds := []int{7, 8, 9}, kindsOf("rprprc")
	for range 3 {
		s, did, ok := impl.PlaySink(source, kinds)
		if !ok || didOf(did) != "111111" || !sameSinks(s, sink("7,8,9 | 7 #1 | 2=8 | 9")) {
			t.Error(s, did, ok)
		}
		spoilSink(s)
		did[0] = false
		begun, ok := impl.NewSink(source)
		if !ok || !sameSinks(begun, impl.Sink{Source: source}) {
			t.Error(begun, ok)
		}
		spoilSink(begun)
	}
}
