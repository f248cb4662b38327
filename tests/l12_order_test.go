package tests

import (
	"fmt"
	"math"
	"math/big"
	"slices"
	"testing"

	"loop.example/g00305/impl"
)

func sizes(l ...int) []int {
	return l
}

// stats lays the first table's list, which is empty, ahead of the others' Factors.
func stats(sizes []int, factors ...[]int) impl.Stats {
	return impl.Stats{Sizes: sizes, Factors: append([][]int{nil}, factors...)}
}

// evenStats has one Size and one Factor everywhere.
func evenStats(tables, size, factor int) impl.Stats {
	var s impl.Stats
	for n := range tables {
		s.Sizes = append(s.Sizes, size)
		s.Factors = append(s.Factors, slices.Repeat([]int{factor}, n))
	}
	return s
}

// threeStats are those of the first example: 0 and 2 have few rows together.
func threeStats() impl.Stats {
	return stats(sizes(10, 20, 30), []int{1}, []int{10, 5})
}

// sixStats has no two Sizes alike, and nearly no two Factors of one table.
func sixStats() impl.Stats {
	return stats(sizes(2, 3, 5, 7, 11, 13), []int{2}, []int{3, 4}, []int{5, 6, 7}, []int{8, 9, 10, 1}, []int{2, 3, 4, 5, 6})
}

func copyOfStats(s impl.Stats) impl.Stats {
	out := impl.Stats{Sizes: slices.Clone(s.Sizes)}
	for _, l := range s.Factors {
		out.Factors = append(out.Factors, slices.Clone(l))
	}
	return out
}

func within(l []int, least, most int) bool {
	return !slices.ContainsFunc(l, func(n int) bool { return n < least || n > most })
}

func goodStatsByHand(s impl.Stats) bool {
	good := len(s.Sizes) >= 1 && len(s.Sizes) <= 6 && len(s.Sizes) == len(s.Factors) && within(s.Sizes, 1, 50)
	for n, l := range s.Factors {
		good = good && len(l) == n && within(l, 1, 10)
	}
	return good
}

func risingByHand(l []int, many int) bool {
	return within(l, 0, many-1) && slices.IsSorted(l) && len(slices.Compact(slices.Clone(l))) == len(l)
}

// sizeByHand multiplies all Sizes and all Factors, of any length, and divides once.
func sizeByHand(s impl.Stats, some []int) int {
	product, by := big.NewInt(1), big.NewInt(1)
	for _, n := range some {
		product.Mul(product, big.NewInt(int64(s.Sizes[n])))
	}
	for high, l := range s.Factors {
		for low, factor := range l {
			if hasAll(some, []int{low, high}) {
				by.Mul(by, big.NewInt(int64(factor)))
			}
		}
	}
	return int(product.Div(product, by).Int64())
}

// sizesByHand has each set's size, by the bits of its tables.
type sizesByHand map[int]int

func tableBits(some []int) int {
	bits := 0
	for _, n := range some {
		bits |= 1 << n
	}
	return bits
}

func allSizesByHand(s impl.Stats) sizesByHand {
	out := sizesByHand{}
	for _, some := range allParts(firstNumbers(len(s.Sizes))) {
		out[tableBits(some)] = sizeByHand(s, some)
	}
	return out
}

func (z sizesByHand) costOf(order []int) int {
	sum := 0
	for many := 2; many <= len(order); many++ {
		sum += z[tableBits(order[:many])]
	}
	return sum
}

// ordersOf has all orders of a rising list, from the least one on, number by number.
func ordersOf(l []int) [][]int {
	if len(l) == 0 {
		return [][]int{nil}
	}
	var out [][]int
	for _, first := range l {
		for _, others := range ordersOf(without(l, first)) {
			out = append(out, append([]int{first}, others...))
		}
	}
	return out
}

// bestOf tries all orders one by one: the first one of the least cost, that cost, and how many orders have it.
func (z sizesByHand) bestOf(some []int) ([]int, int, int) {
	var best []int
	least, many := math.MaxInt, 0
	for _, order := range ordersOf(some) {
		cost := z.costOf(order)
		if cost < least {
			best, least, many = order, cost, 0
		}
		if cost == least {
			many++
		}
	}
	return best, least, many
}

// greedyOf takes the cheapest pair, and then each time what makes the next join cheapest.
func (z sizesByHand) greedyOf(tables int) int {
	cost, left := math.MaxInt, []int(nil)
	var so []int
	for _, order := range ordersOf(firstNumbers(tables)) {
		if c := z[tableBits(order[:2])]; c < cost {
			cost, so, left = c, slices.Clone(order[:2]), slices.Clone(order[2:])
		}
	}
	for len(left) > 0 {
		next := slices.MinFunc(left, func(a, b int) int {
			return z[tableBits(append(slices.Clone(so), a))] - z[tableBits(append(slices.Clone(so), b))]
		})
		so, left = append(so, next), without(left, next)
		cost += z[tableBits(so)]
	}
	return cost
}

func (d *dice) stats(tables int, ofSizes, ofFactors []int) impl.Stats {
	var s impl.Stats
	for n := range tables {
		s.Sizes = append(s.Sizes, d.oneOf(ofSizes...))
		var l []int
		for range n {
			l = append(l, d.oneOf(ofFactors...))
		}
		s.Factors = append(s.Factors, l)
	}
	return s
}

func upTo(most int) []int {
	var out []int
	for n := range most {
		out = append(out, n+1)
	}
	return out
}

// thrownStats has few numbers now and then: so many orders cost the same.
func (d *dice) thrownStats(tables int) impl.Stats {
	switch d.below(5) {
	case 0:
		return d.stats(tables, sizes(4, 8), sizes(1, 2))
	case 1:
		return d.stats(tables, sizes(1, 10, 50), sizes(1, 10))
	case 2:
		return d.stats(tables, sizes(1, 2, 3), upTo(10))
	case 3:
		return d.stats(tables, sizes(20, 30, 40, 50), sizes(1, 1, 1, 2, 5))
	}
	return d.stats(tables, upTo(50), upTo(10))
}

// smallStats are all of three tables, and all of four, of a few numbers.
func smallStats() []impl.Stats {
	var out []impl.Stats
	add := func(tables int, ofSizes, ofFactors []int) {
		for _, l := range listsUpTo(tables, ofSizes) {
			for _, f := range listsUpTo(tables*(tables-1)/2, ofFactors) {
				if len(l) != tables || len(f) != tables*(tables-1)/2 {
					continue
				}
				s := impl.Stats{Sizes: l}
				for n := range tables {
					s.Factors = append(s.Factors, f[:n])
					f = f[n:]
				}
				out = append(out, s)
			}
		}
	}
	add(1, upTo(50), nil)
	add(2, upTo(9), upTo(10))
	add(3, sizes(1, 3, 7), sizes(1, 2, 10))
	add(4, sizes(2, 9), sizes(1, 3))
	return out
}

func goodStats() []impl.Stats {
	return []impl.Stats{
		stats(sizes(1)), stats(sizes(50)), stats(sizes(7)),
		{Sizes: sizes(1), Factors: [][]int{{}}},
		stats(sizes(1, 50), []int{1}), stats(sizes(50, 1), []int{10}), stats(sizes(7, 9), []int{2}), stats(sizes(3, 3), []int{10}),
		threeStats(), sixStats(),
		stats(sizes(1, 2, 50, 4), []int{10}, []int{1, 2}, []int{3, 1, 10}),
		stats(sizes(5, 4, 3, 2, 1), []int{1}, []int{1, 2}, []int{1, 2, 3}, []int{4, 3, 2, 1}),
		evenStats(1, 50, 1), evenStats(2, 50, 10), evenStats(3, 5, 10), evenStats(4, 10, 3), evenStats(5, 50, 1),
		evenStats(6, 50, 1), evenStats(6, 50, 10), evenStats(6, 1, 1), evenStats(6, 1, 10), evenStats(6, 50, 2),
	}
}

// changedStats has good statistics with one thing changed each.
func changedStats(s impl.Stats) []impl.Stats {
	var out []impl.Stats
	change := func(by func(*impl.Stats)) {
		copied := copyOfStats(s)
		by(&copied)
		out = append(out, copied)
	}
	for n := range s.Sizes {
		for _, bad := range []int{0, 51, -1, -50, 100, math.MinInt, math.MaxInt} {
			change(func(c *impl.Stats) { c.Sizes[n] = bad })
		}
		change(func(c *impl.Stats) { c.Factors[n] = append(c.Factors[n], 1) })
		change(func(c *impl.Stats) { c.Factors[n] = append(c.Factors[n], slices.Repeat([]int{1}, 64)...) })
		for low := range n {
			change(func(c *impl.Stats) { c.Factors[n] = c.Factors[n][:low] })
			for _, bad := range []int{0, 11, -1, -10, 100, math.MinInt, math.MaxInt} {
				change(func(c *impl.Stats) { c.Factors[n][low] = bad })
			}
		}
	}
	last := len(s.Sizes) - 1
	change(func(c *impl.Stats) { c.Factors = c.Factors[:last] })
	change(func(c *impl.Stats) { c.Sizes = c.Sizes[:last] })
	change(func(c *impl.Stats) { c.Factors = nil })
	change(func(c *impl.Stats) { c.Sizes = nil })
	change(func(c *impl.Stats) { c.Sizes = append(c.Sizes, 1) })
	change(func(c *impl.Stats) { c.Factors = append(c.Factors, slices.Repeat([]int{1}, last+1)) })
	change(func(c *impl.Stats) { c.Factors = append(c.Factors, nil) })
	if last > 0 {
		change(func(c *impl.Stats) { c.Factors = c.Factors[1:] })
		change(func(c *impl.Stats) { slices.Reverse(c.Factors) })
		change(func(c *impl.Stats) { c.Factors = make([][]int, last+1) })
	}
	return out
}

func badStats() []impl.Stats {
	out := []impl.Stats{
		{}, {Sizes: sizes()}, {Factors: [][]int{nil}}, {Sizes: sizes(1)}, {Sizes: sizes(1, 2)}, {Sizes: sizes(), Factors: [][]int{}},
		{Sizes: sizes(1), Factors: [][]int{{1}}}, {Sizes: sizes(1, 1), Factors: [][]int{{1}, {1}}}, {Sizes: sizes(1, 1), Factors: [][]int{{1}, nil}},
		evenStats(7, 1, 1), evenStats(7, 50, 10), evenStats(8, 2, 2), evenStats(64, 1, 1), evenStats(65, 1, 1), evenStats(100, 50, 10),
		evenStats(1, 0, 1), evenStats(1, 51, 1), evenStats(1, -1, 1), evenStats(6, 0, 1), evenStats(6, 51, 1), evenStats(2, 1, 0), evenStats(2, 1, 11), evenStats(6, 50, 0), evenStats(6, 50, 11),
		{Sizes: make([]int, 100), Factors: make([][]int, 100)},
	}
	for _, s := range goodStats() {
		out = append(out, changedStats(s)...)
	}
	return out
}

func TestGoodStatsAsTold(t *testing.T) {
	for _, s := range append(goodStats(), smallStats()...) {
		if !impl.GoodStats(s) || !goodStatsByHand(s) {
			t.Errorf("GoodStats(%v) is false", s)
		}
	}
	for _, s := range badStats() {
		if impl.GoodStats(s) || goodStatsByHand(s) {
			t.Errorf("GoodStats(%v) is true", s)
		}
	}
}

func TestGoodStatsAtEachNumber(t *testing.T) {
	if impl.MaxTables != 6 {
		t.Error(impl.MaxTables)
	}
	for tables := range 9 {
		if got, want := impl.GoodStats(evenStats(tables, 5, 5)), tables >= 1 && tables <= 6; got != want {
			t.Errorf("of %d tables GoodStats is %v", tables, got)
		}
	}
	for n := -3; n < 60; n++ {
		if got, want := impl.GoodStats(stats(sizes(n))), n >= 1 && n <= 50; got != want {
			t.Errorf("of a Size of %d GoodStats is %v", n, got)
		}
		if got, want := impl.GoodStats(stats(sizes(1, 2, 3), []int{1}, []int{2, n})), n >= 1 && n <= 10; got != want {
			t.Errorf("of a Factor of %d GoodStats is %v", n, got)
		}
	}
}

// Any lists: what is told hangs on all of them.
func TestGoodStatsByHand(t *testing.T) {
	thrown := dice{1201}
	seen := map[bool]int{}
	for range 20000 {
		s := thrown.thrownStats(1 + thrown.below(6))
		for range thrown.below(3) {
			n := thrown.below(len(s.Sizes))
			switch thrown.below(4) {
			case 0:
				s.Sizes[n] = thrown.below(60) - 3
			case 1:
				s.Factors[n] = append(s.Factors[n], thrown.below(14)-2)
			case 2:
				s.Factors[n] = s.Factors[n][:len(s.Factors[n])/2]
			case 3:
				if n > 0 && len(s.Factors[n]) > 0 {
					s.Factors[n][thrown.below(len(s.Factors[n]))] = thrown.below(14) - 2
				}
			}
		}
		got := impl.GoodStats(s)
		if got != goodStatsByHand(s) {
			t.Fatalf("GoodStats(%v) = %v", s, got)
		}
		seen[got]++
	}
	if seen[true] < 5000 || seen[false] < 5000 {
		t.Error(seen)
	}
}

type sizeCase struct {
	s    impl.Stats
	some []int
	want int
}

func checkSizes(t *testing.T, cases []sizeCase) {
	t.Helper()
	for _, c := range cases {
		if by := sizeByHand(c.s, c.some); by != c.want {
			t.Errorf("by hand SizeOf(%v, %v) = %d, not %d", c.s, c.some, by, c.want)
		}
		if got, ok := impl.SizeOf(c.s, c.some); got != c.want || !ok {
			t.Errorf("SizeOf(%v, %v) = %d, %v, not %d", c.s, c.some, got, ok, c.want)
		}
	}
}

func TestSizeOfAsTold(t *testing.T) {
	three, six := threeStats(), sixStats()
	checkSizes(t, []sizeCase{
		{three, digits("0"), 10}, {three, digits("1"), 20}, {three, digits("2"), 30},
		{three, digits("01"), 200}, {three, digits("02"), 30}, {three, digits("12"), 120}, {three, digits("012"), 120},
		// Not whole: down.
		{stats(sizes(7, 9), []int{2}), digits("01"), 31},
		{stats(sizes(7, 9), []int{10}), digits("01"), 6},
		{stats(sizes(3, 13), []int{10}), digits("01"), 3},
		{stats(sizes(3, 13), []int{4}), digits("01"), 9},
		// One is met, and what is below it is 0.
		{stats(sizes(2, 5), []int{10}), digits("01"), 1},
		{stats(sizes(3, 3), []int{10}), digits("01"), 0},
		{stats(sizes(1, 1), []int{2}), digits("01"), 0},
		{stats(sizes(1, 1), []int{1}), digits("01"), 1},
		{evenStats(3, 5, 10), digits("012"), 0}, {evenStats(3, 10, 10), digits("012"), 1},
		// Once, at the end: 7 times 7 over 4, or 15 over 8 times 7, would be 12 or 7.
		{stats(sizes(3, 5, 7), []int{2}, []int{2, 2}), digits("012"), 13},
		{stats(sizes(3, 3, 50), []int{10}, []int{1, 1}), digits("012"), 45},
		// Not next to each other.
		{six, digits("02"), 3}, {six, digits("03"), 2}, {six, digits("14"), 3}, {six, digits("25"), 16}, {six, digits("05"), 13},
		{six, digits("035"), 3}, {six, digits("135"), 3}, {six, digits("024"), 0}, {six, digits("34"), 77}, {six, digits("345"), 33}, {six, digits("1345"), 0},
		{six, digits("012345"), 0},
	})
}

func TestSizeOfAtItsEnds(t *testing.T) {
	all := digits("012345")
	checkSizes(t, []sizeCase{
		{stats(sizes(1)), digits("0"), 1}, {stats(sizes(50)), digits("0"), 50},
		{evenStats(2, 50, 1), digits("01"), 2500}, {evenStats(2, 50, 10), digits("01"), 250},
		{evenStats(6, 50, 1), all, 15625000000}, {evenStats(6, 50, 10), all, 0}, {evenStats(6, 50, 2), all, 476837},
		{evenStats(6, 50, 4), all, 14}, {evenStats(6, 50, 5), all, 0},
		{evenStats(6, 1, 1), all, 1}, {evenStats(6, 1, 10), all, 0}, {evenStats(6, 1, 10), digits("5"), 1},
		{evenStats(6, 49, 1), all, 13841287201}, {evenStats(5, 50, 1), digits("01234"), 312500000},
		{evenStats(6, 50, 10), digits("045"), 125}, {evenStats(6, 50, 10), digits("1235"), 6}, {evenStats(6, 50, 10), digits("01235"), 0},
	})
}

func TestSizeOfByHand(t *testing.T) {
	thrown := dice{1202}
	nothing, much := 0, 0
	for range 400 {
		s := thrown.thrownStats(1 + thrown.below(6))
		for _, some := range allParts(firstNumbers(len(s.Sizes)))[1:] {
			want := sizeByHand(s, some)
			if got, ok := impl.SizeOf(s, some); got != want || !ok {
				t.Fatalf("SizeOf(%v, %v) = %d, %v, not %d", s, some, got, ok, want)
			}
			if want == 0 {
				nothing++
			}
			if want > 1000000 {
				much++
			}
		}
	}
	if nothing < 300 || much < 30 {
		t.Error(nothing, much)
	}
}

// All lists of up to four numbers, of three tables: those that rise, and are not empty, are good.
func TestSizeOfAndBestOfEachList(t *testing.T) {
	s := threeStats()
	by := allSizesByHand(s)
	good := 0
	for _, l := range listsUpTo(4, []int{-1, 0, 1, 2, 3}) {
		if !risingByHand(l, 3) || len(l) == 0 {
			checkSomeRefused(t, s, l)
			continue
		}
		good++
		if got, ok := impl.SizeOf(s, l); got != sizeByHand(s, l) || !ok {
			t.Errorf("SizeOf(%v, %v) = %d, %v", s, l, got, ok)
		}
		checkBestOf(t, s, by, l)
	}
	if good != 7 {
		t.Error(good)
	}
}

type costCase struct {
	s     impl.Stats
	order []int
	want  int
}

func checkCosts(t *testing.T, cases []costCase) {
	t.Helper()
	for _, c := range cases {
		if by := allSizesByHand(c.s).costOf(c.order); by != c.want {
			t.Errorf("by hand CostOf(%v, %v) = %d, not %d", c.s, c.order, by, c.want)
		}
		if got, ok := impl.CostOf(c.s, c.order); got != c.want || !ok {
			t.Errorf("CostOf(%v, %v) = %d, %v, not %d", c.s, c.order, got, ok, c.want)
		}
	}
}

func TestCostOfAsTold(t *testing.T) {
	three, six := threeStats(), sixStats()
	checkCosts(t, []costCase{
		{three, digits("012"), 200 + 120}, {three, digits("102"), 200 + 120},
		{three, digits("021"), 30 + 120}, {three, digits("201"), 30 + 120},
		{three, digits("120"), 120 + 120}, {three, digits("210"), 120 + 120},
		// One table alone: nothing is summed up, whatever its Size.
		{stats(sizes(1)), digits("0"), 0}, {stats(sizes(7)), digits("0"), 0}, {stats(sizes(50)), digits("0"), 0},
		// Two tables: one join, and the same in both orders.
		{stats(sizes(7, 9), []int{2}), digits("01"), 31}, {stats(sizes(7, 9), []int{2}), digits("10"), 31},
		{stats(sizes(3, 3), []int{10}), digits("01"), 0}, {stats(sizes(3, 3), []int{10}), digits("10"), 0},
		{stats(sizes(1, 1), []int{1}), digits("10"), 1},
		{evenStats(6, 50, 1), digits("012345"), 2500 + 125000 + 6250000 + 312500000 + 15625000000},
		{evenStats(6, 50, 1), digits("531420"), 2500 + 125000 + 6250000 + 312500000 + 15625000000},
		{evenStats(6, 50, 10), digits("543210"), 250 + 125 + 6},
		{evenStats(6, 1, 1), digits("250413"), 5}, {evenStats(6, 1, 10), digits("012345"), 0},
		{evenStats(3, 5, 10), digits("201"), 2},
		{six, digits("345012"), 77 + 33}, {six, digits("201345"), 3 + 1}, {six, digits("520134"), 16 + 5},
	})
}

func checkCostByHand(t *testing.T, s impl.Stats, by sizesByHand, order []int) int {
	t.Helper()
	want := by.costOf(order)
	got, ok := impl.CostOf(s, order)
	if got != want || !ok || !impl.IsOrder(s, order) {
		t.Fatalf("CostOf(%v, %v) = %d, %v, not %d", s, order, got, ok, want)
	}
	return got
}

func TestCostOfByHand(t *testing.T) {
	thrown := dice{1203}
	for range 150 {
		s := thrown.thrownStats(1 + thrown.below(6))
		by := allSizesByHand(s)
		for _, order := range ordersOf(firstNumbers(len(s.Sizes))) {
			checkCostByHand(t, s, by, order)
		}
	}
}

func sumOfSizes(t *testing.T, s impl.Stats, order []int) int {
	t.Helper()
	sum := 0
	for many := 2; many <= len(order); many++ {
		size, ok := impl.SizeOf(s, slices.Sorted(slices.Values(order[:many])))
		if !ok {
			t.Fatalf("SizeOf(%v, %v) is refused", s, order[:many])
		}
		sum += size
	}
	return sum
}

// The last join costs as much in each order: SizeOf all tables. So an order costs that, and what the tables but the last one do.
func TestTheLastJoinCostsAsMuchInEachOrder(t *testing.T) {
	thrown := dice{1204}
	for range 150 {
		s := thrown.thrownStats(2 + thrown.below(5))
		tables := len(s.Sizes)
		all, _ := impl.SizeOf(s, firstNumbers(tables))
		for _, order := range ordersOf(firstNumbers(tables)) {
			cost, ok := impl.CostOf(s, order)
			if ahead := sumOfSizes(t, s, order[:tables-1]); !ok || cost-ahead != all {
				t.Fatalf("CostOf(%v, %v) = %d, %v, of which %d ahead of the last join, not all but %d", s, order, cost, ok, ahead, all)
			}
		}
		least := math.MaxInt
		for _, last := range firstNumbers(tables) {
			_, cost, _ := impl.BestOf(s, without(firstNumbers(tables), last))
			least = min(least, cost)
		}
		if _, cost, ok := impl.BestOrder(s); cost != least+all || !ok {
			t.Fatalf("BestOrder(%v) costs %d, not %d and %d", s, cost, least, all)
		}
	}
}

// The first two tables may change places: their join is the same.
func TestTheFirstTwoMayChangePlaces(t *testing.T) {
	thrown := dice{1205}
	for range 100 {
		s := thrown.thrownStats(2 + thrown.below(5))
		for _, order := range ordersOf(firstNumbers(len(s.Sizes))) {
			other := slices.Clone(order)
			other[0], other[1] = order[1], order[0]
			first, _ := impl.CostOf(s, order)
			if second, ok := impl.CostOf(s, other); first != second || !ok {
				t.Fatalf("of %v: %v costs %d, %v costs %d", s, order, first, other, second)
			}
		}
		if told, _, _ := impl.BestOrder(s); told[0] > told[1] {
			t.Fatalf("BestOrder(%v) = %v", s, told)
		}
	}
}

// checkBestOf fails unless BestOf tells what all orders tried one by one come to; it answers how many cost that.
func checkBestOf(t *testing.T, s impl.Stats, by sizesByHand, some []int) int {
	t.Helper()
	order, cost, many := by.bestOf(some)
	if got, least, ok := impl.BestOf(s, some); !ok || least != cost || !slices.Equal(got, order) {
		t.Fatalf("BestOf(%v, %v) = %v, %d, %v, not %v, %d", s, some, got, least, ok, order, cost)
	}
	return many
}

type bestCase struct {
	s    impl.Stats
	some []int
	want []int
	cost int
}

func checkBest(t *testing.T, cases []bestCase) {
	t.Helper()
	for _, c := range cases {
		if order, cost, _ := allSizesByHand(c.s).bestOf(c.some); cost != c.cost || !slices.Equal(order, c.want) {
			t.Errorf("by hand BestOf(%v, %v) = %v, %d, not %v, %d", c.s, c.some, order, cost, c.want, c.cost)
		}
		if order, cost, ok := impl.BestOf(c.s, c.some); cost != c.cost || !ok || !slices.Equal(order, c.want) {
			t.Errorf("BestOf(%v, %v) = %v, %d, %v, not %v, %d", c.s, c.some, order, cost, ok, c.want, c.cost)
		}
		if len(c.some) != len(c.s.Sizes) {
			continue
		}
		if order, cost, ok := impl.BestOrder(c.s); cost != c.cost || !ok || !slices.Equal(order, c.want) {
			t.Errorf("BestOrder(%v) = %v, %d, %v, not %v, %d", c.s, order, cost, ok, c.want, c.cost)
		}
	}
}

func TestBestOfAsTold(t *testing.T) {
	three, six := threeStats(), sixStats()
	// The cheapest pair first is not best: 0 and 1 cost 10, but then 20; 1 and 2 cost 20, but then 8.
	late := stats(sizes(10, 10, 10, 10), []int{10}, []int{1, 5}, []int{1, 5, 5})
	checkBest(t, []bestCase{
		{three, digits("012"), digits("021"), 30 + 120},
		{three, digits("01"), digits("01"), 200}, {three, digits("02"), digits("02"), 30}, {three, digits("12"), digits("12"), 120},
		{three, digits("0"), digits("0"), 0}, {three, digits("1"), digits("1"), 0}, {three, digits("2"), digits("2"), 0},
		{stats(sizes(50)), digits("0"), digits("0"), 0},
		{stats(sizes(50, 1), []int{10}), digits("01"), digits("01"), 5},
		{stats(sizes(3, 3), []int{10}), digits("01"), digits("01"), 0},
		{late, digits("0123"), digits("1230"), 20 + 8 + 8},
		{late, digits("012"), digits("012"), 10 + 20}, {late, digits("013"), digits("013"), 10 + 20}, {late, digits("023"), digits("230"), 20 + 200}, {late, digits("123"), digits("123"), 20 + 8},
		{six, digits("012345"), digits("031245"), 2},
		{six, digits("345"), digits("354"), 18 + 33},
		{six, digits("135"), digits("135"), 3 + 3},
	})
}

// Without anything in common: the fewest rows first.
func TestBestOfWhatHasNothingInCommon(t *testing.T) {
	apart := evenStats(6, 1, 1)
	apart.Sizes = sizes(50, 5, 40, 4, 30, 3)
	checkBest(t, []bestCase{
		{apart, digits("012345"), digits("351420"), 12 + 60 + 1800 + 72000 + 3600000},
		{apart, digits("024"), digits("240"), 1200 + 60000},
		{apart, digits("135"), digits("351"), 12 + 60},
		{apart, digits("05"), digits("05"), 150},
	})
}

// Several orders cost the same: the least one, number by number, is told, wherever its last table stands.
func TestBestOfSeveralAsGood(t *testing.T) {
	thirdLast := stats(sizes(4, 4, 4), []int{1}, []int{2, 2})
	// Either pair is cheap, and the other one as dear to join with it.
	ends := stats(sizes(8, 8, 8, 8), []int{8}, []int{1, 1}, []int{1, 1, 8})
	checkBest(t, []bestCase{
		{evenStats(2, 9, 3), digits("01"), digits("01"), 27},
		{evenStats(3, 4, 2), digits("012"), digits("012"), 8 + 8},
		{evenStats(6, 4, 2), digits("012345"), digits("012345"), 8 + 8 + 4 + 1},
		{evenStats(6, 4, 2), digits("0235"), digits("0235"), 8 + 8 + 4},
		{evenStats(6, 50, 1), digits("012345"), digits("012345"), 15943877500},
		{evenStats(6, 50, 10), digits("012345"), digits("012345"), 250 + 125 + 6},
		{evenStats(6, 1, 1), digits("012345"), digits("012345"), 5}, {evenStats(6, 1, 10), digits("012345"), digits("012345"), 0},
		// 0 and 2, or 1 and 2: 0 and 1 cost more.
		{thirdLast, digits("012"), digits("021"), 8 + 16},
		// 0 and 1, or 2 and 3.
		{ends, digits("0123"), digits("0123"), 8 + 64 + 64},
		{ends, digits("023"), digits("230"), 8 + 64},
		{stats(sizes(1, 1, 1, 9), []int{1}, []int{1, 1}, []int{9, 9, 9}), digits("0123"), digits("0132"), 1},
	})
}

// Promise 12: of each order of all tables none costs less than the one that is told, and of those that cost as much it is the least one.
func TestNoOrderCostsLess(t *testing.T) {
	thrown := dice{1206}
	several, alone, greedy := 0, 0, 0
	for range 800 {
		s := thrown.thrownStats(1 + thrown.below(6))
		told, least, ok := impl.BestOrder(s)
		if cost, is := impl.CostOf(s, told); !ok || !is || cost != least {
			t.Fatalf("BestOrder(%v) = %v, %d, %v, but it costs %d, %v", s, told, least, ok, cost, is)
		}
		same := 0
		for _, order := range ordersOf(firstNumbers(len(s.Sizes))) {
			cost, ok := impl.CostOf(s, order)
			if !ok || cost < least {
				t.Fatalf("BestOrder(%v) = %v, %d, but %v costs %d, %v", s, told, least, order, cost, ok)
			}
			if cost == least && slices.Compare(order, told) < 0 {
				t.Fatalf("BestOrder(%v) = %v, %d, but %v is less and costs as much", s, told, least, order)
			}
			if cost == least {
				same++
			}
		}
		// Two orders cost the same always: the first two may change places.
		if same > 2 {
			several++
		} else {
			alone++
		}
		if len(s.Sizes) > 1 && allSizesByHand(s).greedyOf(len(s.Sizes)) > least {
			greedy++
		}
	}
	if several < 200 || alone < 200 || greedy < 20 {
		t.Error(several, alone, greedy)
	}
}

// Promise 12, of some tables, and of numbers that are told without CostOf.
func TestBestOfByHand(t *testing.T) {
	thrown := dice{1207}
	several, apart := 0, 0
	for range 120 {
		s := thrown.thrownStats(1 + thrown.below(6))
		by := allSizesByHand(s)
		for _, some := range allParts(firstNumbers(len(s.Sizes)))[1:] {
			if checkBestOf(t, s, by, some) > 2 {
				several++
			}
			if some[len(some)-1]-some[0] >= len(some) {
				apart++
			}
		}
	}
	if several < 300 || apart < 800 {
		t.Error(several, apart)
	}
}

func TestBestOfSmallOnesByHand(t *testing.T) {
	for _, s := range smallStats() {
		by := allSizesByHand(s)
		for _, some := range allParts(firstNumbers(len(s.Sizes)))[1:] {
			checkBestOf(t, s, by, some)
		}
	}
}

func TestBestOrderIsBestOfAllTables(t *testing.T) {
	thrown := dice{1208}
	some := append(goodStats(), smallStats()...)
	for range 3000 {
		some = append(some, thrown.thrownStats(1+thrown.below(6)))
	}
	for _, s := range some {
		order, cost, ok := impl.BestOrder(s)
		of, least, good := impl.BestOf(s, firstNumbers(len(s.Sizes)))
		if !ok || !good || cost != least || !slices.Equal(order, of) || !impl.IsOrder(s, order) {
			t.Fatalf("BestOrder(%v) = %v, %d, %v; BestOf all %v, %d, %v", s, order, cost, ok, of, least, good)
		}
	}
}

// onlySome has the statistics of some tables alone, numbered anew in the order of the list.
func onlySome(s impl.Stats, some []int) impl.Stats {
	var out impl.Stats
	for n, one := range some {
		out.Sizes = append(out.Sizes, s.Sizes[one])
		var l []int
		for _, other := range some[:n] {
			l = append(l, s.Factors[max(one, other)][min(one, other)])
		}
		out.Factors = append(out.Factors, l)
	}
	return out
}

// What the other tables are does not count.
func TestBestOfSomeIsBestOrderOfTheseAlone(t *testing.T) {
	thrown := dice{1209}
	for range 200 {
		s := thrown.thrownStats(1 + thrown.below(6))
		for _, some := range allParts(firstNumbers(len(s.Sizes)))[1:] {
			order, cost, ok := impl.BestOf(s, some)
			alone, least, good := impl.BestOrder(onlySome(s, some))
			if !ok || !good || cost != least || !slices.Equal(order, cellsAt(firstNumbers(len(some)), some, alone)) {
				t.Fatalf("BestOf(%v, %v) = %v, %d, %v; alone %v, %d, %v", s, some, order, cost, ok, alone, least, good)
			}
			size, _ := impl.SizeOf(s, some)
			if whole, ok := impl.SizeOf(onlySome(s, some), firstNumbers(len(some))); size != whole || !ok {
				t.Fatalf("SizeOf(%v, %v) = %d, alone %d", s, some, size, whole)
			}
		}
	}
}

// Tables numbered anew: the least cost is the same, and so is that of each order.
func TestCostsOfTablesNumberedAnew(t *testing.T) {
	thrown := dice{1210}
	for range 200 {
		s := thrown.thrownStats(2 + thrown.below(5))
		orders := ordersOf(firstNumbers(len(s.Sizes)))
		numbers := orders[thrown.below(len(orders))]
		anew := onlySome(s, numbers)
		for range 20 {
			order := orders[thrown.below(len(orders))]
			was, _ := impl.CostOf(s, cellsAt(firstNumbers(len(order)), numbers, order))
			if is, ok := impl.CostOf(anew, order); is != was || !ok {
				t.Fatalf("CostOf(%v, %v) = %d, %v, not %d", anew, order, is, ok, was)
			}
		}
		_, was, _ := impl.BestOrder(s)
		if _, is, ok := impl.BestOrder(anew); is != was || !ok {
			t.Fatalf("BestOrder(%v) costs %d, %v, not %d", anew, is, ok, was)
		}
	}
}

// Of lists of up to four numbers, and of three tables, just the six orders are orders.
func TestIsOrderOfEachList(t *testing.T) {
	s := threeStats()
	var found [][]int
	for _, l := range listsUpTo(4, []int{-1, 0, 1, 2, 3}) {
		is := impl.IsOrder(s, l)
		if _, ok := impl.CostOf(s, l); ok != is {
			t.Errorf("IsOrder(%v, %v) = %v, CostOf tells %v", s, l, is, ok)
		}
		if is {
			found = append(found, l)
		}
	}
	if !sameLists(found, ordersOf(firstNumbers(3))) {
		t.Error(found)
	}
}

func TestIsOrderOfOneAndSix(t *testing.T) {
	one, six := stats(sizes(7)), sixStats()
	if !impl.IsOrder(one, digits("0")) || impl.IsOrder(one, nil) || impl.IsOrder(one, digits("1")) || impl.IsOrder(one, digits("00")) || impl.IsOrder(one, []int{-1}) {
		t.Error("of one table")
	}
	for _, order := range ordersOf(firstNumbers(6)) {
		if !impl.IsOrder(six, order) {
			t.Errorf("IsOrder(%v) is false", order)
		}
		for n := range order {
			for _, bad := range []int{-1, 6, order[(n+1)%6], order[(n+5)%6]} {
				other := slices.Clone(order)
				other[n] = bad
				if impl.IsOrder(six, other) {
					t.Errorf("IsOrder(%v) is true", other)
				}
			}
		}
		if impl.IsOrder(six, order[:5]) || impl.IsOrder(six, order[1:]) || impl.IsOrder(six, append(slices.Clone(order), order[0])) || impl.IsOrder(evenStats(5, 1, 1), order) {
			t.Errorf("of %v", order)
		}
	}
}

func checkSomeRefused(t *testing.T, s impl.Stats, some []int) {
	t.Helper()
	if size, ok := impl.SizeOf(s, some); size != 0 || ok {
		t.Errorf("SizeOf(%v, %v) = %d, %v", s, some, size, ok)
	}
	if order, cost, ok := impl.BestOf(s, some); len(order) != 0 || cost != 0 || ok {
		t.Errorf("BestOf(%v, %v) = %v, %d, %v", s, some, order, cost, ok)
	}
}

func checkOrderRefused(t *testing.T, s impl.Stats, order []int) {
	t.Helper()
	if impl.IsOrder(s, order) {
		t.Errorf("IsOrder(%v, %v) is true", s, order)
	}
	if cost, ok := impl.CostOf(s, order); cost != 0 || ok {
		t.Errorf("CostOf(%v, %v) = %d, %v", s, order, cost, ok)
	}
}

// badSome are neither some of three tables nor an order of them.
func badSome() [][]int {
	isOrder := func(l []int) bool { return slices.Equal(l, []int{0, 2, 1}) }
	return append(slices.DeleteFunc(badLists(), isOrder), nil, []int{}, []int{3, 4, 5}, []int{2, 3}, []int{-1, 0, 1, 2}, []int{0, 1, 2, 0}, []int{0, 1, 2, 64}, []int{1, 1, 1}, []int{math.MinInt, 0, math.MaxInt})
}

func TestSomeTablesAreRefused(t *testing.T) {
	three := []impl.Stats{threeStats(), evenStats(3, 50, 1), evenStats(3, 1, 10)}
	for _, s := range three {
		for _, l := range badSome() {
			checkSomeRefused(t, s, l)
		}
		// These do not rise, but are orders.
		for _, l := range lists("021", "102", "120", "201", "210") {
			checkSomeRefused(t, s, l)
		}
	}
	for _, l := range [][]int{digits("1"), digits("01"), {-1}, nil, digits("00")} {
		checkSomeRefused(t, stats(sizes(7)), l)
	}
	for _, l := range [][]int{digits("6"), digits("0123456"), digits("0123455"), digits("012346"), {-1, 0, 1, 2, 3, 4, 5}, digits("543210"), digits("013245"), nil} {
		checkSomeRefused(t, sixStats(), l)
	}
}

func TestOrdersAreRefused(t *testing.T) {
	for _, s := range []impl.Stats{threeStats(), evenStats(3, 50, 1), evenStats(3, 1, 10)} {
		for _, l := range badSome() {
			checkOrderRefused(t, s, l)
		}
		// These are some of three tables, but not all.
		for _, l := range lists("0", "1", "2", "01", "10", "02", "20", "12", "21", "001", "010", "011", "110", "122", "220", "000", "222", "0120", "0122", "0123", "013", "123", "312", "321", "0011") {
			checkOrderRefused(t, s, l)
		}
	}
}

// Statistics that are not good are refused, whatever else is asked.
func TestStatsAreRefused(t *testing.T) {
	for _, s := range badStats() {
		if order, cost, ok := impl.BestOrder(s); len(order) != 0 || cost != 0 || ok {
			t.Errorf("BestOrder(%v) = %v, %d, %v", s, order, cost, ok)
		}
		for many := range 8 {
			l := digits("0123456"[:many])
			checkSomeRefused(t, s, l)
			checkOrderRefused(t, s, l)
		}
		checkSomeRefused(t, s, digits("1"))
		checkSomeRefused(t, s, digits("5"))
		checkOrderRefused(t, s, firstNumbers(len(s.Sizes)))
		checkOrderRefused(t, s, firstNumbers(len(s.Factors)))
	}
}

func bestAnswers(order []int, cost int, ok bool) []any {
	return []any{order, cost, ok}
}

func anyStats() []impl.Stats {
	return append(goodStats(), badStats()...)
}

func anyOrders() [][]int {
	return append(badSome(), digits("0"), digits("1"), digits("01"), digits("10"), digits("02"), digits("012"), digits("210"), digits("0123"), digits("3210"), digits("01234"), digits("135"), digits("012345"), digits("531420"), digits("0123456"))
}

// Promise 19: each function of chapter 12 answers at any arguments, the same each time, in new memory, and writes into none.
func TestOrdersAnswerAndWriteNothing(t *testing.T) {
	for i, s := range anyStats() {
		s := withGuards(s)
		checkCall(t, "GoodStats", func() []any { return []any{impl.GoodStats(s)} }, s)
		checkCall(t, "BestOrder", func() []any { return bestAnswers(impl.BestOrder(s)) }, s)
		for j, l := range anyOrders() {
			// Those that are refused for their statistics are many: of these a few lists each.
			if i >= len(goodStats()) && (i+j)%7 != 0 {
				continue
			}
			l := withGuards(l)
			checkCall(t, "SizeOf", func() []any { return answers(impl.SizeOf(s, l)) }, s, l)
			checkCall(t, "CostOf", func() []any { return answers(impl.CostOf(s, l)) }, s, l)
			checkCall(t, "BestOf", func() []any { return bestAnswers(impl.BestOf(s, l)) }, s, l)
			checkCall(t, "IsOrder", func() []any { return []any{impl.IsOrder(s, l)} }, s, l)
		}
	}
}

func orderAnswers(s impl.Stats, l []int) string {
	return fmt.Sprint(impl.GoodStats(s), answers(impl.SizeOf(s, l)), answers(impl.CostOf(s, l)), bestAnswers(impl.BestOrder(s)), bestAnswers(impl.BestOf(s, l)), impl.IsOrder(s, l))
}

// Statistics whose lists share their memory are handed in, and a list of them as some tables; what is told shares none, and is as if they had been apart.
func TestOrdersThatShareTheirLists(t *testing.T) {
	numbers := []int{1, 2, 3, 4, 5, 6}
	s := impl.Stats{Sizes: numbers[:5], Factors: [][]int{numbers[:0], numbers[:1], numbers[1:3], numbers[:3], numbers[2:]}}
	some := numbers[:4]
	apart := copyOfStats(s)
	checkCall(t, "BestOrder", func() []any { return bestAnswers(impl.BestOrder(s)) }, s)
	checkCall(t, "BestOf", func() []any { return bestAnswers(impl.BestOf(s, some)) }, s, some)
	checkCall(t, "SizeOf", func() []any { return answers(impl.SizeOf(s, some)) }, s, some)
	checkCall(t, "CostOf", func() []any { return answers(impl.CostOf(s, some)) }, s, some)
	if got, want := orderAnswers(s, some), orderAnswers(apart, slices.Clone(some)); got != want {
		t.Errorf("%v: %s, apart %s", s, got, want)
	}
	if !impl.GoodStats(s) {
		t.Errorf("GoodStats(%v) is false", s)
	}
}

// What lies behind a list's length does not count.
func TestOrdersDoNotReadBehindTheirLists(t *testing.T) {
	for _, s := range anyStats() {
		for _, l := range anyOrders()[len(badSome()):] {
			plain := orderAnswers(s, l)
			if got := orderAnswers(withGuards(s), withGuards(l)); got != plain {
				t.Errorf("%v, %v: %s, with guards behind the lists %s", s, l, plain, got)
			}
		}
	}
}

// The empty list and the nil list are the same value.
func TestEmptyFactorsAndNone(t *testing.T) {
	for _, s := range goodStats() {
		none, empty := copyOfStats(s), copyOfStats(s)
		none.Factors[0], empty.Factors[0] = nil, []int{}
		for _, l := range anyOrders() {
			if a, b := orderAnswers(none, l), orderAnswers(empty, l); a != b {
				t.Errorf("%v, %v: %s, with an empty list %s", s, l, a, b)
			}
		}
	}
	if a, b := orderAnswers(threeStats(), nil), orderAnswers(threeStats(), []int{}); a != b {
		t.Error(a, b)
	}
}

// An answer is the caller's own: what is written into it is not told by a later one.
func TestOrdersAreTheCallersOwn(t *testing.T) {
	s := sixStats()
	first, cost, _ := impl.BestOrder(s)
	kept := slices.Clone(first)
	for n := range first[:cap(first)] {
		first[:cap(first)][n] = -guard
	}
	if again, least, ok := impl.BestOrder(s); !ok || least != cost || !slices.Equal(again, kept) {
		t.Errorf("BestOrder(%v) = %v, %d, %v, not %v, %d", s, again, least, ok, kept, cost)
	}
}
