package tests

import (
	"fmt"
	"math"
	"slices"
	"strings"
	"testing"

	"loop.example/g00305/impl"
)

const (
	windowModulus = 1009
	windowMaps    = 60
	slidMaps      = 100
)

func mapOf(a, b int) impl.Map {
	return impl.Map{A: a, B: b}
}

// mapsOf tells the maps of a text: "2,1 3,0": 2 times x and 1, then 3 times x.
func mapsOf(text string) []impl.Map {
	var out []impl.Map
	for _, one := range strings.Fields(text) {
		n := numbersOf(one)
		out = append(out, mapOf(n[0], n[1]))
	}
	return out
}

// window tells the window of a text: "3,0 2,1 | 1,5": Front and Back as they stand, the eldest one being 2,1; the sums are told by hand.
func window(text string) impl.Window {
	front, back, _ := strings.Cut(text, "|")
	w := impl.Window{Front: mapsOf(front), Back: mapsOf(back)}
	w.Sums, w.Sum = sumsByHand(w.Front, w.Back)
	return w
}

func sameWindows(a, b impl.Window) bool {
	return slices.Equal(a.Front, b.Front) && slices.Equal(a.Sums, b.Sums) && slices.Equal(a.Back, b.Back) && a.Sum == b.Sum
}

func isNoWindow(w impl.Window) bool {
	return sameWindows(w, impl.Window{})
}

func copyOfWindow(w impl.Window) impl.Window {
	return impl.Window{Front: slices.Clone(w.Front), Sums: slices.Clone(w.Sums), Back: slices.Clone(w.Back), Sum: w.Sum}
}

func goodMapByHand(m impl.Map) bool {
	return min(m.A, m.B) > -1 && max(m.A, m.B) < windowModulus
}

// applyByHand is 0 or more for maps that are not good, too.
func applyByHand(m impl.Map, x int) int {
	return ((m.A*x+m.B)%windowModulus + windowModulus) % windowModulus
}

// composeByHand finds the one map that does what all do, the first one first, by what comes of 0 and of 1.
func composeByHand(l ...impl.Map) impl.Map {
	zero, one := 0, 1
	for _, m := range l {
		zero, one = applyByHand(m, zero), applyByHand(m, one)
	}
	return mapOf((one-zero+windowModulus)%windowModulus, zero)
}

func backwards(l []impl.Map) []impl.Map {
	out := slices.Clone(l)
	slices.Reverse(out)
	return out
}

func sumsByHand(front, back []impl.Map) ([]impl.Map, impl.Map) {
	var sums []impl.Map
	for n := range front {
		sums = append(sums, composeByHand(backwards(front[:n+1])...))
	}
	return sums, composeByHand(back...)
}

// windowByHand has the first so many of the maps, the eldest first, in Front.
func windowByHand(l []impl.Map, inFront int) impl.Window {
	w := impl.Window{Front: backwards(l[:inFront]), Back: slices.Clone(l[inFront:])}
	w.Sums, w.Sum = sumsByHand(w.Front, w.Back)
	return w
}

func itemsByHand(w impl.Window) []impl.Map {
	return append(backwards(w.Front), w.Back...)
}

// goodWindowByHand: there is one good window alone of these maps, with so many in Front.
func goodWindowByHand(w impl.Window) bool {
	items := itemsByHand(w)
	for _, m := range items {
		if !goodMapByHand(m) {
			return false
		}
	}
	return len(items) <= windowMaps && len(w.Sums) == len(w.Front) && sameWindows(w, windowByHand(items, len(w.Front)))
}

func pushByHand(w impl.Window, m impl.Map) (impl.Window, bool) {
	items := itemsByHand(w)
	if !goodMapByHand(m) || len(items) == windowMaps {
		return impl.Window{}, false
	}
	return windowByHand(append(items, m), len(w.Front)), true
}

func popByHand(w impl.Window) (impl.Window, impl.Map, int, bool) {
	items, inFront, over := itemsByHand(w), len(w.Front), 0
	if len(items) == 0 {
		return impl.Window{}, impl.Map{}, 0, false
	}
	if inFront == 0 {
		inFront, over = len(items), len(items)
	}
	return windowByHand(items[1:], inFront-1), items[0], over, true
}

func slideByHand(l []impl.Map, wide int) []impl.Map {
	var out []impl.Map
	for n := range l {
		out = append(out, composeByHand(l[max(0, n+1-wide):n+1]...))
	}
	return out
}

func fourAnswers[A, B, C any](a A, b B, c C, ok bool) []any {
	return []any{a, b, c, ok}
}

// residue is any number of a map, an edge now and then.
func (d *dice) residue() int {
	return d.oneOf(0, 1, 2, 504, 505, windowModulus-2, windowModulus-1, d.below(windowModulus), d.below(windowModulus), d.below(windowModulus), d.below(windowModulus))
}

func (d *dice) anyMap() impl.Map {
	return mapOf(d.residue(), d.residue())
}

func (d *dice) maps(many int) []impl.Map {
	var out []impl.Map
	alike := d.below(5) == 0
	for n := range many {
		if alike && n > 0 {
			out = append(out, out[0])
		} else {
			out = append(out, d.anyMap())
		}
	}
	return out
}

// window has some in Front and some in Back, or all in one of them.
func (d *dice) window() impl.Window {
	many := d.oneOf(0, 1, 2, 3, 4, 5, 10, 30, windowMaps-1, windowMaps)
	return windowByHand(d.maps(many), d.oneOf(0, many, d.below(many+1), d.below(many+1)))
}

// unlikeMaps has no two maps alike.
func unlikeMaps(many int) []impl.Map {
	var out []impl.Map
	for n := range many {
		out = append(out, mapOf(n+2, (3*n*n+7)%windowModulus))
	}
	return out
}

func edgeMaps() []impl.Map {
	var out []impl.Map
	for _, a := range []int{0, 1, 2, 505, windowModulus - 2, windowModulus - 1} {
		for _, b := range []int{0, 1, 2, 504, windowModulus - 2, windowModulus - 1} {
			out = append(out, mapOf(a, b))
		}
	}
	return out
}

func badResidues() []int {
	return []int{-1, windowModulus, -windowModulus, windowModulus + 1, -2, 2 * windowModulus, 1 << 31, 1 << 32, 1 << 62, math.MinInt, math.MaxInt}
}

func badMaps() []impl.Map {
	var out []impl.Map
	for _, n := range badResidues() {
		out = append(out, mapOf(n, 0), mapOf(0, n), mapOf(1, n), mapOf(n, 1), mapOf(n, n), mapOf(n, windowModulus-1), mapOf(windowModulus-1, n), mapOf(n, -n))
	}
	return out
}

func goodWindows() []impl.Window {
	out := []impl.Window{
		window("|"), window("2,1 |"), window("| 2,1"), window("3,0 2,1 |"), window("| 2,1 3,0"), window("2,1 | 3,0"), window("3,0 2,1 | 1,5"), window("2,1 | 3,0 1,5"),
		window("0,0 |"), window("| 0,0"), window("1,0 |"), window("| 1,0"), window("1,0 | 1,0"), window("0,1008 | 1008,0"), window("1008,1008 | 1008,1008"), window("| 1008,1008 1008,1008"), window("1008,1008 1008,1008 |"),
		window("5,5 5,5 | 5,5 5,5"), window("0,3 2,1 | 1,5"), window("2,1 0,3 | 1,5"), window("1,5 | 0,3 2,1"), window("1,5 | 2,1 0,3"),
		window("7,8 5,6 3,4 1,2 | 9,10 11,12 13,14"),
	}
	for _, many := range []int{2, 5, windowMaps - 1, windowMaps} {
		for _, inFront := range []int{0, 1, many / 2, many - 1, many} {
			out = append(out, windowByHand(unlikeMaps(many), inFront), windowByHand(slices.Repeat([]impl.Map{mapOf(1008, 1008)}, many), inFront))
		}
	}
	return out
}

// changedWindows are all bad, each by one number or one list of a good one.
func changedWindows(w impl.Window) []impl.Window {
	var out []impl.Window
	change := func(by func(*impl.Window)) {
		copied := copyOfWindow(w)
		by(&copied)
		if !goodWindowByHand(copied) {
			out = append(out, copied)
		}
	}
	far := []int{-1, 1, windowModulus, -windowModulus, 1 << 62, math.MinInt}
	lists := []func(*impl.Window) *[]impl.Map{
		func(w *impl.Window) *[]impl.Map { return &w.Front }, func(w *impl.Window) *[]impl.Map { return &w.Sums }, func(w *impl.Window) *[]impl.Map { return &w.Back },
	}
	for _, by := range far {
		change(func(w *impl.Window) { w.Sum.A += by })
		change(func(w *impl.Window) { w.Sum.B += by })
	}
	for _, list := range lists {
		for n := range *list(&w) {
			by := far[n%len(far)]
			change(func(w *impl.Window) { (*list(w))[n].A += by })
			change(func(w *impl.Window) { (*list(w))[n].B += by })
			change(func(w *impl.Window) { *list(w) = slices.Delete(*list(w), n, n+1) })
			change(func(w *impl.Window) { *list(w) = (*list(w))[:n] })
			change(func(w *impl.Window) { (*list(w))[n], (*list(w))[0] = (*list(w))[0], (*list(w))[n] })
		}
		change(func(w *impl.Window) { *list(w) = append(*list(w), mapOf(1, 0)) })
		change(func(w *impl.Window) { *list(w) = append([]impl.Map{mapOf(1, 0)}, *list(w)...) })
		change(func(w *impl.Window) { *list(w) = append(*list(w), mapOf(5, 5)) })
		change(func(w *impl.Window) { *list(w) = backwards(*list(w)) })
		change(func(w *impl.Window) { *list(w) = make([]impl.Map, 100) })
	}
	change(func(w *impl.Window) { w.Front, w.Back = w.Back, w.Front })
	change(func(w *impl.Window) { w.Sum = mapOf(1, 0) })
	change(func(w *impl.Window) { w.Sum = impl.Map{} })
	change(func(w *impl.Window) { w.Sum = composeByHand(backwards(w.Back)...) })
	change(func(w *impl.Window) { w.Sum = composeByHand(itemsByHand(*w)...) })
	change(func(w *impl.Window) { w.Sums = sumsTheOtherWay(w.Front) })
	return out
}

// sumsTheOtherWay composes the younger ones first.
func sumsTheOtherWay(front []impl.Map) []impl.Map {
	var out []impl.Map
	for n := range front {
		out = append(out, composeByHand(front[:n+1]...))
	}
	return out
}

func badWindows() []impl.Window {
	maps := func(text string) []impl.Map { return mapsOf(text) }
	still := mapOf(1, 0)
	out := []impl.Window{
		// A Sum that isn't the map that does nothing where Back is empty.
		{}, {Sum: mapOf(0, 1)}, {Sum: mapOf(1, 1)}, {Sum: mapOf(2, 0)}, {Sum: mapOf(1010, 0)}, {Sum: mapOf(1, 1009)}, {Sum: mapOf(-1008, 0)}, {Front: maps("2,1"), Sums: maps("2,1")}, {Front: maps("2,1"), Sums: maps("2,1"), Sum: mapOf(2, 1)},
		// A Sum that isn't that of all of Back.
		{Back: maps("2,1"), Sum: still}, {Back: maps("2,1")}, {Back: maps("2,1"), Sum: mapOf(2, 2)}, {Back: maps("2,1"), Sum: mapOf(3, 1)}, {Back: maps("2,1 3,0"), Sum: mapOf(6, 1)}, {Back: maps("2,1 3,0"), Sum: mapOf(2, 1)}, {Back: maps("2,1 3,0"), Sum: mapOf(3, 0)},
		{Back: maps("2,1"), Sum: mapOf(1011, 1)}, {Back: maps("2,1"), Sum: mapOf(2, -1008)}, {Front: maps("5,5"), Sums: maps("5,5"), Back: maps("2,1"), Sum: mapOf(10, 11)}, {Back: maps("1008,1008 1008,1008"), Sum: mapOf(1, 1008)},
		// Fewer or more Sums than Front.
		{Front: maps("2,1"), Sum: still}, {Sums: maps("2,1"), Sum: still}, {Sums: maps("1,0"), Sum: still}, {Front: maps("2,1 3,0"), Sums: maps("2,1"), Sum: still}, {Front: maps("2,1 3,0"), Sums: maps("6,1"), Sum: still}, {Front: maps("2,1"), Sums: maps("2,1 1,0"), Sum: still},
		{Front: maps("2,1"), Sums: maps("2,1 2,1"), Sum: still}, {Front: maps("2,1"), Sums: maps("1,0 2,1"), Sum: still}, {Front: maps("2,1"), Sums: make([]impl.Map, 1000), Sum: still},
		// A sum that isn't of the maps of Front from it back to the first, or is so the other way round.
		{Front: maps("2,1"), Sums: maps("1,0"), Sum: still}, {Front: maps("2,1 3,0"), Sums: maps("2,1 6,3"), Sum: still}, {Front: maps("2,1 3,0"), Sums: maps("2,1 3,0"), Sum: still}, {Front: maps("2,1 3,0"), Sums: maps("6,1 3,0"), Sum: still}, {Front: maps("2,1 3,0"), Sums: maps("6,3 3,0"), Sum: still},
		{Front: maps("2,1 3,0"), Sums: maps("6,1 2,1"), Sum: still}, {Front: maps("2,1 3,0"), Sums: maps("2,1 6,2"), Sum: still}, {Front: maps("2,1 3,0"), Sums: maps("2,1 7,1"), Sum: still}, {Front: maps("2,1 3,0"), Sums: maps("3,1 6,1"), Sum: still}, {Front: maps("2,1 3,0"), Sums: maps("2,1010 6,1"), Sum: still},
		{Front: maps("2,1 3,0"), Sums: maps("2,1 1015,1"), Sum: still}, {Front: maps("2,1"), Sums: maps("2,1"), Back: maps("2,1"), Sum: still}, {Front: maps("2,1 3,0 1,5"), Sums: maps("2,1 6,1 3,5"), Sum: still},
	}
	for _, m := range badMaps() {
		plain := composeByHand(mapOf(0, 0))
		out = append(out,
			impl.Window{Front: []impl.Map{m}, Sums: []impl.Map{m}, Sum: still}, impl.Window{Back: []impl.Map{m}, Sum: m}, impl.Window{Sum: m},
			impl.Window{Front: []impl.Map{m}, Sums: []impl.Map{plain}, Sum: still}, impl.Window{Back: []impl.Map{m}, Sum: plain}, impl.Window{Back: []impl.Map{m}, Sum: still},
			impl.Window{Front: []impl.Map{m, mapOf(0, 0)}, Sums: []impl.Map{m, composeByHand(m)}, Sum: still}, impl.Window{Front: []impl.Map{mapOf(0, 3), m}, Sums: []impl.Map{mapOf(0, 3), mapOf(0, 3)}, Sum: still},
			impl.Window{Back: []impl.Map{m, mapOf(0, 3)}, Sum: mapOf(0, 3)}, impl.Window{Back: []impl.Map{mapOf(0, 3), m}, Sum: composeByHand(mapOf(0, 3), m)}, impl.Window{Front: []impl.Map{m}, Sums: []impl.Map{composeByHand(m)}, Sum: still}, impl.Window{Back: []impl.Map{m}, Sum: composeByHand(m)},
		)
	}
	for _, many := range []int{windowMaps + 1, windowMaps + 2, 2 * windowMaps, 200} {
		for _, inFront := range []int{0, 1, 30, windowMaps, many - 1, many} {
			out = append(out, windowByHand(unlikeResidues(many), inFront), windowByHand(slices.Repeat([]impl.Map{still}, many), inFront))
		}
	}
	for n, w := range goodWindows() {
		// The long ones are changed in many places each.
		if len(w.Front)+len(w.Back) < 10 || n%7 == 0 {
			out = append(out, changedWindows(w)...)
		}
	}
	return out
}

// unlikeResidues are good maps, however many.
func unlikeResidues(many int) []impl.Map {
	var out []impl.Map
	for n := range many {
		out = append(out, mapOf(1+n%1008, (n*n)%1009))
	}
	return out
}

// filledBySteps are windows that pushing and popping lead to.
func filledBySteps(thrown *dice) impl.Window {
	w, pops := window("|"), 1+thrown.below(6)
	for range thrown.oneOf(1, 5, 20, 100) {
		if thrown.below(10) < pops {
			if next, _, _, ok := popByHand(w); ok {
				w = next
			}
		} else if next, ok := pushByHand(w, thrown.anyMap()); ok {
			w = next
		}
	}
	return w
}

func thrownWindows(many int, thrown dice) []impl.Window {
	out := goodWindows()
	for n := range many {
		if n%2 == 0 {
			out = append(out, thrown.window())
		} else {
			out = append(out, filledBySteps(&thrown))
		}
	}
	return out
}

func TestGoodMapAsTold(t *testing.T) {
	if impl.Modulus != windowModulus || impl.MaxWindow != windowMaps {
		t.Error(impl.Modulus, impl.MaxWindow)
	}
	for a := -3; a < windowModulus+4; a++ {
		for _, b := range []int{-2, -1, 0, 1, 500, windowModulus - 1, windowModulus, windowModulus + 1} {
			want := a >= 0 && a <= 1008 && b >= 0 && b <= 1008
			if impl.GoodMap(mapOf(a, b)) != want || impl.GoodMap(mapOf(b, a)) != want {
				t.Fatalf("GoodMap of %d and %d is not %v", a, b, want)
			}
		}
	}
	for _, m := range badMaps() {
		if impl.GoodMap(m) || goodMapByHand(m) {
			t.Errorf("GoodMap(%v) is true", m)
		}
	}
	if !impl.GoodMap(impl.Map{}) {
		t.Error("the map to 0 is not good")
	}
}

func TestApplyMapAsTold(t *testing.T) {
	for _, one := range []struct{ a, b, x, want int }{
		{1, 0, 0, 0}, {1, 0, 1, 1}, {1, 0, 1008, 1008}, {0, 0, 0, 0}, {0, 0, 1008, 0}, {0, 1008, 0, 1008}, {0, 1008, 1008, 1008}, {0, 7, 5, 7},
		{2, 1, 10, 21}, {2, 1, 504, 0}, {2, 1, 1008, 1008}, {1, 1, 1008, 0}, {1, 5, 1007, 3}, {3, 0, 337, 2}, {3, 0, 336, 1008}, {1008, 0, 1, 1008}, {1008, 0, 1008, 1}, {1008, 1008, 0, 1008}, {1008, 1008, 1, 1007}, {1008, 1008, 1008, 0}, {6, 8, 10, 68}, {505, 504, 1, 0}, {505, 504, 2, 505},
	} {
		if got, ok := impl.ApplyMap(mapOf(one.a, one.b), one.x); !ok || got != one.want {
			t.Errorf("ApplyMap of %v = %d, %v", one, got, ok)
		}
	}
	thrown := dice{1700}
	for _, m := range append(edgeMaps(), thrown.maps(100)...) {
		// By adding alone: each time it is A more.
		want := m.B
		for x := range windowModulus {
			if got, ok := impl.ApplyMap(m, x); !ok || got != want || got != applyByHand(m, x) {
				t.Fatalf("ApplyMap(%v, %d) = %d, %v, not %d", m, x, got, ok, want)
			}
			want += m.A
			if want >= windowModulus {
				want -= windowModulus
			}
		}
	}
}

func TestApplyMapIsRefused(t *testing.T) {
	refused := func(m impl.Map, x int) {
		t.Helper()
		if got, ok := impl.ApplyMap(m, x); ok || got != 0 {
			t.Errorf("ApplyMap(%v, %d) = %d, %v", m, x, got, ok)
		}
	}
	for _, x := range badResidues() {
		for _, m := range edgeMaps() {
			refused(m, x)
		}
	}
	for _, m := range badMaps() {
		for _, x := range append(badResidues(), 0, 1, 2, 1008) {
			refused(m, x)
		}
	}
}

func TestComposeMapsAsTold(t *testing.T) {
	for _, one := range []struct{ m, n, want string }{
		{"2,1", "3,0", "6,3"}, {"3,0", "2,1", "6,1"}, {"2,1", "1,5", "2,6"}, {"1,5", "2,1", "2,11"}, {"1,0", "1,0", "1,0"}, {"0,0", "0,0", "0,0"}, {"0,7", "2,1", "0,15"}, {"2,1", "0,7", "0,7"}, {"0,0", "5,6", "0,6"}, {"5,6", "0,0", "0,0"},
		{"1008,1008", "1008,1008", "1,0"}, {"1008,0", "1008,0", "1,0"}, {"0,1008", "0,1008", "0,1008"}, {"0,1008", "1008,0", "0,1"}, {"1008,0", "0,1008", "0,1008"}, {"2,0", "505,0", "1,0"}, {"2,1", "505,504", "1,0"}, {"1,1008", "1,1", "1,0"}, {"1,1008", "1,2", "1,1"}, {"100,0", "100,0", "919,0"}, {"1,500", "2,10", "2,1"},
	} {
		if got, ok := impl.ComposeMaps(mapsOf(one.m)[0], mapsOf(one.n)[0]); !ok || got != mapsOf(one.want)[0] {
			t.Errorf("ComposeMaps of %v = %v, %v", one, got, ok)
		}
	}
}

// The composition does what m does first and n then, of each x.
func TestComposeMapsAgainstApplyMap(t *testing.T) {
	check := func(m, n impl.Map, xs []int) {
		t.Helper()
		both, ok := impl.ComposeMaps(m, n)
		if !ok || !impl.GoodMap(both) || both != composeByHand(m, n) {
			t.Fatalf("ComposeMaps(%v, %v) = %v, %v", m, n, both, ok)
		}
		for _, x := range xs {
			first, _ := impl.ApplyMap(m, x)
			then, _ := impl.ApplyMap(n, first)
			if got, ok := impl.ApplyMap(both, x); !ok || got != then {
				t.Fatalf("ApplyMap(%v, %d) = %d, %v; by %v it is %d, then by %v %d", both, x, got, ok, m, first, n, then)
			}
		}
	}
	for _, m := range edgeMaps() {
		for _, n := range edgeMaps() {
			check(m, n, []int{0, 1, 2, 500, 1007, 1008})
		}
	}
	thrown := dice{1701}
	var all []int
	for x := range windowModulus {
		all = append(all, x)
	}
	for range 300 {
		check(thrown.anyMap(), thrown.anyMap(), all)
	}
}

// The map that does nothing changes nothing, ahead of another one and behind it; and of three it is the same whichever two are composed first.
func TestComposeMapsIsAMonoid(t *testing.T) {
	thrown, unlike := dice{1702}, 0
	some := append(edgeMaps(), thrown.maps(60)...)
	compose := func(m, n impl.Map) impl.Map {
		t.Helper()
		both, ok := impl.ComposeMaps(m, n)
		if !ok {
			t.Fatalf("ComposeMaps(%v, %v) is false", m, n)
		}
		return both
	}
	for _, m := range some {
		if ahead, behind := compose(mapOf(1, 0), m), compose(m, mapOf(1, 0)); ahead != m || behind != m {
			t.Errorf("%v with nothing ahead is %v, with nothing behind %v", m, ahead, behind)
		}
		for _, n := range some {
			k := thrown.anyMap()
			if a, b := compose(compose(m, n), k), compose(m, compose(n, k)); a != b {
				t.Fatalf("%v, %v and %v: %v and %v", m, n, k, a, b)
			}
			if compose(m, n) != compose(n, m) {
				unlike++
			}
		}
	}
	if unlike < 1000 {
		t.Error(unlike)
	}
}

func TestComposeMapsIsRefused(t *testing.T) {
	for _, bad := range badMaps() {
		for _, m := range append(badMaps()[:8], mapOf(1, 0), mapOf(0, 0), mapOf(2, 1), mapOf(1008, 1008)) {
			if got, ok := impl.ComposeMaps(bad, m); ok || got != (impl.Map{}) {
				t.Errorf("ComposeMaps(%v, %v) = %v, %v", bad, m, got, ok)
			}
			if got, ok := impl.ComposeMaps(m, bad); ok || got != (impl.Map{}) {
				t.Errorf("ComposeMaps(%v, %v) = %v, %v", m, bad, got, ok)
			}
		}
	}
}

func TestNewWindowAsTold(t *testing.T) {
	w := impl.NewWindow()
	if !sameWindows(w, impl.Window{Sum: mapOf(1, 0)}) || !impl.GoodWindow(w) {
		t.Error(w, impl.GoodWindow(w))
	}
	if items, ok := impl.ItemsIn(w); !ok || len(items) != 0 {
		t.Error(items, ok)
	}
	if sum, ok := impl.WindowSum(w); !ok || sum != mapOf(1, 0) {
		t.Error(sum, ok)
	}
	if pushed, ok := impl.PushMap(w, mapOf(2, 1)); !ok || !sameWindows(pushed, impl.Window{Back: mapsOf("2,1"), Sum: mapOf(2, 1)}) {
		t.Error(pushed, ok)
	}
	if popped, m, over, ok := impl.PopMap(w); ok || over != 0 || m != (impl.Map{}) || !isNoWindow(popped) {
		t.Error(popped, m, over, ok)
	}
}

func TestGoodWindowAsTold(t *testing.T) {
	still := mapOf(1, 0)
	for _, w := range []impl.Window{
		{Sum: still}, {Back: mapsOf("2,1"), Sum: mapOf(2, 1)}, {Front: mapsOf("2,1"), Sums: mapsOf("2,1"), Sum: still}, {Back: mapsOf("2,1 3,0 1,5"), Sum: mapOf(6, 8)}, {Front: mapsOf("1,5 3,0"), Sums: mapsOf("1,5 3,5"), Sum: still},
		{Front: mapsOf("1,5 3,0 2,1"), Sums: mapsOf("1,5 3,5 6,8"), Sum: still}, {Front: mapsOf("3,0 2,1"), Sums: mapsOf("3,0 6,3"), Back: mapsOf("1,5"), Sum: mapOf(1, 5)}, {Front: mapsOf("1,0"), Sums: mapsOf("1,0"), Back: mapsOf("1,0"), Sum: still},
		{Front: mapsOf("1008,1008 1008,1008"), Sums: mapsOf("1008,1008 1,0"), Back: mapsOf("0,1008 1008,0"), Sum: mapOf(0, 1)},
	} {
		if !impl.GoodWindow(w) || !goodWindowByHand(w) {
			t.Errorf("GoodWindow(%v) = %v, by hand %v", w, impl.GoodWindow(w), goodWindowByHand(w))
		}
	}
	for _, w := range thrownWindows(2000, dice{1703}) {
		if !impl.GoodWindow(w) {
			t.Errorf("GoodWindow(%v) is false", w)
		}
	}
	for _, w := range badWindows() {
		if impl.GoodWindow(w) || goodWindowByHand(w) {
			t.Errorf("GoodWindow(%v) = %v, by hand %v", w, impl.GoodWindow(w), goodWindowByHand(w))
		}
	}
}

// All lists of up to two of three maps in each of Front, Sums and Back, and each of them as Sum.
func TestGoodWindowOfSmallLists(t *testing.T) {
	some := mapsOf("1,0 2,1 0,3")
	var lists [][]impl.Map
	for _, l := range listsUpTo(2, []int{0, 1, 2}) {
		var maps []impl.Map
		for _, n := range l {
			maps = append(maps, some[n])
		}
		lists = append(lists, maps)
	}
	good := 0
	for _, front := range lists {
		for _, sums := range lists {
			for _, back := range lists {
				for _, sum := range append(some, mapOf(4, 3)) {
					w := impl.Window{Front: front, Sums: sums, Back: back, Sum: sum}
					want := goodWindowByHand(w)
					if impl.GoodWindow(w) != want {
						t.Fatalf("GoodWindow(%v) is not %v", w, want)
					}
					if want {
						good++
					}
				}
			}
		}
	}
	if good < 50 {
		t.Error(good)
	}
}

func TestGoodWindowOfThrownChanges(t *testing.T) {
	thrown, bad := dice{1704}, 0
	for range 150 {
		for _, w := range changedWindows(thrown.window()) {
			bad++
			if impl.GoodWindow(w) {
				t.Fatalf("GoodWindow(%v) is true", w)
			}
		}
	}
	if bad < 10000 {
		t.Error(bad)
	}
}

func TestPushMapAsTold(t *testing.T) {
	for _, one := range []struct{ from, m, want string }{
		{"|", "2,1", "| 2,1"},
		{"|", "0,0", "| 0,0"},
		{"|", "1,0", "| 1,0"},
		{"|", "1008,1008", "| 1008,1008"},
		{"| 2,1", "3,0", "| 2,1 3,0"},
		{"| 2,1", "2,1", "| 2,1 2,1"},
		{"2,1 |", "3,0", "2,1 | 3,0"},
		{"3,0 2,1 |", "1,5", "3,0 2,1 | 1,5"},
		{"3,0 2,1 | 1,5", "7,8", "3,0 2,1 | 1,5 7,8"},
		{"| 2,1 3,0 1,5", "0,9", "| 2,1 3,0 1,5 0,9"},
	} {
		if got, ok := impl.PushMap(window(one.from), mapsOf(one.m)[0]); !ok || !sameWindows(got, window(one.want)) {
			t.Errorf("PushMap of %v = %v, %v", one, got, ok)
		}
	}
	got, ok := impl.PushMap(impl.Window{Front: mapsOf("3,0 2,1"), Sums: mapsOf("3,0 6,3"), Back: mapsOf("2,1"), Sum: mapOf(2, 1)}, mapOf(3, 0))
	if want := (impl.Window{Front: mapsOf("3,0 2,1"), Sums: mapsOf("3,0 6,3"), Back: mapsOf("2,1 3,0"), Sum: mapOf(6, 3)}); !ok || !sameWindows(got, want) {
		t.Error(got, ok)
	}
}

func TestPushMapByHand(t *testing.T) {
	thrown, pushed, full := dice{1705}, 0, 0
	for _, w := range thrownWindows(3000, dice{1706}) {
		for _, m := range []impl.Map{thrown.anyMap(), mapOf(1, 0), mapOf(0, 0), mapOf(1008, 1008)} {
			got, ok := impl.PushMap(w, m)
			want, fits := pushByHand(w, m)
			if ok != fits || !sameWindows(got, want) || ok != impl.GoodWindow(got) {
				t.Fatalf("PushMap(%v, %v) = %v, %v", w, m, got, ok)
			}
			if ok {
				pushed++
			} else {
				full++
			}
		}
	}
	if min(pushed, full) < 300 {
		t.Error(pushed, full)
	}
}

// A window has room for MaxWindow maps, wherever they are.
func TestPushMapHasNoRoomForOneMore(t *testing.T) {
	for inFront := range windowMaps {
		w := windowByHand(unlikeMaps(windowMaps-1), inFront)
		full, ok := impl.PushMap(w, mapOf(5, 6))
		if !ok || !sameWindows(full, windowByHand(append(unlikeMaps(windowMaps-1), mapOf(5, 6)), inFront)) {
			t.Errorf("PushMap of 59 maps, %d of them in Front, is %v, %v", inFront, full, ok)
		}
		if got, ok := impl.PushMap(full, mapOf(5, 6)); ok || !isNoWindow(got) {
			t.Errorf("PushMap of 60 maps, %d of them in Front, is %v, %v", inFront, got, ok)
		}
		popped, _, _, ok := impl.PopMap(full)
		if again, done := impl.PushMap(popped, mapOf(1, 1)); !ok || !done || len(again.Front)+len(again.Back) != windowMaps {
			t.Errorf("PopMap, and PushMap then, of 60 maps, %d of them in Front, is %v, %v, %v", inFront, again, ok, done)
		}
	}
	if got, ok := impl.PushMap(windowByHand(unlikeMaps(windowMaps), windowMaps), mapOf(1, 0)); ok || !isNoWindow(got) {
		t.Error(got, ok)
	}
}

func TestPopMapAsTold(t *testing.T) {
	for _, one := range []struct {
		from, m string
		over    int
		want    string
	}{
		{"2,1 |", "2,1", 0, "|"},
		{"| 2,1", "2,1", 1, "|"},
		{"| 2,1 3,0", "2,1", 2, "3,0 |"},
		{"| 2,1 3,0 1,5", "2,1", 3, "1,5 3,0 |"},
		{"1,5 3,0 |", "3,0", 0, "1,5 |"},
		{"3,0 2,1 | 1,5", "2,1", 0, "3,0 | 1,5"},
		{"3,0 | 1,5", "3,0", 0, "| 1,5"},
		{"3,0 | 1,5 7,8 9,9", "3,0", 0, "| 1,5 7,8 9,9"},
		{"| 1,5 7,8 9,9", "1,5", 3, "9,9 7,8 |"},
		{"| 1,0", "1,0", 1, "|"},
		{"| 0,0 0,0", "0,0", 2, "0,0 |"},
		{"1008,1008 |", "1008,1008", 0, "|"},
	} {
		got, m, over, ok := impl.PopMap(window(one.from))
		if !ok || m != mapsOf(one.m)[0] || over != one.over || !sameWindows(got, window(one.want)) {
			t.Errorf("PopMap of %v = %v, %v, %d, %v", one, got, m, over, ok)
		}
	}
	got, m, over, ok := impl.PopMap(impl.Window{Back: mapsOf("2,1 3,0 1,5"), Sum: mapOf(6, 8)})
	if want := (impl.Window{Front: mapsOf("1,5 3,0"), Sums: mapsOf("1,5 3,5"), Sum: mapOf(1, 0)}); !ok || m != mapOf(2, 1) || over != 3 || !sameWindows(got, want) {
		t.Error(got, m, over, ok)
	}
}

func TestPopMapByHand(t *testing.T) {
	over, not, none := 0, 0, 0
	for _, w := range thrownWindows(4000, dice{1707}) {
		got, m, went, ok := impl.PopMap(w)
		want, eldest, goes, some := popByHand(w)
		if ok != some || m != eldest || went != goes || !sameWindows(got, want) || ok != impl.GoodWindow(got) {
			t.Fatalf("PopMap(%v) = %v, %v, %d, %v", w, got, m, went, ok)
		}
		switch {
		case !ok:
			none++
		case went > 0:
			over++
			if len(w.Front) > 0 || went != len(w.Back) {
				t.Fatalf("of %v %d went over", w, went)
			}
		default:
			not++
		}
	}
	if min(over, not, none) < 100 {
		t.Error(over, not, none)
	}
}

func TestWindowSumAndItemsInAsTold(t *testing.T) {
	for _, one := range []struct{ from, sum, items string }{
		{"|", "1,0", ""},
		{"2,1 |", "2,1", "2,1"},
		{"| 2,1", "2,1", "2,1"},
		{"3,0 2,1 |", "6,3", "2,1 3,0"},
		{"| 2,1 3,0", "6,3", "2,1 3,0"},
		{"2,1 | 3,0", "6,3", "2,1 3,0"},
		{"3,0 | 2,1", "6,1", "3,0 2,1"},
		{"3,0 2,1 | 1,5", "6,8", "2,1 3,0 1,5"},
		{"2,1 | 3,0 1,5", "6,8", "2,1 3,0 1,5"},
		{"| 2,1 3,0 1,5", "6,8", "2,1 3,0 1,5"},
		{"1,5 3,0 2,1 |", "6,8", "2,1 3,0 1,5"},
		{"2,1 3,0 1,5 |", "6,31", "1,5 3,0 2,1"},
		{"1008,1008 | 1008,1008", "1,0", "1008,1008 1008,1008"},
		{"0,7 | 2,1", "0,15", "0,7 2,1"},
		{"5,5 5,5 | 5,5", "125,155", "5,5 5,5 5,5"},
	} {
		w := window(one.from)
		if sum, ok := impl.WindowSum(w); !ok || sum != mapsOf(one.sum)[0] {
			t.Errorf("WindowSum of %v = %v, %v", one, sum, ok)
		}
		if items, ok := impl.ItemsIn(w); !ok || !slices.Equal(items, mapsOf(one.items)) {
			t.Errorf("ItemsIn of %v = %v, %v", one, items, ok)
		}
	}
}

// composedItems takes ComposeMaps itself, from the eldest one on.
func composedItems(t *testing.T, l []impl.Map) impl.Map {
	t.Helper()
	all := mapOf(1, 0)
	for _, m := range l {
		next, ok := impl.ComposeMaps(all, m)
		if !ok {
			t.Fatalf("ComposeMaps(%v, %v) is false", all, m)
		}
		all = next
	}
	return all
}

func TestWindowSumAgainstItemsIn(t *testing.T) {
	for _, w := range thrownWindows(3000, dice{1708}) {
		items, ok := impl.ItemsIn(w)
		if !ok || !slices.Equal(items, itemsByHand(w)) {
			t.Fatalf("ItemsIn(%v) = %v, %v", w, items, ok)
		}
		if sum, ok := impl.WindowSum(w); !ok || sum != composedItems(t, items) || sum != composeByHand(items...) {
			t.Fatalf("WindowSum(%v) = %v, %v", w, sum, ok)
		}
	}
}

// Wherever it is parted into Front and Back, the same is told of the same maps.
func TestWhereAWindowIsPartedIsNotSeen(t *testing.T) {
	thrown := dice{1709}
	for _, many := range []int{1, 2, 3, 7, windowMaps} {
		l := thrown.maps(many)
		for inFront := range many + 1 {
			w := windowByHand(l, inFront)
			items, _ := impl.ItemsIn(w)
			sum, _ := impl.WindowSum(w)
			_, m, over, _ := impl.PopMap(w)
			if !slices.Equal(items, l) || sum != composeByHand(l...) || m != l[0] || (over > 0) != (inFront == 0) {
				t.Fatalf("%v: %v, %v, %v, %d", w, items, sum, m, over)
			}
		}
	}
}

// line is a plain list of maps, the eldest first, beside a window of the same.
type line struct {
	w            impl.Window
	maps         []impl.Map
	wentOver     int
	pushed       int
	inFront      int
	poppedByOver int
}

func (l *line) push(t *testing.T, m impl.Map) {
	t.Helper()
	next, ok := impl.PushMap(l.w, m)
	if !ok && len(l.maps) < windowMaps || ok && len(l.maps) == windowMaps {
		t.Fatalf("PushMap(%v, %v) = %v, %v", l.w, m, next, ok)
	}
	if ok {
		l.w, l.maps = next, append(l.maps, m)
		l.pushed++
	}
}

func (l *line) pop(t *testing.T) {
	t.Helper()
	ahead, good := impl.ItemsIn(l.w)
	next, m, over, ok := impl.PopMap(l.w)
	if !good || ok != (len(l.maps) > 0) {
		t.Fatalf("PopMap(%v) = %v, %v, %d, %v", l.w, next, m, over, ok)
	}
	if !ok {
		return
	}
	want := 0
	if len(l.w.Front) == 0 {
		want = len(l.w.Back)
	}
	if m != l.maps[0] || m != ahead[0] || over != want {
		t.Fatalf("PopMap(%v) = %v, %v, %d, and %v is the eldest one", l.w, next, m, over, l.maps[0])
	}
	l.w, l.maps = next, l.maps[1:]
	l.wentOver += over
}

func (l *line) check(t *testing.T) {
	t.Helper()
	items, ok := impl.ItemsIn(l.w)
	if !ok || !impl.GoodWindow(l.w) || !slices.Equal(items, l.maps) {
		t.Fatalf("ItemsIn(%v) = %v, %v, not %v", l.w, items, ok, l.maps)
	}
	if sum, ok := impl.WindowSum(l.w); !ok || sum != composedItems(t, l.maps) {
		t.Fatalf("WindowSum(%v) = %v, %v", l.w, sum, ok)
	}
	if l.wentOver > l.pushed {
		t.Fatalf("%d went over of %d that were pushed", l.wentOver, l.pushed)
	}
}

// Promise 17: whatever is pushed and popped, the eldest one goes first, and all together are told as they stand; each goes over once at most.
func TestTheEldestGoesFirst(t *testing.T) {
	thrown, full, empty := dice{1710}, 0, 0
	for range 300 {
		l := line{w: impl.NewWindow()}
		pops := thrown.oneOf(1, 3, 4, 5, 6, 8)
		for range thrown.oneOf(5, 30, 150, 300) {
			if thrown.below(10) < pops {
				l.pop(t)
			} else {
				l.push(t, thrown.anyMap())
			}
			l.check(t)
			switch len(l.maps) {
			case 0:
				empty++
			case windowMaps:
				full++
			}
		}
		for len(l.maps) > 0 {
			l.pop(t)
			l.check(t)
		}
		if l.wentOver != l.pushed {
			t.Fatalf("%d went over of %d that were pushed and popped", l.wentOver, l.pushed)
		}
	}
	if min(full, empty) < 300 {
		t.Error(full, empty)
	}
}

// Promise 17, for all orders of up to nine pushes and pops.
func TestTheEldestGoesFirstInAllOrders(t *testing.T) {
	some := unlikeMaps(9)
	for _, steps := range listsUpTo(9, []int{0, 1}) {
		l := line{w: impl.NewWindow()}
		for n, one := range steps {
			if one == 0 {
				l.push(t, some[n])
			} else {
				l.pop(t)
			}
		}
		l.check(t)
	}
}

// Promise 17: windows that no steps lead to are good, too, and go on as others do.
func TestTheEldestGoesFirstFromAnyWindow(t *testing.T) {
	thrown := dice{1711}
	for _, w := range thrownWindows(500, dice{1712}) {
		l := line{w: w, maps: itemsByHand(w), pushed: windowMaps}
		for range 1 + thrown.below(10) {
			if thrown.below(2) == 0 {
				l.pop(t)
			} else {
				l.push(t, thrown.anyMap())
			}
			l.check(t)
		}
	}
}

// A window that something was pushed to or popped from is still as it was, and may go on otherwise.
func TestWindowsBranch(t *testing.T) {
	for _, w := range thrownWindows(500, dice{1713}) {
		before := copyOfWindow(w)
		a, okA := impl.PushMap(w, mapOf(2, 1))
		b, okB := impl.PushMap(w, mapOf(3, 7))
		c, _, _, okC := impl.PopMap(w)
		if okA {
			a, okA = impl.PushMap(a, mapOf(5, 5))
		}
		if okC {
			c, okC = impl.PushMap(c, mapOf(9, 9))
		}
		items := itemsByHand(before)
		if !sameWindows(w, before) {
			t.Fatalf("%v was %v", w, before)
		}
		if okA && !slices.Equal(itemsByHand(a), append(slices.Clone(items), mapsOf("2,1 5,5")...)) || okB && !slices.Equal(itemsByHand(b), append(slices.Clone(items), mapOf(3, 7))) {
			t.Fatalf("%v: %v and %v", w, a, b)
		}
		if okC && !slices.Equal(itemsByHand(c), append(slices.Clone(items[1:]), mapOf(9, 9))) {
			t.Fatalf("%v: %v", w, c)
		}
	}
}

func TestSlideOverAsTold(t *testing.T) {
	for _, one := range []struct {
		l    string
		wide int
		want string
	}{
		{"", 1, ""},
		{"", windowMaps, ""},
		{"2,1", 1, "2,1"},
		{"2,1", windowMaps, "2,1"},
		{"1,1 1,2 1,3", 2, "1,1 1,3 1,5"},
		{"1,1 1,2 1,3", 1, "1,1 1,2 1,3"},
		{"1,1 1,2 1,3", 3, "1,1 1,3 1,6"},
		{"1,1 1,2 1,3", 4, "1,1 1,3 1,6"},
		{"1,1 1,2 1,3", windowMaps, "1,1 1,3 1,6"},
		{"2,1 3,0 1,5", 2, "2,1 6,3 3,5"},
		{"2,1 3,0 1,5 2,1", 3, "2,1 6,3 6,8 6,11"},
		{"0,7 2,1 2,1", 2, "0,7 0,15 4,3"},
		{"1008,1008 1008,1008 1008,1008", 2, "1008,1008 1,0 1,0"},
		{"1,1008 1,1008 1,1008", 2, "1,1008 1,1007 1,1007"},
		{"0,0 0,0", 2, "0,0 0,0"},
		{"1,0 1,0 1,0", 2, "1,0 1,0 1,0"},
	} {
		if got, ok := impl.SlideOver(mapsOf(one.l), one.wide); !ok || !slices.Equal(got, mapsOf(one.want)) {
			t.Errorf("SlideOver of %v = %v, %v", one, got, ok)
		}
	}
}

// slideBySteps takes PushMap, PopMap and WindowSum.
func slideBySteps(t *testing.T, l []impl.Map, wide int) []impl.Map {
	t.Helper()
	w, many := impl.NewWindow(), 0
	var out []impl.Map
	for _, m := range l {
		ok, done := true, true
		if many == wide {
			w, _, _, ok = impl.PopMap(w)
			many--
		}
		w, done = impl.PushMap(w, m)
		many++
		sum, good := impl.WindowSum(w)
		if !ok || !done || !good {
			t.Fatalf("%v: %v, %v, %v", w, ok, done, good)
		}
		out = append(out, sum)
	}
	return out
}

func checkSlide(t *testing.T, l []impl.Map, wide int) {
	t.Helper()
	got, ok := impl.SlideOver(l, wide)
	if want := slideByHand(l, wide); !ok || !slices.Equal(got, want) {
		t.Fatalf("SlideOver(%v, %d) = %v, %v, by hand %v", l, wide, got, ok, want)
	}
}

func TestSlideOverByHand(t *testing.T) {
	thrown := dice{1714}
	for range 400 {
		l, wide := thrown.maps(thrown.oneOf(0, 1, 2, 5, 10, 59, 60, 61, 99, slidMaps)), thrown.oneOf(1, 2, 3, 7, 30, windowMaps-1, windowMaps)
		checkSlide(t, l, wide)
		got, _ := impl.SlideOver(l, wide)
		if steps := slideBySteps(t, l, wide); !slices.Equal(got, steps) {
			t.Fatalf("SlideOver(%v, %d) = %v, by steps %v", l, wide, got, steps)
		}
	}
	for wide := 1; wide <= windowMaps; wide++ {
		checkSlide(t, unlikeMaps(slidMaps), wide)
		checkSlide(t, thrown.maps(slidMaps), wide)
	}
	for many := range slidMaps + 1 {
		checkSlide(t, unlikeMaps(many), 1+thrown.below(windowMaps))
	}
}

// All lists of up to six of two maps, with each number up to seven wide.
func TestSlideOverSmallLists(t *testing.T) {
	some := mapsOf("2,1 0,3")
	for _, numbers := range listsUpTo(6, []int{0, 1}) {
		var l []impl.Map
		for _, n := range numbers {
			l = append(l, some[n])
		}
		for wide := 1; wide <= 7; wide++ {
			checkSlide(t, l, wide)
		}
	}
}

func TestSlideOverIsRefused(t *testing.T) {
	refused := func(l []impl.Map, wide int) {
		t.Helper()
		if got, ok := impl.SlideOver(l, wide); ok || len(got) != 0 {
			t.Errorf("SlideOver(%v, %d) = %v, %v", l, wide, got, ok)
		}
	}
	for _, wide := range []int{0, -1, windowMaps + 1, -windowMaps, 100, 1000, 1 << 32, 1<<32 + 1, math.MinInt, math.MaxInt} {
		for _, many := range []int{0, 1, 2, slidMaps} {
			refused(unlikeMaps(many), wide)
		}
	}
	for _, many := range []int{slidMaps + 1, slidMaps + 2, 2 * slidMaps, 1000} {
		for _, wide := range []int{1, 2, windowMaps, 0, windowMaps + 1} {
			refused(unlikeResidues(many), wide)
		}
	}
	for _, bad := range badMaps() {
		for _, at := range []int{0, 1, 5, 9} {
			l := unlikeMaps(10)
			l[at] = bad
			refused(l, 3)
			refused(l, 1)
		}
		refused([]impl.Map{bad}, 1)
		refused([]impl.Map{bad}, 0)
	}
	if got, ok := impl.SlideOver(slices.Repeat([]impl.Map{mapOf(1008, 1008)}, slidMaps), windowMaps); !ok || len(got) != slidMaps {
		t.Error(got, ok)
	}
}

func TestWindowsAreRefused(t *testing.T) {
	for _, w := range badWindows() {
		for _, m := range []impl.Map{mapOf(2, 1), mapOf(1, 0), mapOf(-1, 0), mapOf(0, windowModulus)} {
			if got, ok := impl.PushMap(w, m); ok || !isNoWindow(got) {
				t.Errorf("PushMap(%v, %v) = %v, %v", w, m, got, ok)
			}
		}
		if got, m, over, ok := impl.PopMap(w); ok || over != 0 || m != (impl.Map{}) || !isNoWindow(got) {
			t.Errorf("PopMap(%v) = %v, %v, %d, %v", w, got, m, over, ok)
		}
		if sum, ok := impl.WindowSum(w); ok || sum != (impl.Map{}) {
			t.Errorf("WindowSum(%v) = %v, %v", w, sum, ok)
		}
		if items, ok := impl.ItemsIn(w); ok || len(items) != 0 {
			t.Errorf("ItemsIn(%v) = %v, %v", w, items, ok)
		}
	}
	for _, m := range badMaps() {
		for _, w := range goodWindows() {
			if got, ok := impl.PushMap(w, m); ok || !isNoWindow(got) {
				t.Errorf("PushMap(%v, %v) = %v, %v", w, m, got, ok)
			}
		}
	}
}

// checkWindowCalls has what chapter 17 tells of a window, each call asked for by checkCall.
func checkWindowCalls(t *testing.T, w impl.Window, m impl.Map) {
	t.Helper()
	checkCall(t, "GoodWindow", func() []any { return []any{impl.GoodWindow(w)} }, w)
	checkCall(t, "PushMap", func() []any { return answers(impl.PushMap(w, m)) }, w, m)
	checkCall(t, "PopMap", func() []any { return fourAnswers(impl.PopMap(w)) }, w)
	checkCall(t, "WindowSum", func() []any { return answers(impl.WindowSum(w)) }, w)
	checkCall(t, "ItemsIn", func() []any { return answers(impl.ItemsIn(w)) }, w)
	for _, l := range [][]impl.Map{w.Front, w.Sums, w.Back} {
		for _, wide := range []int{0, 1, 2, windowMaps, windowMaps + 1} {
			checkCall(t, "SlideOver", func() []any { return answers(impl.SlideOver(l, wide)) }, l, wide)
		}
	}
}

// Promise 19: each function of chapter 17 answers at any arguments, the same each time, in new memory, and writes into none.
func TestWindowsAnswerAndWriteNothing(t *testing.T) {
	thrown := dice{1715}
	maps := append(badMaps(), edgeMaps()...)
	for n, w := range slices.Concat(thrownWindows(600, dice{1716}), badWindows()) {
		checkWindowCalls(t, withGuards(w), maps[n%len(maps)])
	}
	for _, m := range maps {
		checkCall(t, "GoodMap", func() []any { return []any{impl.GoodMap(m)} }, m)
		for _, x := range append(badResidues(), 0, 1, 1008) {
			checkCall(t, "ApplyMap", func() []any { return answers(impl.ApplyMap(m, x)) }, m, x)
		}
		for _, n := range maps {
			checkCall(t, "ComposeMaps", func() []any { return answers(impl.ComposeMaps(m, n)) }, m, n)
		}
		l := withGuards(append(thrown.maps(thrown.below(105)), m))
		checkCall(t, "SlideOver", func() []any { return answers(impl.SlideOver(l, thrown.oneOf(1, 1, 1))) }, l)
	}
	checkCall(t, "NewWindow", func() []any { return []any{impl.NewWindow()} })
}

func windowAnswers(w impl.Window) string {
	return fmt.Sprint(impl.GoodWindow(w), answers(impl.PushMap(w, mapOf(2, 1))), answers(impl.PushMap(w, mapOf(0, windowModulus))), fourAnswers(impl.PopMap(w)), answers(impl.WindowSum(w)), answers(impl.ItemsIn(w)),
		answers(impl.SlideOver(w.Front, 2)), answers(impl.SlideOver(w.Back, 3)), answers(impl.SlideOver(w.Sums, windowMaps)))
}

// A window's lists may be pieces of one memory: what is told shares none of it, and is as if they had been apart.
func TestWindowsThatShareTheirLists(t *testing.T) {
	for _, w := range thrownWindows(400, dice{1717}) {
		behind := slices.Concat(w.Front, w.Sums, w.Back, []impl.Map{mapOf(guard, guard)})
		a, b, c := len(w.Front), len(w.Front)+len(w.Sums), len(w.Front)+len(w.Sums)+len(w.Back)
		shared := impl.Window{Front: behind[:a], Sums: behind[a:b], Back: behind[b:c], Sum: w.Sum}
		checkWindowCalls(t, shared, mapOf(7, 7))
		if got, want := windowAnswers(shared), windowAnswers(w); got != want {
			t.Fatalf("%v: %s, apart %s", w, got, want)
		}
	}
	one := withGuards(mapsOf("1,0"))
	w := impl.Window{Front: one, Sums: one, Back: one, Sum: mapOf(1, 0)}
	if !impl.GoodWindow(w) {
		t.Error(w)
	}
	checkWindowCalls(t, w, mapOf(7, 7))
}

// What lies behind a list's length does not count, be it good or not.
func TestWindowsDoNotReadBehindTheirLists(t *testing.T) {
	for _, w := range slices.Concat(thrownWindows(400, dice{1718}), badWindows()) {
		plain := windowAnswers(w)
		if got := windowAnswers(withGuards(w)); got != plain {
			t.Fatalf("%v: %s, with guards behind the lists %s", w, plain, got)
		}
		long := copyOfWindow(w)
		long.Front = append(long.Front, mapsOf("2,1 3,0")...)[:len(w.Front)]
		long.Sums = append(long.Sums, mapsOf("1,0 2,1")...)[:len(w.Sums)]
		long.Back = append(long.Back, mapsOf("2,1 3,0")...)[:len(w.Back)]
		if got := windowAnswers(long); got != plain {
			t.Fatalf("%v: %s, with more behind the lists %s", w, plain, got)
		}
	}
	thrown := dice{1719}
	for range 200 {
		l, wide := thrown.maps(thrown.below(slidMaps+1)), 1+thrown.below(windowMaps)
		plain, _ := impl.SlideOver(l, wide)
		if got, ok := impl.SlideOver(withGuards(l), wide); !ok || !slices.Equal(got, plain) {
			t.Fatalf("SlideOver(%v, %d) = %v, with guards behind the list %v", l, wide, plain, got)
		}
	}
}

// The empty list and the nil list are the same value.
func TestEmptyWindowsAndNone(t *testing.T) {
	for _, w := range goodWindows() {
		empty := impl.Window{Front: append([]impl.Map{}, w.Front...), Sums: append([]impl.Map{}, w.Sums...), Back: append([]impl.Map{}, w.Back...), Sum: w.Sum}
		if a, b := windowAnswers(w), windowAnswers(empty); a != b || !impl.GoodWindow(empty) {
			t.Error(a, b)
		}
	}
	for _, none := range [][]impl.Map{nil, {}} {
		if got, ok := impl.SlideOver(none, 1); !ok || len(got) != 0 {
			t.Error(got, ok)
		}
	}
}

// spoilWindow writes into all that a window has, behind its lists' lengths, too.
func spoilWindow(w impl.Window) {
	for _, l := range [][]impl.Map{w.Front, w.Sums, w.Back} {
		whole := l[:cap(l)]
		for i := range whole {
			whole[i] = mapOf(-guard, -guard)
		}
	}
}

// An answer is the caller's own: what is written into it is not told by a later one.
func TestWindowsAreTheCallersOwn(t *testing.T) {
	for _, w := range goodWindows() {
		plain, copied := windowAnswers(w), copyOfWindow(w)
		pushed, _ := impl.PushMap(w, mapOf(2, 1))
		popped, _, _, _ := impl.PopMap(w)
		items, _ := impl.ItemsIn(w)
		slid, _ := impl.SlideOver(w.Back, 2)
		spoilWindow(pushed)
		spoilWindow(popped)
		spoilWindow(impl.Window{Front: items, Back: slid})
		if again := windowAnswers(w); again != plain || !sameWindows(w, copied) {
			t.Errorf("%s, then %s", plain, again)
		}
	}
	for range 3 {
		w := impl.NewWindow()
		if !sameWindows(w, window("|")) {
			t.Error(w)
		}
		w.Sum = mapOf(-guard, guard)
		spoilWindow(w)
	}
}
