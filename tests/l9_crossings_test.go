package tests

import (
	"cmp"
	"fmt"
	"math/big"
	"math/rand"
	"slices"
	"testing"

	"loop.example/cableship/impl"
)

// The tests of chapter 9 hold the program against points where lines meet, heights of lines at each x, and all orders of lifting.

// layout is a chart with its name and what is said of it, which is left out of those that touching and across have.
type layout struct {
	name      string
	chart     []impl.Route
	crossings int
	clear     []int
	first     []int
	many      int
	rounds    int
}

// chartOf returns a chart whose routes are written as numbers: of each one its Ax, its Ay, its Bx and its By.
func chartOf(numbers ...int) []impl.Route {
	chart := []impl.Route{}
	for route := range slices.Chunk(numbers, 4) {
		chart = append(chart, impl.Route{Ax: route[0], Ay: route[1], Bx: route[2], By: route[3]})
	}
	return chart
}

// levels are so many level routes, one below the other.
func levels(many int) []impl.Route {
	numbers := []int{}
	for i := range many {
		numbers = append(numbers, 1, 2*i+2, 19, 2*i+2)
	}
	return chartOf(numbers...)
}

// fanChart are 8 routes with a common end.
func fanChart() []impl.Route {
	return chartOf(0, 0, 20, 0, 0, 0, 20, 5, 20, 10, 0, 0, 0, 0, 20, 20, 0, 0, 10, 20, 5, 20, 0, 0, 0, 0, 0, 20, 0, 0, 7, 7)
}

// lineChart are 8 routes on one line: apart, end to end, overlapping, one within the other, opposite and equal.
func lineChart() []impl.Route {
	return chartOf(0, 10, 3, 10, 3, 10, 6, 10, 8, 10, 20, 10, 9, 10, 11, 10, 12, 10, 10, 10, 20, 10, 8, 10, 8, 10, 20, 10, 0, 10, 20, 10)
}

// starChart are 8 routes that all cross in the middle.
func starChart() []impl.Route {
	return chartOf(0, 10, 20, 10, 0, 5, 20, 15, 0, 0, 20, 20, 5, 0, 15, 20, 10, 0, 10, 20, 15, 0, 5, 20, 20, 0, 0, 20, 20, 5, 0, 15)
}

// weaveChart are 8 routes of which each two cross, at several points.
func weaveChart() []impl.Route {
	numbers := []int{}
	for i, top := range []int{20, 19, 17, 15, 12, 9, 5, 0} {
		numbers = append(numbers, 2*i, 0, top, 20)
	}
	return chartOf(numbers...)
}

// ringChart are 8 routes that cross in a ring: each one the one before, and the last one the first one, too.
func ringChart() []impl.Route {
	return chartOf(5, 2, 15, 2, 13, 1, 19, 7, 18, 5, 18, 15, 19, 13, 13, 19, 15, 18, 5, 18, 7, 19, 1, 13, 2, 15, 2, 5, 1, 7, 7, 1)
}

// chainChart are 8 routes of which each one crosses just those before and behind: level and upright ones by turns.
func chainChart() []impl.Route {
	return chartOf(0, 1, 4, 1, 3, 0, 3, 6, 2, 5, 8, 5, 7, 4, 7, 10, 6, 9, 12, 9, 11, 8, 11, 14, 10, 13, 16, 13, 15, 12, 15, 18)
}

// uprights are so many upright routes, each across all levels.
func uprights(many int) []impl.Route {
	numbers := []int{}
	for i := range many {
		numbers = append(numbers, 2*i+3, 0, 2*i+3, 20)
	}
	return chartOf(numbers...)
}

// chosen are the routes of a chart with some indexes.
func chosen(chart []impl.Route, indexes ...int) []impl.Route {
	routes := []impl.Route{}
	for _, k := range indexes {
		routes = append(routes, chart[k])
	}
	return routes
}

// layouts are charts of which all is known: the empty one, of one route, and of up to RoutesMax routes of which none cross, each two cross, and some do.
func layouts() []layout {
	zeros := make([]int, 8)
	back := reversed(upTo(8))
	pairs := chartOf(0, 0, 4, 4, 0, 4, 4, 0, 10, 0, 14, 4, 14, 0, 10, 4, 2, 10, 2, 14, 0, 12, 4, 12, 20, 20, 16, 16, 16, 20, 20, 16)
	return []layout{
		{"empty", nil, 0, nil, nil, 1, 0},
		{"one", chartOf(0, 20, 20, 0), 0, []int{0}, []int{0}, 1, 1},
		{"two apart", chartOf(0, 0, 0, 20, 20, 0, 20, 20), 0, []int{0, 0}, []int{0, 1}, 2, 1},
		{"two across", chartOf(0, 0, 20, 20, 0, 20, 20, 0), 1, []int{1, 0}, []int{1, 0}, 1, 2},
		{"given", chartOf(0, 2, 6, 2, 1, 0, 1, 4, 4, 0, 4, 2, 0, 3, 3, 3), 2, []int{2, 1, 0, 0}, []int{2, 3, 1, 0}, 4, 3},
		{"levels", levels(8), 0, zeros, upTo(8), 40320, 1},
		{"seven levels", levels(7), 0, zeros[:7], upTo(7), 5040, 1},
		{"fan", fanChart(), 0, zeros, upTo(8), 40320, 1},
		{"line", lineChart(), 0, zeros, upTo(8), 40320, 1},
		{"star", starChart(), 28, back, back, 1, 8},
		{"weave", weaveChart(), 28, back, back, 1, 8},
		{"ring", ringChart(), 8, back, back, 1, 8},
		{"chain", chainChart(), 7, back, back, 1, 8},
		{"chain from its end", reversedChart(chainChart()), 7, back, back, 1, 8},
		{"fence", chosen(chainChart(), 0, 2, 4, 6, 1, 3, 5, 7), 7, []int{1, 2, 2, 2, 0, 0, 0, 0}, []int{4, 0, 5, 1, 6, 2, 7, 3}, 1385, 2},
		{"square", chosen(append(levels(2), uprights(2)...), 0, 2, 1, 3), 4, []int{3, 2, 1, 0}, []int{3, 2, 1, 0}, 1, 4},
		{"one on seven", append(levels(7), uprights(1)...), 7, []int{1, 1, 1, 1, 1, 1, 1, 0}, []int{7, 0, 1, 2, 3, 4, 5, 6}, 5040, 2},
		{"seven on one", append(uprights(1), levels(7)...), 7, []int{7, 0, 0, 0, 0, 0, 0, 0}, []int{1, 2, 3, 4, 5, 6, 7, 0}, 5040, 2},
		{"three on one on four", slices.Insert(levels(7), 4, uprights(1)...), 7, []int{4, 4, 4, 4, 3, 0, 0, 0}, []int{5, 6, 7, 4, 0, 1, 2, 3}, 144, 3},
		{"grid", append(levels(4), uprights(4)...), 16, []int{4, 4, 4, 4, 0, 0, 0, 0}, []int{4, 5, 6, 7, 0, 1, 2, 3}, 576, 2},
		{"pairs", pairs, 4, []int{1, 0, 1, 0, 1, 0, 1, 0}, []int{1, 0, 3, 2, 5, 4, 7, 6}, 2520, 2},
		{"pairs apart", chosen(pairs, 0, 2, 4, 6, 1, 3, 5, 7), 4, []int{1, 1, 1, 1, 0, 0, 0, 0}, []int{4, 0, 5, 1, 6, 2, 7, 3}, 2520, 2},
	}
}

// touching are charts of two routes that do not cross, though they touch or come near to it.
func touching() []layout {
	return []layout{
		{name: "an end in the middle", chart: chartOf(0, 5, 10, 5, 5, 5, 5, 10)},
		{name: "an end in the middle, aslant", chart: chartOf(0, 0, 20, 10, 10, 5, 20, 0)},
		{name: "an end at the end", chart: chartOf(0, 0, 10, 0, 10, 0, 10, 10)},
		{name: "an end at the end, straight on", chart: chartOf(0, 0, 10, 10, 10, 10, 20, 20)},
		{name: "an end at the end, back", chart: chartOf(0, 0, 10, 5, 10, 5, 4, 2)},
		{name: "an end next to the end", chart: chartOf(0, 20, 20, 20, 19, 20, 20, 0)},
		{name: "an end on the line ahead", chart: chartOf(5, 5, 10, 5, 4, 5, 4, 9)},
		{name: "an end on the line behind", chart: chartOf(5, 5, 10, 5, 11, 5, 12, 0)},
		{name: "an end on the line, aslant", chart: chartOf(0, 0, 5, 5, 10, 10, 10, 20)},
		{name: "both ends on each other", chart: chartOf(3, 3, 9, 3, 9, 3, 3, 3)},
		{name: "the line ahead is crossed", chart: chartOf(5, 5, 10, 5, 4, 0, 4, 10)},
		{name: "the line behind is crossed", chart: chartOf(5, 5, 10, 5, 0, 20, 20, 4)},
		{name: "the line next to the end is crossed", chart: chartOf(0, 0, 19, 19, 20, 0, 20, 20)},
		{name: "both lines ahead", chart: chartOf(0, 0, 5, 0, 10, 1, 10, 9)},
		{name: "both lines meet at an end", chart: chartOf(0, 0, 5, 5, 10, 0, 5, 5)},
		{name: "parallel", chart: chartOf(0, 0, 20, 0, 0, 1, 20, 1)},
		{name: "parallel, upright", chart: chartOf(0, 0, 0, 20, 20, 0, 20, 20)},
		{name: "parallel, aslant", chart: chartOf(0, 0, 10, 20, 1, 0, 11, 20)},
		{name: "opposite, parallel", chart: chartOf(0, 0, 20, 20, 20, 19, 1, 0)},
		{name: "one line, apart", chart: chartOf(0, 0, 5, 5, 6, 6, 20, 20)},
		{name: "one line, apart, opposite", chart: chartOf(5, 5, 0, 0, 6, 6, 20, 20)},
		{name: "one line, overlapping", chart: chartOf(2, 7, 12, 7, 8, 7, 18, 7)},
		{name: "one line, one within the other", chart: chartOf(2, 0, 2, 20, 2, 5, 2, 15)},
		{name: "one line, with a common end", chart: chartOf(0, 0, 4, 2, 0, 0, 8, 4)},
		{name: "equal", chart: chartOf(3, 1, 4, 15, 3, 1, 4, 15)},
		{name: "opposite", chart: chartOf(3, 1, 4, 15, 4, 15, 3, 1)},
	}
}

// across are charts of two routes that cross.
func across() []layout {
	return []layout{
		{name: "level and upright", chart: chartOf(0, 5, 10, 5, 5, 0, 5, 10)},
		{name: "aslant", chart: chartOf(0, 0, 20, 20, 0, 20, 20, 0)},
		{name: "the least ones", chart: chartOf(0, 0, 1, 1, 0, 1, 1, 0)},
		{name: "the least ones, far", chart: chartOf(19, 19, 20, 20, 19, 20, 20, 19)},
		{name: "not at a point", chart: chartOf(0, 0, 2, 1, 1, 0, 1, 1)},
		{name: "next to an end", chart: chartOf(0, 1, 20, 1, 1, 0, 0, 20)},
		{name: "next to the end", chart: chartOf(0, 1, 20, 1, 19, 0, 20, 20)},
		{name: "nearly parallel", chart: chartOf(0, 0, 20, 20, 0, 1, 20, 19)},
		{name: "nearly parallel, level", chart: chartOf(0, 10, 20, 11, 0, 11, 20, 10)},
		{name: "nearly parallel, steep", chart: chartOf(9, 0, 10, 20, 10, 0, 9, 20)},
		{name: "level and aslant", chart: chartOf(0, 3, 20, 3, 2, 20, 3, 0)},
		{name: "just over the end", chart: chartOf(0, 0, 20, 19, 18, 20, 19, 0)},
		{name: "upright at the last one", chart: chartOf(1, 0, 1, 20, 0, 19, 20, 20)},
	}
}

// reversedChart has the routes in the opposite order.
func reversedChart(chart []impl.Route) []impl.Route {
	back := slices.Clone(chart)
	slices.Reverse(back)
	return back
}

// swapped is a route from its second to its first end.
func swapped(route impl.Route) impl.Route {
	return impl.Route{Ax: route.Bx, Ay: route.By, Bx: route.Ax, By: route.Ay}
}

// mirrored is a route with x from the right to the left.
func mirrored(route impl.Route) impl.Route {
	return impl.Route{Ax: 20 - route.Ax, Ay: route.Ay, Bx: 20 - route.Bx, By: route.By}
}

// swung is a route with both coordinates of its points exchanged.
func swung(route impl.Route) impl.Route {
	return impl.Route{Ax: route.Ay, Ay: route.Ax, Bx: route.By, By: route.Bx}
}

// swungChart is a chart of such routes.
func swungChart(chart []impl.Route) []impl.Route {
	return changedChart(chart, swung)
}

// changedChart is a chart with each route changed.
func changedChart(chart []impl.Route, change func(impl.Route) impl.Route) []impl.Route {
	changed := []impl.Route{}
	for _, route := range chart {
		changed = append(changed, change(route))
	}
	return changed
}

// droppedChart is a chart without a route.
func droppedChart(chart []impl.Route, k int) []impl.Route {
	return slices.Delete(slices.Clone(chart), k, k+1)
}

// variantsOf are all charts of two routes, in both orders, with each one in both directions, mirrored and swung.
func variantsOf(chart []impl.Route) [][]impl.Route {
	list := [][]impl.Route{chart}
	for _, first := range []impl.Route{chart[0], swapped(chart[0])} {
		for _, second := range []impl.Route{chart[1], swapped(chart[1])} {
			list = append(list, []impl.Route{first, second}, []impl.Route{second, first})
		}
	}
	for _, change := range []func(impl.Route) impl.Route{mirrored, swung} {
		for _, other := range list {
			list = append(list, changedChart(other, change))
		}
	}
	return list
}

// routesOn are all routes of a square of so many points each side, from a coordinate on.
func routesOn(least int, side int) []impl.Route {
	routes := []impl.Route{}
	for _, row := range rowsOf(side, 4) {
		if row[0] != row[2] || row[1] != row[3] {
			routes = append(routes, impl.Route{Ax: least + row[0], Ay: least + row[1], Bx: least + row[2], By: least + row[3]})
		}
	}
	return routes
}

// randomRoute is a route of a square of so many points each side, from a coordinate on.
func randomRoute(random *rand.Rand, least int, side int) impl.Route {
	route := impl.Route{Ax: least + random.Intn(side), Ay: least + random.Intn(side), Bx: least + random.Intn(side), By: least + random.Intn(side)}
	if route.Ax == route.Bx && route.Ay == route.By {
		route.Bx = least + (route.Bx-least+1)%side
	}
	return route
}

// randomChart has so many routes of such a square.
func randomChart(random *rand.Rand, many int, least int, side int) []impl.Route {
	chart := []impl.Route{}
	for range many {
		chart = append(chart, randomRoute(random, least, side))
	}
	return chart
}

// sampleCharts are the layouts, the charts of routes that touch and that cross, and random ones, those on few points with routes that touch.
func sampleCharts() [][]impl.Route {
	list := [][]impl.Route{}
	for _, l := range layouts() {
		list = append(list, l.chart, changedChart(l.chart, swapped))
	}
	for _, pair := range append(touching(), across()...) {
		list = append(list, pair.chart)
	}
	random := newRandom()
	for many := 1; many <= 8; many++ {
		for range 6 {
			list = append(list, randomChart(random, many, 0, 21), randomChart(random, many, 0, 5), randomChart(random, many, 17, 4), randomChart(random, many, 8, 3))
			list = append(list, shuffledChart(random, many))
		}
	}
	return list
}

// shuffledChart has so many routes of the layouts, some of them with the ends exchanged.
func shuffledChart(random *rand.Rand, many int) []impl.Route {
	all := []impl.Route{}
	for _, chart := range [][]impl.Route{levels(4), uprights(4), chainChart(), ringChart()} {
		all = append(all, chart...)
	}
	random.Shuffle(len(all), func(a int, b int) { all[a], all[b] = all[b], all[a] })
	return all[:many]
}

// badRoutes are no routes of a chart.
func badRoutes() []impl.Route {
	bad := []impl.Route{{}, {Ax: 20, Ay: 20, Bx: 20, By: 20}, {Ax: 0, Ay: 20, Bx: 0, By: 20}, {Ax: 7, Ay: 3, Bx: 7, By: 3}, {Ax: -1, Ay: -1, Bx: -1, By: -1}, {Ax: 21, Ay: 21, Bx: 21, By: 21}, {Ax: -1, Ay: 0, Bx: 21, By: 0}}
	for _, wrong := range append(farNumbers(), -20, -2, -1, 21, 22, 40, 256, 276, -256, 1<<32, 1<<32+7) {
		for _, route := range []impl.Route{{Ax: 0, Ay: 0, Bx: 20, By: 20}, {Ax: 7, Ay: 3, Bx: 7, By: 9}, {Ax: 20, Ay: 5, Bx: 19, By: 5}} {
			a, b, c, d := route, route, route, route
			a.Ax, b.Ay, c.Bx, d.By = wrong, wrong, wrong, wrong
			bad = append(bad, a, b, c, d)
		}
		bad = append(bad, impl.Route{Ax: wrong, Ay: wrong, Bx: 1, By: 2}, impl.Route{Ax: wrong, Ay: 0, Bx: wrong, By: 20}, impl.Route{Ax: 0, Ay: wrong, Bx: 20, By: wrong})
	}
	return bad
}

// badCharts are lists that are no charts: with too many routes, or with one that is none.
func badCharts() [][]impl.Route {
	bad := [][]impl.Route{levels(9), levels(10), append(starChart(), starChart()[0]), append(chainChart(), chartOf(0, 20, 1, 20)...), slices.Repeat(chartOf(0, 0, 20, 20, 0, 20, 20, 0), 5), slices.Repeat(levels(8), 32), slices.Repeat(levels(8), 33), make([]impl.Route, 8), make([]impl.Route, 9)}
	for _, route := range badRoutes() {
		bad = append(bad, []impl.Route{route}, append(starChart(), route))
		for _, chart := range [][]impl.Route{levels(2), levels(4), starChart()} {
			for k := range chart {
				other := slices.Clone(chart)
				other[k] = route
				bad = append(bad, other)
			}
		}
	}
	return bad
}

// badPlaces are no indexes of so many routes.
func badPlaces(many int) []int {
	return append(farNumbers(), -9, -8, -many-1, -2, -1, many, many+1, many+8, many+9, 64, 256, 1<<32)
}

// meet reports whether two routes cross: their lines meet at one point, and this lies between the ends of both.
func meet(a impl.Route, b impl.Route) bool {
	ax, ay, bx, by := a.Bx-a.Ax, a.By-a.Ay, b.Bx-b.Ax, b.By-b.Ay
	x, y := b.Ax-a.Ax, b.Ay-a.Ay
	whole := ax*by - ay*bx
	// On its way from end to end, one route is there at the part of whole that onA is, and the other one at the part that onB is.
	onA, onB := x*by-y*bx, x*ay-y*ax
	if whole < 0 {
		whole, onA, onB = -whole, -onA, -onB
	}
	return 0 < onA && onA < whole && 0 < onB && onB < whole
}

// wantSide returns the side of a route on which a point lies: over or under its line at x, or left or right of it if it is upright.
func wantSide(route impl.Route, x int, y int) int {
	dx, dy := route.Bx-route.Ax, route.By-route.Ay
	if dx == 0 {
		return -cmp.Compare(x, route.Ax) * cmp.Compare(dy, 0)
	}
	height := big.NewRat(int64(dy*(x-route.Ax)), int64(dx))
	height.Add(height, big.NewRat(int64(route.Ay), 1))
	return big.NewRat(int64(y), 1).Cmp(height) * cmp.Compare(dx, 0)
}

// wantAbove are the routes that lie on one.
func wantAbove(chart []impl.Route, k int) []int {
	above := []int{}
	for i := range chart {
		if i > k && meet(chart[i], chart[k]) {
			above = append(above, i)
		}
	}
	return above
}

// wantHeap are all routes that must be lifted ahead of one, ascending.
func wantHeap(chart []impl.Route, k int) []int {
	heap := []int{}
	for _, i := range wantAbove(chart, k) {
		heap = append(append(heap, i), wantHeap(chart, i)...)
	}
	slices.Sort(heap)
	return slices.Compact(heap)
}

// wantRounds is the greatest number of routes that lie one on the other.
func wantRounds(chart []impl.Route) int {
	rounds := make([]int, len(chart))
	for k := len(chart) - 1; k >= 0; k-- {
		for _, i := range wantAbove(chart, k) {
			rounds[k] = max(rounds[k], rounds[i])
		}
		rounds[k]++
	}
	return slices.Max(append(rounds, 0))
}

// isLifting reports whether a list is an order of lifting.
func isLifting(chart []impl.Route, order []int) bool {
	if !isPlan(order, len(chart)) {
		return false
	}
	for k := range chart {
		for _, i := range wantAbove(chart, k) {
			if slices.Index(order, i) > slices.Index(order, k) {
				return false
			}
		}
	}
	return true
}

// liftings are all orders of lifting, those with a lesser first index that differs first.
func liftings(chart []impl.Route) [][]int {
	above := [][]int{}
	for k := range chart {
		above = append(above, wantAbove(chart, k))
	}
	orders := [][]int{{}}
	for range chart {
		longer := [][]int{}
		for _, order := range orders {
			for k := range chart {
				lifted := func(i int) bool { return slices.Contains(order, i) }
				if !lifted(k) && !slices.ContainsFunc(above[k], func(i int) bool { return !lifted(i) }) {
					longer = append(longer, append(slices.Clone(order), k))
				}
			}
		}
		orders = longer
	}
	return orders
}

// eachOrder calls a function with sample charts and orders of lifting of them: all if they are few, else some, always the first and the last one.
func eachOrder(check func(chart []impl.Route, order []int)) {
	random := newRandom()
	for _, chart := range sampleCharts() {
		orders := liftings(chart)
		if len(orders) > 50 {
			last := len(orders) - 1
			for range 20 {
				check(chart, orders[random.Intn(last)])
			}
			orders = [][]int{orders[0], orders[last]}
		}
		for _, order := range orders {
			check(chart, order)
		}
	}
}

// eachRoute calls a function with sample charts and the indexes of their routes.
func eachRoute(check func(chart []impl.Route, k int)) {
	for _, chart := range sampleCharts() {
		for k := range chart {
			check(chart, k)
		}
	}
}

// badLiftings are lists that are no orders of lifting of a chart with so many routes, made of one that is: too short, too long, with an index twice or out of range.
func badLiftings(order []int) [][]int {
	many := len(order)
	bad := [][]int{append(slices.Clone(order), many), append(slices.Clone(order), 0), append(slices.Clone(order), -1), append([]int{many}, order...), append(make([]int, 256), order...), make([]int, many+1), upTo(many + 1), reversed(upTo(many + 1))}
	if many > 0 {
		bad = append(bad, append(slices.Clone(order), order...))
	}
	for place := range order {
		bad = append(bad, without(order, place), order[:place], append(slices.Clone(order), order[place]), slices.Insert(slices.Clone(order), place, order[place]))
		for _, wrong := range append(badPlaces(many), order[(place+1)%many]) {
			if wrong != order[place] {
				other := slices.Clone(order)
				other[place] = wrong
				bad = append(bad, other)
			}
		}
	}
	return bad
}

// checkRoutes fails unless a call succeeded with a chart.
func checkRoutes(t *testing.T, call string, got []impl.Route, ok bool, want []impl.Route) {
	t.Helper()
	if !ok || !slices.Equal(got, want) {
		t.Fatalf("%s returned %v, %v instead of %v, true", call, got, ok, want)
	}
}

// checkNoRoutes fails unless a call returned an empty list and false.
func checkNoRoutes(t *testing.T, call string, got []impl.Route, ok bool) {
	t.Helper()
	if ok || len(got) != 0 {
		t.Fatalf("%s returned %v, %v instead of no routes and false", call, got, ok)
	}
}

// checkSide fails unless a point lies on a side of a route.
func checkSide(t *testing.T, chart []impl.Route, k int, x int, y int, want int) {
	t.Helper()
	side, ok := impl.RouteSide(chart, k, x, y)
	if !ok || side != want {
		t.Fatalf("RouteSide(%v, %d, %d, %d) returned %d, %v instead of %d, true", chart, k, x, y, side, ok, want)
	}
}

// checkNoSide fails unless there is no side of a point.
func checkNoSide(t *testing.T, chart []impl.Route, k int, x int, y int) {
	t.Helper()
	side, ok := impl.RouteSide(chart, k, x, y)
	checkNoIndex(t, fmt.Sprintf("RouteSide(%v, %d, %d, %d)", chart, k, x, y), side, ok)
}

// checkNoPlace checks what is said of a list that is no chart, or of an index that is none of a route.
func checkNoPlace(t *testing.T, chart []impl.Route, k int) {
	t.Helper()
	call := fmt.Sprintf("(%v, %d)", chart, k)
	checkFails(t, "RouteAbove"+call, impl.RouteAbove(chart, k), false)
	checkNumber(t, "RouteClear"+call, impl.RouteClear(chart, k), -1)
	got, ok := impl.ChartDrop(chart, k)
	checkNoRoutes(t, "ChartDrop"+call, got, ok)
	for _, number := range []int{-1, 0, 10, 20, 21} {
		checkNoSide(t, chart, k, number, 20-number)
	}
	for _, i := range []int{-1, 0, 1, 7, 8, len(chart) - 1, len(chart), k} {
		checkHolds(t, fmt.Sprintf("RoutesCross%s and %d", call, i), impl.RoutesCross(chart, k, i) || impl.RoutesCross(chart, i, k), false)
	}
}

// mustFirst returns LiftFirst of a chart.
func mustFirst(t *testing.T, chart []impl.Route) []int {
	t.Helper()
	order, ok := impl.LiftFirst(chart)
	checkHolds(t, fmt.Sprintf("LiftFirst(%v)", chart), ok && len(order) == len(chart), true)
	return order
}

// mustSwing returns ChartTurn of a chart.
func mustSwing(t *testing.T, chart []impl.Route) []impl.Route {
	t.Helper()
	turned, ok := impl.ChartTurn(chart)
	checkRoutes(t, fmt.Sprintf("ChartTurn(%v)", chart), turned, ok, swungChart(chart))
	return turned
}

// mustDropRoute returns ChartDrop of a chart.
func mustDropRoute(t *testing.T, chart []impl.Route, k int) []impl.Route {
	t.Helper()
	left, ok := impl.ChartDrop(chart, k)
	checkRoutes(t, fmt.Sprintf("ChartDrop(%v, %d)", chart, k), left, ok, droppedChart(chart, k))
	return left
}

func TestCrossingConstants(t *testing.T) {
	checkNumber(t, "RoutesMax", impl.RoutesMax, 8)
	checkNumber(t, "ChartSide", impl.ChartSide, 20)
}

func TestChartValid(t *testing.T) {
	checkHolds(t, "ChartValid(nil)", impl.ChartValid(nil), true)
	for _, chart := range sampleCharts() {
		checkHolds(t, fmt.Sprintf("ChartValid(%v)", chart), impl.ChartValid(chart), true)
	}
	for many := range 20 {
		checkHolds(t, fmt.Sprintf("ChartValid of %d routes", many), impl.ChartValid(slices.Repeat(chartOf(0, 0, 20, 20), many)), many <= 8)
	}
	for number := -3; number <= 23; number++ {
		inside := number >= 0 && number <= 20
		for _, chart := range [][]impl.Route{chartOf(number, 3, 4, 7), chartOf(3, number, 7, 4), chartOf(7, 3, number, 4), chartOf(3, 4, 7, number), chartOf(0, 0, 20, 20, number, 0, number, 20), chartOf(20, number, 0, number, 5, 5, 6, 6)} {
			checkHolds(t, fmt.Sprintf("ChartValid(%v)", chart), impl.ChartValid(chart), inside)
		}
		for other := -3; other <= 23; other++ {
			for _, chart := range [][]impl.Route{chartOf(number, 10, other, 10), chartOf(10, number, 10, other), chartOf(number, number, other, other)} {
				checkHolds(t, fmt.Sprintf("ChartValid(%v)", chart), impl.ChartValid(chart), inside && other >= 0 && other <= 20 && number != other)
			}
		}
	}
}

func TestPromises94To104NoChart(t *testing.T) {
	for _, chart := range badCharts() {
		call := fmt.Sprintf("(%v)", chart)
		checkHolds(t, "ChartValid"+call, impl.ChartValid(chart), false)
		checkNumber(t, "ChartCrossings"+call, impl.ChartCrossings(chart), -1)
		checkNumber(t, "LiftMany"+call, impl.LiftMany(chart), -1)
		checkNumber(t, "LiftRounds"+call, impl.LiftRounds(chart), -1)
		order, ok := impl.LiftFirst(chart)
		checkFails(t, "LiftFirst"+call, order, ok)
		turned, ok := impl.ChartTurn(chart)
		checkNoRoutes(t, "ChartTurn"+call, turned, ok)
		for _, order := range [][]int{nil, {0}, upTo(len(chart)), reversed(upTo(len(chart))), upTo(8), upTo(len(chart) - 1)} {
			checkHolds(t, fmt.Sprintf("LiftValid(%v, %v)", chart, order), impl.LiftValid(chart, order), false)
		}
		for _, k := range []int{-1, 0, 1, len(chart) - 1, len(chart), 7, 8} {
			checkNoPlace(t, chart, k)
		}
	}
}

func TestPromises94To104NoRoute(t *testing.T) {
	for _, l := range layouts() {
		for _, chart := range [][]impl.Route{l.chart, l.chart[:len(l.chart)/2]} {
			for _, k := range badPlaces(len(chart)) {
				checkNoPlace(t, chart, k)
			}
		}
	}
}

func TestPromises95To101Layouts(t *testing.T) {
	for _, l := range layouts() {
		for _, change := range []func(impl.Route) impl.Route{nil, swapped, swung, mirrored} {
			chart := l.chart
			if change != nil {
				chart = changedChart(chart, change)
			}
			call := fmt.Sprintf("(%s: %v)", l.name, chart)
			checkNumber(t, "ChartCrossings"+call, impl.ChartCrossings(chart), l.crossings)
			for k := range chart {
				checkNumber(t, fmt.Sprintf("RouteClear of %d %s", k, call), impl.RouteClear(chart, k), l.clear[k])
			}
			checkList(t, "LiftFirst"+call, mustFirst(t, chart), true, l.first)
			checkHolds(t, "LiftValid of the first order "+call, impl.LiftValid(chart, l.first), true)
			checkNumber(t, "LiftMany"+call, impl.LiftMany(chart), l.many)
			checkNumber(t, "LiftRounds"+call, impl.LiftRounds(chart), l.rounds)
		}
	}
}

func TestPromise94RoutesCross(t *testing.T) {
	for _, chart := range sampleCharts() {
		turned := mustSwing(t, chart)
		for i, a := range chart {
			for k, b := range chart {
				call := fmt.Sprintf("RoutesCross(%v, %d, %d)", chart, i, k)
				cross := impl.RoutesCross(chart, i, k)
				checkHolds(t, call, cross, meet(a, b))
				checkHolds(t, call+" exchanged", impl.RoutesCross(chart, k, i), cross)
				checkHolds(t, call+" turned", impl.RoutesCross(turned, i, k), cross)
				if cross {
					common := a.Ax == b.Ax && a.Ay == b.Ay || a.Ax == b.Bx && a.Ay == b.By || a.Bx == b.Ax && a.By == b.Ay || a.Bx == b.Bx && a.By == b.By
					checkHolds(t, call+" of one route or with a common end", i == k || common, false)
					above, below := slices.Contains(impl.RouteAbove(chart, k), i), slices.Contains(impl.RouteAbove(chart, i), k)
					checkHolds(t, call+" with one above the other", above != below && above == (i > k), true)
				}
			}
		}
	}
}

// TestPromise94RoutesCrossAll tries all pairs of routes of small squares, at both ends of the chart.
func TestPromise94RoutesCrossAll(t *testing.T) {
	for _, least := range []int{0, 17} {
		crossing := 0
		for _, a := range routesOn(least, 4) {
			for _, b := range routesOn(least, 4) {
				chart := []impl.Route{a, b}
				if impl.RoutesCross(chart, 0, 1) != meet(a, b) {
					t.Fatalf("RoutesCross(%v, 0, 1) returned %v", chart, !meet(a, b))
				}
				if meet(a, b) {
					crossing++
				}
			}
		}
		if crossing < 5000 {
			t.Fatalf("only %d pairs cross", crossing)
		}
	}
}

// TestPromise94RoutesCrossFar tries pairs of routes that reach far over the chart.
func TestPromise94RoutesCrossFar(t *testing.T) {
	random := newRandom()
	crossing := 0
	for range 50000 {
		chart := randomChart(random, 2, 0, 21)
		checkHolds(t, fmt.Sprintf("RoutesCross(%v, 0, 1)", chart), impl.RoutesCross(chart, 0, 1), meet(chart[0], chart[1]))
		if meet(chart[0], chart[1]) {
			crossing++
		}
	}
	if crossing < 5000 || crossing > 45000 {
		t.Fatalf("%d pairs cross", crossing)
	}
}

func TestPromise94RoutesCrossEdges(t *testing.T) {
	for _, pair := range touching() {
		for _, chart := range variantsOf(pair.chart) {
			call := fmt.Sprintf("(%s: %v)", pair.name, chart)
			checkHolds(t, "RoutesCross"+call, impl.RoutesCross(chart, 0, 1) || impl.RoutesCross(chart, 1, 0), false)
			checkNumber(t, "ChartCrossings"+call, impl.ChartCrossings(chart), 0)
			checkFails(t, "RouteAbove"+call, impl.RouteAbove(chart, 0), false)
			checkNumber(t, "RouteClear"+call, impl.RouteClear(chart, 0), 0)
			checkNumber(t, "LiftMany"+call, impl.LiftMany(chart), 2)
			checkNumber(t, "LiftRounds"+call, impl.LiftRounds(chart), 1)
			checkList(t, "LiftFirst"+call, mustFirst(t, chart), true, []int{0, 1})
			checkHolds(t, "LiftValid of 1, 0 "+call, impl.LiftValid(chart, []int{1, 0}), true)
		}
	}
	for _, pair := range across() {
		for _, chart := range variantsOf(pair.chart) {
			call := fmt.Sprintf("(%s: %v)", pair.name, chart)
			checkHolds(t, "RoutesCross"+call, impl.RoutesCross(chart, 0, 1) && impl.RoutesCross(chart, 1, 0), true)
			checkHolds(t, "RoutesCross of one "+call, impl.RoutesCross(chart, 0, 0) || impl.RoutesCross(chart, 1, 1), false)
			checkNumber(t, "ChartCrossings"+call, impl.ChartCrossings(chart), 1)
			checkList(t, "RouteAbove"+call, impl.RouteAbove(chart, 0), true, []int{1})
			checkNumber(t, "RouteClear"+call, impl.RouteClear(chart, 0), 1)
			checkNumber(t, "LiftMany"+call, impl.LiftMany(chart), 1)
			checkNumber(t, "LiftRounds"+call, impl.LiftRounds(chart), 2)
			checkList(t, "LiftFirst"+call, mustFirst(t, chart), true, []int{1, 0})
			checkHolds(t, "LiftValid of 0, 1 "+call, impl.LiftValid(chart, []int{0, 1}), false)
		}
	}
}

func TestPromise95ChartCrossings(t *testing.T) {
	for _, chart := range sampleCharts() {
		call := fmt.Sprintf("ChartCrossings(%v)", chart)
		crossings, all := impl.ChartCrossings(chart), 0
		for k, route := range chart {
			all += len(impl.RouteAbove(chart, k))
			own := 0
			for _, other := range chart {
				if meet(route, other) {
					own++
				}
			}
			left := mustDropRoute(t, chart, k)
			checkNumber(t, fmt.Sprintf("%s without %d", call, k), impl.ChartCrossings(left), crossings-own)
		}
		checkNumber(t, call, crossings, all)
		checkNumber(t, call+" turned", impl.ChartCrossings(mustSwing(t, chart)), crossings)
	}
}

func TestPromise96RouteAbove(t *testing.T) {
	eachRoute(func(chart []impl.Route, k int) {
		call := fmt.Sprintf("RouteAbove(%v, %d)", chart, k)
		above := impl.RouteAbove(chart, k)
		checkList(t, call, above, true, wantAbove(chart, k))
		for i := range chart {
			checkHolds(t, fmt.Sprintf("%s of %d", call, i), slices.Contains(above, i), i > k && impl.RoutesCross(chart, i, k))
		}
		checkHolds(t, call+" and RouteClear", impl.RouteClear(chart, k) >= len(above), true)
	})
}

func TestPromise96RouteAboveEdges(t *testing.T) {
	for k := range 8 {
		checkList(t, "RouteAbove of the star", impl.RouteAbove(starChart(), k), true, upTo(8)[k+1:])
		checkList(t, "RouteAbove of the weave", impl.RouteAbove(weaveChart(), k), true, upTo(8)[k+1:])
		checkFails(t, "RouteAbove of the line", impl.RouteAbove(lineChart(), k), false)
		checkFails(t, "RouteAbove of the fan", impl.RouteAbove(fanChart(), k), false)
	}
	checkList(t, "RouteAbove of the ring", impl.RouteAbove(ringChart(), 0), true, []int{1, 7})
	checkList(t, "RouteAbove of the ring", impl.RouteAbove(ringChart(), 6), true, []int{7})
	checkFails(t, "RouteAbove of the ring", impl.RouteAbove(ringChart(), 7), false)
	checkList(t, "RouteAbove of the chain", impl.RouteAbove(chainChart(), 3), true, []int{4})
}

func TestPromise97RouteClear(t *testing.T) {
	eachRoute(func(chart []impl.Route, k int) {
		call := fmt.Sprintf("RouteClear(%v, %d)", chart, k)
		heap := impl.RouteClear(chart, k)
		checkNumber(t, call, heap, len(wantHeap(chart, k)))
		above := impl.RouteAbove(chart, k)
		checkHolds(t, call+" of 0", heap == 0, len(above) == 0)
		checkHolds(t, call+" at most", heap < len(chart), true)
		for _, i := range above {
			checkHolds(t, fmt.Sprintf("%s of %d above", call, i), impl.RouteClear(chart, i) < heap, true)
		}
		checkNumber(t, call+" of the last one", impl.RouteClear(chart, len(chart)-1), 0)
	})
}

func TestPromise98LiftValid(t *testing.T) {
	exchanges := 0
	eachOrder(func(chart []impl.Route, order []int) {
		call := fmt.Sprintf("LiftValid(%v, %v)", chart, order)
		checkHolds(t, call, impl.LiftValid(chart, order), true)
		for k := range chart {
			for _, i := range impl.RouteAbove(chart, k) {
				checkHolds(t, fmt.Sprintf("%s with %d ahead of %d", call, i, k), slices.Index(order, i) < slices.Index(order, k), true)
			}
		}
		for place := 1; place < len(order); place++ {
			other := slices.Clone(order)
			other[place-1], other[place] = order[place], order[place-1]
			cross := impl.RoutesCross(chart, order[place-1], order[place])
			checkHolds(t, fmt.Sprintf("LiftValid(%v, %v)", chart, other), impl.LiftValid(chart, other), !cross)
			if !cross {
				exchanges++
			}
		}
	})
	if exchanges < 1000 {
		t.Fatalf("only %d neighbors could be exchanged", exchanges)
	}
}

// TestPromise98LiftValidAll tries all orders of up to 5 routes, and random ones of more.
func TestPromise98LiftValidAll(t *testing.T) {
	plans := [][][]int{}
	for many := range 6 {
		plans = append(plans, plansOf(many))
	}
	random := newRandom()
	for _, chart := range sampleCharts() {
		orders := [][]int{upTo(len(chart)), reversed(upTo(len(chart)))}
		for range 50 {
			orders = append(orders, random.Perm(len(chart)))
		}
		if len(chart) < len(plans) {
			orders = plans[len(chart)]
		}
		for _, order := range orders {
			checkHolds(t, fmt.Sprintf("LiftValid(%v, %v)", chart, order), impl.LiftValid(chart, order), isLifting(chart, order))
		}
	}
}

func TestPromise98LiftValidInvalid(t *testing.T) {
	checkHolds(t, "LiftValid(nil, nil)", impl.LiftValid(nil, nil), true)
	for _, order := range [][]int{{0}, {-1}, {1}, {0, 1}, make([]int, 256)} {
		checkHolds(t, fmt.Sprintf("LiftValid(nil, %v)", order), impl.LiftValid(nil, order), false)
	}
	for _, l := range layouts() {
		for _, order := range badLiftings(l.first) {
			checkHolds(t, fmt.Sprintf("LiftValid(%v, %v)", l.chart, order), impl.LiftValid(l.chart, order), false)
		}
		checkHolds(t, fmt.Sprintf("LiftValid(%v, nil)", l.chart), impl.LiftValid(l.chart, nil), len(l.chart) == 0)
		if l.crossings > 0 {
			checkHolds(t, fmt.Sprintf("LiftValid(%v) the other way", l.chart), impl.LiftValid(l.chart, reversed(l.first)), false)
		}
	}
}

func TestPromise99LiftFirst(t *testing.T) {
	for _, chart := range sampleCharts() {
		call := fmt.Sprintf("LiftFirst(%v)", chart)
		order := mustFirst(t, chart)
		checkHolds(t, call+" and LiftValid", impl.LiftValid(chart, order), true)
		checkList(t, call, order, true, liftings(chart)[0])
		for place := 1; place < len(order); place++ {
			if order[place] < order[place-1] {
				other := slices.Clone(order)
				other[place-1], other[place] = order[place], order[place-1]
				checkHolds(t, fmt.Sprintf("LiftValid(%v, %v)", chart, other), impl.LiftValid(chart, other), false)
			}
		}
		if impl.ChartCrossings(chart) == 0 {
			checkList(t, call+" without crossings", order, true, upTo(len(chart)))
		}
	}
}

func TestPromise100LiftMany(t *testing.T) {
	for _, chart := range sampleCharts() {
		call := fmt.Sprintf("LiftMany(%v)", chart)
		many := impl.LiftMany(chart)
		checkNumber(t, call, many, len(liftings(chart)))
		if len(chart) == 0 {
			continue
		}
		all := 0
		for k := range chart {
			lies := false
			for i := range k {
				lies = lies || impl.RoutesCross(chart, i, k)
			}
			if !lies {
				all += impl.LiftMany(mustDropRoute(t, chart, k))
			}
		}
		checkNumber(t, call+" by the last one", many, all)
	}
}

func TestPromise101LiftRounds(t *testing.T) {
	for _, chart := range sampleCharts() {
		call := fmt.Sprintf("LiftRounds(%v)", chart)
		rounds := impl.LiftRounds(chart)
		checkNumber(t, call, rounds, wantRounds(chart))
		checkHolds(t, call+" at most", rounds <= len(chart), true)
		checkHolds(t, call+" of 1", rounds == 1, len(chart) > 0 && impl.ChartCrossings(chart) == 0)
		for k := range chart {
			left := impl.LiftRounds(mustDropRoute(t, chart, k))
			outer := k == 0 || k == len(chart)-1
			checkHolds(t, fmt.Sprintf("%s without %d", call, k), left <= rounds && 2*left >= rounds-1 && (!outer || left >= rounds-1), true)
		}
	}
}

// TestPromise101LiftRoundsMiddle drops a route on which all others lie one on the other.
func TestPromise101LiftRoundsMiddle(t *testing.T) {
	chain := chainChart()
	for k, rounds := range []int{7, 6, 5, 4, 4, 5, 6, 7} {
		checkNumber(t, fmt.Sprintf("LiftRounds of the chain without %d", k), impl.LiftRounds(mustDropRoute(t, chain, k)), rounds)
	}
	checkNumber(t, "LiftRounds of half a chain", impl.LiftRounds(mustDropRoute(t, chain[:7], 3)), 3)
	checkNumber(t, "LiftMany of half a chain", impl.LiftMany(mustDropRoute(t, chain[:7], 3)), 20)
}

func TestPromise102ChartDrop(t *testing.T) {
	eachRoute(func(chart []impl.Route, k int) {
		call := fmt.Sprintf("ChartDrop(%v, %d)", chart, k)
		left := mustDropRoute(t, chart, k)
		places := without(upTo(len(chart)), k)
		for i, a := range places {
			for j, b := range places {
				checkHolds(t, fmt.Sprintf("%s with %d and %d", call, a, b), impl.RoutesCross(left, i, j), impl.RoutesCross(chart, a, b))
			}
		}
		if k == 0 || k == len(chart)-1 {
			checkHolds(t, call+" and LiftMany", impl.LiftMany(chart) >= impl.LiftMany(left), true)
		}
	})
}

func TestPromise103ChartTurn(t *testing.T) {
	turned, ok := impl.ChartTurn(nil)
	checkRoutes(t, "ChartTurn(nil)", turned, ok, nil)
	random := newRandom()
	for _, chart := range sampleCharts() {
		call := fmt.Sprintf("ChartTurn(%v)", chart)
		turned := mustSwing(t, chart)
		again, ok := impl.ChartTurn(turned)
		checkRoutes(t, call+" again", again, ok, chart)
		checkList(t, "LiftFirst of "+call, mustFirst(t, turned), true, mustFirst(t, chart))
		checkNumber(t, "LiftRounds of "+call, impl.LiftRounds(turned), impl.LiftRounds(chart))
		for k := range chart {
			for range 10 {
				x, y := random.Intn(21), random.Intn(21)
				side, ok := impl.RouteSide(chart, k, x, y)
				checkHolds(t, fmt.Sprintf("RouteSide(%v, %d, %d, %d)", chart, k, x, y), ok, true)
				checkSide(t, turned, k, y, x, -side)
			}
		}
	}
}

func TestPromise104RouteSide(t *testing.T) {
	random := newRandom()
	for _, chart := range sampleCharts() {
		back := changedChart(chart, swapped)
		for k, route := range chart {
			checkSide(t, chart, k, route.Ax, route.Ay, 0)
			checkSide(t, chart, k, route.Bx, route.By, 0)
			for range 30 {
				x, y := random.Intn(21), random.Intn(21)
				want := wantSide(route, x, y)
				checkSide(t, chart, k, x, y, want)
				checkSide(t, back, k, x, y, -want)
			}
		}
	}
}

// TestPromise104RouteSideAll tries all points of small squares with all routes, and of the chart with some.
func TestPromise104RouteSideAll(t *testing.T) {
	for _, least := range []int{0, 17} {
		for _, route := range routesOn(least, 4) {
			for _, p := range rowsOf(4, 2) {
				checkSide(t, []impl.Route{route}, 0, least+p[0], least+p[1], wantSide(route, least+p[0], least+p[1]))
			}
		}
	}
	for k, route := range starChart() {
		for _, p := range rowsOf(21, 2) {
			checkSide(t, starChart(), k, p[0], p[1], wantSide(route, p[0], p[1]))
		}
	}
}

func TestPromise104RouteSideEdges(t *testing.T) {
	chart := chartOf(5, 5, 15, 5, 15, 5, 5, 5, 5, 5, 5, 15, 5, 15, 5, 5, 5, 5, 15, 15, 15, 15, 5, 5, 5, 15, 15, 5, 0, 0, 20, 10)
	// On the route, at its ends, and on its line ahead of it and behind it.
	on := [][]int{
		{10, 5, 5, 5, 15, 5, 0, 5, 20, 5, 4, 5, 16, 5},
		{10, 5, 5, 5, 15, 5, 0, 5, 20, 5, 4, 5, 16, 5},
		{5, 10, 5, 5, 5, 15, 5, 0, 5, 20, 5, 4, 5, 16},
		{5, 10, 5, 5, 5, 15, 5, 0, 5, 20, 5, 4, 5, 16},
		{10, 10, 5, 5, 15, 15, 0, 0, 20, 20, 4, 4, 16, 16},
		{10, 10, 5, 5, 15, 15, 0, 0, 20, 20, 4, 4, 16, 16},
		{10, 10, 5, 15, 15, 5, 0, 20, 20, 0, 4, 16, 16, 4},
		{10, 5, 0, 0, 20, 10, 2, 1, 18, 9},
	}
	for k, numbers := range on {
		for p := range slices.Chunk(numbers, 2) {
			checkSide(t, chart, k, p[0], p[1], 0)
		}
	}
	left := []int{10, 6, 10, 4, 4, 10, 6, 10, 9, 10, 10, 9, 10, 11, 0, 1}
	right := []int{10, 4, 10, 6, 6, 10, 4, 10, 10, 9, 9, 10, 10, 9, 20, 9}
	for k := range chart {
		checkSide(t, chart, k, left[2*k], left[2*k+1], 1)
		checkSide(t, chart, k, right[2*k], right[2*k+1], -1)
	}
	for _, x := range []int{0, 20} {
		checkSide(t, chartOf(0, 0, 20, 20), 0, x, 20-x, 1-x/10)
	}
}

func TestPromise104RouteSideInvalid(t *testing.T) {
	for _, chart := range [][]impl.Route{chartOf(0, 0, 20, 20), lineChart(), starChart(), chainChart()} {
		for k := range chart {
			for _, wrong := range append(farNumbers(), -20, -2, -1, 21, 22, 256, 266, 1<<32, 1<<32+10) {
				for _, right := range []int{0, 10, 20, wrong} {
					checkNoSide(t, chart, k, wrong, right)
					checkNoSide(t, chart, k, right, wrong)
				}
			}
			for _, right := range []int{0, 20} {
				checkSide(t, chart, k, right, right, wantSide(chart[k], right, right))
				checkSide(t, chart, k, 20-right, right, wantSide(chart[k], 20-right, right))
			}
		}
	}
}

// TestCrossingsAgain calls each function twice with the same arguments.
func TestCrossingsAgain(t *testing.T) {
	for _, l := range layouts() {
		for range 2 {
			checkList(t, "LiftFirst of "+l.name, mustFirst(t, l.chart), true, l.first)
			checkNumber(t, "LiftMany of "+l.name, impl.LiftMany(l.chart), l.many)
			checkNumber(t, "LiftRounds of "+l.name, impl.LiftRounds(l.chart), l.rounds)
			checkNumber(t, "ChartCrossings of "+l.name, impl.ChartCrossings(l.chart), l.crossings)
		}
	}
}

// TestCrossingsMemory changes what is returned, up to its capacity, and checks that neither another result nor an argument changes.
func TestCrossingsMemory(t *testing.T) {
	calls := map[string]func(chart []impl.Route, order []int) ([]int, []impl.Route){
		"RouteAbove": func(chart []impl.Route, order []int) ([]int, []impl.Route) { return impl.RouteAbove(chart, 0), nil },
		"LiftFirst": func(chart []impl.Route, order []int) ([]int, []impl.Route) {
			first, _ := impl.LiftFirst(chart)
			return first, nil
		},
		"ChartDrop first": func(chart []impl.Route, order []int) ([]int, []impl.Route) {
			left, _ := impl.ChartDrop(chart, 0)
			return nil, left
		},
		"ChartDrop last": func(chart []impl.Route, order []int) ([]int, []impl.Route) {
			left, _ := impl.ChartDrop(chart, 3)
			return nil, left
		},
		"ChartTurn": func(chart []impl.Route, order []int) ([]int, []impl.Route) {
			turned, _ := impl.ChartTurn(chart)
			return nil, turned
		},
		"the others": func(chart []impl.Route, order []int) ([]int, []impl.Route) {
			impl.ChartValid(chart)
			impl.RoutesCross(chart, 0, 1)
			impl.ChartCrossings(chart)
			impl.RouteClear(chart, 0)
			impl.LiftValid(chart, order)
			impl.LiftMany(chart)
			impl.LiftRounds(chart)
			impl.RouteSide(chart, 0, 3, 4)
			return order[:1:1], chart[:1:1]
		},
	}
	for name, call := range calls {
		chart, order := starChart(), []int{3, 2, 1, 0, 9, 8, 7}
		chartBefore, orderBefore := slices.Clone(chart), slices.Clone(order)
		list, routes := call(chart[:4], order[:4])
		list2, routes2 := call(chart[:4], order[:4])
		listKept, routesKept := slices.Clone(list2), slices.Clone(routes2)
		if len(list)+len(routes) < 2 {
			t.Fatalf("%s returned %v, %v", name, list, routes)
		}
		if name != "the others" {
			clear(routes[:cap(routes)])
			for i := range list[:cap(list)] {
				list[:cap(list)][i] = -7
			}
		}
		if !slices.Equal(chart, chartBefore) || !slices.Equal(order, orderBefore) || !slices.Equal(list2, listKept) || !slices.Equal(routes2, routesKept) {
			t.Fatalf("%s: its result shares memory, or it changes an argument: %v, %v", name, chart, order)
		}
	}
}
