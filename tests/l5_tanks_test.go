package tests

import (
	"fmt"
	"math/rand"
	"slices"
	"testing"

	"loop.example/cableship/impl"
)

// The tests of chapter 5 hold the program against coils that are piled up and paid out one by one, all ways to stow, and all sets of coils.

// upTo returns the orders of so many coils of which no two agree.
func upTo(coils int) []int {
	orders := []int{}
	for number := range coils {
		orders = append(orders, number)
	}
	return orders
}

// edgeOrders are orders at the document's limits: of no coils, of one, in which all or none agree, and that need just as many tanks as there are, or more.
func edgeOrders() [][]int {
	return [][]int{
		{}, {0}, {1, 0}, {0, 1}, {2, 0, 3, 1},
		upTo(3), upTo(5), upTo(6), upTo(9), upTo(10), reversed(upTo(3)), reversed(upTo(5)), reversed(upTo(9)), reversed(upTo(10)),
		{1, 0, 3, 2, 5, 4, 7, 6, 9, 8}, {1, 0, 3, 2, 5, 4, 7, 6, 8, 9}, {8, 9, 6, 7, 4, 5, 2, 3, 0, 1}, {5, 6, 7, 8, 9, 0, 1, 2, 3, 4}, {4, 3, 2, 1, 0, 9, 8, 7, 6, 5},
		{9, 0, 8, 1, 7, 2, 6, 3, 5, 4}, {0, 9, 1, 8, 2, 7, 3, 6, 4, 5}, {9, 0, 1, 2, 3, 4, 5, 6, 7, 8}, {1, 2, 3, 4, 5, 6, 7, 8, 9, 0}, {5, 0, 1, 2, 3, 4}, {0, 1, 2, 3, 5, 4, 6},
		{2, 5, 8, 1, 4, 7, 0, 3, 6, 9}, {6, 3, 0, 7, 4, 1, 8, 5, 2, 9}, {4, 0, 5, 1, 6, 2, 7, 3, 8, 9},
	}
}

// allOrders are all orders of at most so many coils.
func allOrders(most int) [][]int {
	rows := [][]int{{}}
	all := rows
	for coils := 1; coils <= most; coils++ {
		longer := [][]int{}
		for _, row := range rows {
			for place := range coils {
				longer = append(longer, slices.Insert(slices.Clone(row), place, coils-1))
			}
		}
		rows = longer
		all = append(all, rows...)
	}
	return all
}

// sampleOrders are the edge orders, all orders of a few coils, and random ones of up to the most, which need few tanks or many.
func sampleOrders() [][]int {
	lists := append(edgeOrders(), allOrders(6)...)
	random := newRandom()
	for coils := 7; coils <= 10; coils++ {
		for range 40 {
			lists = append(lists, random.Perm(coils))
			nearly := upTo(coils) // few of these coils agree, so that many tanks are needed
			for range 1 + random.Intn(4) {
				a, b := random.Intn(coils), random.Intn(coils)
				nearly[a], nearly[b] = nearly[b], nearly[a]
			}
			lists = append(lists, nearly)
		}
	}
	return lists
}

// badOrders are lists that are no orders.
func badOrders() [][]int {
	bad := [][]int{
		{1}, {-1}, {0, 0}, {1, 1}, {0, 2}, {2, 1}, {1, 2}, {-1, 0}, {0, -1}, {1, 2, 3}, {3, 2, 1}, {0, 1, 1}, {0, 2, 2}, {0, 1, 3}, {0, 1, 2, 3, 4, 5, 6, 7, 8, 8}, {1, 2, 3, 4, 5, 6, 7, 8, 9, 10}, {9, 8, 7, 6, 5, 4, 3, 2, 1, 1},
		upTo(11), reversed(upTo(11)), upTo(12), upTo(500), repeated(0, 10), repeated(0, 11), repeated(0, 500), append(upTo(10), 9), append(upTo(10), 0), append(reversed(upTo(10)), 10), {5, 6, 7, 8, 9, 10, 0, 1, 2, 3, 4},
	}
	for _, orders := range [][]int{{0}, {1, 0}, {0, 1}, {2, 0, 3, 1}, upTo(10), reversed(upTo(10)), {6, 3, 0, 7, 4, 1, 8, 5, 2, 9}} {
		for coil := range orders {
			wrong := append(farNumbers(), -2, -1, len(orders), len(orders)+1, 10, 256, -256, 1<<32, 1<<32+orders[coil])
			if other := orders[(coil+1)%len(orders)]; len(orders) > 1 {
				wrong = append(wrong, other)
			}
			for _, number := range wrong {
				list := slices.Clone(orders)
				list[coil] = number
				bad = append(bad, list)
			}
		}
	}
	return bad
}

// coilsAgree reports whether the one of two coils that is loaded first is paid out last.
func coilsAgree(orders []int, a int, b int) bool {
	return a < b && orders[a] > orders[b] || b < a && orders[b] > orders[a]
}

// ranksOf returns the orders of coils that are paid out in the order of different numbers.
func ranksOf(numbers []int) []int {
	ranks := make([]int, len(numbers))
	for i, number := range numbers {
		for _, other := range numbers {
			if other < number {
				ranks[i]++
			}
		}
	}
	return ranks
}

// without returns a list without the number at a place.
func without(list []int, place int) []int {
	return slices.Delete(slices.Clone(list), place, place+1)
}

// wantOut piles all coils up in tanks and pays them out, and returns the tanks from which they come, or false if one is not on top.
func wantOut(orders []int, tanks []int) ([]int, bool) {
	piles := map[int][]int{}
	for coil, tank := range tanks {
		piles[tank] = append(piles[tank], coil)
	}
	from := []int{}
	for number := range orders {
		coil := slices.Index(orders, number)
		tank := tanks[coil]
		top := len(piles[tank]) - 1
		if piles[tank][top] != coil {
			return nil, false
		}
		piles[tank] = piles[tank][:top]
		from = append(from, tank)
	}
	return from, true
}

// wantMake puts each coil into the first of five tanks that is empty or on whose top is a coil that is paid out later; false if one finds none.
func wantMake(orders []int) ([]int, bool) {
	tops := []int{99, 99, 99, 99, 99} // an empty tank is as one with a coil that is paid out behind all others
	tanks := []int{}
	for _, number := range orders {
		tank := slices.IndexFunc(tops, func(top int) bool { return top > number })
		if tank < 0 {
			return nil, false
		}
		tops[tank] = number
		tanks = append(tanks, tank)
	}
	return tanks, true
}

// canStow tries all ways to put coils into tanks with some coils on top and further ones, at most so many.
func canStow(orders []int, tops []int, most int) bool {
	if len(orders) == 0 {
		return true
	}
	for tank, top := range tops {
		if top > orders[0] {
			with := slices.Clone(tops)
			with[tank] = orders[0]
			if canStow(orders[1:], with, most) {
				return true
			}
		}
	}
	return len(tops) < most && canStow(orders[1:], append(slices.Clone(tops), orders[0]), most)
}

func wantLeast(orders []int) int {
	tanks := 0
	for !canStow(orders, nil, tanks) {
		tanks++
	}
	return tanks
}

// wantLongest tries all sets of coils and returns the greatest one of which no two agree, the first one of several.
func wantLongest(orders []int) []int {
	best := []int{}
	for number := range 1 << len(orders) {
		coils := indexesOf(number)
		longer := len(coils) > len(best) || len(coils) == len(best) && slices.Compare(coils, best) < 0
		if longer && noneAgrees(orders, coils) {
			best = coils
		}
	}
	return best
}

// noneAgrees reports whether no two of some coils agree.
func noneAgrees(orders []int, coils []int) bool {
	for _, a := range coils {
		for _, b := range coils {
			if coilsAgree(orders, a, b) {
				return false
			}
		}
	}
	return true
}

// wantBack returns the orders turned, coil by coil as the document says it.
func wantBack(orders []int) []int {
	back := []int{}
	last := len(orders) - 1
	for i := range orders {
		coil := slices.Index(orders, last-i)
		back = append(back, last-coil)
	}
	return back
}

// coilsIn returns the number of coils in each tank with any.
func coilsIn(tanks []int) map[int]int {
	coils := map[int]int{}
	for _, tank := range tanks {
		coils[tank]++
	}
	return coils
}

// randomStowage puts each coil into any tank where it can be paid out in time; it has fewer tanks than coils if some coil finds none.
func randomStowage(random *rand.Rand, orders []int) []int {
	tops := []int{99, 99, 99, 99, 99}
	tanks := []int{}
	for _, number := range orders {
		for _, tank := range random.Perm(5) {
			if tops[tank] > number {
				tops[tank] = number
				tanks = append(tanks, tank)
				break
			}
		}
	}
	return tanks
}

// sampleTanks are lists with a tank for each coil of orders: all of them for a few coils, else stowages and some with one coil in another tank.
func sampleTanks(random *rand.Rand, orders []int) [][]int {
	if len(orders) <= 4 {
		return rowsOf(5, len(orders))
	}
	rows := [][]int{}
	for range 6 {
		tanks := randomStowage(random, orders)
		if len(tanks) < len(orders) {
			continue
		}
		rows = append(rows, tanks)
		for range 6 {
			other := slices.Clone(tanks)
			other[random.Intn(len(other))] = random.Intn(5)
			rows = append(rows, other)
		}
	}
	return append(rows, repeated(0, len(orders)), repeated(4, len(orders)))
}

// eachTanks calls a function with sample orders, lists with a tank for each coil, and whether they are stowages.
func eachTanks(check func(orders []int, tanks []int, stowed bool)) {
	random := newRandom()
	for _, orders := range sampleOrders() {
		for _, tanks := range sampleTanks(random, orders) {
			_, stowed := wantOut(orders, tanks)
			check(orders, tanks, stowed)
		}
	}
}

// eachStowage calls a function with sample orders and stowages of them.
func eachStowage(check func(orders []int, tanks []int)) {
	eachTanks(func(orders []int, tanks []int, stowed bool) {
		if stowed {
			check(orders, tanks)
		}
	})
}

// checkNoOrders checks what is said of a list that is no orders.
func checkNoOrders(t *testing.T, orders []int) {
	t.Helper()
	call := fmt.Sprintf("of %v", orders)
	checkHolds(t, "OrdersValid "+call, impl.OrdersValid(orders), false)
	checkNumber(t, "OrdersPairs "+call, impl.OrdersPairs(orders), -1)
	checkNumber(t, "TanksLeast "+call, impl.TanksLeast(orders), -1)
	got, ok := impl.StowageMake(orders)
	checkFails(t, "StowageMake "+call, got, ok)
	got, ok = impl.OrdersLongest(orders)
	checkFails(t, "OrdersLongest "+call, got, ok)
	got, ok = impl.OrdersBack(orders)
	checkFails(t, "OrdersBack "+call, got, ok)
}

// checkNoStowage checks what is said of two lists of which the second one is no stowage.
func checkNoStowage(t *testing.T, orders []int, tanks []int) {
	t.Helper()
	call := fmt.Sprintf("(%v, %v)", orders, tanks)
	checkHolds(t, "StowageValid"+call, impl.StowageValid(orders, tanks), false)
	checkNumber(t, "StowageTanks"+call, impl.StowageTanks(orders, tanks), -1)
	checkNumber(t, "StowageMost"+call, impl.StowageMost(orders, tanks), -1)
	got, ok := impl.StowageOut(orders, tanks)
	checkFails(t, "StowageOut"+call, got, ok)
}

// mustTurn returns OrdersBack of orders.
func mustTurn(t *testing.T, orders []int) []int {
	t.Helper()
	back, ok := impl.OrdersBack(orders)
	checkHolds(t, fmt.Sprintf("OrdersBack(%v)", orders), ok, true)
	return back
}

// mustDrop returns OrdersDrop of orders.
func mustDrop(t *testing.T, orders []int, i int) []int {
	t.Helper()
	left, ok := impl.OrdersDrop(orders, i)
	checkHolds(t, fmt.Sprintf("OrdersDrop(%v, %d)", orders, i), ok, true)
	return left
}

func TestTankConstants(t *testing.T) {
	checkNumber(t, "CoilsMax", impl.CoilsMax, 10)
	checkNumber(t, "TanksMax", impl.TanksMax, 5)
}

func TestOrdersValid(t *testing.T) {
	checkHolds(t, "OrdersValid(nil)", impl.OrdersValid(nil), true)
	for _, orders := range sampleOrders() {
		checkHolds(t, fmt.Sprintf("OrdersValid(%v)", orders), impl.OrdersValid(orders), true)
	}
	for size := 1; size <= 5; size++ {
		for _, row := range rowsOf(size+1, size) {
			sorted := slices.Sorted(slices.Values(row))
			checkHolds(t, fmt.Sprintf("OrdersValid(%v)", row), impl.OrdersValid(row), slices.Equal(sorted, upTo(size)))
		}
	}
}

func TestPromises49To59NoOrders(t *testing.T) {
	for _, orders := range badOrders() {
		checkNoOrders(t, orders)
		for _, a := range []int{-1, 0, 1, 2, len(orders) - 1, len(orders)} {
			for _, b := range []int{-1, 0, 1, 2, len(orders) - 1, len(orders)} {
				checkHolds(t, fmt.Sprintf("OrdersAgree(%v, %d, %d)", orders, a, b), impl.OrdersAgree(orders, a, b), false)
			}
			got, ok := impl.OrdersDrop(orders, a)
			checkFails(t, fmt.Sprintf("OrdersDrop(%v, %d)", orders, a), got, ok)
		}
		spread := []int{}
		for coil := range orders {
			spread = append(spread, coil%5)
		}
		for _, tanks := range [][]int{nil, {0}, repeated(0, len(orders)), repeated(4, len(orders)), spread, slices.Clone(orders)} {
			checkNoStowage(t, orders, tanks)
		}
	}
}

func TestPromise49OrdersAgree(t *testing.T) {
	for _, orders := range sampleOrders() {
		for a := -1; a <= len(orders); a++ {
			for b := -1; b <= len(orders); b++ {
				call := fmt.Sprintf("OrdersAgree(%v, %d, %d)", orders, a, b)
				got := impl.OrdersAgree(orders, a, b)
				if min(a, b) < 0 || max(a, b) == len(orders) || a == b {
					checkHolds(t, call, got, false)
					continue
				}
				checkHolds(t, call, got, coilsAgree(orders, a, b))
				checkHolds(t, call+" exchanged", impl.OrdersAgree(orders, b, a), got)
				pair := ranksOf([]int{orders[min(a, b)], orders[max(a, b)]})
				for tank := range 5 {
					checkHolds(t, fmt.Sprintf("%s: both in the tank %d", call, tank), impl.StowageValid(pair, []int{tank, tank}), got)
				}
			}
		}
	}
}

func TestPromise49OrdersAgreeEdges(t *testing.T) {
	for _, c := range []struct {
		orders []int
		a, b   int
		want   bool
	}{
		{nil, 0, 0, false}, {nil, 0, 1, false}, {[]int{0}, 0, 0, false}, {[]int{0}, 0, 1, false}, {[]int{0}, -1, 0, false},
		{[]int{1, 0}, 0, 1, true}, {[]int{1, 0}, 1, 0, true}, {[]int{1, 0}, 0, 0, false}, {[]int{1, 0}, 1, 1, false}, {[]int{0, 1}, 0, 1, false}, {[]int{0, 1}, 1, 0, false},
		{[]int{2, 0, 3, 1}, 0, 1, true}, {[]int{2, 0, 3, 1}, 3, 0, true}, {[]int{2, 0, 3, 1}, 2, 3, true}, {[]int{2, 0, 3, 1}, 0, 2, false}, {[]int{2, 0, 3, 1}, 2, 1, false}, {[]int{2, 0, 3, 1}, 1, 3, false},
		{reversed(upTo(10)), 0, 9, true}, {reversed(upTo(10)), 9, 8, true}, {upTo(10), 0, 9, false}, {upTo(10), 9, 8, false}, {reversed(upTo(10)), 9, 10, false}, {reversed(upTo(10)), 10, 9, false},
	} {
		checkHolds(t, fmt.Sprintf("OrdersAgree(%v, %d, %d)", c.orders, c.a, c.b), impl.OrdersAgree(c.orders, c.a, c.b), c.want)
	}
	for _, orders := range edgeOrders() {
		for _, far := range append(farNumbers(), -10, -1, len(orders), len(orders)+1, 10) {
			for coil := range orders {
				for _, pair := range [][]int{{coil, far}, {far, coil}, {far, far}} {
					checkHolds(t, fmt.Sprintf("OrdersAgree(%v, %v)", orders, pair), impl.OrdersAgree(orders, pair[0], pair[1]), false)
				}
			}
		}
	}
}

func TestPromise50OrdersPairs(t *testing.T) {
	for _, orders := range sampleOrders() {
		call := fmt.Sprintf("OrdersPairs(%v)", orders)
		got := impl.OrdersPairs(orders)
		agree, others := 0, 0
		for b := range orders {
			for a := range b {
				if impl.OrdersAgree(orders, a, b) {
					agree++
				}
				if !coilsAgree(orders, a, b) {
					others++
				}
			}
		}
		checkNumber(t, call, got, others)
		checkNumber(t, "the pairs that agree and "+call, agree+got, len(orders)*(len(orders)-1)/2)
		checkNumber(t, call+" turned", impl.OrdersPairs(mustTurn(t, orders)), got)
		checkHolds(t, fmt.Sprintf("TanksLeast(%v) <= 1", orders), impl.TanksLeast(orders) <= 1, got == 0)
	}
}

func TestPromise50OrdersPairsEdges(t *testing.T) {
	for _, c := range []struct {
		orders []int
		want   int
	}{
		{nil, 0}, {[]int{}, 0}, {[]int{0}, 0}, {[]int{1, 0}, 0}, {[]int{0, 1}, 1}, {[]int{2, 0, 3, 1}, 3}, {[]int{2, 1, 0}, 0}, {[]int{0, 1, 2}, 3}, {[]int{1, 0, 2}, 2},
		{upTo(10), 45}, {reversed(upTo(10)), 0}, {[]int{1, 0, 3, 2, 5, 4, 7, 6, 9, 8}, 40}, {[]int{9, 8, 7, 6, 5, 4, 3, 2, 0, 1}, 1},
	} {
		checkNumber(t, fmt.Sprintf("OrdersPairs(%v)", c.orders), impl.OrdersPairs(c.orders), c.want)
	}
}

func TestPromise51StowageValid(t *testing.T) {
	valid, others := 0, 0
	eachTanks(func(orders []int, tanks []int, stowed bool) {
		call := fmt.Sprintf("StowageValid(%v, %v)", orders, tanks)
		checkHolds(t, call, impl.StowageValid(orders, tanks), stowed)
		agree := true
		for b := range tanks {
			for a := range b {
				agree = agree && (tanks[a] != tanks[b] || impl.OrdersAgree(orders, a, b))
			}
		}
		checkHolds(t, "that all coils of one tank agree, and "+call, agree, stowed)
		if !stowed {
			others++
			return
		}
		valid++
		for coil := range orders {
			checkHolds(t, fmt.Sprintf("%s without the coil %d", call, coil), impl.StowageValid(mustDrop(t, orders, coil), without(tanks, coil)), true)
		}
		checkMoved(t, orders, tanks)
	})
	if valid < 1000 || others < 1000 {
		t.Fatalf("%d lists are stowages, %d are not", valid, others)
	}
}

// checkMoved puts all coils of each tank into each one that is empty.
func checkMoved(t *testing.T, orders []int, tanks []int) {
	t.Helper()
	for from := range 5 {
		for to := range 5 {
			if slices.Contains(tanks, to) {
				continue
			}
			moved := slices.Clone(tanks)
			for coil := range moved {
				if moved[coil] == from {
					moved[coil] = to
				}
			}
			checkHolds(t, fmt.Sprintf("StowageValid(%v, %v)", orders, moved), impl.StowageValid(orders, moved), true)
		}
	}
}

func TestPromise51StowageValidEdges(t *testing.T) {
	orders := []int{2, 0, 3, 1}
	for _, c := range []struct {
		orders []int
		tanks  []int
		want   bool
	}{
		{nil, nil, true}, {[]int{}, []int{}, true}, {nil, []int{0}, false}, {[]int{0}, nil, false}, {[]int{0}, []int{0}, true}, {[]int{0}, []int{4}, true}, {[]int{0}, []int{5}, false}, {[]int{0}, []int{-1}, false}, {[]int{0}, []int{0, 0}, false},
		{[]int{1, 0}, []int{0, 0}, true}, {[]int{1, 0}, []int{4, 4}, true}, {[]int{1, 0}, []int{3, 1}, true}, {[]int{0, 1}, []int{0, 0}, false}, {[]int{0, 1}, []int{4, 4}, false}, {[]int{0, 1}, []int{0, 4}, true}, {[]int{0, 1}, []int{4, 0}, true},
		{orders, []int{0, 0, 1, 1}, true}, {orders, []int{1, 1, 0, 0}, true}, {orders, []int{4, 4, 2, 2}, true}, {orders, []int{0, 1, 2, 0}, true}, {orders, []int{0, 1, 2, 3}, true}, {orders, []int{0, 0, 1, 0}, false}, {orders, []int{0, 0, 0, 1}, false}, {orders, []int{0, 1, 0, 2}, false}, {orders, []int{0, 1, 2, 1}, false},
		{orders, []int{0, 0, 1}, false}, {orders, []int{0, 0, 1, 1, 1}, false}, {orders, []int{0, 0, 1, 1, 2}, false}, {orders, []int{0, 0, 1, 1, 5}, false}, {orders, []int{0, 0, 5, 5}, false}, {orders, []int{0, 0, -1, -1}, false}, {orders, nil, false},
		{reversed(upTo(10)), repeated(0, 10), true}, {reversed(upTo(10)), repeated(4, 10), true}, {reversed(upTo(10)), repeated(5, 10), false}, {reversed(upTo(10)), repeated(0, 9), false}, {reversed(upTo(10)), repeated(0, 11), false}, {reversed(upTo(10)), []int{0, 1, 2, 3, 4, 0, 1, 2, 3, 4}, true},
		{upTo(10), repeated(0, 10), false}, {upTo(10), []int{0, 1, 2, 3, 4, 0, 1, 2, 3, 4}, false}, {upTo(5), []int{4, 2, 0, 1, 3}, true}, {upTo(5), []int{4, 2, 0, 1, 4}, false}, {[]int{1, 0, 3, 2, 5, 4, 7, 6, 9, 8}, []int{0, 0, 1, 1, 2, 2, 3, 3, 4, 4}, true},
	} {
		checkHolds(t, fmt.Sprintf("StowageValid(%v, %v)", c.orders, c.tanks), impl.StowageValid(c.orders, c.tanks), c.want)
	}
}

// TestPromise51StowageValidInvalid checks lists with more or fewer tanks than coils, and with tanks that there are not.
func TestPromise51StowageValidInvalid(t *testing.T) {
	for _, orders := range edgeOrders() {
		tanks, ok := wantMake(orders)
		if !ok {
			tanks = repeated(0, len(orders))
		}
		for _, more := range append(farNumbers(), -1, 0, 1, 4, 5) {
			checkNoStowage(t, orders, append(slices.Clone(tanks), more))
			checkNoStowage(t, orders, append([]int{more}, tanks...))
		}
		checkNoStowage(t, orders, slices.Concat(tanks, tanks, []int{0}))
		checkNoStowage(t, orders, repeated(0, 500))
		for coil := range orders {
			checkNoStowage(t, orders, tanks[:coil])
			for _, tank := range append(farNumbers(), -5, -1, 5, 6, 10, 256, -256, 1<<32) {
				other := slices.Clone(tanks)
				other[coil] = tank
				checkNoStowage(t, orders, other)
			}
		}
	}
}

func TestPromise52StowageMake(t *testing.T) {
	made, others := 0, 0
	for _, orders := range sampleOrders() {
		call := fmt.Sprintf("StowageMake(%v)", orders)
		got, ok := impl.StowageMake(orders)
		want, can := wantMake(orders)
		if !can {
			checkFails(t, call, got, ok)
			others++
			continue
		}
		made++
		checkList(t, call, got, ok, want)
		checkHolds(t, "StowageValid of "+call, impl.StowageValid(orders, got), true)
		least := impl.TanksLeast(orders)
		checkNumber(t, "StowageTanks of "+call, impl.StowageTanks(orders, got), least)
		checkNumber(t, "the greatest tank of "+call, slices.Max(append(got, -1)), least-1)
		for coils := range orders {
			first, ok := impl.StowageMake(ranksOf(orders[:coils]))
			checkList(t, fmt.Sprintf("%s of the first %d coils", call, coils), first, ok, got[:coils])
		}
	}
	if made < 500 || others < 100 {
		t.Fatalf("%d stowages are made, %d are not", made, others)
	}
}

func TestPromise52StowageMakeEdges(t *testing.T) {
	for _, c := range []struct {
		orders []int
		want   []int
	}{
		{nil, nil}, {[]int{}, nil}, {[]int{0}, []int{0}}, {[]int{1, 0}, []int{0, 0}}, {[]int{0, 1}, []int{0, 1}}, {[]int{2, 0, 3, 1}, []int{0, 0, 1, 1}},
		{[]int{1, 2, 0}, []int{0, 1, 0}}, {[]int{0, 2, 1}, []int{0, 1, 1}}, {[]int{1, 3, 2, 0}, []int{0, 1, 1, 0}}, {[]int{2, 3, 4, 1, 0}, []int{0, 1, 2, 0, 0}}, {[]int{2, 3, 4, 0, 1}, []int{0, 1, 2, 0, 1}}, {[]int{0, 2, 4, 3, 1}, []int{0, 1, 2, 2, 1}},
		{reversed(upTo(10)), repeated(0, 10)}, {upTo(5), []int{0, 1, 2, 3, 4}}, {[]int{5, 6, 7, 8, 9, 0, 1, 2, 3, 4}, []int{0, 1, 2, 3, 4, 0, 1, 2, 3, 4}}, {[]int{1, 0, 3, 2, 5, 4, 7, 6, 9, 8}, []int{0, 0, 1, 1, 2, 2, 3, 3, 4, 4}}, {[]int{5, 0, 1, 2, 3, 4}, []int{0, 0, 1, 2, 3, 4}},
		{[]int{9, 0, 8, 1, 7, 2, 6, 3, 5, 4}, []int{0, 0, 1, 1, 2, 2, 3, 3, 4, 4}},
	} {
		got, ok := impl.StowageMake(c.orders)
		checkList(t, fmt.Sprintf("StowageMake(%v)", c.orders), got, ok, c.want)
	}
	for _, orders := range [][]int{upTo(6), upTo(7), upTo(10), {1, 0, 2, 3, 4, 5, 6}, {0, 1, 2, 3, 5, 4, 6}, {9, 0, 1, 2, 3, 4, 5, 8, 7, 6}, {1, 2, 3, 4, 5, 6, 7, 8, 9, 0}, {1, 0, 3, 2, 5, 4, 7, 6, 8, 9}} {
		got, ok := impl.StowageMake(orders)
		checkFails(t, fmt.Sprintf("StowageMake(%v)", orders), got, ok)
	}
}

func TestPromise53StowageTanks(t *testing.T) {
	eachStowage(func(orders []int, tanks []int) {
		call := fmt.Sprintf("StowageTanks(%v, %v)", orders, tanks)
		got := impl.StowageTanks(orders, tanks)
		checkNumber(t, call, got, len(coilsIn(tanks)))
		if got < impl.TanksLeast(orders) || got > len(orders) || got*impl.StowageMost(orders, tanks) < len(orders) {
			t.Fatalf("%s returned %d", call, got)
		}
	})
}

// TestPromises53And59Edges checks stowages with empty tanks between others.
func TestPromises53And59Edges(t *testing.T) {
	down := reversed(upTo(10))
	for _, c := range []struct {
		orders     []int
		tanks      []int
		used, most int
	}{
		{nil, nil, 0, 0}, {[]int{}, []int{}, 0, 0}, {[]int{0}, []int{0}, 1, 1}, {[]int{0}, []int{4}, 1, 1}, {[]int{0, 1}, []int{0, 4}, 2, 1}, {[]int{0, 1}, []int{4, 0}, 2, 1}, {[]int{1, 0}, []int{2, 2}, 1, 2}, {[]int{1, 0}, []int{2, 4}, 2, 1},
		{[]int{2, 0, 3, 1}, []int{0, 0, 1, 1}, 2, 2}, {[]int{2, 0, 3, 1}, []int{4, 4, 1, 1}, 2, 2}, {[]int{2, 0, 3, 1}, []int{3, 0, 4, 3}, 3, 2}, {[]int{2, 0, 3, 1}, []int{0, 3, 4, 1}, 4, 1},
		{down, repeated(0, 10), 1, 10}, {down, repeated(4, 10), 1, 10}, {down, []int{0, 0, 0, 0, 0, 0, 0, 0, 0, 4}, 2, 9}, {down, []int{3, 1, 1, 1, 1, 1, 1, 1, 1, 1}, 2, 9}, {down, []int{4, 2, 0, 4, 2, 0, 4, 2, 0, 4}, 3, 4}, {down, []int{0, 1, 2, 3, 4, 0, 1, 2, 3, 4}, 5, 2}, {upTo(5), []int{3, 4, 0, 2, 1}, 5, 1},
	} {
		call := fmt.Sprintf("(%v, %v)", c.orders, c.tanks)
		checkNumber(t, "StowageTanks"+call, impl.StowageTanks(c.orders, c.tanks), c.used)
		checkNumber(t, "StowageMost"+call, impl.StowageMost(c.orders, c.tanks), c.most)
	}
}

// TestPromises51To59NotInTime checks lists in which a coil lies on one that is paid out earlier.
func TestPromises51To59NotInTime(t *testing.T) {
	checked := 0
	eachTanks(func(orders []int, tanks []int, stowed bool) {
		if !stowed {
			checkNoStowage(t, orders, tanks)
			checked++
		}
	})
	if checked < 1000 {
		t.Fatalf("only %d lists are no stowages", checked)
	}
	for _, tanks := range [][]int{{0, 0}, {1, 1}, {2, 2}, {3, 3}, {4, 4}} {
		checkNoStowage(t, []int{0, 1}, tanks)
	}
	checkNoStowage(t, []int{2, 0, 3, 1}, []int{0, 0, 1, 0})
	checkNoStowage(t, []int{9, 8, 7, 6, 5, 4, 3, 2, 0, 1}, repeated(0, 10))
	checkNoStowage(t, []int{8, 9, 7, 6, 5, 4, 3, 2, 1, 0}, repeated(4, 10))
}

func TestPromise54TanksLeast(t *testing.T) {
	for _, orders := range sampleOrders() {
		call := fmt.Sprintf("TanksLeast(%v)", orders)
		got := impl.TanksLeast(orders)
		checkNumber(t, call, got, wantLeast(orders))
		longest, ok := impl.OrdersLongest(orders)
		checkHolds(t, "OrdersLongest instead of "+call, ok, true)
		checkNumber(t, "the coils of OrdersLongest instead of "+call, len(longest), got)
		_, ok = impl.StowageMake(orders)
		checkHolds(t, "StowageMake instead of "+call, ok, got <= 5)
		for coil := range orders {
			less := impl.TanksLeast(mustDrop(t, orders, coil))
			if less != got && less != got-1 {
				t.Fatalf("%s returned %d, without the coil %d %d", call, got, coil, less)
			}
		}
	}
}

func TestPromise54TanksLeastEdges(t *testing.T) {
	for _, c := range []struct {
		orders []int
		want   int
	}{
		{nil, 0}, {[]int{}, 0}, {[]int{0}, 1}, {[]int{1, 0}, 1}, {[]int{0, 1}, 2}, {[]int{2, 0, 3, 1}, 2}, {reversed(upTo(10)), 1}, {upTo(5), 5}, {upTo(6), 6}, {upTo(9), 9}, {upTo(10), 10},
		{[]int{1, 0, 3, 2, 5, 4, 7, 6, 9, 8}, 5}, {[]int{1, 0, 3, 2, 5, 4, 7, 6, 8, 9}, 6}, {[]int{8, 9, 6, 7, 4, 5, 2, 3, 0, 1}, 2}, {[]int{9, 0, 1, 2, 3, 4, 5, 6, 7, 8}, 9}, {[]int{5, 6, 7, 8, 9, 0, 1, 2, 3, 4}, 5}, {[]int{5, 0, 1, 2, 3, 4}, 5},
	} {
		checkNumber(t, fmt.Sprintf("TanksLeast(%v)", c.orders), impl.TanksLeast(c.orders), c.want)
	}
}

func TestPromise55OrdersLongest(t *testing.T) {
	for _, orders := range sampleOrders() {
		call := fmt.Sprintf("OrdersLongest(%v)", orders)
		got, ok := impl.OrdersLongest(orders)
		checkList(t, call, got, ok, wantLongest(orders))
		for place, coil := range got {
			if place > 0 && (got[place-1] >= coil || orders[got[place-1]] >= orders[coil]) {
				t.Fatalf("%s returned %v", call, got)
			}
			for _, other := range got {
				checkHolds(t, fmt.Sprintf("OrdersAgree of %d and %d of %s", coil, other, call), impl.OrdersAgree(orders, coil, other), false)
			}
		}
		for coil := range orders {
			if slices.Contains(got, coil) {
				continue
			}
			agrees := slices.ContainsFunc(got, func(other int) bool { return impl.OrdersAgree(orders, coil, other) })
			checkHolds(t, fmt.Sprintf("that the coil %d agrees with one of %s", coil, call), agrees, true)
		}
	}
}

func TestPromise55OrdersLongestEdges(t *testing.T) {
	for _, c := range []struct {
		orders []int
		want   []int
	}{
		{nil, nil}, {[]int{}, nil}, {[]int{0}, []int{0}}, {[]int{1, 0}, []int{0}}, {[]int{0, 1}, []int{0, 1}}, {[]int{2, 0, 3, 1}, []int{0, 2}}, {reversed(upTo(10)), []int{0}}, {upTo(10), upTo(10)}, {upTo(5), upTo(5)},
		{[]int{1, 0, 2}, []int{0, 2}}, {[]int{0, 2, 1}, []int{0, 1}}, {[]int{1, 2, 0}, []int{0, 1}}, {[]int{2, 0, 1}, []int{1, 2}}, {[]int{3, 0, 1, 2}, []int{1, 2, 3}}, {[]int{2, 3, 0, 1}, []int{0, 1}}, {[]int{3, 1, 4, 0, 2}, []int{0, 2}}, {[]int{0, 4, 3, 1, 2}, []int{0, 3, 4}}, {[]int{1, 4, 0, 2, 3}, []int{0, 3, 4}},
		{[]int{1, 0, 3, 2, 5, 4, 7, 6, 9, 8}, []int{0, 2, 4, 6, 8}}, {[]int{5, 6, 7, 8, 9, 0, 1, 2, 3, 4}, []int{0, 1, 2, 3, 4}}, {[]int{5, 6, 7, 8, 0, 1, 2, 3, 4, 9}, []int{4, 5, 6, 7, 8, 9}}, {[]int{9, 0, 1, 2, 3, 4, 5, 6, 7, 8}, []int{1, 2, 3, 4, 5, 6, 7, 8, 9}}, {[]int{0, 9, 1, 8, 2, 7, 3, 6, 4, 5}, []int{0, 2, 4, 6, 8, 9}},
		{[]int{2, 5, 8, 1, 4, 7, 0, 3, 6, 9}, []int{0, 1, 2, 9}},
	} {
		got, ok := impl.OrdersLongest(c.orders)
		checkList(t, fmt.Sprintf("OrdersLongest(%v)", c.orders), got, ok, c.want)
	}
}

func TestPromise56OrdersBack(t *testing.T) {
	for _, orders := range sampleOrders() {
		call := fmt.Sprintf("OrdersBack(%v)", orders)
		got, ok := impl.OrdersBack(orders)
		checkList(t, call, got, ok, wantBack(orders))
		again, ok := impl.OrdersBack(got)
		checkList(t, "OrdersBack of "+call, again, ok, orders)
		checkNumber(t, "TanksLeast of "+call, impl.TanksLeast(got), impl.TanksLeast(orders))
	}
}

func TestPromise56OrdersBackEdges(t *testing.T) {
	for _, c := range []struct {
		orders []int
		want   []int
	}{
		{nil, nil}, {[]int{}, nil}, {[]int{0}, []int{0}}, {[]int{1, 0}, []int{1, 0}}, {[]int{0, 1}, []int{0, 1}}, {[]int{2, 0, 3, 1}, []int{1, 3, 0, 2}}, {[]int{1, 3, 0, 2}, []int{2, 0, 3, 1}}, {[]int{0, 2, 1}, []int{1, 0, 2}}, {[]int{1, 2, 0}, []int{1, 2, 0}}, {[]int{2, 0, 1}, []int{2, 0, 1}}, {[]int{0, 1, 3, 2}, []int{1, 0, 2, 3}},
		{upTo(10), upTo(10)}, {reversed(upTo(10)), reversed(upTo(10))}, {[]int{0, 9, 1, 8, 2, 7, 3, 6, 4, 5}, []int{8, 6, 4, 2, 0, 1, 3, 5, 7, 9}},
	} {
		got, ok := impl.OrdersBack(c.orders)
		checkList(t, fmt.Sprintf("OrdersBack(%v)", c.orders), got, ok, c.want)
	}
}

func TestPromise57OrdersDrop(t *testing.T) {
	for _, orders := range sampleOrders() {
		for i := range orders {
			call := fmt.Sprintf("OrdersDrop(%v, %d)", orders, i)
			got, ok := impl.OrdersDrop(orders, i)
			checkList(t, call, got, ok, ranksOf(without(orders, i)))
			checkNumber(t, "the coils of "+call, len(got), len(orders)-1)
			kept := without(upTo(len(orders)), i)
			for a := range got {
				for b := range got {
					checkHolds(t, fmt.Sprintf("OrdersAgree(%v, %d, %d)", got, a, b), impl.OrdersAgree(got, a, b), impl.OrdersAgree(orders, kept[a], kept[b]))
				}
			}
		}
	}
}

func TestPromise57OrdersDropEdges(t *testing.T) {
	for _, c := range []struct {
		orders []int
		i      int
		want   []int
	}{
		{[]int{0}, 0, nil}, {[]int{1, 0}, 0, []int{0}}, {[]int{1, 0}, 1, []int{0}}, {[]int{0, 1}, 0, []int{0}}, {[]int{0, 1}, 1, []int{0}},
		{[]int{2, 0, 3, 1}, 0, []int{0, 2, 1}}, {[]int{2, 0, 3, 1}, 1, []int{1, 2, 0}}, {[]int{2, 0, 3, 1}, 2, []int{2, 0, 1}}, {[]int{2, 0, 3, 1}, 3, []int{1, 0, 2}},
		{upTo(10), 0, upTo(9)}, {upTo(10), 9, upTo(9)}, {upTo(10), 4, upTo(9)}, {reversed(upTo(10)), 0, reversed(upTo(9))}, {reversed(upTo(10)), 9, reversed(upTo(9))},
	} {
		got, ok := impl.OrdersDrop(c.orders, c.i)
		checkList(t, fmt.Sprintf("OrdersDrop(%v, %d)", c.orders, c.i), got, ok, c.want)
	}
	for _, orders := range edgeOrders() {
		for _, i := range append(farNumbers(), -10, -2, -1, len(orders), len(orders)+1, 10, 11) {
			got, ok := impl.OrdersDrop(orders, i)
			checkFails(t, fmt.Sprintf("OrdersDrop(%v, %d)", orders, i), got, ok)
		}
	}
	got, ok := impl.OrdersDrop(nil, 0)
	checkFails(t, "OrdersDrop(nil, 0)", got, ok)
}

func TestPromise58StowageOut(t *testing.T) {
	eachStowage(func(orders []int, tanks []int) {
		call := fmt.Sprintf("StowageOut(%v, %v)", orders, tanks)
		got, ok := impl.StowageOut(orders, tanks)
		want, _ := wantOut(orders, tanks)
		checkList(t, call, got, ok, want)
		for coil, number := range orders {
			checkNumber(t, fmt.Sprintf("the tank %d of %s", number, call), got[number], tanks[coil])
		}
		checkHolds(t, "StowageValid of OrdersBack and "+call+" in the opposite order", impl.StowageValid(mustTurn(t, orders), reversed(got)), true)
	})
}

func TestPromise58StowageOutEdges(t *testing.T) {
	orders := []int{2, 0, 3, 1}
	for _, c := range []struct {
		orders []int
		tanks  []int
		want   []int
	}{
		{nil, nil, nil}, {[]int{}, []int{}, nil}, {[]int{0}, []int{0}, []int{0}}, {[]int{0}, []int{4}, []int{4}}, {[]int{1, 0}, []int{3, 3}, []int{3, 3}}, {[]int{1, 0}, []int{3, 1}, []int{1, 3}}, {[]int{0, 1}, []int{4, 0}, []int{4, 0}},
		{orders, []int{0, 0, 1, 1}, []int{0, 1, 0, 1}}, {orders, []int{4, 4, 2, 2}, []int{4, 2, 4, 2}}, {orders, []int{3, 0, 4, 3}, []int{0, 3, 3, 4}}, {orders, []int{0, 1, 2, 3}, []int{1, 3, 0, 2}},
		{reversed(upTo(10)), repeated(4, 10), repeated(4, 10)}, {reversed(upTo(10)), []int{0, 1, 2, 3, 4, 0, 1, 2, 3, 4}, []int{4, 3, 2, 1, 0, 4, 3, 2, 1, 0}}, {upTo(5), []int{3, 4, 0, 2, 1}, []int{3, 4, 0, 2, 1}}, {[]int{5, 6, 7, 8, 9, 0, 1, 2, 3, 4}, []int{0, 1, 2, 3, 4, 0, 1, 2, 3, 4}, []int{0, 1, 2, 3, 4, 0, 1, 2, 3, 4}},
	} {
		got, ok := impl.StowageOut(c.orders, c.tanks)
		checkList(t, fmt.Sprintf("StowageOut(%v, %v)", c.orders, c.tanks), got, ok, c.want)
	}
}

func TestPromise59StowageMost(t *testing.T) {
	eachStowage(func(orders []int, tanks []int) {
		call := fmt.Sprintf("StowageMost(%v, %v)", orders, tanks)
		got := impl.StowageMost(orders, tanks)
		most := 0
		for _, coils := range coilsIn(tanks) {
			most = max(most, coils)
		}
		checkNumber(t, call, got, most)
		if got > len(orders) || (got == 0) != (len(orders) == 0) {
			t.Fatalf("%s returned %d", call, got)
		}
	})
}

// TestTankMemory changes what each function returns, up to its capacity, and checks that neither other results, nor the lists, nor what lies behind them changes.
func TestTankMemory(t *testing.T) {
	calls := map[string]func(orders []int, tanks []int) []int{
		"StowageMake":            func(orders []int, tanks []int) []int { x, _ := impl.StowageMake(orders); return x },
		"OrdersLongest":          func(orders []int, tanks []int) []int { x, _ := impl.OrdersLongest(orders); return x },
		"OrdersBack":             func(orders []int, tanks []int) []int { x, _ := impl.OrdersBack(orders); return x },
		"OrdersDrop of the last": func(orders []int, tanks []int) []int { x, _ := impl.OrdersDrop(orders, 3); return x },
		"OrdersDrop":             func(orders []int, tanks []int) []int { x, _ := impl.OrdersDrop(orders, 1); return x },
		"StowageOut":             func(orders []int, tanks []int) []int { x, _ := impl.StowageOut(orders, tanks); return x },
		"the others": func(orders []int, tanks []int) []int {
			impl.OrdersValid(orders)
			impl.OrdersAgree(orders, 0, 1)
			impl.OrdersPairs(orders)
			impl.StowageValid(orders, tanks)
			impl.StowageTanks(orders, tanks)
			impl.TanksLeast(orders)
			impl.StowageMost(orders, tanks)
			return nil
		},
	}
	for name, call := range calls {
		whole := []int{2, 0, 3, 1, 30, 31, 32, 33, 3, 0, 4, 3, 34, 35}
		before := slices.Clone(whole)
		first, second := call(whole[0:4], whole[8:12]), call(whole[0:4], whole[8:12])
		if name != "the others" && len(first) == 0 {
			t.Fatalf("%s returned nothing", name)
		}
		kept := slices.Clone(second)
		first = first[:cap(first)]
		for i := range first {
			first[i] = -7
		}
		if !slices.Equal(whole, before) || !slices.Equal(second, kept) {
			t.Fatalf("%s: its result shares memory, or it changes an argument: %v", name, whole)
		}
		checkList(t, name+" again", call(whole[0:4], whole[8:12]), true, kept)
	}
}
