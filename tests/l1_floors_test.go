package tests

import (
	"fmt"
	"slices"
	"testing"

	"loop.example/cableship/impl"
)

// The tests of chapter 1 write the document's numbers out, so that a wrong constant of the program is found, too.

// needOf is what the document says that a mile needs.
func needOf(a int, b int) int {
	if a > b {
		return 10 + a - b
	}
	return 10 + b - a
}

func needsOf(floor []int) []int {
	needs := []int{}
	for i := 1; i < len(floor); i++ {
		needs = append(needs, needOf(floor[i-1], floor[i]))
	}
	return needs
}

// edgeFloors are the floors at the document's limits, and floors with points of equal depth.
func edgeFloors() [][]int {
	saw := []int{}
	climb := []int{}
	for i := range 16 {
		saw = append(saw, i%2*40)
		climb = append(climb, i*40/15)
	}
	return [][]int{
		{0, 0}, {40, 40}, {0, 40}, {40, 0}, {7, 7}, {3, 4}, {4, 3},
		{4, 9, 9, 2}, {7, 7, 7}, {9, 4, 9}, {4, 9, 4}, {9, 9, 4, 9, 9},
		{5, 8, 11, 8, 5}, {40, 0, 40, 0}, {0, 40, 0, 40}, {1, 2, 40, 40, 2, 1},
		repeated(0, 16), repeated(40, 16), repeated(13, 16), saw, reversed(saw), climb, reversed(climb),
	}
}

// sampleFloors are the edge floors, all short floors of some depths, and random ones.
func sampleFloors() [][]int {
	floors := edgeFloors()
	depths := []int{0, 1, 7, 40}
	for _, a := range depths {
		for _, b := range depths {
			floors = append(floors, []int{a, b})
			for _, c := range depths {
				floors = append(floors, []int{a, b, c})
				for _, d := range depths {
					floors = append(floors, []int{a, b, c, d})
				}
			}
		}
	}
	random := newRandom()
	for range 150 {
		floor := make([]int, 2+random.Intn(15))
		spread := 1 + random.Intn(41)
		for i := range floor {
			floor[i] = random.Intn(spread)
		}
		floors = append(floors, floor)
	}
	return floors
}

// badFloors are lists that are no floors: too short, too long, or with a depth out of range at any place.
func badFloors() [][]int {
	bad := [][]int{nil, {}, {0}, {40}, repeated(5, 17), repeated(5, 18), repeated(0, 500)}
	for _, depth := range append(farNumbers(), -1, 41) {
		bad = append(bad, []int{depth}, []int{depth, depth}, []int{depth, 5}, []int{5, depth})
		for i := range 3 {
			floor := []int{5, 6, 7}
			floor[i] = depth
			bad = append(bad, floor)
		}
		for _, i := range []int{0, 7, 15} {
			floor := repeated(20, 16)
			floor[i] = depth
			bad = append(bad, floor)
		}
	}
	return bad
}

// samplePays are pay-outs of a floor: at the limits, just enough, a bit more and less, and random ones.
func samplePays(floor []int) [][]int {
	needs := needsOf(floor)
	pays := [][]int{repeated(0, len(needs)), repeated(60, len(needs)), needs}
	random := newRandom()
	for _, spread := range []int{1, 5, 60} {
		pay := slices.Clone(needs)
		for i := range pay {
			pay[i] = min(max(pay[i]+random.Intn(2*spread+1)-spread, 0), 60)
		}
		pays = append(pays, pay)
	}
	more, less := slices.Clone(needs), slices.Clone(needs)
	more[0]++
	less[len(less)-1]--
	return append(pays, more, less)
}

// badPays are lists that are no pay-outs of a floor.
func badPays(floor []int) [][]int {
	n := len(floor) - 1
	bad := [][]int{repeated(10, n-1), repeated(10, n+1), repeated(10, n+50)}
	for _, length := range append(farNumbers(), -1, 61) {
		for _, i := range []int{0, n / 2, n - 1} {
			pay := repeated(30, n)
			pay[i] = length
			bad = append(bad, pay)
		}
	}
	return bad
}

func TestFloorConstants(t *testing.T) {
	checkNumber(t, "PointsMax", impl.PointsMax, 16)
	checkNumber(t, "DepthMax", impl.DepthMax, 40)
	checkNumber(t, "MileLength", impl.MileLength, 10)
	checkNumber(t, "PayMax", impl.PayMax, 60)
}

func TestFloorValid(t *testing.T) {
	for _, floor := range sampleFloors() {
		if !impl.FloorValid(floor) {
			t.Fatalf("FloorValid(%v) does not hold", floor)
		}
	}
	for _, floor := range badFloors() {
		if impl.FloorValid(floor) {
			t.Fatalf("FloorValid(%v) holds", floor)
		}
	}
}

func TestPromise1FloorNeeds(t *testing.T) {
	for _, floor := range sampleFloors() {
		call := fmt.Sprintf("FloorNeeds(%v)", floor)
		needs, ok := impl.FloorNeeds(floor)
		checkList(t, call, needs, ok, needsOf(floor))
		if slices.Min(needs) < 10 {
			t.Fatalf("%s returned %v, with less than a level mile needs", call, needs)
		}
		checkNumber(t, "the sum of "+call, sum(needs), impl.FloorLength(floor, 0, len(floor)-1))
		if !impl.PayValid(floor, needs) || len(impl.PayHangs(floor, needs)) != 0 || impl.PaySlack(floor, needs) != 0 {
			t.Fatalf("%s returned %v, which hangs or has slack", call, needs)
		}
	}
	for _, floor := range badFloors() {
		needs, ok := impl.FloorNeeds(floor)
		checkFails(t, fmt.Sprintf("FloorNeeds(%v)", floor), needs, ok)
	}
}

func TestPromise2FloorLength(t *testing.T) {
	for _, floor := range sampleFloors() {
		for from := range floor {
			for to := from; to < len(floor); to++ {
				checkLength(t, floor, from, to)
			}
		}
	}
}

// checkLength checks a length against the needs, over each point between, and against its least value.
func checkLength(t *testing.T, floor []int, from int, to int) {
	t.Helper()
	call := fmt.Sprintf("FloorLength(%v, %d, %d)", floor, from, to)
	length := impl.FloorLength(floor, from, to)
	checkNumber(t, call, length, sum(needsOf(floor[from:to+1])))
	for k := from; k <= to; k++ {
		checkNumber(t, call, length, impl.FloorLength(floor, from, k)+impl.FloorLength(floor, k, to))
	}
	if length < 10*(to-from)+needOf(floor[from], floor[to])-10 || (length == 0) != (from == to) {
		t.Fatalf("%s returned %d", call, length)
	}
}

func TestPromise2FloorLengthInvalid(t *testing.T) {
	for _, floor := range edgeFloors() {
		n := len(floor)
		bad := [][2]int{{-1, 0}, {-1, n - 1}, {0, n}, {n - 1, n}, {n, n}, {-1, -1}, {1, 0}, {n - 1, n - 2}, {n - 1, 0}, {-1, n}}
		for _, far := range farNumbers() {
			bad = append(bad, [2]int{far, 0}, [2]int{0, far}, [2]int{far, far}, [2]int{far, n - 1}, [2]int{n - 1, far})
		}
		for _, points := range bad {
			call := fmt.Sprintf("FloorLength(%v, %d, %d)", floor, points[0], points[1])
			checkNumber(t, call, impl.FloorLength(floor, points[0], points[1]), -1)
		}
	}
	for _, floor := range badFloors() {
		for _, points := range [][2]int{{0, 0}, {0, 1}, {1, 1}, {0, len(floor) - 1}, {-1, 0}} {
			call := fmt.Sprintf("FloorLength(%v, %d, %d)", floor, points[0], points[1])
			checkNumber(t, call, impl.FloorLength(floor, points[0], points[1]), -1)
		}
	}
}

func TestPromise3FloorPart(t *testing.T) {
	for _, floor := range sampleFloors() {
		for from := range floor {
			for to := from + 1; to < len(floor); to++ {
				call := fmt.Sprintf("FloorPart(%v, %d, %d)", floor, from, to)
				part, ok := impl.FloorPart(floor, from, to)
				checkList(t, call, part, ok, floor[from:to+1])
				checkNumber(t, "the length of "+call, impl.FloorLength(part, 0, to-from), impl.FloorLength(floor, from, to))
			}
		}
	}
}

func TestPromise3FloorPartOfPart(t *testing.T) {
	for _, floor := range edgeFloors() {
		for from := range floor {
			for to := from + 1; to < len(floor); to++ {
				part, _ := impl.FloorPart(floor, from, to)
				for a := range part {
					for b := a + 1; b < len(part); b++ {
						inner, ok := impl.FloorPart(part, a, b)
						outer, _ := impl.FloorPart(floor, from+a, from+b)
						checkList(t, fmt.Sprintf("FloorPart(%v, %d, %d)", part, a, b), inner, ok, outer)
					}
				}
			}
		}
	}
}

func TestPromise3FloorPartInvalid(t *testing.T) {
	for _, floor := range edgeFloors() {
		n := len(floor)
		bad := [][2]int{{-1, 0}, {-1, n - 1}, {0, n}, {n - 1, n}, {n, n}, {1, 0}, {n - 1, 0}, {n - 1, n - 2}}
		for i := range floor {
			bad = append(bad, [2]int{i, i})
		}
		for _, far := range farNumbers() {
			bad = append(bad, [2]int{far, 1}, [2]int{0, far}, [2]int{far, far})
		}
		for _, points := range bad {
			part, ok := impl.FloorPart(floor, points[0], points[1])
			checkFails(t, fmt.Sprintf("FloorPart(%v, %d, %d)", floor, points[0], points[1]), part, ok)
		}
	}
	for _, floor := range badFloors() {
		for _, points := range [][2]int{{0, 0}, {0, 1}, {1, 2}, {0, len(floor) - 1}} {
			part, ok := impl.FloorPart(floor, points[0], points[1])
			checkFails(t, fmt.Sprintf("FloorPart(%v, %d, %d)", floor, points[0], points[1]), part, ok)
		}
	}
}

func TestPromise4FloorJoin(t *testing.T) {
	joins := 0
	for _, a := range sampleFloors() {
		for _, b := range edgeFloors() {
			call := fmt.Sprintf("FloorJoin(%v, %v)", a, b)
			joined, ok := impl.FloorJoin(a, b)
			if a[len(a)-1] != b[0] || len(a)+len(b)-1 > 16 {
				checkFails(t, call, joined, ok)
				continue
			}
			joins++
			checkList(t, call, joined, ok, slices.Concat(a, b[1:]))
			checkParts(t, joined, a, b)
		}
	}
	if joins < 100 {
		t.Fatalf("only %d pairs of floors can be joined", joins)
	}
}

// checkParts checks that two floors are the parts of the floor that they are joined to.
func checkParts(t *testing.T, joined []int, a []int, b []int) {
	t.Helper()
	seam, last := len(a)-1, len(joined)-1
	first, ok := impl.FloorPart(joined, 0, seam)
	checkList(t, "FloorPart of the first floor", first, ok, a)
	second, ok := impl.FloorPart(joined, seam, last)
	checkList(t, "FloorPart of the second floor", second, ok, b)
	lengths := impl.FloorLength(a, 0, seam) + impl.FloorLength(b, 0, len(b)-1)
	checkNumber(t, "FloorLength of the joined floor", impl.FloorLength(joined, 0, last), lengths)
}

func TestPromise4FloorJoinLimits(t *testing.T) {
	joined, ok := impl.FloorJoin(repeated(5, 15), []int{5, 9})
	checkList(t, "FloorJoin to 16 points", joined, ok, append(repeated(5, 15), 9))
	joined, ok = impl.FloorJoin([]int{9, 5}, repeated(5, 15))
	checkList(t, "FloorJoin to 16 points", joined, ok, append([]int{9}, repeated(5, 15)...))
	joined, ok = impl.FloorJoin(repeated(5, 16), []int{5, 9})
	checkFails(t, "FloorJoin to 17 points", joined, ok)
	joined, ok = impl.FloorJoin(repeated(5, 9), repeated(5, 9))
	checkFails(t, "FloorJoin to 17 points", joined, ok)
	joined, ok = impl.FloorJoin([]int{1, 2}, []int{3, 2})
	checkFails(t, "FloorJoin of different depths", joined, ok)
	// A single point fits at either end, and the result would be a floor, but it is none itself.
	joined, ok = impl.FloorJoin([]int{5}, []int{5, 9})
	checkFails(t, "FloorJoin([5], [5 9])", joined, ok)
	joined, ok = impl.FloorJoin([]int{9, 5}, []int{5})
	checkFails(t, "FloorJoin([9 5], [5])", joined, ok)
	for _, bad := range badFloors() {
		joined, ok = impl.FloorJoin(bad, []int{5, 9})
		checkFails(t, fmt.Sprintf("FloorJoin(%v, [5 9])", bad), joined, ok)
		joined, ok = impl.FloorJoin([]int{9, 5}, bad)
		checkFails(t, fmt.Sprintf("FloorJoin([9 5], %v)", bad), joined, ok)
		joined, ok = impl.FloorJoin(bad, bad)
		checkFails(t, fmt.Sprintf("FloorJoin(%v, %v)", bad, bad), joined, ok)
	}
}

func TestPromise5FloorBack(t *testing.T) {
	for _, floor := range sampleFloors() {
		call := fmt.Sprintf("FloorBack(%v)", floor)
		back, ok := impl.FloorBack(floor)
		checkList(t, call, back, ok, reversed(floor))
		again, ok := impl.FloorBack(back)
		checkList(t, "FloorBack of "+call, again, ok, floor)
		needs, _ := impl.FloorNeeds(floor)
		needsBack, ok := impl.FloorNeeds(back)
		checkList(t, "FloorNeeds of "+call, needsBack, ok, reversed(needs))
	}
	for _, floor := range badFloors() {
		back, ok := impl.FloorBack(floor)
		checkFails(t, fmt.Sprintf("FloorBack(%v)", floor), back, ok)
	}
}

func TestPromise6FloorDeepest(t *testing.T) {
	for _, floor := range sampleFloors() {
		call := fmt.Sprintf("FloorDeepest(%v)", floor)
		k := impl.FloorDeepest(floor)
		if k < 0 || k >= len(floor) {
			t.Fatalf("%s returned %d, which is no point", call, k)
		}
		for i, depth := range floor {
			if depth > floor[k] || i < k && depth == floor[k] {
				t.Fatalf("%s returned %d, but the point %d is deeper, or as deep and ahead", call, k, i)
			}
		}
		down := floor[k] - floor[0] + floor[k] - floor[len(floor)-1]
		if length := impl.FloorLength(floor, 0, len(floor)-1); length < down {
			t.Fatalf("FloorLength of %v is %d, less than %d", floor, length, down)
		}
	}
	checkNumber(t, "FloorDeepest", impl.FloorDeepest([]int{4, 9, 9, 2}), 1)
	checkNumber(t, "FloorDeepest", impl.FloorDeepest(repeated(0, 16)), 0)
	checkNumber(t, "FloorDeepest", impl.FloorDeepest(append(repeated(39, 15), 40)), 15)
	for _, floor := range badFloors() {
		checkNumber(t, fmt.Sprintf("FloorDeepest(%v)", floor), impl.FloorDeepest(floor), -1)
	}
}

func TestPromise7FloorSteepest(t *testing.T) {
	for _, floor := range sampleFloors() {
		call := fmt.Sprintf("FloorSteepest(%v)", floor)
		k := impl.FloorSteepest(floor)
		needs := needsOf(floor)
		if k < 0 || k >= len(needs) {
			t.Fatalf("%s returned %d, which is no mile", call, k)
		}
		for i, need := range needs {
			if need > needs[k] || i < k && need == needs[k] {
				t.Fatalf("%s returned %d, but the mile %d needs more, or as much and is ahead", call, k, i)
			}
		}
		checkNumber(t, fmt.Sprintf("PayLevel(%v)", floor), impl.PayLevel(floor), needs[k])
	}
	checkNumber(t, "FloorSteepest", impl.FloorSteepest([]int{4, 9, 9, 2}), 2)
	checkNumber(t, "FloorSteepest", impl.FloorSteepest([]int{5, 9, 5, 9}), 0)
	checkNumber(t, "FloorSteepest", impl.FloorSteepest(repeated(40, 16)), 0)
	checkNumber(t, "FloorSteepest", impl.FloorSteepest(append(repeated(0, 15), 1)), 14)
	for _, floor := range badFloors() {
		checkNumber(t, fmt.Sprintf("FloorSteepest(%v)", floor), impl.FloorSteepest(floor), -1)
	}
}

func TestPromise8PayValid(t *testing.T) {
	for _, floor := range sampleFloors() {
		back, _ := impl.FloorBack(floor)
		for _, pay := range samplePays(floor) {
			if !impl.PayValid(floor, pay) || !impl.PayValid(back, reversed(pay)) {
				t.Fatalf("PayValid(%v, %v) does not hold, or not for the opposite order", floor, pay)
			}
			for mile := range pay {
				checkOneMore(t, floor, pay, mile)
			}
		}
	}
}

// checkOneMore checks a pay-out against the one with 1 more over a mile.
func checkOneMore(t *testing.T, floor []int, pay []int, mile int) {
	t.Helper()
	more := slices.Clone(pay)
	more[mile]++
	if more[mile] > 60 {
		if impl.PayValid(floor, more) {
			t.Fatalf("PayValid(%v, %v) holds", floor, more)
		}
		return
	}
	hangs := impl.PayHangs(floor, pay)
	for _, k := range impl.PayHangs(floor, more) {
		if !slices.Contains(hangs, k) {
			t.Fatalf("PayHangs(%v, %v) has the mile %d, that of %v has not", floor, more, k, pay)
		}
	}
	slack := impl.PaySlack(floor, pay)
	if pay[mile] >= needOf(floor[mile], floor[mile+1]) {
		slack++
	}
	checkNumber(t, fmt.Sprintf("PaySlack(%v, %v)", floor, more), impl.PaySlack(floor, more), slack)
}

func TestPromise8PayValidInvalid(t *testing.T) {
	for _, floor := range edgeFloors() {
		for _, pay := range badPays(floor) {
			checkNoPay(t, floor, pay)
		}
	}
	for _, floor := range badFloors() {
		for _, n := range []int{0, 1, max(len(floor)-1, 0), len(floor)} {
			checkNoPay(t, floor, repeated(30, n))
		}
	}
	checkNoPay(t, []int{0, 0}, nil)
	checkNoPay(t, nil, nil)
}

// checkNoPay checks all that is said of a list that is no pay-out.
func checkNoPay(t *testing.T, floor []int, pay []int) {
	t.Helper()
	if impl.PayValid(floor, pay) {
		t.Fatalf("PayValid(%v, %v) holds", floor, pay)
	}
	if hangs := impl.PayHangs(floor, pay); len(hangs) != 0 {
		t.Fatalf("PayHangs(%v, %v) returned %v", floor, pay, hangs)
	}
	checkNumber(t, fmt.Sprintf("PaySlack(%v, %v)", floor, pay), impl.PaySlack(floor, pay), -1)
}

func TestPromise9PayHangs(t *testing.T) {
	for _, floor := range sampleFloors() {
		needs := needsOf(floor)
		for _, pay := range samplePays(floor) {
			want, missing := []int{}, 0
			for mile, need := range needs {
				if pay[mile] < need {
					want = append(want, mile)
					missing += need - pay[mile]
				}
			}
			call := fmt.Sprintf("(%v, %v)", floor, pay)
			checkList(t, "PayHangs"+call, impl.PayHangs(floor, pay), true, want)
			checkNumber(t, "PaySlack"+call, impl.PaySlack(floor, pay)-missing, sum(pay)-sum(needs))
		}
	}
}

func TestPromise10PaySlack(t *testing.T) {
	for _, floor := range sampleFloors() {
		back, _ := impl.FloorBack(floor)
		length := impl.FloorLength(floor, 0, len(floor)-1)
		for _, pay := range samplePays(floor) {
			call := fmt.Sprintf("PaySlack(%v, %v)", floor, pay)
			slack := impl.PaySlack(floor, pay)
			if len(impl.PayHangs(floor, pay)) == 0 {
				checkNumber(t, call, slack, sum(pay)-length)
			}
			checkNumber(t, call, slack, impl.PaySlack(back, reversed(pay)))
		}
	}
	checkNumber(t, "PaySlack", impl.PaySlack([]int{4, 9, 9, 2}, []int{15, 12, 16}), 2)
	checkNumber(t, "PaySlack", impl.PaySlack([]int{0, 40, 40}, []int{0, 60}), 50)
	checkNumber(t, "PaySlack", impl.PaySlack([]int{0, 0}, []int{0}), 0)
	checkNumber(t, "PaySlack", impl.PaySlack(repeated(40, 16), repeated(60, 15)), 750)
}

func TestPromise11PayLevel(t *testing.T) {
	for _, floor := range sampleFloors() {
		level := impl.PayLevel(floor)
		enough := repeated(level, len(floor)-1)
		if !impl.PayValid(floor, enough) || len(impl.PayHangs(floor, enough)) != 0 {
			t.Fatalf("PayLevel(%v) returned %d, with which a mile hangs", floor, level)
		}
		if len(impl.PayHangs(floor, repeated(level-1, len(floor)-1))) == 0 {
			t.Fatalf("PayLevel(%v) returned %d, but less is enough", floor, level)
		}
	}
	checkNumber(t, "PayLevel", impl.PayLevel([]int{40, 0}), 50)
	checkNumber(t, "PayLevel", impl.PayLevel(repeated(40, 16)), 10)
	for _, floor := range badFloors() {
		checkNumber(t, fmt.Sprintf("PayLevel(%v)", floor), impl.PayLevel(floor), -1)
	}
}

// sampleAboards are lengths on board: at the limits, around what the first miles need, and some between.
func sampleAboards(floor []int) []int {
	aboards := []int{0, 1, 9, 10, 11, 30, 333, 750, 751, 999, 1000}
	needed := 0
	for _, need := range needsOf(floor) {
		needed += need
		aboards = append(aboards, needed-1, needed, needed+1)
	}
	return aboards
}

func TestPromise12PayCarry(t *testing.T) {
	for _, floor := range sampleFloors() {
		needs := needsOf(floor)
		for _, aboard := range sampleAboards(floor) {
			call := fmt.Sprintf("PayCarry(%v, %d)", floor, aboard)
			pay, ok := impl.PayCarry(floor, aboard)
			checkList(t, call, pay, ok, carried(needs, aboard))
			checkNumber(t, "the sum of "+call, sum(pay), min(aboard, impl.FloorLength(floor, 0, len(floor)-1)))
			checkNumber(t, "PaySlack of "+call, impl.PaySlack(floor, pay), 0)
			if hangs := impl.PayHangs(floor, pay); len(hangs) > 0 && sum(pay[hangs[0]+1:]) != 0 {
				t.Fatalf("%s returned %v, with a mile that gets something behind one that hangs", call, pay)
			}
		}
	}
	pay, ok := impl.PayCarry([]int{4, 9, 9, 2}, 30)
	checkList(t, "PayCarry", pay, ok, []int{15, 10, 5})
}

// carried is what the miles get from a length on board: the first miles all they need, one the rest, the others nothing.
func carried(needs []int, aboard int) []int {
	pay := repeated(0, len(needs))
	for unit := 0; unit < aboard; unit++ {
		for mile := range pay {
			if pay[mile] < needs[mile] {
				pay[mile]++
				break
			}
		}
	}
	return pay
}

func TestPromise13PayReach(t *testing.T) {
	for _, floor := range sampleFloors() {
		miles := len(floor) - 1
		for _, aboard := range sampleAboards(floor) {
			call := fmt.Sprintf("PayReach(%v, %d)", floor, aboard)
			reach := impl.PayReach(floor, aboard)
			if reach < 0 || reach > miles || impl.FloorLength(floor, 0, reach) > aboard {
				t.Fatalf("%s returned %d, which is too far", call, reach)
			}
			if reach < miles && impl.FloorLength(floor, 0, reach+1) <= aboard {
				t.Fatalf("%s returned %d, which is too near", call, reach)
			}
			if aboard < 1000 && impl.PayReach(floor, aboard+1) < reach {
				t.Fatalf("%s returned %d, with 1 more on board less", call, reach)
			}
		}
	}
	checkNumber(t, "PayReach", impl.PayReach([]int{4, 9, 9, 2}, 30), 2)
	checkNumber(t, "PayReach", impl.PayReach([]int{0, 0}, 0), 0)
	checkNumber(t, "PayReach", impl.PayReach([]int{0, 0}, 10), 1)
	checkNumber(t, "PayReach", impl.PayReach(repeated(40, 16), 1000), 15)
}

func TestPromise13PayReachEachLength(t *testing.T) {
	for _, floor := range edgeFloors() {
		last := 0
		for aboard := range 1001 {
			reach := impl.PayReach(floor, aboard)
			if reach < last {
				t.Fatalf("PayReach(%v, %d) returned %d, with 1 less on board %d", floor, aboard, reach, last)
			}
			last = reach
		}
		checkNumber(t, fmt.Sprintf("PayReach(%v, 1000)", floor), last, len(floor)-1)
	}
}

func TestPromises12And13Invalid(t *testing.T) {
	for _, floor := range edgeFloors() {
		for _, aboard := range append(farNumbers(), -1, 1001) {
			checkNoCarry(t, floor, aboard)
		}
	}
	for _, floor := range badFloors() {
		for _, aboard := range []int{0, 10, 1000, -1, 1001} {
			checkNoCarry(t, floor, aboard)
		}
	}
}

// checkNoCarry checks what is said where PayCarry fails.
func checkNoCarry(t *testing.T, floor []int, aboard int) {
	t.Helper()
	pay, ok := impl.PayCarry(floor, aboard)
	checkFails(t, fmt.Sprintf("PayCarry(%v, %d)", floor, aboard), pay, ok)
	checkNumber(t, fmt.Sprintf("PayReach(%v, %d)", floor, aboard), impl.PayReach(floor, aboard), -1)
}

// TestFloorMemory changes what each function returns, up to its capacity, and checks that neither its arguments nor what lies behind them changes.
func TestFloorMemory(t *testing.T) {
	calls := map[string]func(floor []int, other []int) []int{
		"FloorNeeds": func(floor []int, other []int) []int { x, _ := impl.FloorNeeds(floor); return x },
		"FloorPart":  func(floor []int, other []int) []int { x, _ := impl.FloorPart(floor, 0, 2); return x },
		"FloorJoin":  func(floor []int, other []int) []int { x, _ := impl.FloorJoin(floor, other); return x },
		"FloorBack":  func(floor []int, other []int) []int { x, _ := impl.FloorBack(floor); return x },
		"PayHangs":   func(floor []int, other []int) []int { return impl.PayHangs(floor, other) },
		"PayCarry":   func(floor []int, other []int) []int { x, _ := impl.PayCarry(floor, 30); return x },
		"the others": func(floor []int, other []int) []int {
			impl.FloorValid(floor)
			impl.FloorLength(floor, 0, 3)
			impl.FloorDeepest(floor)
			impl.FloorSteepest(floor)
			impl.PayValid(floor, other)
			impl.PaySlack(floor, other)
			impl.PayLevel(floor)
			impl.PayReach(floor, 30)
			return nil
		},
	}
	for name, call := range calls {
		whole := []int{4, 9, 9, 2, 30, 31, 32, 33, 2, 3, 4, 34, 35}
		before := slices.Clone(whole)
		first, second := call(whole[0:4], whole[8:11]), call(whole[0:4], whole[8:11])
		if name != "the others" && len(first) == 0 {
			t.Fatalf("%s returned nothing", name)
		}
		kept := slices.Clone(second)
		first = first[:cap(first)]
		for i := range first {
			first[i] = -7
		}
		if !slices.Equal(whole, before) || !slices.Equal(second, kept) {
			t.Fatalf("%s: its result shares memory, or it changes an argument: %v", name, whole)
		}
	}
}
