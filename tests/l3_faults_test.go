package tests

import (
	"fmt"
	"math"
	"math/big"
	"slices"
	"testing"

	"loop.example/cableship/impl"
)

// The tests of chapter 3 hold the program against the points of cables that are written out mile by mile, and against fractions of math/big.

// point is a place at which a cable can have a fault, with the resistance up to it and that of the rest.
type point struct {
	mile int
	up   int
	rest int
}

func pointsOf(cable []impl.Section) []point {
	miles := milesOf(cable)
	all := ohmsOf(miles)
	points := []point{{0, 0, all}}
	up := 0
	for i, m := range miles {
		up += m.ohms
		points = append(points, point{i + 1, up, all - up})
	}
	return points
}

// somePoints are the points at both ends of a cable, at the ends of all its sections, and the neighbors of these.
func somePoints(cable []impl.Section) []point {
	all := pointsOf(cable)
	some := []point{}
	for _, m := range samplePoints(cable) {
		some = append(some, all[m])
	}
	return some
}

// leak is a fault with its point, so that what is measured can be told without the program.
type leak struct {
	point
	ohms int
}

func (l leak) fault() impl.Fault {
	return impl.Fault{Mile: l.mile, Ohms: l.ohms}
}

// sampleLeaks are faults of some Ohms at some points: none, few, as many as the cable has on either side, and the most.
func sampleLeaks(cable []impl.Section) []leak {
	random := newRandom()
	leaks := []leak{}
	for _, p := range somePoints(cable) {
		numbers := []int{0, 1, 2, 7, p.up, p.rest, 999, 1000, random.Intn(1001)}
		slices.Sort(numbers)
		for _, ohms := range slices.Compact(numbers) {
			if ohms <= 1000 {
				leaks = append(leaks, leak{p, ohms})
			}
		}
	}
	return leaks
}

// badFaults are no faults of a cable: one of both numbers is out of range.
func badFaults(cable []impl.Section) []impl.Fault {
	all := len(milesOf(cable))
	bad := []impl.Fault{{Mile: -1, Ohms: -1}, {Mile: all + 1, Ohms: 1001}, {Mile: -1, Ohms: 1001}}
	for _, m := range append(farNumbers(), -2, -1, all+1, all+2, 401) {
		bad = append(bad, impl.Fault{Mile: m, Ohms: 0}, impl.Fault{Mile: m, Ohms: 6})
	}
	for _, ohms := range append(farNumbers(), -2, -1, 1001, 1002) {
		bad = append(bad, impl.Fault{Mile: 0, Ohms: ohms}, impl.Fault{Mile: all, Ohms: ohms})
	}
	return bad
}

// someFaults are faults of which most cables have a part.
func someFaults() []impl.Fault {
	return []impl.Fault{{}, {Mile: 1, Ohms: 0}, {Mile: 4, Ohms: 6}, {Mile: 0, Ohms: 1000}, {Mile: -1, Ohms: 5}}
}

// eachNoFault calls a function with cables and faults that are none of them, and with lists that are no cables.
func eachNoFault(check func(cable []impl.Section, f impl.Fault)) {
	for _, cable := range edgeCables() {
		for _, f := range badFaults(cable) {
			check(cable, f)
		}
	}
	for _, cable := range badCables() {
		for _, f := range someFaults() {
			check(cable, f)
		}
	}
}

// wantEarthed is what is measured earthed at the near end of a fault.
func wantEarthed(near int, far int, ohms int) impl.Ratio {
	measured := big.NewRat(int64(near), 1)
	if ohms+far > 0 {
		measured.Add(measured, big.NewRat(int64(ohms*far), int64(ohms+far)))
	}
	return ratioOfRat(measured)
}

func ratioOfRat(r *big.Rat) impl.Ratio {
	return impl.Ratio{Top: int(r.Num().Int64()), Low: int(r.Denom().Int64())}
}

func rat(r impl.Ratio) *big.Rat {
	return big.NewRat(int64(r.Top), int64(r.Low))
}

// wantFind returns the fault of a balance, and whether there is one.
func wantFind(cable []impl.Section, a int, b int) (impl.Fault, bool) {
	for _, p := range pointsOf(cable) {
		if ohms := a - p.up; 0 <= ohms && ohms <= 1000 && p.rest+ohms == b {
			return impl.Fault{Mile: p.mile, Ohms: ohms}, true
		}
	}
	return impl.Fault{}, false
}

// wantOne returns all faults that are measured open from A with a number.
func wantOne(cable []impl.Section, a int) []impl.Fault {
	faults := []impl.Fault{}
	for _, p := range pointsOf(cable) {
		if p.up <= a && a <= p.up+1000 {
			faults = append(faults, impl.Fault{Mile: p.mile, Ohms: a - p.up})
		}
	}
	return faults
}

// mustFaultBack returns the fault as it is counted from B, as the program has it.
func mustFaultBack(t *testing.T, cable []impl.Section, f impl.Fault) impl.Fault {
	t.Helper()
	back, ok := impl.FaultBack(cable, f)
	if !ok {
		t.Fatalf("FaultBack(%v, %v) failed", cable, f)
	}
	return back
}

// checkRatio fails unless a call succeeded with a ratio.
func checkRatio(t *testing.T, call string, got impl.Ratio, ok bool, want impl.Ratio) {
	t.Helper()
	if !ok || got != want {
		t.Fatalf("%s returned %v, %v instead of %v, true", call, got, ok, want)
	}
}

// checkNoRatio fails unless a call returned the zero value and false.
func checkNoRatio(t *testing.T, call string, got impl.Ratio, ok bool) {
	t.Helper()
	if ok || got != (impl.Ratio{}) {
		t.Fatalf("%s returned %v, %v instead of the zero value and false", call, got, ok)
	}
}

// checkFault fails unless a call succeeded with a fault.
func checkFault(t *testing.T, call string, got impl.Fault, ok bool, want impl.Fault) {
	t.Helper()
	if !ok || got != want {
		t.Fatalf("%s returned %v, %v instead of %v, true", call, got, ok, want)
	}
}

// checkNoFault fails unless a call returned the zero value and false.
func checkNoFault(t *testing.T, call string, got impl.Fault, ok bool) {
	t.Helper()
	if ok || got != (impl.Fault{}) {
		t.Fatalf("%s returned %v, %v instead of the zero value and false", call, got, ok)
	}
}

// checkFaults fails unless a call succeeded with a list of faults.
func checkFaults(t *testing.T, call string, got []impl.Fault, ok bool, want []impl.Fault) {
	t.Helper()
	if !ok || !slices.Equal(got, want) {
		t.Fatalf("%s returned %v, %v instead of %v, true", call, got, ok, want)
	}
}

// checkNoFaults fails unless a call returned an empty list and false.
func checkNoFaults(t *testing.T, call string, got []impl.Fault, ok bool) {
	t.Helper()
	if ok || len(got) != 0 {
		t.Fatalf("%s returned %v, %v instead of no faults and false", call, got, ok)
	}
}

// checkTwo fails unless a call succeeded with two numbers.
func checkTwo(t *testing.T, call string, a int, b int, ok bool, wantA int, wantB int) {
	t.Helper()
	if !ok || a != wantA || b != wantB {
		t.Fatalf("%s returned %d, %d, %v instead of %d, %d, true", call, a, b, ok, wantA, wantB)
	}
}

// checkNoTwo fails unless a call returned two zeros and false.
func checkNoTwo(t *testing.T, call string, a int, b int, ok bool) {
	t.Helper()
	if ok || a != 0 || b != 0 {
		t.Fatalf("%s returned %d, %d, %v instead of 0, 0, false", call, a, b, ok)
	}
}

// twoKinds is the cable with which the examples are worked out by hand: 30 ohms, and 20 behind them.
func twoKinds() []impl.Section {
	return []impl.Section{{Miles: 10, Kind: 0, Ohms: 3}, {Miles: 5, Kind: 1, Ohms: 4}}
}

func TestFaultConstants(t *testing.T) {
	checkNumber(t, "FaultMax", impl.FaultMax, 1000)
}

func TestFaultValid(t *testing.T) {
	for _, cable := range edgeCables() {
		all := len(milesOf(cable))
		for m := -3; m <= all+3; m++ {
			for _, ohms := range []int{-2, -1, 0, 1, 500, 999, 1000, 1001, 1002} {
				want := m >= 0 && m <= all && ohms >= 0 && ohms <= 1000
				if f := (impl.Fault{Mile: m, Ohms: ohms}); impl.FaultValid(cable, f) != want {
					t.Fatalf("FaultValid(%v, %v) returned %v", cable, f, !want)
				}
			}
		}
	}
	eachNoFault(func(cable []impl.Section, f impl.Fault) {
		if impl.FaultValid(cable, f) {
			t.Fatalf("FaultValid(%v, %v) holds", cable, f)
		}
	})
}

func TestPromise36FaultOpen(t *testing.T) {
	for _, cable := range sampleCables() {
		back := mustBack(t, cable)
		for _, l := range sampleLeaks(cable) {
			f := l.fault()
			call := fmt.Sprintf("FaultOpen(%v, %v)", cable, f)
			a, b, ok := impl.FaultOpen(cable, f)
			checkTwo(t, call, a, b, ok, l.up+l.ohms, l.rest+l.ohms)
			checkNumber(t, "the sum of "+call, a+b, impl.CableAll(cable)+2*l.ohms)
			found, ok := impl.FaultFind(cable, a, b)
			checkFault(t, "FaultFind of "+call, found, ok, f)
			backA, backB, ok := impl.FaultOpen(back, mustFaultBack(t, cable, f))
			checkTwo(t, call+" counted from B", backA, backB, ok, b, a)
		}
	}
}

func TestPromise36FaultOpenEdges(t *testing.T) {
	one, longest := alike(1, 1, 0, 1), alike(8, 50, 3, 20)
	for _, c := range []struct {
		cable []impl.Section
		f     impl.Fault
		a, b  int
	}{
		{twoKinds(), impl.Fault{Mile: 4, Ohms: 6}, 18, 44}, {twoKinds(), impl.Fault{Mile: 12, Ohms: 0}, 38, 12},
		{twoKinds(), impl.Fault{Mile: 0, Ohms: 0}, 0, 50}, {twoKinds(), impl.Fault{Mile: 15, Ohms: 0}, 50, 0},
		{twoKinds(), impl.Fault{Mile: 0, Ohms: 1000}, 1000, 1050}, {twoKinds(), impl.Fault{Mile: 15, Ohms: 1000}, 1050, 1000},
		{one, impl.Fault{Mile: 0, Ohms: 0}, 0, 1}, {one, impl.Fault{Mile: 1, Ohms: 0}, 1, 0},
		{longest, impl.Fault{Mile: 400, Ohms: 1000}, 9000, 1000}, {longest, impl.Fault{Mile: 399, Ohms: 0}, 7980, 20},
	} {
		a, b, ok := impl.FaultOpen(c.cable, c.f)
		checkTwo(t, fmt.Sprintf("FaultOpen(%v, %v)", c.cable, c.f), a, b, ok, c.a, c.b)
		found, ok := impl.FaultFind(c.cable, c.a, c.b)
		checkFault(t, fmt.Sprintf("FaultFind(%v, %d, %d)", c.cable, c.a, c.b), found, ok, c.f)
	}
	eachNoFault(func(cable []impl.Section, f impl.Fault) {
		a, b, ok := impl.FaultOpen(cable, f)
		checkNoTwo(t, fmt.Sprintf("FaultOpen(%v, %v)", cable, f), a, b, ok)
	})
}

func TestPromise25FaultEarthed(t *testing.T) {
	for _, cable := range sampleCables() {
		back := mustBack(t, cable)
		for _, l := range sampleLeaks(cable) {
			f := l.fault()
			call := fmt.Sprintf("FaultEarthed(%v, %v)", cable, f)
			got, ok := impl.FaultEarthed(cable, f)
			checkRatio(t, call, got, ok, wantEarthed(l.up, l.rest, l.ohms))
			open, _, _ := impl.FaultOpen(cable, f)
			if got.Top > open*got.Low || got.Top > impl.CableAll(cable)*got.Low || got.Top < impl.CableOhms(cable, l.mile)*got.Low {
				t.Fatalf("%s returned %v, open it is %d", call, got, open)
			}
			far, ok := impl.FaultFar(back, mustFaultBack(t, cable, f))
			checkRatio(t, call+" counted from B", far, ok, got)
		}
	}
	eachNoFault(func(cable []impl.Section, f impl.Fault) {
		got, ok := impl.FaultEarthed(cable, f)
		checkNoRatio(t, fmt.Sprintf("FaultEarthed(%v, %v)", cable, f), got, ok)
	})
}

// TestPromise25FaultEarthedEdges checks both ends of cables, where the sum of the fault and the rest can be 0.
func TestPromise25FaultEarthedEdges(t *testing.T) {
	one, longest := alike(1, 1, 0, 1), alike(8, 50, 3, 20)
	for _, c := range []struct {
		cable []impl.Section
		f     impl.Fault
		near  impl.Ratio
		far   impl.Ratio
	}{
		{twoKinds(), impl.Fault{Mile: 4, Ohms: 6}, impl.Ratio{Top: 189, Low: 11}, impl.Ratio{Top: 42, Low: 1}},
		{twoKinds(), impl.Fault{Mile: 0, Ohms: 0}, impl.Ratio{Top: 0, Low: 1}, impl.Ratio{Top: 50, Low: 1}},
		{twoKinds(), impl.Fault{Mile: 15, Ohms: 0}, impl.Ratio{Top: 50, Low: 1}, impl.Ratio{Top: 0, Low: 1}},
		{twoKinds(), impl.Fault{Mile: 10, Ohms: 0}, impl.Ratio{Top: 30, Low: 1}, impl.Ratio{Top: 20, Low: 1}},
		{twoKinds(), impl.Fault{Mile: 0, Ohms: 1000}, impl.Ratio{Top: 1000, Low: 21}, impl.Ratio{Top: 50, Low: 1}},
		{twoKinds(), impl.Fault{Mile: 15, Ohms: 1000}, impl.Ratio{Top: 50, Low: 1}, impl.Ratio{Top: 1000, Low: 21}},
		{one, impl.Fault{Mile: 0, Ohms: 0}, impl.Ratio{Top: 0, Low: 1}, impl.Ratio{Top: 1, Low: 1}},
		{one, impl.Fault{Mile: 1, Ohms: 0}, impl.Ratio{Top: 1, Low: 1}, impl.Ratio{Top: 0, Low: 1}},
		{one, impl.Fault{Mile: 0, Ohms: 1}, impl.Ratio{Top: 1, Low: 2}, impl.Ratio{Top: 1, Low: 1}},
		{one, impl.Fault{Mile: 1, Ohms: 1000}, impl.Ratio{Top: 1, Low: 1}, impl.Ratio{Top: 1000, Low: 1001}},
		{longest, impl.Fault{Mile: 200, Ohms: 1000}, impl.Ratio{Top: 4800, Low: 1}, impl.Ratio{Top: 4800, Low: 1}},
		{longest, impl.Fault{Mile: 400, Ohms: 0}, impl.Ratio{Top: 8000, Low: 1}, impl.Ratio{Top: 0, Low: 1}},
		{longest, impl.Fault{Mile: 399, Ohms: 999}, impl.Ratio{Top: 8151600, Low: 1019}, impl.Ratio{Top: 2717200, Low: 2993}},
	} {
		near, ok := impl.FaultEarthed(c.cable, c.f)
		checkRatio(t, fmt.Sprintf("FaultEarthed(%v, %v)", c.cable, c.f), near, ok, c.near)
		far, ok := impl.FaultFar(c.cable, c.f)
		checkRatio(t, fmt.Sprintf("FaultFar(%v, %v)", c.cable, c.f), far, ok, c.far)
	}
}

func TestPromise26FaultFar(t *testing.T) {
	for _, cable := range sampleCables() {
		for _, l := range sampleLeaks(cable) {
			f := l.fault()
			call := fmt.Sprintf("FaultFar(%v, %v)", cable, f)
			got, ok := impl.FaultFar(cable, f)
			checkRatio(t, call, got, ok, wantEarthed(l.rest, l.up, l.ohms))
			if _, open, _ := impl.FaultOpen(cable, f); got.Top > open*got.Low {
				t.Fatalf("%s returned %v, open it is %d", call, got, open)
			}
		}
	}
	eachNoFault(func(cable []impl.Section, f impl.Fault) {
		got, ok := impl.FaultFar(cable, f)
		checkNoRatio(t, fmt.Sprintf("FaultFar(%v, %v)", cable, f), got, ok)
	})
}

// TestPromise26NoOhms checks faults of 0 ohms at each mile: each end measures what lies between it and the fault, open or earthed.
func TestPromise26NoOhms(t *testing.T) {
	for _, cable := range edgeCables() {
		for _, p := range pointsOf(cable) {
			f := impl.Fault{Mile: p.mile}
			near, ok := impl.FaultEarthed(cable, f)
			checkRatio(t, fmt.Sprintf("FaultEarthed(%v, %v)", cable, f), near, ok, impl.Ratio{Top: p.up, Low: 1})
			far, ok := impl.FaultFar(cable, f)
			checkRatio(t, fmt.Sprintf("FaultFar(%v, %v)", cable, f), far, ok, impl.Ratio{Top: p.rest, Low: 1})
			a, b, ok := impl.FaultOpen(cable, f)
			checkTwo(t, fmt.Sprintf("FaultOpen(%v, %v)", cable, f), a, b, ok, p.up, p.rest)
		}
	}
}

// checkFind checks a balance, and returns 1 if it has a fault.
func checkFind(t *testing.T, cable []impl.Section, a int, b int) int {
	t.Helper()
	call := fmt.Sprintf("FaultFind(%v, %d, %d)", cable, a, b)
	want, found := wantFind(cable, a, b)
	got, ok := impl.FaultFind(cable, a, b)
	if !found {
		checkNoFault(t, call, got, ok)
		return 0
	}
	checkFault(t, call, got, ok, want)
	openA, openB, ok := impl.FaultOpen(cable, got)
	checkTwo(t, "FaultOpen of "+call, openA, openB, ok, a, b)
	if next, ok := impl.FaultFind(cable, a+2, b); ok && next.Mile <= got.Mile {
		t.Fatalf("%s returned %v, and with 2 more from A %v", call, got, next)
	}
	return 1
}

func TestPromise27FaultFind(t *testing.T) {
	found, none := 0, 0
	for _, cable := range sampleCables() {
		for i, l := range sampleLeaks(cable) {
			if len(cable) > 3 && i%5 > 0 {
				continue
			}
			a, b := l.up+l.ohms, l.rest+l.ohms
			for _, more := range [][2]int{{0, 0}, {1, 0}, {0, 1}, {1, 1}, {2, 0}, {0, 2}, {-1, 0}, {0, -1}, {-1, 1}, {2, -2}, {-2, -2}, {2, 2}} {
				is := checkFind(t, cable, a+more[0], b+more[1])
				found += is
				none += 1 - is
			}
		}
	}
	if found < 1000 || none < 1000 {
		t.Fatalf("%d balances have a fault, %d have none", found, none)
	}
}

// TestPromise27FaultFindAll checks all balances of small cables, and the greatest ones: each fault is found just once.
func TestPromise27FaultFindAll(t *testing.T) {
	for _, cable := range [][]impl.Section{alike(1, 1, 0, 1), alike(1, 1, 3, 20), {{Miles: 2, Kind: 1, Ohms: 1}, {Miles: 3, Kind: 1, Ohms: 2}}, twoKinds()} {
		all := impl.CableAll(cable)
		found := 0
		for a := range 60 {
			for b := range 60 {
				found += checkFind(t, cable, a, b)
				checkFind(t, cable, a+950, b+950)
				checkFind(t, cable, a+all+950, b+950)
				checkFind(t, cable, a+950, b+all+950)
			}
		}
		want := 0
		for _, p := range pointsOf(cable) {
			for ohms := range 1001 {
				if p.up+ohms < 60 && p.rest+ohms < 60 {
					want++
				}
			}
		}
		checkNumber(t, fmt.Sprintf("the number of balances of %v", cable), found, want)
	}
}

func TestPromise27FaultFindInvalid(t *testing.T) {
	cable := twoKinds()
	for _, balance := range [][2]int{
		{18, 45}, {19, 44}, {17, 44}, {19, 45 - 2}, // odd differences, and a place within a mile
		{-1, 51}, {51, -1}, {-3, 47}, {-1, -1}, {0, 0}, {25, 24}, {24, 26}, // less than the cable has, or not at a mile
		{1001, 1051}, {1051, 1001}, {1013, 1039}, {52, 2}, {2, 52 + 2}, // more than FaultMax
	} {
		got, ok := impl.FaultFind(cable, balance[0], balance[1])
		if want, is := wantFind(cable, balance[0], balance[1]); got != want || ok != is {
			t.Fatalf("FaultFind(%v, %d, %d) returned %v, %v", cable, balance[0], balance[1], got, ok)
		}
	}
	numbers := append(farNumbers(), math.MaxInt-50, math.MaxInt-1000, math.MinInt+50, math.MinInt+8000, math.MaxInt/2, math.MaxInt/2+1, math.MaxInt/2+26, -1, -50)
	for _, cable := range edgeCables() {
		for _, far := range numbers {
			for _, other := range append(numbers, 0, 1, 18, 44, 50, 1000) {
				got, ok := impl.FaultFind(cable, far, other)
				checkNoFault(t, fmt.Sprintf("FaultFind(%v, %d, %d)", cable, far, other), got, ok)
				got, ok = impl.FaultFind(cable, other, far)
				checkNoFault(t, fmt.Sprintf("FaultFind(%v, %d, %d)", cable, other, far), got, ok)
			}
		}
	}
	for _, cable := range badCables() {
		for _, balance := range [][2]int{{0, 0}, {0, 1}, {18, 44}, {-1, 1}, {20, 20}, {0, 5}, {24, 48}, {1000, 1000}} {
			got, ok := impl.FaultFind(cable, balance[0], balance[1])
			checkNoFault(t, fmt.Sprintf("FaultFind(%v, %d, %d)", cable, balance[0], balance[1]), got, ok)
		}
	}
}

// sampleMeasured are numbers that can be measured from A, or nearly: at points of a cable, with faults of 0 ohms and of the most, and very large ones.
func sampleMeasured(cable []impl.Section) []int {
	numbers := []int{0, 1, 2, 3, 7, 20, 999, 1000, 1001, 9000, 9001, 1000000, math.MaxInt - 1, math.MaxInt}
	for _, p := range somePoints(cable) {
		numbers = append(numbers, max(p.up-1, 0), p.up, p.up+1, p.up+999, p.up+1000, p.up+1001)
	}
	slices.Sort(numbers)
	return slices.Compact(numbers)
}

func TestPromise28FaultOne(t *testing.T) {
	total := 0
	for _, cable := range sampleCables() {
		for i, a := range sampleMeasured(cable) {
			call := fmt.Sprintf("FaultOne(%v, %d)", cable, a)
			got, ok := impl.FaultOne(cable, a)
			checkFaults(t, call, got, ok, wantOne(cable, a))
			total += len(got)
			for k, f := range got {
				if k > 0 && (f.Mile <= got[k-1].Mile || f.Ohms >= got[k-1].Ohms) {
					t.Fatalf("%s returned %v: the miles do not rise or the ohms do not fall", call, got)
				}
				if len(got) > 20 && (i+k)%17 > 0 {
					continue
				}
				measured, b, ok := impl.FaultOpen(cable, f)
				checkTwo(t, "FaultOpen of "+call, measured, b, ok, a, b)
				found, ok := impl.FaultFind(cable, a, b)
				checkFault(t, "FaultFind of "+call, found, ok, f)
			}
		}
	}
	if total < 10000 {
		t.Fatalf("only %d faults are found", total)
	}
}

func TestPromise28FaultOneEdges(t *testing.T) {
	cable := twoKinds()
	for a, want := range map[int][]impl.Fault{
		0:    {{Mile: 0, Ohms: 0}},
		2:    {{Mile: 0, Ohms: 2}},
		3:    {{Mile: 0, Ohms: 3}, {Mile: 1, Ohms: 0}},
		7:    {{Mile: 0, Ohms: 7}, {Mile: 1, Ohms: 4}, {Mile: 2, Ohms: 1}},
		1042: {{Mile: 13, Ohms: 1000}, {Mile: 14, Ohms: 996}, {Mile: 15, Ohms: 992}},
		1043: {{Mile: 14, Ohms: 997}, {Mile: 15, Ohms: 993}},
		1050: {{Mile: 15, Ohms: 1000}},
		1051: {}, math.MaxInt: {},
	} {
		got, ok := impl.FaultOne(cable, a)
		checkFaults(t, fmt.Sprintf("FaultOne(%v, %d)", cable, a), got, ok, want)
	}
	// Each mile of a cable of 50 ohms can have a fault of 1000 ohms in all.
	got, ok := impl.FaultOne(cable, 1000)
	checkFaults(t, "FaultOne of 1000", got, ok, wantOne(cable, 1000))
	checkNumber(t, "the number of faults of 1000 ohms", len(got), 16)
	for _, cable := range edgeCables() {
		for _, a := range []int{-1, -2, -1000, -1000000, math.MinInt + 1, math.MinInt} {
			got, ok := impl.FaultOne(cable, a)
			checkNoFaults(t, fmt.Sprintf("FaultOne(%v, %d)", cable, a), got, ok)
		}
	}
	for _, cable := range badCables() {
		for _, a := range append(farNumbers(), -1, 0, 7, 1000) {
			got, ok := impl.FaultOne(cable, a)
			checkNoFaults(t, fmt.Sprintf("FaultOne(%v, %d)", cable, a), got, ok)
		}
	}
}

// sampleEarthed are ratios that are measured earthed with some of the faults, and ratios that are near, not in lowest terms, or none.
func sampleEarthed(cable []impl.Section, faults []impl.Fault) []impl.Ratio {
	ratios := []impl.Ratio{{}, {Top: 0, Low: 1}, {Top: 1, Low: 0}, {Top: math.MaxInt, Low: math.MaxInt}, {Top: math.MinInt, Low: -1}}
	for i, f := range faults {
		if i > 0 && i != len(faults)/2 && i < len(faults)-1 {
			continue
		}
		p := pointsOf(cable)[f.Mile]
		r := wantEarthed(p.up, p.rest, f.Ohms)
		ratios = append(ratios, r, impl.Ratio{Top: 2 * r.Top, Low: 2 * r.Low}, impl.Ratio{Top: r.Top + 1, Low: r.Low}, impl.Ratio{Top: r.Top, Low: r.Low + 1},
			impl.Ratio{Top: -r.Top, Low: -r.Low}, impl.Ratio{Top: r.Top, Low: 0}, impl.Ratio{Top: 0, Low: r.Low})
	}
	return ratios
}

func TestPromise29FaultBoth(t *testing.T) {
	found, none := 0, 0
	for _, cable := range edgeCables() {
		points := pointsOf(cable)
		for i, a := range sampleMeasured(cable) {
			if len(points) > 60 && i%5 > 0 {
				continue
			}
			faults := wantOne(cable, a)
			for _, ratio := range sampleEarthed(cable, faults) {
				want := slices.DeleteFunc(slices.Clone(faults), func(f impl.Fault) bool {
					return wantEarthed(points[f.Mile].up, points[f.Mile].rest, f.Ohms) != ratio
				})
				call := fmt.Sprintf("FaultBoth(%v, %d, %v)", cable, a, ratio)
				got, ok := impl.FaultBoth(cable, a, ratio)
				checkFaults(t, call, got, ok, want)
				if len(got) > 2 {
					t.Fatalf("%s returned %d faults", call, len(got))
				}
				found += len(got)
				if len(got) == 0 {
					none++
				}
			}
		}
	}
	if found < 500 || none < 500 {
		t.Fatalf("%d ratios have a fault, %d have none", found, none)
	}
}

func TestPromise29FaultBothEdges(t *testing.T) {
	cable := twoKinds()
	for _, c := range []struct {
		a     int
		ratio impl.Ratio
		want  []impl.Fault
	}{
		{18, impl.Ratio{Top: 189, Low: 11}, []impl.Fault{{Mile: 4, Ohms: 6}}},
		{18, impl.Ratio{Top: 378, Low: 22}, nil}, {18, impl.Ratio{Top: 190, Low: 11}, nil}, {19, impl.Ratio{Top: 189, Low: 11}, nil},
		{0, impl.Ratio{Top: 0, Low: 1}, []impl.Fault{{Mile: 0, Ohms: 0}}}, {0, impl.Ratio{Top: 0, Low: 2}, nil}, {0, impl.Ratio{}, nil},
		{3, impl.Ratio{Top: 3, Low: 1}, []impl.Fault{{Mile: 1, Ohms: 0}}}, {3, impl.Ratio{Top: 6, Low: 2}, nil}, {3, impl.Ratio{Top: -3, Low: -1}, nil},
		{50, impl.Ratio{Top: 50, Low: 1}, []impl.Fault{{Mile: 15, Ohms: 0}}}, {50, impl.Ratio{Top: 25, Low: 1}, []impl.Fault{{Mile: 0, Ohms: 50}}},
		{1050, impl.Ratio{Top: 50, Low: 1}, []impl.Fault{{Mile: 15, Ohms: 1000}}}, {1051, impl.Ratio{Top: 50, Low: 1}, nil}, {math.MaxInt, impl.Ratio{Top: 50, Low: 1}, nil},
	} {
		got, ok := impl.FaultBoth(cable, c.a, c.ratio)
		checkFaults(t, fmt.Sprintf("FaultBoth(%v, %d, %v)", cable, c.a, c.ratio), got, ok, c.want)
	}
	ratios := []impl.Ratio{{}, {Top: 0, Low: 1}, {Top: 6, Low: 1}, {Top: 3, Low: 0}, {Top: -1, Low: 1}}
	for _, ratio := range ratios {
		for _, a := range []int{-1, -2, -1000, -1000000, math.MinInt + 1, math.MinInt} {
			got, ok := impl.FaultBoth(cable, a, ratio)
			checkNoFaults(t, fmt.Sprintf("FaultBoth(%v, %d, %v)", cable, a, ratio), got, ok)
		}
		for _, bad := range badCables() {
			for _, a := range append(farNumbers(), -1, 0, 6) {
				got, ok := impl.FaultBoth(bad, a, ratio)
				checkNoFaults(t, fmt.Sprintf("FaultBoth(%v, %d, %v)", bad, a, ratio), got, ok)
			}
		}
	}
}

func TestPromise30FaultBack(t *testing.T) {
	for _, cable := range sampleCables() {
		back := mustBack(t, cable)
		all := len(milesOf(cable))
		for _, l := range sampleLeaks(cable) {
			f := l.fault()
			call := fmt.Sprintf("FaultBack(%v, %v)", cable, f)
			got, ok := impl.FaultBack(cable, f)
			checkFault(t, call, got, ok, impl.Fault{Mile: all - l.mile, Ohms: l.ohms})
			checkNumber(t, "both miles of "+call, got.Mile+f.Mile, impl.CableMiles(cable))
			again, ok := impl.FaultBack(back, got)
			checkFault(t, "FaultBack of "+call, again, ok, f)
		}
	}
	got, ok := impl.FaultBack(twoKinds(), impl.Fault{Mile: 4, Ohms: 6})
	checkFault(t, "FaultBack", got, ok, impl.Fault{Mile: 11, Ohms: 6})
	eachNoFault(func(cable []impl.Section, f impl.Fault) {
		got, ok := impl.FaultBack(cable, f)
		checkNoFault(t, fmt.Sprintf("FaultBack(%v, %v)", cable, f), got, ok)
	})
}

func TestPromise31FaultLess(t *testing.T) {
	less := 0
	for _, cable := range edgeCables() {
		back := mustBack(t, cable)
		leaks := sampleLeaks(cable)
		for i, l := range leaks {
			for k, m := range leaks {
				if len(leaks) > 60 && (i+k)%7 > 0 {
					continue
				}
				f, g := l.fault(), m.fault()
				call := fmt.Sprintf("FaultLess(%v, %v, %v)", cable, f, g)
				want := l.up+l.ohms < m.up+m.ohms && l.rest+l.ohms < m.rest+m.ohms
				if impl.FaultLess(cable, f, g) != want {
					t.Fatalf("%s returned %v", call, !want)
				}
				if impl.FaultLess(back, mustFaultBack(t, cable, f), mustFaultBack(t, cable, g)) != want {
					t.Fatalf("%s counted from B returned %v", call, !want)
				}
				if want {
					less++
				}
				if want && (f.Ohms >= g.Ohms || impl.FaultLess(cable, g, f)) {
					t.Fatalf("%s holds, and for both exchanged, too, or with as many ohms", call)
				}
			}
		}
	}
	if less < 1000 {
		t.Fatalf("FaultLess holds for %d pairs only", less)
	}
}

func TestPromise31FaultLessEdges(t *testing.T) {
	cable := twoKinds()
	for _, c := range []struct {
		f, g impl.Fault
		want bool
	}{
		{impl.Fault{Mile: 4, Ohms: 6}, impl.Fault{Mile: 4, Ohms: 7}, true}, {impl.Fault{Mile: 4, Ohms: 6}, impl.Fault{Mile: 4, Ohms: 6}, false},
		{impl.Fault{Mile: 4, Ohms: 6}, impl.Fault{Mile: 5, Ohms: 10}, true}, {impl.Fault{Mile: 4, Ohms: 6}, impl.Fault{Mile: 5, Ohms: 9}, false}, // as much from B
		{impl.Fault{Mile: 4, Ohms: 6}, impl.Fault{Mile: 3, Ohms: 10}, true}, {impl.Fault{Mile: 4, Ohms: 6}, impl.Fault{Mile: 3, Ohms: 9}, false}, // as much from A
		{impl.Fault{Mile: 4, Ohms: 6}, impl.Fault{Mile: 5, Ohms: 6}, false}, {impl.Fault{Mile: 4, Ohms: 6}, impl.Fault{Mile: 3, Ohms: 6}, false},
		{impl.Fault{Mile: 0, Ohms: 0}, impl.Fault{Mile: 15, Ohms: 51}, true}, {impl.Fault{Mile: 0, Ohms: 0}, impl.Fault{Mile: 15, Ohms: 50}, false},
		{impl.Fault{Mile: 0, Ohms: 0}, impl.Fault{Mile: 0, Ohms: 1000}, true}, {impl.Fault{Mile: 15, Ohms: 999}, impl.Fault{Mile: 15, Ohms: 1000}, true},
	} {
		if impl.FaultLess(cable, c.f, c.g) != c.want {
			t.Fatalf("FaultLess(%v, %v, %v) returned %v", cable, c.f, c.g, !c.want)
		}
	}
	eachNoFault(func(cable []impl.Section, f impl.Fault) {
		for _, g := range []impl.Fault{{}, {Mile: 0, Ohms: 1000}, {Mile: 1, Ohms: 500}, f, {Mile: f.Mile, Ohms: f.Ohms + 1}} {
			if impl.FaultLess(cable, f, g) || impl.FaultLess(cable, g, f) {
				t.Fatalf("FaultLess(%v) holds for %v and %v or exchanged", cable, f, g)
			}
		}
	})
}

func TestPromise32BreakOpen(t *testing.T) {
	for _, cable := range sampleCables() {
		for _, p := range somePoints(cable) {
			for _, end := range []int{0, 1, 5, 19, 20, 21, 500, 999, 1000} {
				call := fmt.Sprintf("BreakOpen(%v, %d, %d)", cable, p.mile, end)
				measured := impl.BreakOpen(cable, p.mile, end)
				checkNumber(t, call, measured, p.up+end)
				least, greatest, ok := impl.BreakRange(cable, measured, end)
				if !ok || p.mile < least || p.mile > greatest {
					t.Fatalf("BreakRange of %s returned %d, %d, %v", call, least, greatest, ok)
				}
			}
			least, greatest, ok := impl.BreakRange(cable, impl.BreakOpen(cable, p.mile, 0), 0)
			checkTwo(t, fmt.Sprintf("BreakRange without an end at %d of %v", p.mile, cable), least, greatest, ok, p.mile, p.mile)
		}
	}
	for _, c := range [][3]int{{0, 0, 0}, {0, 1000, 1000}, {15, 0, 50}, {15, 1000, 1050}, {4, 6, 18}, {10, 0, 30}, {11, 0, 34}} {
		checkNumber(t, fmt.Sprintf("BreakOpen(%v, %d, %d)", twoKinds(), c[0], c[1]), impl.BreakOpen(twoKinds(), c[0], c[1]), c[2])
	}
	eachNoFault(func(cable []impl.Section, f impl.Fault) {
		checkNumber(t, fmt.Sprintf("BreakOpen(%v, %d, %d)", cable, f.Mile, f.Ohms), impl.BreakOpen(cable, f.Mile, f.Ohms), -1)
	})
}

// wantRange returns the miles at which a number is measured with an end of at most some ohms.
func wantRange(cable []impl.Section, measured int, end int) []int {
	miles := []int{}
	for _, p := range pointsOf(cable) {
		if p.up <= measured && measured <= p.up+end {
			miles = append(miles, p.mile)
		}
	}
	return miles
}

func TestPromise33BreakRange(t *testing.T) {
	found, none := 0, 0
	for _, cable := range sampleCables() {
		for _, measured := range sampleMeasured(cable) {
			for _, end := range []int{0, 1, 2, 5, 19, 20, 21, 500, 999, 1000} {
				call := fmt.Sprintf("BreakRange(%v, %d, %d)", cable, measured, end)
				want := wantRange(cable, measured, end)
				least, greatest, ok := impl.BreakRange(cable, measured, end)
				if len(want) == 0 {
					checkNoTwo(t, call, least, greatest, ok)
					none++
					continue
				}
				checkTwo(t, call, least, greatest, ok, want[0], want[len(want)-1])
				checkWider(t, cable, measured, end)
				found++
			}
		}
	}
	if found < 1000 || none < 1000 {
		t.Fatalf("%d numbers have a range, %d have none", found, none)
	}
}

// checkWider checks that an end of 1 more ohm has no narrower range, and that none of less than 0 is measured at its miles.
func checkWider(t *testing.T, cable []impl.Section, measured int, end int) {
	t.Helper()
	least, greatest, _ := impl.BreakRange(cable, measured, end)
	for _, m := range []int{least, greatest} {
		if bared := measured - impl.CableOhms(cable, m); bared < 0 || bared > end || impl.BreakOpen(cable, m, bared) != measured {
			t.Fatalf("BreakRange(%v, %d, %d) has the mile %d with an end of %d", cable, measured, end, m, bared)
		}
	}
	if end == 1000 {
		return
	}
	wideLeast, wideGreatest, ok := impl.BreakRange(cable, measured, end+1)
	if !ok || wideLeast > least || wideGreatest < greatest {
		t.Fatalf("BreakRange(%v, %d, %d) returned %d, %d, %v, narrower than %d, %d", cable, measured, end+1, wideLeast, wideGreatest, ok, least, greatest)
	}
}

func TestPromise33BreakRangeEdges(t *testing.T) {
	for _, c := range [][4]int{{20, 6, 5, 6}, {0, 0, 0, 0}, {0, 1000, 0, 0}, {3, 0, 1, 1}, {3, 3, 0, 1}, {30, 0, 10, 10}, {33, 3, 10, 10}, {34, 4, 10, 11}, {50, 0, 15, 15}, {50, 1000, 0, 15}, {51, 1, 15, 15}, {1000, 1000, 0, 15}, {1001, 1000, 1, 15}, {1050, 1000, 15, 15}} {
		least, greatest, ok := impl.BreakRange(twoKinds(), c[0], c[1])
		checkTwo(t, fmt.Sprintf("BreakRange(%v, %d, %d)", twoKinds(), c[0], c[1]), least, greatest, ok, c[2], c[3])
	}
	for _, c := range [][2]int{{1, 0}, {2, 1}, {51, 0}, {52, 1}, {1051, 1000}, {math.MaxInt, 1000}, {math.MaxInt, 0}} {
		least, greatest, ok := impl.BreakRange(twoKinds(), c[0], c[1])
		checkNoTwo(t, fmt.Sprintf("BreakRange(%v, %d, %d)", twoKinds(), c[0], c[1]), least, greatest, ok)
	}
}

func TestPromise33BreakRangeInvalid(t *testing.T) {
	for _, cable := range edgeCables() {
		for _, measured := range []int{-1, -2, -1000, -1000000, math.MinInt + 1, math.MinInt} {
			for _, end := range []int{-1, 0, 5, 1000, math.MaxInt, math.MinInt} {
				least, greatest, ok := impl.BreakRange(cable, measured, end)
				checkNoTwo(t, fmt.Sprintf("BreakRange(%v, %d, %d)", cable, measured, end), least, greatest, ok)
			}
		}
		for _, end := range append(farNumbers(), -2, -1, 1001, 1002) {
			for _, measured := range []int{0, 1, 3, 1000, 1001, math.MaxInt} {
				least, greatest, ok := impl.BreakRange(cable, measured, end)
				checkNoTwo(t, fmt.Sprintf("BreakRange(%v, %d, %d)", cable, measured, end), least, greatest, ok)
			}
		}
	}
	for _, cable := range badCables() {
		for _, measured := range append(farNumbers(), -1, 0, 6, 1000) {
			for _, end := range []int{-1, 0, 6, 1000, 1001} {
				least, greatest, ok := impl.BreakRange(cable, measured, end)
				checkNoTwo(t, fmt.Sprintf("BreakRange(%v, %d, %d)", cable, measured, end), least, greatest, ok)
			}
		}
	}
}

func TestPromise34RatioOf(t *testing.T) {
	// Both numbers of 1836311903 and 1134903170 follow each other in Fibonacci's row: no others need more steps.
	numbers := []int{0, 999999, 1000000, 1000001, 1836311903, 1134903170, 1 << 40, 1<<62 - 1, 1 << 62, math.MaxInt / 7, math.MaxInt - 1, math.MaxInt}
	for number := 1; number <= 64; number++ {
		numbers = append(numbers, number)
	}
	for _, top := range numbers {
		for _, low := range numbers[1:] {
			call := fmt.Sprintf("RatioOf(%d, %d)", top, low)
			got, ok := impl.RatioOf(top, low)
			checkRatio(t, call, got, ok, ratioOfRat(big.NewRat(int64(top), int64(low))))
			again, ok := impl.RatioOf(got.Top, got.Low)
			checkRatio(t, "RatioOf of "+call, again, ok, got)
			if top <= math.MaxInt/2 && low <= math.MaxInt/2 {
				doubled, ok := impl.RatioOf(2*top, 2*low)
				checkRatio(t, "the double of "+call, doubled, ok, got)
			}
		}
	}
	for _, c := range [][4]int{{0, 1, 0, 1}, {0, 7, 0, 1}, {0, math.MaxInt, 0, 1}, {7, 7, 1, 1}, {6, 4, 3, 2}, {4, 6, 2, 3}, {5, 1, 5, 1}, {1, 5, 1, 5}, {8316, 484, 189, 11}, {math.MaxInt, 7, math.MaxInt / 7, 1}, {7, math.MaxInt, 1, math.MaxInt / 7}} {
		got, ok := impl.RatioOf(c[0], c[1])
		checkRatio(t, fmt.Sprintf("RatioOf(%d, %d)", c[0], c[1]), got, ok, impl.Ratio{Top: c[2], Low: c[3]})
	}
}

func TestPromise34RatioOfInvalid(t *testing.T) {
	negative := []int{-1, -2, -7, -1000000, math.MinInt + 1, math.MinInt}
	for _, bad := range negative {
		for _, other := range append(negative, 0, 1, 2, 7, 1000000, math.MaxInt) {
			got, ok := impl.RatioOf(bad, other)
			checkNoRatio(t, fmt.Sprintf("RatioOf(%d, %d)", bad, other), got, ok)
			got, ok = impl.RatioOf(other, bad)
			checkNoRatio(t, fmt.Sprintf("RatioOf(%d, %d)", other, bad), got, ok)
		}
	}
	for _, top := range append(negative, 0, 1, 2, 7, 1000000, math.MaxInt) {
		got, ok := impl.RatioOf(top, 0)
		checkNoRatio(t, fmt.Sprintf("RatioOf(%d, 0)", top), got, ok)
	}
}

// sampleRatios are ratios that can be compared, some of them not in lowest terms.
func sampleRatios() []impl.Ratio {
	ratios := []impl.Ratio{}
	for _, top := range []int{0, 1, 2, 3, 4, 6, 7, 499999, 500000, 999998, 999999, 1000000} {
		for _, low := range []int{1, 2, 3, 4, 6, 7, 499999, 500000, 999998, 999999, 1000000} {
			ratios = append(ratios, impl.Ratio{Top: top, Low: low})
		}
	}
	return ratios
}

func TestPromise35RatioLess(t *testing.T) {
	for _, a := range sampleRatios() {
		for _, b := range sampleRatios() {
			want := rat(a).Cmp(rat(b)) < 0
			if impl.RatioLess(a, b) != want {
				t.Fatalf("RatioLess(%v, %v) returned %v", a, b, !want)
			}
			if !want {
				continue
			}
			if impl.RatioLess(b, a) {
				t.Fatalf("RatioLess holds for %v and %v and exchanged", a, b)
			}
			greater := impl.Ratio{Top: b.Top + 1, Low: b.Low}
			if impl.RatioLess(a, greater) != (greater.Top <= 1000000) {
				t.Fatalf("RatioLess(%v, %v) returned %v", a, greater, greater.Top > 1000000)
			}
		}
		if impl.RatioLess(a, a) {
			t.Fatalf("RatioLess(%v, %v) holds", a, a)
		}
	}
}

func TestPromise35RatioLessEdges(t *testing.T) {
	for _, c := range []struct {
		a, b impl.Ratio
		want bool
	}{
		{impl.Ratio{Top: 0, Low: 1}, impl.Ratio{Top: 1, Low: 1000000}, true}, {impl.Ratio{Top: 0, Low: 7}, impl.Ratio{Top: 0, Low: 1}, false},
		{impl.Ratio{Top: 1, Low: 2}, impl.Ratio{Top: 2, Low: 4}, false}, {impl.Ratio{Top: 1, Low: 3}, impl.Ratio{Top: 2, Low: 4}, true}, {impl.Ratio{Top: 2, Low: 6}, impl.Ratio{Top: 1, Low: 2}, true},
		{impl.Ratio{Top: 999999, Low: 1000000}, impl.Ratio{Top: 1, Low: 1}, true}, {impl.Ratio{Top: 999998, Low: 999999}, impl.Ratio{Top: 999999, Low: 1000000}, true},
		{impl.Ratio{Top: 999999, Low: 1}, impl.Ratio{Top: 1000000, Low: 1}, true}, {impl.Ratio{Top: 1000000, Low: 1}, impl.Ratio{Top: 1000001, Low: 1}, false},
		{impl.Ratio{Top: 1, Low: 1000001}, impl.Ratio{Top: 1, Low: 1000000}, false}, {impl.Ratio{Top: 1, Low: 1000000}, impl.Ratio{Top: 1, Low: 999999}, true},
	} {
		if impl.RatioLess(c.a, c.b) != c.want {
			t.Fatalf("RatioLess(%v, %v) returned %v", c.a, c.b, !c.want)
		}
	}
}

func TestPromise35RatioLessInvalid(t *testing.T) {
	bad := []impl.Ratio{{}}
	for _, number := range []int{math.MinInt, math.MinInt + 1, -1000001, -1000000, -1, 1000001, 1 << 32, math.MaxInt - 1, math.MaxInt} {
		bad = append(bad, impl.Ratio{Top: number, Low: 1}, impl.Ratio{Top: number, Low: 1000000}, impl.Ratio{Top: 0, Low: number}, impl.Ratio{Top: 1, Low: number}, impl.Ratio{Top: number, Low: number})
	}
	for _, top := range []int{0, 1, 7, 1000000} {
		bad = append(bad, impl.Ratio{Top: top, Low: 0})
	}
	for _, a := range bad {
		for _, b := range append(sampleRatios(), bad...) {
			if impl.RatioLess(a, b) || impl.RatioLess(b, a) {
				t.Fatalf("RatioLess holds for %v and %v or exchanged", a, b)
			}
		}
	}
}

// TestFaultMemory changes what FaultOne and FaultBoth return, up to its capacity, and checks that nothing else changes; and that no function changes a cable.
func TestFaultMemory(t *testing.T) {
	whole := append(twoKinds(), impl.Section{Miles: 3, Kind: 2, Ohms: 7})
	before := slices.Clone(whole)
	cable := whole[:2]
	one, _ := impl.FaultOne(cable, 18)
	other, _ := impl.FaultOne(cable, 18)
	both, _ := impl.FaultBoth(cable, 18, impl.Ratio{Top: 189, Low: 11})
	want := slices.Clone(one)
	for _, list := range [][]impl.Fault{other[:cap(other)], both[:cap(both)]} {
		for i := range list {
			list[i] = impl.Fault{Mile: -7, Ohms: -7}
		}
	}
	again, ok := impl.FaultOne(cable, 18)
	checkFaults(t, "FaultOne again", again, ok, want)
	checkFaults(t, "the first FaultOne", one, ok, want)
	f := impl.Fault{Mile: 4, Ohms: 6}
	impl.FaultValid(cable, f)
	impl.FaultOpen(cable, f)
	impl.FaultEarthed(cable, f)
	impl.FaultFar(cable, f)
	impl.FaultFind(cable, 18, 44)
	impl.FaultBack(cable, f)
	impl.FaultLess(cable, f, f)
	impl.BreakOpen(cable, 4, 6)
	impl.BreakRange(cable, 20, 6)
	if !slices.Equal(whole, before) {
		t.Fatalf("a cable is changed to %v", whole)
	}
}
