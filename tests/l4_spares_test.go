package tests

import (
	"fmt"
	"slices"
	"testing"

	"loop.example/cableship/impl"
)

// The tests of chapter 4 hold the program against all rows and all sets of spares, tried one by one.

// ofKind returns spares of one kind, each with some miles.
func ofKind(kind int, miles ...int) []impl.Spare {
	list := []impl.Spare{}
	for _, m := range miles {
		list = append(list, impl.Spare{Miles: m, Kind: kind})
	}
	return list
}

// depot is the list with which the examples are worked out by hand: a spare of the kind 1 lies between three of the kind 0, two of them with as many miles.
func depot() []impl.Spare {
	return []impl.Spare{{Miles: 8, Kind: 0}, {Miles: 5, Kind: 0}, {Miles: 6, Kind: 1}, {Miles: 5, Kind: 0}}
}

// edgeSpares are lists at the document's limits, of one kind and of several, with equal spares, sorted or not.
func edgeSpares() [][]impl.Spare {
	kinds := []impl.Spare{{Miles: 9, Kind: 3}, {Miles: 9, Kind: 2}, {Miles: 9, Kind: 1}, {Miles: 9, Kind: 0}}
	return [][]impl.Spare{
		{}, depot(),
		ofKind(0, 1), ofKind(3, 1), ofKind(0, 50), ofKind(3, 50), ofKind(1, 7, 7), ofKind(2, 7, 7, 7),
		ofKind(1, 9, 8, 7, 6), ofKind(1, 6, 7, 8, 9), ofKind(2, 3, 1, 2), ofKind(2, 1, 50, 1, 50), ofKind(0, 6, 4, 5, 5, 7, 3),
		ofKind(0, repeated(50, 10)...), ofKind(3, repeated(1, 10)...), ofKind(2, 1, 2, 3, 4, 5, 6, 7, 8, 9, 10), ofKind(2, 50, 49, 48, 47, 46, 5, 4, 3, 2, 1),
		kinds, slices.Repeat(kinds, 2), slices.Concat(ofKind(0, 3, 1), ofKind(1, 4, 2), ofKind(3, 5, 5)), slices.Concat(ofKind(3, 1, 2), ofKind(0, 3, 4)),
		slices.Concat(ofKind(0, 7, 7), ofKind(1, 7), ofKind(0, 7)), slices.Concat(ofKind(1, 20, 10, 30), ofKind(2, 50, 50), ofKind(1, 10, 20, 30)),
		slices.Concat(ofKind(3, repeated(50, 5)...), ofKind(1, repeated(50, 5)...)),
	}
}

// sampleSpares are the edge lists, all lists of two and three spares of some, and random ones.
func sampleSpares() [][]impl.Spare {
	lists := edgeSpares()
	some := []impl.Spare{{Miles: 4, Kind: 0}, {Miles: 5, Kind: 0}, {Miles: 5, Kind: 1}, {Miles: 9, Kind: 0}}
	for _, a := range some {
		for _, b := range some {
			lists = append(lists, []impl.Spare{a, b})
			for _, c := range some {
				lists = append(lists, []impl.Spare{a, b, c})
			}
		}
	}
	random := newRandom()
	for range 60 {
		list := make([]impl.Spare, 1+random.Intn(10))
		miles, kinds := 1+random.Intn(50), 1+random.Intn(4)
		for i := range list {
			list[i] = impl.Spare{Miles: 1 + random.Intn(miles), Kind: random.Intn(kinds)}
		}
		lists = append(lists, list)
	}
	return lists
}

// isLength reports whether a spare or a need is in range.
func isLength(s impl.Spare) bool {
	return s.Miles >= 1 && s.Miles <= 50 && s.Kind >= 0 && s.Kind <= 3
}

// closeNeeds are needs that are as long as the spares of a list, 1 mile shorter or 1 mile longer, some of another kind.
func closeNeeds(list []impl.Spare) []impl.Spare {
	needs := []impl.Spare{{Miles: 1, Kind: 0}, {Miles: 50, Kind: 0}, {Miles: 1, Kind: 3}, {Miles: 50, Kind: 3}}
	for _, s := range list {
		for _, need := range []impl.Spare{s, {Miles: s.Miles - 1, Kind: s.Kind}, {Miles: s.Miles + 1, Kind: s.Kind}, {Miles: s.Miles, Kind: (s.Kind + 1) % 4}} {
			if isLength(need) && !slices.Contains(needs, need) {
				needs = append(needs, need)
			}
		}
	}
	return needs
}

// sampleNeeds are lists of needs for some spares: none, each close one, and random ones, some with more needs than spares.
func sampleNeeds(list []impl.Spare) [][]impl.Spare {
	near := closeNeeds(list)
	lists := [][]impl.Spare{{}}
	for _, need := range near {
		lists = append(lists, []impl.Spare{need})
	}
	random := newRandom()
	for size := 2; size <= 5; size++ {
		for range 4 {
			needs := make([]impl.Spare, size)
			for i := range needs {
				needs[i] = near[random.Intn(len(near))]
			}
			lists = append(lists, needs)
		}
		if len(list) > 6 && size == 3 {
			break // all rows of 5 of 10 spares are too many to try for each list; TestPromise44ServeManyMost has some
		}
	}
	return lists
}

// eachNeeds calls a function with sample spares and needs, and all servings of these.
func eachNeeds(check func(list []impl.Spare, needs []impl.Spare, servings [][]int)) {
	for _, list := range sampleSpares() {
		for _, needs := range sampleNeeds(list) {
			check(list, needs, servingsOf(list, needs))
		}
	}
}

// isServing reports whether a row of indexes of spares is a serving.
func isServing(list []impl.Spare, needs []impl.Spare, row []int) bool {
	for a, i := range row {
		if list[i].Kind != needs[a].Kind || list[i].Miles < needs[a].Miles || slices.Index(row, i) != a {
			return false
		}
	}
	return true
}

// rowsOf returns all rows of so many numbers from 0 to one less than a base, as if they were places of a number.
func rowsOf(base int, size int) [][]int {
	rows := [][]int{{}}
	for range size {
		longer := [][]int{}
		for _, row := range rows {
			for i := range base {
				longer = append(longer, append(slices.Clone(row), i))
			}
		}
		rows = longer
	}
	return rows
}

func servingsOf(list []impl.Spare, needs []impl.Spare) [][]int {
	servings := [][]int{}
	for _, row := range rowsOf(len(list), len(needs)) {
		if isServing(list, needs, row) {
			servings = append(servings, row)
		}
	}
	return servings
}

func wantWaste(list []impl.Spare, needs []impl.Spare, serving []int) int {
	waste := 0
	for place, i := range serving {
		waste += list[i].Miles - needs[place].Miles
	}
	return waste
}

// wantBest returns the serving with the least waste, the first one of several, or nil if there are none.
func wantBest(list []impl.Spare, needs []impl.Spare, servings [][]int) []int {
	var best []int
	for _, s := range servings {
		waste, least := wantWaste(list, needs, s), wantWaste(list, needs, best)
		if best == nil || waste < least || waste == least && slices.Compare(s, best) < 0 {
			best = s
		}
	}
	return best
}

func milesOfKind(list []impl.Spare, kind int) int {
	miles := 0
	for _, s := range list {
		if s.Kind == kind {
			miles += s.Miles
		}
	}
	return miles
}

// indexesOf returns the places of the ones of a number in the binary system.
func indexesOf(set int) []int {
	indexes := []int{}
	for i := 0; set>>i > 0; i++ {
		if set>>i&1 == 1 {
			indexes = append(indexes, i)
		}
	}
	return indexes
}

// set is a set of spares of one kind, with their miles.
type set struct {
	indexes []int
	miles   int
}

// setsOf returns all sets of spares of a kind.
func setsOf(list []impl.Spare, kind int) []set {
	sets := []set{}
	for number := range 1 << len(list) {
		s := set{indexes: indexesOf(number)}
		other := false
		for _, i := range s.indexes {
			s.miles += list[i].Miles
			other = other || list[i].Kind != kind
		}
		if !other {
			sets = append(sets, s)
		}
	}
	return sets
}

// wantJoint returns the best joint of at least some miles, or nil if there is none.
func wantJoint(sets []set, miles int) []int {
	var best set
	for _, s := range sets {
		if s.miles < miles || miles < 1 || miles > 500 {
			continue
		}
		order := slices.Compare([]int{len(s.indexes), s.miles}, []int{len(best.indexes), best.miles})
		if best.indexes == nil || order < 0 || order == 0 && slices.Compare(s.indexes, best.indexes) < 0 {
			best = s
		}
	}
	return best.indexes
}

// jointMiles are numbers of miles that are asked of joints: the limits, what sets of spares have, and 1 less and 1 more.
func jointMiles(sets []set) []int {
	miles := []int{1, 2, 499, 500}
	for i, s := range sets {
		if len(sets) < 70 || i%29 == 0 || i > len(sets)-4 {
			miles = append(miles, s.miles-1, s.miles, s.miles+1)
		}
	}
	slices.Sort(miles)
	return slices.DeleteFunc(slices.Compact(miles), func(m int) bool { return m < 1 || m > 500 })
}

// eachJoint calls a function with sample spares, kinds that are ones or not, miles in range, and the best joint.
func eachJoint(check func(list []impl.Spare, kind int, miles int, joint []int)) {
	for _, list := range sampleSpares() {
		for kind := -1; kind <= 4; kind++ {
			sets := setsOf(list, kind)
			for _, miles := range jointMiles(sets) {
				check(list, kind, miles, wantJoint(sets, miles))
			}
		}
	}
}

// badLengths are neither spares nor needs: one number is out of range, or both are.
func badLengths() []impl.Spare {
	bad := []impl.Spare{{}, {Miles: -1, Kind: -1}, {Miles: 51, Kind: 4}}
	for _, number := range append(farNumbers(), -1, 0, 51) {
		bad = append(bad, impl.Spare{Miles: number, Kind: 1})
	}
	for _, number := range append(farNumbers(), -1, 4) {
		bad = append(bad, impl.Spare{Miles: 9, Kind: number})
	}
	return bad
}

// badLists are lists of at most so many lengths with one that is none at any place, and lists that are too long.
func badLists(most int) [][]impl.Spare {
	bad := [][]impl.Spare{ofKind(0, repeated(1, most+1)...), ofKind(3, repeated(50, most+1)...), ofKind(1, repeated(9, most+2)...), ofKind(1, repeated(9, 500)...)}
	for _, length := range badLengths() {
		bad = append(bad, []impl.Spare{length})
		for _, i := range []int{0, most / 2, most - 1} {
			list := ofKind(1, repeated(9, most)...)
			list[i] = length
			bad = append(bad, list)
		}
	}
	return bad
}

// eachNoNeeds calls a function with two lists of which one is no spares, the other one no needs, or both.
func eachNoNeeds(check func(list []impl.Spare, needs []impl.Spare)) {
	for _, list := range badLists(10) {
		for _, needs := range [][]impl.Spare{{}, ofKind(1, 9), ofKind(1, 1, 1), ofKind(0, repeated(1, 5)...)} {
			check(list, needs)
		}
		check(list, slices.Clone(list))
	}
	for _, needs := range badLists(5) {
		for _, list := range [][]impl.Spare{{}, depot(), ofKind(1, repeated(50, 10)...), ofKind(0, repeated(50, 10)...), ofKind(3, repeated(50, 10)...)} {
			check(list, needs)
		}
	}
}

// checkSpares fails unless a call succeeded with a list of spares.
func checkSpares(t *testing.T, call string, got []impl.Spare, ok bool, want []impl.Spare) {
	t.Helper()
	if !ok || !slices.Equal(got, want) {
		t.Fatalf("%s returned %v, %v instead of %v, true", call, got, ok, want)
	}
}

// checkNoSpares fails unless a call returned an empty list and false.
func checkNoSpares(t *testing.T, call string, got []impl.Spare, ok bool) {
	t.Helper()
	if ok || len(got) != 0 {
		t.Fatalf("%s returned %v, %v instead of no spares and false", call, got, ok)
	}
}

// checkIndex fails unless a call succeeded with an index.
func checkIndex(t *testing.T, call string, got int, ok bool, want int) {
	t.Helper()
	if !ok || got != want {
		t.Fatalf("%s returned %d, %v instead of %d, true", call, got, ok, want)
	}
}

// checkNoIndex fails unless a call returned 0 and false.
func checkNoIndex(t *testing.T, call string, got int, ok bool) {
	t.Helper()
	if ok || got != 0 {
		t.Fatalf("%s returned %d, %v instead of 0, false", call, got, ok)
	}
}

// checkHolds fails unless a call returned a truth.
func checkHolds(t *testing.T, call string, got bool, want bool) {
	t.Helper()
	if got != want {
		t.Fatalf("%s returned %v", call, got)
	}
}

func TestSpareConstants(t *testing.T) {
	checkNumber(t, "SparesMax", impl.SparesMax, 10)
	checkNumber(t, "NeedsMax", impl.NeedsMax, 5)
}

func TestSparesValid(t *testing.T) {
	checkHolds(t, "SparesValid(nil)", impl.SparesValid(nil), true)
	for _, list := range sampleSpares() {
		checkHolds(t, fmt.Sprintf("SparesValid(%v)", list), impl.SparesValid(list), true)
	}
	for _, list := range badLists(10) {
		checkHolds(t, fmt.Sprintf("SparesValid(%v)", list), impl.SparesValid(list), false)
	}
	for miles := -2; miles <= 53; miles++ {
		for kind := -2; kind <= 6; kind++ {
			s := impl.Spare{Miles: miles, Kind: kind}
			checkHolds(t, fmt.Sprintf("SparesValid of %v", s), impl.SparesValid([]impl.Spare{s}), isLength(s))
		}
	}
}

func TestPromise37SparesMiles(t *testing.T) {
	for _, list := range sampleSpares() {
		sorted, _ := impl.SparesSort(list)
		total := 0
		for kind := -2; kind <= 5; kind++ {
			call := fmt.Sprintf("SparesMiles(%v, %d)", list, kind)
			got := impl.SparesMiles(list, kind)
			checkNumber(t, call, got, milesOfKind(list, kind))
			checkNumber(t, call+" sorted", impl.SparesMiles(sorted, kind), got)
			total += got
		}
		all := 0
		for _, s := range list {
			all += s.Miles
		}
		checkNumber(t, fmt.Sprintf("the sum of SparesMiles of %v", list), total, all)
	}
}

func TestPromise37SparesMilesEdges(t *testing.T) {
	for kind, want := range []int{18, 6, 0, 0} {
		checkNumber(t, fmt.Sprintf("SparesMiles(%v, %d)", depot(), kind), impl.SparesMiles(depot(), kind), want)
	}
	checkNumber(t, "SparesMiles of the most", impl.SparesMiles(ofKind(3, repeated(50, 10)...), 3), 500)
	for _, kind := range append(farNumbers(), -1, 4, 0, 3) {
		checkNumber(t, fmt.Sprintf("SparesMiles(nil, %d)", kind), impl.SparesMiles(nil, kind), 0)
		for _, bad := range badLists(10) {
			checkNumber(t, fmt.Sprintf("SparesMiles(%v, %d)", bad, kind), impl.SparesMiles(bad, kind), -1)
		}
	}
	for _, list := range edgeSpares() {
		for _, kind := range append(farNumbers(), -1, 4) {
			checkNumber(t, fmt.Sprintf("SparesMiles(%v, %d)", list, kind), impl.SparesMiles(list, kind), 0)
		}
	}
}

// wantFit returns the index of the spare that serves a need with the least waste, or -1 if there is none.
func wantFit(list []impl.Spare, need impl.Spare) int {
	fit := -1
	for i, s := range list {
		if s.Kind == need.Kind && s.Miles >= need.Miles && (fit < 0 || s.Miles < list[fit].Miles) {
			fit = i
		}
	}
	return fit
}

func TestPromise38SparesFit(t *testing.T) {
	found, none := 0, 0
	for _, list := range sampleSpares() {
		for _, need := range closeNeeds(list) {
			call := fmt.Sprintf("SparesFit(%v, %v)", list, need)
			got, ok := impl.SparesFit(list, need)
			best, can := impl.ServeBest(list, []impl.Spare{need})
			want := wantFit(list, need)
			if want < 0 {
				checkNoIndex(t, call, got, ok)
				checkFails(t, "ServeBest of "+call, best, can)
				none++
				continue
			}
			checkIndex(t, call, got, ok, want)
			checkList(t, "ServeBest of "+call, best, can, []int{want})
			found++
		}
	}
	if found < 300 || none < 300 {
		t.Fatalf("%d needs have a spare, %d have none", found, none)
	}
}

func TestPromise38SparesFitEdges(t *testing.T) {
	equal := slices.Concat(ofKind(1, 4), ofKind(0, 9, 6, 7, 6, 6), ofKind(1, 6, 5))
	for _, c := range []struct {
		list []impl.Spare
		need impl.Spare
		want int
	}{
		{depot(), impl.Spare{Miles: 5, Kind: 0}, 1}, {depot(), impl.Spare{Miles: 4, Kind: 0}, 1}, {depot(), impl.Spare{Miles: 6, Kind: 0}, 0},
		{depot(), impl.Spare{Miles: 8, Kind: 0}, 0}, {depot(), impl.Spare{Miles: 1, Kind: 1}, 2}, {depot(), impl.Spare{Miles: 6, Kind: 1}, 2},
		{equal, impl.Spare{Miles: 5, Kind: 0}, 2}, {equal, impl.Spare{Miles: 6, Kind: 0}, 2}, {equal, impl.Spare{Miles: 7, Kind: 0}, 3}, {equal, impl.Spare{Miles: 5, Kind: 1}, 7},
		{ofKind(2, repeated(50, 10)...), impl.Spare{Miles: 50, Kind: 2}, 0}, {ofKind(2, repeated(50, 10)...), impl.Spare{Miles: 1, Kind: 2}, 0},
		{ofKind(3, 10, 9, 8, 7, 6, 5, 4, 3, 2, 1), impl.Spare{Miles: 1, Kind: 3}, 9},
	} {
		got, ok := impl.SparesFit(c.list, c.need)
		checkIndex(t, fmt.Sprintf("SparesFit(%v, %v)", c.list, c.need), got, ok, c.want)
	}
	for _, need := range []impl.Spare{{Miles: 9, Kind: 0}, {Miles: 50, Kind: 0}, {Miles: 7, Kind: 1}, {Miles: 1, Kind: 2}, {Miles: 1, Kind: 3}} {
		got, ok := impl.SparesFit(depot(), need)
		checkNoIndex(t, fmt.Sprintf("SparesFit(%v, %v)", depot(), need), got, ok)
		got, ok = impl.SparesFit(nil, need)
		checkNoIndex(t, fmt.Sprintf("SparesFit(nil, %v)", need), got, ok)
	}
}

func TestPromise38SparesFitInvalid(t *testing.T) {
	for _, need := range badLengths() {
		for _, list := range append(edgeSpares(), []impl.Spare{need}) {
			got, ok := impl.SparesFit(list, need)
			checkNoIndex(t, fmt.Sprintf("SparesFit(%v, %v)", list, need), got, ok)
		}
	}
	for _, list := range badLists(10) {
		for _, need := range append(list[:1:1], impl.Spare{Miles: 1, Kind: 1}, impl.Spare{Miles: 1, Kind: 0}) {
			got, ok := impl.SparesFit(list, need)
			checkNoIndex(t, fmt.Sprintf("SparesFit(%v, %v)", list, need), got, ok)
		}
	}
}

// wantTake returns the spares behind taking miles of one.
func wantTake(list []impl.Spare, k int, miles int) []impl.Spare {
	left := []impl.Spare{}
	for i, s := range list {
		if i == k {
			s.Miles -= miles
		}
		if s.Miles > 0 {
			left = append(left, s)
		}
	}
	return left
}

func TestPromise39SparesTake(t *testing.T) {
	for _, list := range sampleSpares() {
		for k, s := range list {
			for miles := 1; miles <= s.Miles; miles++ {
				call := fmt.Sprintf("SparesTake(%v, %d, %d)", list, k, miles)
				got, ok := impl.SparesTake(list, k, miles)
				checkSpares(t, call, got, ok, wantTake(list, k, miles))
				for kind := range 4 {
					taken := 0
					if kind == s.Kind {
						taken = miles
					}
					checkNumber(t, "SparesMiles of "+call, impl.SparesMiles(got, kind), impl.SparesMiles(list, kind)-taken)
				}
				if miles < s.Miles {
					rest, ok := impl.SparesTake(got, k, s.Miles-miles)
					all, _ := impl.SparesTake(list, k, s.Miles)
					checkSpares(t, "taking the rest behind "+call, rest, ok, all)
				}
			}
		}
	}
}

func TestPromise39SparesTakeEdges(t *testing.T) {
	for _, c := range []struct {
		list     []impl.Spare
		k, miles int
		want     []impl.Spare
	}{
		{depot(), 0, 3, []impl.Spare{{Miles: 5, Kind: 0}, {Miles: 5, Kind: 0}, {Miles: 6, Kind: 1}, {Miles: 5, Kind: 0}}},
		{depot(), 0, 8, []impl.Spare{{Miles: 5, Kind: 0}, {Miles: 6, Kind: 1}, {Miles: 5, Kind: 0}}},
		{depot(), 2, 6, []impl.Spare{{Miles: 8, Kind: 0}, {Miles: 5, Kind: 0}, {Miles: 5, Kind: 0}}},
		{depot(), 3, 5, []impl.Spare{{Miles: 8, Kind: 0}, {Miles: 5, Kind: 0}, {Miles: 6, Kind: 1}}},
		{depot(), 3, 4, []impl.Spare{{Miles: 8, Kind: 0}, {Miles: 5, Kind: 0}, {Miles: 6, Kind: 1}, {Miles: 1, Kind: 0}}},
		{ofKind(3, 1), 0, 1, nil}, {ofKind(3, 50), 0, 50, nil}, {ofKind(3, 50), 0, 1, ofKind(3, 49)}, {ofKind(3, 50), 0, 49, ofKind(3, 1)},
		{ofKind(2, repeated(1, 10)...), 9, 1, ofKind(2, repeated(1, 9)...)},
	} {
		got, ok := impl.SparesTake(c.list, c.k, c.miles)
		checkSpares(t, fmt.Sprintf("SparesTake(%v, %d, %d)", c.list, c.k, c.miles), got, ok, c.want)
	}
}

func TestPromise39SparesTakeInvalid(t *testing.T) {
	for _, list := range edgeSpares() {
		for _, k := range append(farNumbers(), -2, -1, len(list), len(list)+1, 10, 11) {
			for _, miles := range []int{0, 1, 5, 50, 51, -1} {
				got, ok := impl.SparesTake(list, k, miles)
				checkNoSpares(t, fmt.Sprintf("SparesTake(%v, %d, %d)", list, k, miles), got, ok)
			}
		}
		for k, s := range list {
			for _, miles := range append(farNumbers(), -50, -1, 0, s.Miles+1, s.Miles+2, 51) {
				got, ok := impl.SparesTake(list, k, miles)
				checkNoSpares(t, fmt.Sprintf("SparesTake(%v, %d, %d)", list, k, miles), got, ok)
			}
		}
	}
	for _, list := range badLists(10) {
		for _, k := range []int{-1, 0, 1, len(list) - 1, len(list)} {
			for _, miles := range []int{-1, 0, 1, 9, 50} {
				got, ok := impl.SparesTake(list, k, miles)
				checkNoSpares(t, fmt.Sprintf("SparesTake(%v, %d, %d)", list, k, miles), got, ok)
			}
		}
	}
}

func TestPromise40ServeValid(t *testing.T) {
	valid, others := 0, 0
	eachNeeds(func(list []impl.Spare, needs []impl.Spare, servings [][]int) {
		for number, row := range rowsOf(len(list), len(needs)) {
			if len(needs) > 2 && number%3 > 0 {
				continue
			}
			call := fmt.Sprintf("ServeValid(%v, %v, %v)", list, needs, row)
			want := isServing(list, needs, row)
			checkHolds(t, call, impl.ServeValid(list, needs, row), want)
			if !want {
				others++
				continue
			}
			valid++
			for first := range row {
				checkHolds(t, call+" of the first needs", impl.ServeValid(list, needs[:first], row[:first]), true)
			}
			for _, short := range [][]int{row[:max(len(row)-1, 0)], append(slices.Clone(row), 0), append(slices.Clone(row), len(list)-1)} {
				checkHolds(t, fmt.Sprintf("ServeValid(%v, %v, %v)", list, needs, short), impl.ServeValid(list, needs, short), len(short) == len(needs))
			}
		}
		if many := impl.ServeMany(list, needs); len(servings) > 0 && (!impl.ServeCan(list, needs) || many < 1) {
			t.Fatalf("ServeMany(%v, %v) returned %d, or ServeCan does not hold", list, needs, many)
		}
	})
	if valid < 1000 || others < 1000 {
		t.Fatalf("%d rows are servings, %d are not", valid, others)
	}
}

func TestPromise40ServeValidEdges(t *testing.T) {
	list := depot()
	most := ofKind(2, repeated(50, 10)...)
	for _, c := range []struct {
		list    []impl.Spare
		needs   []impl.Spare
		serving []int
		want    bool
	}{
		{nil, nil, nil, true}, {[]impl.Spare{}, []impl.Spare{}, []int{}, true}, {list, nil, nil, true}, {list, nil, []int{0}, false},
		{nil, nil, []int{0}, false}, {nil, ofKind(0, 1), nil, false}, {nil, ofKind(0, 1), []int{0}, false},
		{list, ofKind(0, 5), []int{1}, true}, {list, ofKind(0, 5), []int{3}, true}, {list, ofKind(0, 5), []int{0}, true}, {list, ofKind(0, 5), []int{2}, false},
		{list, ofKind(0, 6), []int{1}, false}, {list, ofKind(1, 6), []int{2}, true}, {list, ofKind(1, 7), []int{2}, false}, {list, ofKind(3, 1), []int{2}, false},
		{list, ofKind(0, 5, 5), []int{1, 3}, true}, {list, ofKind(0, 5, 5), []int{3, 1}, true}, {list, ofKind(0, 5, 5), []int{1, 1}, false}, {list, ofKind(0, 5, 5), []int{1}, false}, {list, ofKind(0, 5, 5), []int{1, 3, 0}, false},
		{list, ofKind(0, 5, 5, 5), []int{1, 3, 0}, true}, {list, ofKind(0, 5, 5, 5), []int{1, 3, 1}, false}, {list, ofKind(0, 5, 5, 5), []int{1, 0, 0}, false}, {list, ofKind(0, 1, 1, 1, 1), []int{0, 1, 3, 0}, false},
		{most, ofKind(2, repeated(50, 5)...), []int{9, 7, 5, 3, 0}, true}, {most, ofKind(2, repeated(50, 5)...), []int{9, 7, 5, 3, 9}, false}, {most, ofKind(2, repeated(50, 5)...), []int{0, 1, 2, 3, 4, 5}, false}, {most, ofKind(2, repeated(50, 5)...), []int{0, 1, 2, 3}, false},
	} {
		checkHolds(t, fmt.Sprintf("ServeValid(%v, %v, %v)", c.list, c.needs, c.serving), impl.ServeValid(c.list, c.needs, c.serving), c.want)
	}
}

// TestPromise40ServeValidInvalid checks servings that name a spare that there is not, and lists that are no spares or no needs; each would serve else.
func TestPromise40ServeValidInvalid(t *testing.T) {
	for _, list := range edgeSpares() {
		for _, i := range append(farNumbers(), -2, -1, len(list), len(list)+1, 10) {
			for _, needs := range [][]impl.Spare{ofKind(0, 1), ofKind(3, 1), ofKind(0, 1, 1), ofKind(1, 1, 1, 1)} {
				for place := range needs {
					serving := []int{0, 1, 2}[:len(needs)]
					serving = slices.Clone(serving)
					serving[place] = i
					checkNotServing(t, list, needs, serving)
				}
			}
		}
	}
	eachNoNeeds(func(list []impl.Spare, needs []impl.Spare) {
		all := []int{}
		for i := range needs {
			all = append(all, i)
		}
		for _, serving := range [][]int{nil, {0}, {9}, all, reversed(all), {-1}} {
			checkNotServing(t, list, needs, serving)
		}
	})
}

// checkNotServing fails if a row of numbers counts as a serving.
func checkNotServing(t *testing.T, list []impl.Spare, needs []impl.Spare, serving []int) {
	t.Helper()
	checkHolds(t, fmt.Sprintf("ServeValid(%v, %v, %v)", list, needs, serving), impl.ServeValid(list, needs, serving), false)
	checkNumber(t, fmt.Sprintf("ServeWaste(%v, %v, %v)", list, needs, serving), impl.ServeWaste(list, needs, serving), -1)
}

func TestPromise41ServeWaste(t *testing.T) {
	several := 0
	eachNeeds(func(list []impl.Spare, needs []impl.Spare, servings [][]int) {
		if len(servings) == 0 {
			return
		}
		best, _ := impl.ServeBest(list, needs)
		least := impl.ServeWaste(list, needs, best)
		alone := 0
		for _, need := range needs {
			k, _ := impl.SparesFit(list, need)
			alone += list[k].Miles - need.Miles
		}
		for number, serving := range servings {
			if len(servings) > 400 && number%7 > 0 {
				continue
			}
			call := fmt.Sprintf("ServeWaste(%v, %v, %v)", list, needs, serving)
			got := impl.ServeWaste(list, needs, serving)
			checkNumber(t, call, got, wantWaste(list, needs, serving))
			if got < least || got < alone {
				t.Fatalf("%s returned %d, of ServeBest it is %d, alone %d", call, got, least, alone)
			}
			if least > alone {
				several++
			}
		}
	})
	if several < 100 {
		t.Fatalf("only %d servings are of needs that ask for the same spare", several)
	}
}

func TestPromise41ServeWasteEdges(t *testing.T) {
	for _, c := range []struct {
		needs   []impl.Spare
		serving []int
		want    int
	}{
		{nil, nil, 0}, {ofKind(0, 5), []int{1}, 0}, {ofKind(0, 5), []int{0}, 3}, {ofKind(1, 1), []int{2}, 5},
		{ofKind(0, 4, 6), []int{1, 0}, 3}, {ofKind(0, 4, 6), []int{3, 0}, 3}, {ofKind(0, 4, 6), []int{0, 1}, -1}, {ofKind(0, 4, 6), []int{1, 2}, -1}, {ofKind(0, 4, 6), []int{0, 0}, -1},
		{ofKind(0, 4, 6), nil, -1}, {ofKind(0, 4, 6), []int{1}, -1}, {ofKind(0, 4, 6), []int{1, 0, 3}, -1}, {nil, []int{1}, -1},
		{ofKind(0, 1, 1, 1), []int{3, 1, 0}, 15}, {slices.Concat(ofKind(0, 5, 5), ofKind(1, 6), ofKind(0, 8)), []int{3, 1, 2, 0}, 0},
	} {
		checkNumber(t, fmt.Sprintf("ServeWaste(%v, %v, %v)", depot(), c.needs, c.serving), impl.ServeWaste(depot(), c.needs, c.serving), c.want)
	}
	checkNumber(t, "ServeWaste of the most", impl.ServeWaste(ofKind(2, repeated(50, 10)...), ofKind(2, repeated(1, 5)...), []int{9, 0, 4, 2, 3}), 245)
	checkNumber(t, "ServeWaste of nothing", impl.ServeWaste(nil, nil, nil), 0)
}

func TestPromise42ServeCan(t *testing.T) {
	can, cannot := 0, 0
	eachNeeds(func(list []impl.Spare, needs []impl.Spare, servings [][]int) {
		call := fmt.Sprintf("ServeCan(%v, %v)", list, needs)
		want := len(servings) > 0
		checkHolds(t, call, impl.ServeCan(list, needs), want)
		checkHolds(t, call+" as ServeMany has it", impl.ServeMany(list, needs) > 0, want)
		if !want {
			cannot++
			return
		}
		can++
		for i, need := range needs {
			checkHolds(t, fmt.Sprintf("%s without the need %d", call, i), impl.ServeCan(list, slices.Delete(slices.Clone(needs), i, i+1)), true)
			if _, ok := impl.SparesFit(list, need); !ok {
				t.Fatalf("SparesFit(%v, %v) failed", list, need)
			}
		}
		for _, further := range []impl.Spare{{Miles: 1, Kind: 0}, {Miles: 50, Kind: 3}, {Miles: 5, Kind: 0}} {
			checkHolds(t, call+" with a further spare", impl.ServeCan(append(slices.Clone(list), further), needs), len(list) < 10)
		}
	})
	if can < 500 || cannot < 500 {
		t.Fatalf("%d needs have a serving, %d have none", can, cannot)
	}
}

func TestPromise42ServeCanEdges(t *testing.T) {
	most := ofKind(2, repeated(50, 10)...)
	for _, c := range []struct {
		list  []impl.Spare
		needs []impl.Spare
		want  bool
	}{
		{nil, nil, true}, {[]impl.Spare{}, []impl.Spare{}, true}, {depot(), nil, true}, {nil, ofKind(0, 1), false}, {most, nil, true},
		{ofKind(1, 9), ofKind(1, 1, 1), false}, {ofKind(1, 9, 9), ofKind(1, 1, 1), true}, {ofKind(1, 9, 9, 9, 9), ofKind(1, repeated(1, 5)...), false}, {ofKind(1, repeated(9, 5)...), ofKind(1, repeated(9, 5)...), true},
		{depot(), ofKind(0, 6, 6), false}, {depot(), ofKind(0, 6, 5), true}, {depot(), ofKind(0, 4, 6), true}, {depot(), ofKind(0, 5, 5, 8), true}, {depot(), ofKind(0, 5, 6, 8), false}, {depot(), ofKind(0, 1, 1, 1, 1), false},
		{depot(), ofKind(2, 1), false}, {depot(), slices.Concat(ofKind(1, 6), ofKind(3, 1)), false},
		{most, ofKind(2, repeated(50, 5)...), true}, {most, append(ofKind(2, repeated(50, 4)...), impl.Spare{Miles: 1, Kind: 1}), false},
	} {
		checkHolds(t, fmt.Sprintf("ServeCan(%v, %v)", c.list, c.needs), impl.ServeCan(c.list, c.needs), c.want)
	}
}

func TestPromises42To44Invalid(t *testing.T) {
	eachNoNeeds(func(list []impl.Spare, needs []impl.Spare) {
		checkHolds(t, fmt.Sprintf("ServeCan(%v, %v)", list, needs), impl.ServeCan(list, needs), false)
		best, ok := impl.ServeBest(list, needs)
		checkFails(t, fmt.Sprintf("ServeBest(%v, %v)", list, needs), best, ok)
		checkNumber(t, fmt.Sprintf("ServeMany(%v, %v)", list, needs), impl.ServeMany(list, needs), -1)
	})
}

func TestPromise43ServeBest(t *testing.T) {
	several := 0
	eachNeeds(func(list []impl.Spare, needs []impl.Spare, servings [][]int) {
		call := fmt.Sprintf("ServeBest(%v, %v)", list, needs)
		got, ok := impl.ServeBest(list, needs)
		checkHolds(t, "ServeCan as "+call, impl.ServeCan(list, needs), ok)
		if len(servings) == 0 {
			checkFails(t, call, got, ok)
			return
		}
		want := wantBest(list, needs, servings)
		checkList(t, call, got, ok, want)
		checkHolds(t, "ServeValid of "+call, impl.ServeValid(list, needs, got), true)
		checkNoBetter(t, list, needs, got)
		for _, s := range servings {
			if !slices.Equal(s, want) && wantWaste(list, needs, s) == wantWaste(list, needs, want) {
				several++
			}
		}
	})
	if several < 500 {
		t.Fatalf("only %d servings waste as little as the best one", several)
	}
}

// checkNoBetter checks that no spare of a serving can be replaced by another one with less waste, or with as little and a lesser index.
func checkNoBetter(t *testing.T, list []impl.Spare, needs []impl.Spare, serving []int) {
	t.Helper()
	for place, i := range serving {
		for k := range list {
			replaced := slices.Clone(serving)
			replaced[place] = k
			better := list[k].Miles < list[i].Miles || list[k].Miles == list[i].Miles && k < i
			if better && impl.ServeValid(list, needs, replaced) {
				t.Fatalf("ServeBest(%v, %v) returned %v, %v is better", list, needs, serving, replaced)
			}
		}
	}
}

func TestPromise43ServeBestEdges(t *testing.T) {
	most := ofKind(2, repeated(50, 10)...)
	for _, c := range []struct {
		list  []impl.Spare
		needs []impl.Spare
		want  []int
	}{
		{nil, nil, nil}, {depot(), nil, nil}, {most, nil, nil},
		{depot(), ofKind(0, 4, 6), []int{1, 0}}, {depot(), ofKind(0, 6, 4), []int{0, 1}}, {depot(), ofKind(0, 5), []int{1}}, {depot(), ofKind(0, 5, 5), []int{1, 3}}, {depot(), ofKind(0, 1, 1, 1), []int{0, 1, 3}},
		{depot(), slices.Concat(ofKind(1, 2), ofKind(0, 2)), []int{2, 1}},
		{ofKind(1, 9, 7, 8), ofKind(1, 7, 7), []int{1, 2}}, {ofKind(1, 9, 7, 8), ofKind(1, 8, 7), []int{2, 1}}, {ofKind(1, 9, 8, 7), ofKind(1, 7, 7), []int{1, 2}}, {ofKind(1, 9, 7, 8), ofKind(1, 1, 8), []int{1, 2}},
		{ofKind(1, 7, 9), ofKind(1, 3, 8), []int{0, 1}}, {ofKind(1, 9, 7), ofKind(1, 3, 8), []int{1, 0}}, {ofKind(1, 9, 7), ofKind(1, 3, 6), []int{0, 1}},
		{ofKind(3, 6, 6, 6, 6), ofKind(3, 5, 6, 4), []int{0, 1, 2}}, {most, ofKind(2, 50, 1, 50, 1, 50), []int{0, 1, 2, 3, 4}}, {append(ofKind(1, repeated(9, 5)...), ofKind(0, repeated(9, 5)...)...), ofKind(0, repeated(9, 5)...), []int{5, 6, 7, 8, 9}},
		{ofKind(0, 10, 9, 8, 7, 6, 5, 4, 3, 2, 1), ofKind(0, 1, 1, 1, 1, 1), []int{5, 6, 7, 8, 9}}, {ofKind(0, 10, 9, 8, 7, 6, 5, 4, 3, 2, 1), ofKind(0, 1, 2, 3, 4, 5), []int{9, 8, 7, 6, 5}},
	} {
		got, ok := impl.ServeBest(c.list, c.needs)
		checkList(t, fmt.Sprintf("ServeBest(%v, %v)", c.list, c.needs), got, ok, c.want)
	}
	for _, needs := range [][]impl.Spare{ofKind(0, 9), ofKind(0, 6, 6), ofKind(2, 1), ofKind(0, 1, 1, 1, 1)} {
		got, ok := impl.ServeBest(depot(), needs)
		checkFails(t, fmt.Sprintf("ServeBest(%v, %v)", depot(), needs), got, ok)
		got, ok = impl.ServeBest(nil, needs)
		checkFails(t, fmt.Sprintf("ServeBest(nil, %v)", needs), got, ok)
	}
}

func TestPromise44ServeMany(t *testing.T) {
	eachNeeds(func(list []impl.Spare, needs []impl.Spare, servings [][]int) {
		call := fmt.Sprintf("ServeMany(%v, %v)", list, needs)
		got := impl.ServeMany(list, needs)
		checkNumber(t, call, got, len(servings))
		checkFirstNeed(t, list, needs, got)
	})
}

// checkFirstNeed checks that a number of servings is the sum over all spares that serve the first need.
func checkFirstNeed(t *testing.T, list []impl.Spare, needs []impl.Spare, many int) {
	t.Helper()
	if len(needs) == 0 {
		return
	}
	total := 0
	for i, s := range list {
		if s.Kind == needs[0].Kind && s.Miles >= needs[0].Miles {
			total += impl.ServeMany(slices.Delete(slices.Clone(list), i, i+1), needs[1:])
		}
	}
	checkNumber(t, fmt.Sprintf("the sum over the spares of ServeMany(%v, %v)", list, needs), total, many)
}

func TestPromise44ServeManyEdges(t *testing.T) {
	for _, c := range []struct {
		list  []impl.Spare
		needs []impl.Spare
		want  int
	}{
		{nil, nil, 1}, {[]impl.Spare{}, []impl.Spare{}, 1}, {depot(), nil, 1}, {nil, ofKind(0, 1), 0}, {nil, ofKind(3, repeated(50, 5)...), 0},
		{depot(), ofKind(0, 4, 6), 2}, {depot(), ofKind(0, 5), 3}, {depot(), ofKind(0, 5, 5), 6}, {depot(), ofKind(0, 5, 5, 5), 6}, {depot(), ofKind(0, 5, 5, 5, 5), 0}, {depot(), ofKind(1, 6), 1}, {depot(), ofKind(2, 1), 0},
		{depot(), slices.Concat(ofKind(0, 5, 5), ofKind(1, 1)), 6}, {ofKind(1, 9), ofKind(1, 9, 9), 0},
	} {
		checkNumber(t, fmt.Sprintf("ServeMany(%v, %v)", c.list, c.needs), impl.ServeMany(c.list, c.needs), c.want)
	}
}

// TestPromise44ServeManyMost checks as many spares and needs as there can be.
func TestPromise44ServeManyMost(t *testing.T) {
	steps := ofKind(2, 1, 2, 3, 4, 5, 6, 7, 8, 9, 10)
	for _, c := range []struct {
		list  []impl.Spare
		needs []impl.Spare
		want  int
	}{
		{ofKind(2, repeated(50, 10)...), ofKind(2, repeated(50, 5)...), 30240}, {ofKind(2, repeated(50, 10)...), ofKind(2, repeated(50, 4)...), 5040},
		{steps, ofKind(2, repeated(1, 5)...), 30240}, {steps, ofKind(2, repeated(6, 5)...), 120}, {steps, ofKind(2, repeated(7, 5)...), 0}, {steps, ofKind(2, 6, 7, 8, 9, 10), 1}, {steps, ofKind(2, 10, 9, 8, 7, 6), 1}, {steps, ofKind(2, 1, 10, 9, 8, 6), 12},
		{append(ofKind(2, repeated(5, 5)...), ofKind(3, repeated(5, 5)...)...), slices.Concat(ofKind(2, 5, 5), ofKind(3, 5, 5, 5)), 1200},
	} {
		call := fmt.Sprintf("ServeMany(%v, %v)", c.list, c.needs)
		servings := servingsOf(c.list, c.needs)
		checkNumber(t, "trying instead of "+call, len(servings), c.want)
		checkNumber(t, call, impl.ServeMany(c.list, c.needs), c.want)
		checkFirstNeed(t, c.list, c.needs, c.want)
		got, ok := impl.ServeBest(c.list, c.needs)
		if c.want == 0 {
			checkFails(t, "ServeBest instead of "+call, got, ok)
		} else {
			checkList(t, "ServeBest instead of "+call, got, ok, wantBest(c.list, c.needs, servings))
		}
	}
}

func TestPromise45JointFewest(t *testing.T) {
	eachJoint(func(list []impl.Spare, kind int, miles int, joint []int) {
		call := fmt.Sprintf("JointFewest(%v, %d, %d)", list, kind, miles)
		got := impl.JointFewest(list, kind, miles)
		checkNumber(t, call, got, len(joint)-1)
		if _, ok := impl.SparesFit(list, impl.Spare{Miles: miles, Kind: kind}); miles <= 50 && ok != (got == 0) {
			t.Fatalf("%s returned %d, a fitting spare: %v", call, got, ok)
		}
		if got < 0 {
			return
		}
		if has := impl.SparesMiles(list, kind); has < miles {
			t.Fatalf("%s returned %d, the kind has %d miles", call, got, has)
		}
		if less := impl.JointFewest(list, kind, miles-1); miles > 1 && (less < 0 || less > got) {
			t.Fatalf("%s returned %d, for 1 mile less %d", call, got, less)
		}
	})
}

// TestPromise45JointFewestEachMile asks the edge lists for each number of miles.
func TestPromise45JointFewestEachMile(t *testing.T) {
	for _, list := range edgeSpares() {
		for kind := range 4 {
			lengths := []int{}
			for _, s := range list {
				if s.Kind == kind {
					lengths = append(lengths, s.Miles)
				}
			}
			slices.Sort(lengths)
			slices.Reverse(lengths)
			for miles := 1; miles <= 500; miles++ {
				want := -1
				for spares := range lengths {
					if want < 0 && sum(lengths[:spares+1]) >= miles {
						want = spares
					}
				}
				checkNumber(t, fmt.Sprintf("JointFewest(%v, %d, %d)", list, kind, miles), impl.JointFewest(list, kind, miles), want)
			}
		}
	}
}

func TestPromise45JointFewestEdges(t *testing.T) {
	most := ofKind(3, repeated(50, 10)...)
	for _, c := range []struct {
		list        []impl.Spare
		kind, miles int
		want        int
	}{
		{depot(), 0, 1, 0}, {depot(), 0, 8, 0}, {depot(), 0, 9, 1}, {depot(), 0, 13, 1}, {depot(), 0, 14, 2}, {depot(), 0, 18, 2}, {depot(), 0, 19, -1}, {depot(), 1, 6, 0}, {depot(), 1, 7, -1}, {depot(), 2, 1, -1}, {depot(), 0, 500, -1},
		{most, 3, 1, 0}, {most, 3, 50, 0}, {most, 3, 51, 1}, {most, 3, 450, 8}, {most, 3, 451, 9}, {most, 3, 500, 9}, {most, 2, 1, -1}, {most[:9], 3, 450, 8}, {most[:9], 3, 451, -1},
		{ofKind(0, repeated(1, 10)...), 0, 10, 9}, {ofKind(0, repeated(1, 10)...), 0, 11, -1}, {ofKind(0, 1), 0, 1, 0}, {ofKind(0, 1), 0, 2, -1}, {nil, 0, 1, -1}, {nil, 0, 500, -1},
	} {
		checkNumber(t, fmt.Sprintf("JointFewest(%v, %d, %d)", c.list, c.kind, c.miles), impl.JointFewest(c.list, c.kind, c.miles), c.want)
	}
}

// checkNoJoint checks what is said where JointFewest is -1.
func checkNoJoint(t *testing.T, list []impl.Spare, kind int, miles int) {
	t.Helper()
	checkNumber(t, fmt.Sprintf("JointFewest(%v, %d, %d)", list, kind, miles), impl.JointFewest(list, kind, miles), -1)
	joint, ok := impl.JointBest(list, kind, miles)
	checkFails(t, fmt.Sprintf("JointBest(%v, %d, %d)", list, kind, miles), joint, ok)
}

func TestPromises45And46Invalid(t *testing.T) {
	for _, list := range edgeSpares() {
		for _, miles := range append(farNumbers(), -500, -1, 0, 501, 502) {
			for kind := -1; kind <= 4; kind++ {
				checkNoJoint(t, list, kind, miles)
			}
		}
		for _, kind := range append(farNumbers(), -1, 4) {
			for _, miles := range []int{-1, 0, 1, 50, 500, 501} {
				checkNoJoint(t, list, kind, miles)
			}
		}
	}
	for _, list := range badLists(10) {
		for _, kind := range []int{list[0].Kind, -1, 0, 1, 3, 4} {
			for _, miles := range []int{-1, 0, 1, 9, 50, 500, 501} {
				checkNoJoint(t, list, kind, miles)
			}
		}
	}
}

func TestPromise46JointBest(t *testing.T) {
	found, none := 0, 0
	eachJoint(func(list []impl.Spare, kind int, miles int, joint []int) {
		call := fmt.Sprintf("JointBest(%v, %d, %d)", list, kind, miles)
		got, ok := impl.JointBest(list, kind, miles)
		if len(joint) == 0 {
			checkFails(t, call, got, ok)
			none++
			return
		}
		found++
		checkList(t, call, got, ok, joint)
		checkNumber(t, "the spares of "+call, len(got), impl.JointFewest(list, kind, miles)+1)
		has := 0
		for _, i := range got {
			has += list[i].Miles
			checkNumber(t, "a kind of "+call, list[i].Kind, kind)
		}
		for _, i := range got {
			if has < miles || has-list[i].Miles >= miles {
				t.Fatalf("%s returned %v: %d miles, %d of them of the spare %d", call, got, has, list[i].Miles, i)
			}
		}
	})
	if found < 1000 || none < 1000 {
		t.Fatalf("%d joints are found, %d are not", found, none)
	}
}

func TestPromise46JointBestEdges(t *testing.T) {
	most, ones, steps := ofKind(3, repeated(50, 10)...), ofKind(1, repeated(1, 10)...), ofKind(2, 1, 2, 3, 4, 5, 6, 7, 8, 9, 10)
	all := []int{0, 1, 2, 3, 4, 5, 6, 7, 8, 9}
	for _, c := range []struct {
		list        []impl.Spare
		kind, miles int
		want        []int
	}{
		{depot(), 0, 1, []int{1}}, {depot(), 0, 5, []int{1}}, {depot(), 0, 6, []int{0}}, {depot(), 0, 10, []int{1, 3}}, {depot(), 0, 11, []int{0, 1}}, {depot(), 0, 14, []int{0, 1, 3}}, {depot(), 0, 18, []int{0, 1, 3}}, {depot(), 1, 6, []int{2}},
		{ofKind(0, 9, 3, 6), 0, 9, []int{0}}, {ofKind(0, 6, 4, 5, 5, 7, 3), 0, 10, []int{0, 1}}, {ofKind(0, 4, 5, 5, 6), 0, 10, []int{0, 3}}, {ofKind(0, 5, 4, 6, 5), 0, 10, []int{0, 3}}, {ofKind(0, 7, 4, 6, 3), 0, 10, []int{0, 3}},
		{ofKind(0, 8, 4, 3, 7, 6), 0, 10, []int{1, 4}}, {ofKind(0, 8, 3, 7, 4, 6), 0, 12, []int{0, 3}}, {ofKind(0, 9, 9, 5, 5), 0, 14, []int{0, 2}},
		{most, 3, 1, []int{0}}, {most, 3, 50, []int{0}}, {most, 3, 51, []int{0, 1}}, {most, 3, 250, all[:5]}, {most, 3, 450, all[:9]}, {most, 3, 451, all}, {most, 3, 500, all},
		{ones, 1, 1, []int{0}}, {ones, 1, 5, all[:5]}, {ones, 1, 9, all[:9]}, {ones, 1, 10, all}, {steps, 2, 55, all}, {steps, 2, 54, all[1:]}, {steps, 2, 1, []int{0}}, {steps, 2, 10, []int{9}}, {steps, 2, 11, []int{0, 9}}, {steps, 2, 20, []int{0, 8, 9}}, {steps, 2, 19, []int{8, 9}},
		{append(ofKind(1, 50, 50, 50), ofKind(0, 2, 2, 2)...), 0, 4, []int{3, 4}}, {slices.Concat(ofKind(0, 2), ofKind(1, 50), ofKind(0, 2)), 0, 3, []int{0, 2}},
	} {
		got, ok := impl.JointBest(c.list, c.kind, c.miles)
		checkList(t, fmt.Sprintf("JointBest(%v, %d, %d)", c.list, c.kind, c.miles), got, ok, c.want)
	}
	checkNoJoint(t, depot(), 0, 19)
	checkNoJoint(t, depot(), 2, 1)
	checkNoJoint(t, nil, 0, 1)
}

func TestPromise47JointFewestLongest(t *testing.T) {
	eachJoint(func(list []impl.Spare, kind int, miles int, _ []int) {
		got := impl.JointFewest(list, kind, miles)
		if got < 0 {
			return
		}
		lengths := []int{}
		for _, s := range list {
			if s.Kind == kind {
				lengths = append(lengths, s.Miles)
			}
		}
		slices.Sort(lengths)
		longest := reversed(lengths)[:got+1]
		if sum(longest) < miles || sum(longest[:got]) >= miles {
			t.Fatalf("JointFewest(%v, %d, %d) returned %d, the longest spares are %v", list, kind, miles, got, longest)
		}
	})
}

func TestPromise48SparesSort(t *testing.T) {
	for _, list := range sampleSpares() {
		call := fmt.Sprintf("SparesSort(%v)", list)
		got, ok := impl.SparesSort(list)
		checkSpares(t, call, got, ok, wantSort(list))
		again, ok := impl.SparesSort(got)
		checkSpares(t, "SparesSort of "+call, again, ok, got)
		for i := 1; i < len(got); i++ {
			if got[i-1].Kind > got[i].Kind || got[i-1].Kind == got[i].Kind && got[i-1].Miles < got[i].Miles {
				t.Fatalf("%s returned %v", call, got)
			}
		}
		for _, need := range closeNeeds(list) {
			before, had := impl.SparesFit(list, need)
			after, has := impl.SparesFit(got, need)
			if had != has || had && list[before].Miles != got[after].Miles {
				t.Fatalf("SparesFit of %v returned %d, %v for %v, %d, %v for %v", need, before, had, list, after, has, got)
			}
		}
	}
}

// wantSort takes the spares out of a list kind by kind, and the longest ones first.
func wantSort(list []impl.Spare) []impl.Spare {
	sorted := []impl.Spare{}
	for kind := range 4 {
		for miles := 50; miles >= 1; miles-- {
			for _, s := range list {
				if s.Kind == kind && s.Miles == miles {
					sorted = append(sorted, s)
				}
			}
		}
	}
	return sorted
}

func TestPromise48SparesSortEdges(t *testing.T) {
	for _, c := range []struct {
		list []impl.Spare
		want []impl.Spare
	}{
		{nil, nil}, {depot(), []impl.Spare{{Miles: 8, Kind: 0}, {Miles: 5, Kind: 0}, {Miles: 5, Kind: 0}, {Miles: 6, Kind: 1}}},
		{ofKind(1, 6, 7, 8, 9), ofKind(1, 9, 8, 7, 6)}, {ofKind(1, 9, 8, 7, 6), ofKind(1, 9, 8, 7, 6)}, {ofKind(2, repeated(7, 10)...), ofKind(2, repeated(7, 10)...)},
		{[]impl.Spare{{Miles: 50, Kind: 3}, {Miles: 1, Kind: 0}, {Miles: 9, Kind: 2}, {Miles: 9, Kind: 1}}, []impl.Spare{{Miles: 1, Kind: 0}, {Miles: 9, Kind: 1}, {Miles: 9, Kind: 2}, {Miles: 50, Kind: 3}}},
	} {
		got, ok := impl.SparesSort(c.list)
		checkSpares(t, fmt.Sprintf("SparesSort(%v)", c.list), got, ok, c.want)
	}
	for _, list := range badLists(10) {
		got, ok := impl.SparesSort(list)
		checkNoSpares(t, fmt.Sprintf("SparesSort(%v)", list), got, ok)
	}
}

// TestSpareMemory changes what SparesTake and SparesSort return, up to its capacity, and checks that neither other results, nor the list, nor what lies behind it changes.
func TestSpareMemory(t *testing.T) {
	calls := map[string]func(list []impl.Spare) []impl.Spare{
		"SparesTake of a part":   func(list []impl.Spare) []impl.Spare { x, _ := impl.SparesTake(list, 1, 2); return x },
		"SparesTake of the last": func(list []impl.Spare) []impl.Spare { x, _ := impl.SparesTake(list, 3, 4); return x },
		"SparesTake of all":      func(list []impl.Spare) []impl.Spare { x, _ := impl.SparesTake(list, 1, list[1].Miles); return x },
		"SparesSort":             func(list []impl.Spare) []impl.Spare { x, _ := impl.SparesSort(list); return x },
		"SparesSort of sorted":   func(list []impl.Spare) []impl.Spare { x, _ := impl.SparesSort(list[:1]); return x },
	}
	for name, call := range calls {
		whole := append(reversedSpares(depot()), impl.Spare{Miles: 30, Kind: 3}, impl.Spare{Miles: 31, Kind: 2})
		before := slices.Clone(whole)
		first, second := call(whole[:4]), call(whole[:4])
		kept := slices.Clone(second)
		if len(first) == 0 {
			t.Fatalf("%s returned nothing", name)
		}
		first = first[:cap(first)]
		for i := range first {
			first[i] = impl.Spare{Miles: -7, Kind: -7}
		}
		if !slices.Equal(whole, before) || !slices.Equal(second, kept) {
			t.Fatalf("%s: its result shares memory, or it changes an argument: %v", name, whole)
		}
	}
}

func reversedSpares(list []impl.Spare) []impl.Spare {
	back := slices.Clone(list)
	slices.Reverse(back)
	return back
}

// TestServeMemory changes what ServeBest and JointBest return, up to its capacity, and checks that nothing else changes; and that no function changes an argument.
func TestServeMemory(t *testing.T) {
	whole := append(depot(), impl.Spare{Miles: 4, Kind: 0}, impl.Spare{Miles: 6, Kind: 0}, impl.Spare{Miles: 31, Kind: 2})
	serving := []int{1, 0, 9, 9}
	before, named := slices.Clone(whole), slices.Clone(serving)
	list, needs := whole[:4], whole[4:6]
	calls := map[string]func() []int{
		"ServeBest": func() []int { x, _ := impl.ServeBest(list, needs); return x },
		"JointBest": func() []int { x, _ := impl.JointBest(list, 0, 10); return x },
	}
	for name, call := range calls {
		first, second := call(), call()
		kept := slices.Clone(second)
		if len(first) == 0 {
			t.Fatalf("%s returned nothing", name)
		}
		first = first[:cap(first)]
		for i := range first {
			first[i] = -7
		}
		checkList(t, name+" again", call(), true, kept)
		checkList(t, "another "+name, second, true, kept)
	}
	impl.SparesValid(list)
	impl.SparesMiles(list, 0)
	impl.SparesFit(list, needs[0])
	impl.ServeValid(list, needs, serving[:2])
	impl.ServeWaste(list, needs, serving[:2])
	impl.ServeCan(list, needs)
	impl.ServeMany(list, needs)
	impl.JointFewest(list, 0, 14)
	if !slices.Equal(whole, before) || !slices.Equal(serving, named) {
		t.Fatalf("an argument is changed: %v, %v", whole, serving)
	}
}
