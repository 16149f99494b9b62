package tests

import (
	"fmt"
	"math"
	"slices"
	"strings"
	"testing"

	"loop.example/cableship/impl"
)

// The tests of chapter 2 hold the program against cables that are written out mile by mile.

// mile is a mile of a cable with the number of its section, so that sections which are alike stay apart.
type mile struct {
	section int
	kind    int
	ohms    int
}

func milesOf(cable []impl.Section) []mile {
	miles := []mile{}
	for i, s := range cable {
		for range s.Miles {
			miles = append(miles, mile{i, s.Kind, s.Ohms})
		}
	}
	return miles
}

// sectionsOf returns the sections of miles: each goes on as long as the number of the section stays.
func sectionsOf(miles []mile) []impl.Section {
	sections := []impl.Section{}
	for i, m := range miles {
		if i > 0 && miles[i-1] == m {
			sections[len(sections)-1].Miles++
		} else {
			sections = append(sections, impl.Section{Miles: 1, Kind: m.kind, Ohms: m.ohms})
		}
	}
	return sections
}

// plainOf returns the sections of the miles of a cable if only their kinds and ohms keep them apart.
func plainOf(cable []impl.Section) []impl.Section {
	miles := milesOf(cable)
	for i := range miles {
		miles[i].section = 0
	}
	return sectionsOf(miles)
}

func ohmsOf(miles []mile) int {
	total := 0
	for _, m := range miles {
		total += m.ohms
	}
	return total
}

func reversedCable(cable []impl.Section) []impl.Section {
	back := slices.Clone(cable)
	slices.Reverse(back)
	return back
}

// alike returns a cable of some sections that are all the same.
func alike(sections int, miles int, kind int, ohms int) []impl.Section {
	return slices.Repeat([]impl.Section{{Miles: miles, Kind: kind, Ohms: ohms}}, sections)
}

// edgeCables are the cables at the document's limits, and cables with sections that follow each other and are alike, or nearly.
func edgeCables() [][]impl.Section {
	cables := [][]impl.Section{
		{{Miles: 10, Kind: 0, Ohms: 3}, {Miles: 5, Kind: 1, Ohms: 4}},
		{{Miles: 12, Kind: 0, Ohms: 3}},
		{{Miles: 1, Kind: 0, Ohms: 1}}, {{Miles: 1, Kind: 3, Ohms: 20}}, {{Miles: 50, Kind: 0, Ohms: 1}}, {{Miles: 50, Kind: 3, Ohms: 20}},
		{{Miles: 2, Kind: 1, Ohms: 5}, {Miles: 3, Kind: 1, Ohms: 5}},
		{{Miles: 2, Kind: 1, Ohms: 5}, {Miles: 3, Kind: 2, Ohms: 5}},
		{{Miles: 2, Kind: 1, Ohms: 5}, {Miles: 3, Kind: 1, Ohms: 6}},
		{{Miles: 2, Kind: 1, Ohms: 5}, {Miles: 3, Kind: 2, Ohms: 7}, {Miles: 4, Kind: 1, Ohms: 5}},
		{{Miles: 2, Kind: 0, Ohms: 20}, {Miles: 9, Kind: 0, Ohms: 1}, {Miles: 2, Kind: 0, Ohms: 20}},
		{{Miles: 25, Kind: 2, Ohms: 2}, {Miles: 25, Kind: 2, Ohms: 2}},
		{{Miles: 25, Kind: 2, Ohms: 2}, {Miles: 26, Kind: 2, Ohms: 2}},
		{{Miles: 49, Kind: 2, Ohms: 2}, {Miles: 1, Kind: 2, Ohms: 2}, {Miles: 50, Kind: 2, Ohms: 3}},
		{{Miles: 50, Kind: 2, Ohms: 3}, {Miles: 50, Kind: 2, Ohms: 2}, {Miles: 1, Kind: 2, Ohms: 2}},
		{{Miles: 50, Kind: 1, Ohms: 9}, {Miles: 1, Kind: 1, Ohms: 8}, {Miles: 50, Kind: 1, Ohms: 9}},
		{{Miles: 1, Kind: 0, Ohms: 1}, {Miles: 1, Kind: 0, Ohms: 1}, {Miles: 1, Kind: 3, Ohms: 20}, {Miles: 1, Kind: 3, Ohms: 20}},
		alike(8, 1, 0, 1), alike(8, 1, 3, 20), alike(8, 50, 3, 20), alike(8, 6, 1, 7), alike(8, 7, 1, 7), alike(7, 7, 2, 3), alike(3, 17, 0, 20), alike(2, 50, 3, 1),
	}
	mixed, rising := alike(8, 1, 0, 1), alike(8, 50, 0, 20)
	for i := range 8 {
		mixed[i].Miles, mixed[i].Kind = 1+i, i%2
		rising[i].Kind, rising[i].Ohms = i%4, 13+i
	}
	return append(cables, mixed, rising, reversedCable(rising))
}

// sampleCables are the edge cables, all cables of two and three sections of some, and random ones.
func sampleCables() [][]impl.Section {
	cables := edgeCables()
	some := []impl.Section{{Miles: 1, Kind: 0, Ohms: 1}, {Miles: 2, Kind: 0, Ohms: 1}, {Miles: 3, Kind: 2, Ohms: 1}, {Miles: 2, Kind: 0, Ohms: 4}}
	for _, a := range some {
		for _, b := range some {
			cables = append(cables, []impl.Section{a, b})
			for _, c := range some {
				cables = append(cables, []impl.Section{a, b, c})
			}
		}
	}
	random := newRandom()
	for range 60 {
		cable := make([]impl.Section, 1+random.Intn(8))
		length, kinds, ohms := 1+random.Intn(50), 1+random.Intn(4), 1+random.Intn(20)
		for i := range cable {
			cable[i] = impl.Section{Miles: 1 + random.Intn(length), Kind: random.Intn(kinds), Ohms: 1 + random.Intn(ohms)}
		}
		cables = append(cables, cable)
	}
	return cables
}

// badSections are sections of which one number is out of range.
func badSections() []impl.Section {
	bad := []impl.Section{{}}
	for _, number := range append(farNumbers(), -1, 0, 51) {
		bad = append(bad, impl.Section{Miles: number, Kind: 1, Ohms: 5})
	}
	for _, number := range append(farNumbers(), -1, 4) {
		bad = append(bad, impl.Section{Miles: 9, Kind: number, Ohms: 5})
	}
	for _, number := range append(farNumbers(), -1, 0, 21) {
		bad = append(bad, impl.Section{Miles: 9, Kind: 1, Ohms: number})
	}
	return bad
}

// badCables are lists that are no cables: empty, too long, or with a section that is none at any place.
func badCables() [][]impl.Section {
	bad := [][]impl.Section{nil, {}, alike(9, 1, 0, 1), alike(10, 5, 1, 5), alike(500, 50, 3, 20)}
	for _, section := range badSections() {
		bad = append(bad, []impl.Section{section})
		for i := range 3 {
			cable := alike(3, 4, 2, 6)
			cable[i] = section
			bad = append(bad, cable)
		}
		for _, i := range []int{0, 4, 7} {
			cable := alike(8, 4, 2, 6)
			cable[i] = section
			bad = append(bad, cable)
		}
	}
	return bad
}

// checkCable fails unless a call succeeded with a cable.
func checkCable(t *testing.T, call string, got []impl.Section, ok bool, want []impl.Section) {
	t.Helper()
	if !ok || !slices.Equal(got, want) {
		t.Fatalf("%s returned %v, %v instead of %v, true", call, got, ok, want)
	}
}

// checkNoCable fails unless a call returned no sections and false.
func checkNoCable(t *testing.T, call string, got []impl.Section, ok bool) {
	t.Helper()
	if ok || len(got) != 0 {
		t.Fatalf("%s returned %v, %v instead of no sections and false", call, got, ok)
	}
}

// mustBack returns the cable in the opposite order as the program has it.
func mustBack(t *testing.T, cable []impl.Section) []impl.Section {
	t.Helper()
	back, ok := impl.CableBack(cable)
	if !ok {
		t.Fatalf("CableBack(%v) failed", cable)
	}
	return back
}

func TestCableConstants(t *testing.T) {
	checkNumber(t, "SectionsMax", impl.SectionsMax, 8)
	checkNumber(t, "MilesMax", impl.MilesMax, 50)
}

func TestCableValid(t *testing.T) {
	for _, cable := range sampleCables() {
		if !impl.CableValid(cable) {
			t.Fatalf("CableValid(%v) does not hold", cable)
		}
	}
	for _, cable := range badCables() {
		if impl.CableValid(cable) {
			t.Fatalf("CableValid(%v) holds", cable)
		}
	}
}

func TestCableValidEachSection(t *testing.T) {
	for miles := -2; miles <= 53; miles++ {
		for kind := -2; kind <= 6; kind++ {
			for ohms := -2; ohms <= 23; ohms++ {
				want := miles >= 1 && miles <= 50 && kind >= 0 && kind <= 3 && ohms >= 1 && ohms <= 20
				if section := (impl.Section{Miles: miles, Kind: kind, Ohms: ohms}); impl.CableValid([]impl.Section{section}) != want {
					t.Fatalf("CableValid([%v]) returned %v", section, !want)
				}
			}
		}
	}
}

func TestPromise14CableMiles(t *testing.T) {
	for _, cable := range sampleCables() {
		call := fmt.Sprintf("CableMiles(%v)", cable)
		all := impl.CableMiles(cable)
		checkNumber(t, call, all, len(milesOf(cable)))
		for m := range all {
			if impl.CableKind(cable, m) == -1 {
				t.Fatalf("CableKind(%v, %d) returned -1", cable, m)
			}
		}
		checkNumber(t, fmt.Sprintf("CableKind(%v, %d)", cable, all), impl.CableKind(cable, all), -1)
		checkNumber(t, call+" of CableBack", impl.CableMiles(mustBack(t, cable)), all)
		if all < len(cable) {
			t.Fatalf("%s returned %d, less than there are sections", call, all)
		}
	}
	checkNumber(t, "CableMiles", impl.CableMiles(alike(8, 50, 3, 20)), 400)
	checkNumber(t, "CableMiles", impl.CableMiles(alike(1, 1, 0, 1)), 1)
	for _, cable := range badCables() {
		checkNumber(t, fmt.Sprintf("CableMiles(%v)", cable), impl.CableMiles(cable), -1)
	}
}

func TestPromise15CableOhms(t *testing.T) {
	for _, cable := range sampleCables() {
		miles := milesOf(cable)
		back, last := mustBack(t, cable), 0
		for m := range len(miles) + 1 {
			call := fmt.Sprintf("CableOhms(%v, %d)", cable, m)
			ohms := impl.CableOhms(cable, m)
			checkNumber(t, call, ohms, ohmsOf(miles[:m]))
			if (ohms == 0) != (m == 0) || m > 0 && (ohms-last < 1 || ohms-last > 20) {
				t.Fatalf("%s returned %d, for the mile ahead %d", call, ohms, last)
			}
			checkNumber(t, call+" with that of the rest", ohms+impl.CableOhms(back, len(miles)-m), impl.CableAll(cable))
			last = ohms
		}
	}
	cable := []impl.Section{{Miles: 10, Kind: 0, Ohms: 3}, {Miles: 5, Kind: 1, Ohms: 4}}
	for m, want := range map[int]int{0: 0, 1: 3, 10: 30, 11: 34, 12: 38, 15: 50} {
		checkNumber(t, fmt.Sprintf("CableOhms(%v, %d)", cable, m), impl.CableOhms(cable, m), want)
	}
}

func TestPromise15CableOhmsInvalid(t *testing.T) {
	for _, cable := range edgeCables() {
		all := len(milesOf(cable))
		for _, m := range append(farNumbers(), -2, -1, all+1, all+2, 401) {
			checkNumber(t, fmt.Sprintf("CableOhms(%v, %d)", cable, m), impl.CableOhms(cable, m), -1)
		}
	}
	for _, cable := range badCables() {
		for _, m := range append(farNumbers(), -1, 0, 1, 5) {
			checkNumber(t, fmt.Sprintf("CableOhms(%v, %d)", cable, m), impl.CableOhms(cable, m), -1)
		}
	}
}

func TestPromise16CableAll(t *testing.T) {
	for _, cable := range sampleCables() {
		call := fmt.Sprintf("CableAll(%v)", cable)
		all := impl.CableAll(cable)
		want := 0
		for _, section := range cable {
			want += section.Miles * section.Ohms
		}
		checkNumber(t, call, all, want)
		checkNumber(t, call+" of CableBack", impl.CableAll(mustBack(t, cable)), all)
		if plain, ok := impl.CablePlain(cable); ok {
			checkNumber(t, call+" of CablePlain", impl.CableAll(plain), all)
		}
		if all < impl.CableMiles(cable) {
			t.Fatalf("%s returned %d, less than CableMiles", call, all)
		}
	}
	checkNumber(t, "CableAll", impl.CableAll(alike(8, 50, 3, 20)), 8000)
	checkNumber(t, "CableAll", impl.CableAll(alike(1, 1, 0, 1)), 1)
	for _, cable := range badCables() {
		checkNumber(t, fmt.Sprintf("CableAll(%v)", cable), impl.CableAll(cable), -1)
	}
}

// sampleOhms are numbers of ohms: at each mile, just less and just more, and more than the whole cable has.
func sampleOhms(cable []impl.Section) []int {
	total := 0
	numbers := []int{0, 1}
	for _, m := range milesOf(cable) {
		total += m.ohms
		numbers = append(numbers, total-1, total, total+1)
	}
	return append(numbers, total+19, total+20, total+21, 8001, 1000000, math.MaxInt-1, math.MaxInt)
}

func TestPromise17CableWhere(t *testing.T) {
	for _, cable := range sampleCables() {
		for _, ohms := range sampleOhms(cable) {
			checkWhere(t, cable, ohms)
		}
	}
	for _, cable := range edgeCables() {
		for ohms := range 700 {
			checkWhere(t, cable, ohms)
		}
	}
}

// checkWhere checks where a number of ohms is against the miles, one after the other.
func checkWhere(t *testing.T, cable []impl.Section, ohms int) {
	t.Helper()
	call := fmt.Sprintf("CableWhere(%v, %d)", cable, ohms)
	miles := milesOf(cable)
	want, rest := 0, ohms
	for want < len(miles) && miles[want].ohms <= rest {
		rest -= miles[want].ohms
		want++
	}
	m, more, ok := impl.CableWhere(cable, ohms)
	if !ok || m != want || more != rest {
		t.Fatalf("%s returned %d, %d, %v instead of %d, %d, true", call, m, more, ok, want, rest)
	}
	checkNumber(t, "CableOhms with the rest of "+call, impl.CableOhms(cable, m)+more, ohms)
	if m < len(miles) && ohms >= impl.CableOhms(cable, m+1) {
		t.Fatalf("%s returned %d, but the next mile is not too far", call, m)
	}
}

func TestPromise17CableWhereEnds(t *testing.T) {
	cable := []impl.Section{{Miles: 10, Kind: 0, Ohms: 3}, {Miles: 5, Kind: 1, Ohms: 4}}
	for ohms, want := range map[int][2]int{0: {0, 0}, 2: {0, 2}, 3: {1, 0}, 30: {10, 0}, 33: {10, 3}, 36: {11, 2}, 49: {14, 3}, 50: {15, 0}, 51: {15, 1}, math.MaxInt: {15, math.MaxInt - 50}} {
		m, more, ok := impl.CableWhere(cable, ohms)
		checkList(t, fmt.Sprintf("CableWhere(%v, %d)", cable, ohms), []int{m, more}, ok, want[:])
	}
}

func TestPromise17CableWhereInvalid(t *testing.T) {
	for _, cable := range edgeCables() {
		for _, ohms := range []int{-1, -2, -20, -1000000, math.MinInt, math.MinInt + 1} {
			checkNoWhere(t, cable, ohms)
		}
	}
	for _, cable := range badCables() {
		for _, ohms := range append(farNumbers(), -1, 0, 1, 50) {
			checkNoWhere(t, cable, ohms)
		}
	}
}

func checkNoWhere(t *testing.T, cable []impl.Section, ohms int) {
	t.Helper()
	if m, more, ok := impl.CableWhere(cable, ohms); ok || m != 0 || more != 0 {
		t.Fatalf("CableWhere(%v, %d) returned %d, %d, %v instead of 0, 0, false", cable, ohms, m, more, ok)
	}
}

func TestPromise18CableKind(t *testing.T) {
	for _, cable := range sampleCables() {
		back := mustBack(t, cable)
		plain, isPlain := impl.CablePlain(cable)
		miles := milesOf(cable)
		for m := range miles {
			call := fmt.Sprintf("CableKind(%v, %d)", cable, m)
			kind := impl.CableKind(cable, m)
			checkNumber(t, call, kind, miles[m].kind)
			checkNumber(t, call+" from the end of CableBack", impl.CableKind(back, len(miles)-1-m), kind)
			if isPlain {
				checkNumber(t, call+" of CablePlain", impl.CableKind(plain, m), kind)
			}
			checkOtherKind(t, cable, m)
		}
	}
}

// checkOtherKind checks that a mile of another kind, if there is room for its section, is the only one that changes.
func checkOtherKind(t *testing.T, cable []impl.Section, m int) {
	t.Helper()
	miles := milesOf(cable)
	kind := (miles[m].kind + 1) % 4
	changed, ok := impl.CableReplace(cable, m, m+1, kind, miles[m].ohms)
	miles[m] = mile{-1, kind, miles[m].ohms}
	if want := len(sectionsOf(miles)) <= 8; ok != want {
		t.Fatalf("CableReplace(%v, %d, %d, %d, %d) returned %v", cable, m, m+1, kind, miles[m].ohms, ok)
	}
	for i := 0; ok && i < len(miles); i++ {
		checkNumber(t, fmt.Sprintf("CableKind(%v, %d)", changed, i), impl.CableKind(changed, i), miles[i].kind)
	}
}

func TestPromise18CableKindInvalid(t *testing.T) {
	for _, cable := range edgeCables() {
		all := len(milesOf(cable))
		for _, m := range append(farNumbers(), -2, -1, all, all+1, 400) {
			checkNumber(t, fmt.Sprintf("CableKind(%v, %d)", cable, m), impl.CableKind(cable, m), -1)
		}
	}
	for _, cable := range badCables() {
		for _, m := range append(farNumbers(), -1, 0, 1, 5) {
			checkNumber(t, fmt.Sprintf("CableKind(%v, %d)", cable, m), impl.CableKind(cable, m), -1)
		}
	}
}

func TestPromise19CablePlain(t *testing.T) {
	fails := 0
	for _, cable := range sampleCables() {
		call := fmt.Sprintf("CablePlain(%v)", cable)
		plain, ok := impl.CablePlain(cable)
		want := plainOf(cable)
		if slices.ContainsFunc(want, func(s impl.Section) bool { return s.Miles > 50 }) {
			fails++
			checkNoCable(t, call, plain, ok)
			continue
		}
		checkCable(t, call, plain, ok, want)
		again, ok := impl.CablePlain(plain)
		checkCable(t, "CablePlain of "+call, again, ok, plain)
		if len(plain) > len(cable) {
			t.Fatalf("%s returned %v, with more sections", call, plain)
		}
		all := impl.CableMiles(cable)
		checkNumber(t, "CableMiles of "+call, impl.CableMiles(plain), all)
		for m := range all + 1 {
			checkNumber(t, "CableOhms of "+call, impl.CableOhms(plain, m), impl.CableOhms(cable, m))
		}
	}
	if fails < 5 {
		t.Fatalf("only %d cables cannot be made plain", fails)
	}
}

func TestPromise19CablePlainLimits(t *testing.T) {
	for _, cable := range [][]impl.Section{
		{{Miles: 25, Kind: 2, Ohms: 2}, {Miles: 25, Kind: 2, Ohms: 2}},
		{{Miles: 49, Kind: 2, Ohms: 2}, {Miles: 1, Kind: 2, Ohms: 2}},
		{{Miles: 48, Kind: 2, Ohms: 2}, {Miles: 1, Kind: 2, Ohms: 2}, {Miles: 1, Kind: 2, Ohms: 2}},
		append(alike(7, 7, 2, 2), impl.Section{Miles: 1, Kind: 2, Ohms: 2}),
	} {
		plain, ok := impl.CablePlain(cable)
		checkCable(t, "CablePlain to 50 miles", plain, ok, alike(1, 50, 2, 2))
		cable[0].Miles++
		plain, ok = impl.CablePlain(cable)
		checkNoCable(t, "CablePlain to 51 miles", plain, ok)
	}
	// As many miles are no hindrance where Kind or Ohms differ.
	for _, cable := range [][]impl.Section{
		{{Miles: 50, Kind: 1, Ohms: 2}, {Miles: 50, Kind: 2, Ohms: 2}},
		{{Miles: 50, Kind: 2, Ohms: 1}, {Miles: 50, Kind: 2, Ohms: 2}},
	} {
		plain, ok := impl.CablePlain(cable)
		checkCable(t, "CablePlain", plain, ok, cable)
	}
	for _, cable := range badCables() {
		plain, ok := impl.CablePlain(cable)
		checkNoCable(t, fmt.Sprintf("CablePlain(%v)", cable), plain, ok)
	}
	// It would be one section of 45 miles, but the list is no cable.
	plain, ok := impl.CablePlain(alike(9, 5, 2, 2))
	checkNoCable(t, "CablePlain of 9 sections", plain, ok)
}

func TestPromise20CableCut(t *testing.T) {
	for _, cable := range sampleCables() {
		miles := milesOf(cable)
		for m := 1; m < len(miles); m++ {
			call := fmt.Sprintf("CableCut(%v, %d)", cable, m)
			a, b, ok := impl.CableCut(cable, m)
			checkCable(t, call, a, ok, sectionsOf(miles[:m]))
			checkCable(t, call, b, ok, sectionsOf(miles[m:]))
			checkNumber(t, "CableMiles of both parts of "+call, impl.CableMiles(a)+impl.CableMiles(b), impl.CableMiles(cable))
			checkNumber(t, "CableAll of both parts of "+call, impl.CableAll(a)+impl.CableAll(b), impl.CableAll(cable))
			checkPlainSplice(t, cable, a, b)
		}
	}
}

// checkPlainSplice checks that the parts of a cable, spliced and made plain, are the cable made plain.
func checkPlainSplice(t *testing.T, cable []impl.Section, a []impl.Section, b []impl.Section) {
	t.Helper()
	spliced, ok := impl.CableSplice(a, b)
	if want := len(a)+len(b) <= 8; ok != want {
		t.Fatalf("CableSplice(%v, %v) returned %v", a, b, ok)
	}
	plain, isPlain := impl.CablePlain(cable)
	if !ok || !isPlain {
		return
	}
	got, ok := impl.CablePlain(spliced)
	checkCable(t, fmt.Sprintf("CablePlain of CableSplice(%v, %v)", a, b), got, ok, plain)
}

func TestPromise20CableCutInvalid(t *testing.T) {
	for _, cable := range edgeCables() {
		all := len(milesOf(cable))
		for _, m := range append(farNumbers(), -1, 0, all, all+1, 400, 401) {
			checkNoCut(t, cable, m)
		}
	}
	for _, cable := range badCables() {
		for _, m := range append(farNumbers(), -1, 0, 1, 4, 5) {
			checkNoCut(t, cable, m)
		}
	}
}

func checkNoCut(t *testing.T, cable []impl.Section, m int) {
	t.Helper()
	if a, b, ok := impl.CableCut(cable, m); ok || len(a) != 0 || len(b) != 0 {
		t.Fatalf("CableCut(%v, %d) returned %v, %v, %v instead of no sections and false", cable, m, a, b, ok)
	}
}

func TestPromise21CableSplice(t *testing.T) {
	splices := 0
	for _, a := range sampleCables() {
		for _, b := range edgeCables() {
			call := fmt.Sprintf("CableSplice(%v, %v)", a, b)
			spliced, ok := impl.CableSplice(a, b)
			if len(a)+len(b) > 8 {
				checkNoCable(t, call, spliced, ok)
				continue
			}
			splices++
			checkCable(t, call, spliced, ok, slices.Concat(a, b))
			checkNumber(t, "CableMiles of "+call, impl.CableMiles(spliced), impl.CableMiles(a)+impl.CableMiles(b))
			checkNumber(t, "CableAll of "+call, impl.CableAll(spliced), impl.CableAll(a)+impl.CableAll(b))
			first, second, ok := impl.CableCut(spliced, impl.CableMiles(a))
			checkCable(t, "the first part of "+call, first, ok, a)
			checkCable(t, "the second part of "+call, second, ok, b)
		}
	}
	if splices < 100 {
		t.Fatalf("only %d pairs of cables can be spliced", splices)
	}
}

func TestPromise21CableSpliceLimits(t *testing.T) {
	for sections := 1; sections <= 8; sections++ {
		a := alike(sections, 3, 1, 2)
		spliced, ok := impl.CableSplice(a, alike(9-sections, 4, 1, 2))
		checkNoCable(t, "CableSplice to 9 sections", spliced, ok)
		if sections < 8 {
			b := alike(8-sections, 4, 1, 2)
			spliced, ok = impl.CableSplice(a, b)
			checkCable(t, "CableSplice to 8 sections", spliced, ok, slices.Concat(a, b))
		}
	}
	good := alike(2, 4, 2, 6)
	for _, bad := range badCables() {
		spliced, ok := impl.CableSplice(bad, good)
		checkNoCable(t, fmt.Sprintf("CableSplice(%v, %v)", bad, good), spliced, ok)
		spliced, ok = impl.CableSplice(good, bad)
		checkNoCable(t, fmt.Sprintf("CableSplice(%v, %v)", good, bad), spliced, ok)
		spliced, ok = impl.CableSplice(bad, bad)
		checkNoCable(t, fmt.Sprintf("CableSplice(%v, %v)", bad, bad), spliced, ok)
	}
}

// samplePoints are miles of a cable from 0 to all of them: both ends, the ends of all sections and their neighbors.
func samplePoints(cable []impl.Section) []int {
	points := []int{0, 1}
	end := 0
	for _, section := range cable {
		end += section.Miles
		points = append(points, end-section.Miles/2, end-1, end, end+1)
	}
	slices.Sort(points)
	points = slices.Compact(points)
	return slices.DeleteFunc(points, func(m int) bool { return m > end })
}

func TestPromise22CableReplace(t *testing.T) {
	made := 0
	for _, cable := range sampleCables() {
		points := samplePoints(cable)
		for _, from := range points {
			for _, to := range points {
				if from >= to {
					continue
				}
				for _, section := range []impl.Section{{Kind: 0, Ohms: 1}, {Kind: 3, Ohms: 20}, {Kind: cable[0].Kind, Ohms: cable[0].Ohms}} {
					made += checkReplace(t, cable, from, to, section.Kind, section.Ohms)
				}
			}
		}
	}
	if made < 1000 {
		t.Fatalf("only %d replacements succeed", made)
	}
}

// checkReplace checks a replacement mile by mile, and returns 1 if it succeeds.
func checkReplace(t *testing.T, cable []impl.Section, from int, to int, kind int, ohms int) int {
	t.Helper()
	call := fmt.Sprintf("CableReplace(%v, %d, %d, %d, %d)", cable, from, to, kind, ohms)
	miles := milesOf(cable)
	before := ohmsOf(miles[from:to])
	for m := from; m < to; m++ {
		miles[m] = mile{-1, kind, ohms}
	}
	want := sectionsOf(miles)
	got, ok := impl.CableReplace(cable, from, to, kind, ohms)
	if len(want) > 8 || to-from > 50 {
		checkNoCable(t, call, got, ok)
		return 0
	}
	checkCable(t, call, got, ok, want)
	checkNumber(t, "CableMiles of "+call, impl.CableMiles(got), impl.CableMiles(cable))
	for m := range miles {
		checkNumber(t, fmt.Sprintf("CableKind(%s, %d)", call, m), impl.CableKind(got, m), miles[m].kind)
	}
	checkNumber(t, "CableAll of "+call, impl.CableAll(got)-impl.CableAll(cable), (to-from)*ohms-before)
	return 1
}

func TestPromise22CableReplaceEnds(t *testing.T) {
	cable := []impl.Section{{Miles: 10, Kind: 0, Ohms: 3}, {Miles: 5, Kind: 1, Ohms: 4}}
	for _, c := range []struct {
		from, to int
		text     string
	}{
		{0, 1, "1m2k5o+9m0k3o+5m1k4o"}, {0, 9, "9m2k5o+1m0k3o+5m1k4o"}, {0, 10, "10m2k5o+5m1k4o"}, {0, 11, "11m2k5o+4m1k4o"}, {0, 15, "15m2k5o"},
		{8, 12, "8m0k3o+4m2k5o+3m1k4o"}, {10, 15, "10m0k3o+5m2k5o"}, {9, 15, "9m0k3o+6m2k5o"}, {14, 15, "10m0k3o+4m1k4o+1m2k5o"}, {3, 5, "3m0k3o+2m2k5o+5m0k3o+5m1k4o"},
	} {
		got, ok := impl.CableReplace(cable, c.from, c.to, 2, 5)
		if !ok || impl.CableText(got) != c.text {
			t.Fatalf("CableReplace(%v, %d, %d, 2, 5) returned %v, %v instead of %s", cable, c.from, c.to, got, ok, c.text)
		}
	}
	// A replacement by what was there makes sections of its own.
	got, ok := impl.CableReplace(cable, 3, 5, 0, 3)
	checkCable(t, "CableReplace by the same", got, ok, []impl.Section{{Miles: 3, Kind: 0, Ohms: 3}, {Miles: 2, Kind: 0, Ohms: 3}, {Miles: 5, Kind: 0, Ohms: 3}, {Miles: 5, Kind: 1, Ohms: 4}})
}

func TestPromise22CableReplaceLimits(t *testing.T) {
	got, ok := impl.CableReplace(alike(8, 50, 1, 2), 50, 100, 3, 9)
	want := alike(8, 50, 1, 2)
	want[1] = impl.Section{Miles: 50, Kind: 3, Ohms: 9}
	checkCable(t, "CableReplace of 50 miles", got, ok, want)
	got, ok = impl.CableReplace(alike(8, 50, 1, 2), 50, 101, 3, 9)
	checkNoCable(t, "CableReplace of 51 miles", got, ok)
	got, ok = impl.CableReplace(alike(8, 50, 1, 2), 0, 400, 3, 9)
	checkNoCable(t, "CableReplace of 400 miles", got, ok)
	got, ok = impl.CableReplace(alike(8, 3, 1, 2), 0, 1, 3, 9)
	checkNoCable(t, "CableReplace to 9 sections", got, ok)
	got, ok = impl.CableReplace(alike(8, 3, 1, 2), 23, 24, 3, 9)
	checkNoCable(t, "CableReplace to 9 sections", got, ok)
	got, ok = impl.CableReplace(alike(7, 3, 1, 2), 4, 5, 3, 9)
	checkNoCable(t, "CableReplace to 9 sections", got, ok)
	got, ok = impl.CableReplace(alike(6, 3, 1, 2), 4, 5, 3, 9)
	if !ok || len(got) != 8 {
		t.Fatalf("CableReplace to 8 sections returned %v, %v", got, ok)
	}
}

func TestPromise22CableReplaceInvalid(t *testing.T) {
	for _, cable := range edgeCables() {
		all := len(milesOf(cable))
		bad := [][2]int{{-1, 0}, {-1, 1}, {-1, all}, {0, 0}, {1, 1}, {all, all}, {1, 0}, {all, 0}, {0, all + 1}, {all - 1, all + 1}, {all, all + 1}, {-1, -1}, {-2, -1}, {all + 1, all + 2}}
		for _, far := range farNumbers() {
			bad = append(bad, [2]int{far, 1}, [2]int{far, all}, [2]int{0, far}, [2]int{far, far}, [2]int{math.MinInt, far}, [2]int{far, math.MinInt})
		}
		for _, miles := range bad {
			got, ok := impl.CableReplace(cable, miles[0], miles[1], 2, 5)
			checkNoCable(t, fmt.Sprintf("CableReplace(%v, %d, %d, 2, 5)", cable, miles[0], miles[1]), got, ok)
		}
		for _, section := range badSections() {
			if section.Miles != 9 {
				continue
			}
			got, ok := impl.CableReplace(cable, 0, 1, section.Kind, section.Ohms)
			checkNoCable(t, fmt.Sprintf("CableReplace(%v, 0, 1, %d, %d)", cable, section.Kind, section.Ohms), got, ok)
		}
	}
	for _, cable := range badCables() {
		for _, miles := range [][2]int{{0, 1}, {0, 4}, {4, 8}, {0, 9}} {
			got, ok := impl.CableReplace(cable, miles[0], miles[1], 2, 5)
			checkNoCable(t, fmt.Sprintf("CableReplace(%v, %d, %d, 2, 5)", cable, miles[0], miles[1]), got, ok)
		}
	}
}

// TestPromise22CableReplaceBad checks that a replacement of all that is no section does not make a cable of a list that is none.
func TestPromise22CableReplaceBad(t *testing.T) {
	got, ok := impl.CableReplace([]impl.Section{{Miles: 5, Kind: 4, Ohms: 5}}, 0, 5, 2, 5)
	checkNoCable(t, "CableReplace of a Kind of 4", got, ok)
	got, ok = impl.CableReplace([]impl.Section{{Miles: 5, Kind: 1, Ohms: 21}, {Miles: 5, Kind: 1, Ohms: 2}}, 0, 5, 2, 5)
	checkNoCable(t, "CableReplace of 21 Ohms", got, ok)
	got, ok = impl.CableReplace(alike(9, 2, 1, 2), 0, 18, 2, 5)
	checkNoCable(t, "CableReplace of 9 sections", got, ok)
	got, ok = impl.CableReplace([]impl.Section{{Miles: 51, Kind: 1, Ohms: 2}}, 1, 50, 2, 5)
	checkNoCable(t, "CableReplace of 51 miles", got, ok)
}

func TestPromise23CableBack(t *testing.T) {
	for _, cable := range sampleCables() {
		call := fmt.Sprintf("CableBack(%v)", cable)
		back, ok := impl.CableBack(cable)
		checkCable(t, call, back, ok, reversedCable(cable))
		again, ok := impl.CableBack(back)
		checkCable(t, "CableBack of "+call, again, ok, cable)
		plain, ok := impl.CablePlain(cable)
		plainBack, okBack := impl.CablePlain(back)
		if ok != okBack {
			t.Fatalf("CablePlain of %v and of its opposite returned %v and %v", cable, ok, okBack)
		}
		if ok {
			checkCable(t, "CablePlain of "+call, plainBack, ok, reversedCable(plain))
		}
	}
	for _, cable := range badCables() {
		back, ok := impl.CableBack(cable)
		checkNoCable(t, fmt.Sprintf("CableBack(%v)", cable), back, ok)
	}
}

func TestPromise24CableText(t *testing.T) {
	for _, cable := range sampleCables() {
		call := fmt.Sprintf("CableText(%v)", cable)
		texts := []string{}
		for _, section := range cable {
			texts = append(texts, fmt.Sprintf("%dm%dk%do", section.Miles, section.Kind, section.Ohms))
		}
		text := impl.CableText(cable)
		checkText(t, call, text, strings.Join(texts, "+"))
		checkNumber(t, "the plus of "+call, strings.Count(text, "+"), len(cable)-1)
		for _, letter := range []string{"m", "k", "o"} {
			checkNumber(t, "the "+letter+" of "+call, strings.Count(text, letter), len(cable))
		}
		for i := 1; i < len(cable); i++ {
			checkText(t, call, text, impl.CableText(cable[:i])+"+"+impl.CableText(cable[i:]))
		}
	}
	checkText(t, "CableText", impl.CableText(alike(1, 12, 0, 3)), "12m0k3o")
	checkText(t, "CableText", impl.CableText([]impl.Section{{Miles: 10, Kind: 0, Ohms: 3}, {Miles: 5, Kind: 1, Ohms: 4}}), "10m0k3o+5m1k4o")
	checkText(t, "CableText", impl.CableText(alike(2, 50, 3, 20)), "50m3k20o+50m3k20o")
	for _, cable := range badCables() {
		checkText(t, fmt.Sprintf("CableText(%v)", cable), impl.CableText(cable), "")
	}
}

// cableCalls are calls of all functions that return sections, with the cable a of 3 sections and the cable b.
func cableCalls() map[string]func(a []impl.Section, b []impl.Section) [][]impl.Section {
	return map[string]func(a []impl.Section, b []impl.Section) [][]impl.Section{
		"CablePlain": func(a []impl.Section, b []impl.Section) [][]impl.Section {
			x, _ := impl.CablePlain(a)
			y, _ := impl.CablePlain(b)
			return [][]impl.Section{x, y}
		},
		"CableCut": func(a []impl.Section, b []impl.Section) [][]impl.Section {
			x, y, _ := impl.CableCut(a, 4)
			return [][]impl.Section{x, y}
		},
		"CableCut between sections": func(a []impl.Section, b []impl.Section) [][]impl.Section {
			x, y, _ := impl.CableCut(a, a[0].Miles)
			return [][]impl.Section{x, y}
		},
		"CableSplice": func(a []impl.Section, b []impl.Section) [][]impl.Section {
			x, _ := impl.CableSplice(a, b)
			return [][]impl.Section{x}
		},
		"CableReplace": func(a []impl.Section, b []impl.Section) [][]impl.Section {
			x, _ := impl.CableReplace(a, 1, 5, 2, 9)
			return [][]impl.Section{x}
		},
		"CableBack": func(a []impl.Section, b []impl.Section) [][]impl.Section {
			x, _ := impl.CableBack(a)
			return [][]impl.Section{x}
		},
		"the others": func(a []impl.Section, b []impl.Section) [][]impl.Section {
			impl.CableValid(a)
			impl.CableMiles(a)
			impl.CableOhms(a, 4)
			impl.CableAll(a)
			impl.CableWhere(a, 40)
			impl.CableKind(a, 4)
			impl.CableText(a)
			return nil
		},
	}
}

// TestCableMemory changes what each function returns, up to its capacity, and checks that neither its arguments, nor what lies behind them, nor other results change.
func TestCableMemory(t *testing.T) {
	for name, call := range cableCalls() {
		whole := []impl.Section{{Miles: 7, Kind: 1, Ohms: 5}, {Miles: 8, Kind: 1, Ohms: 5}, {Miles: 9, Kind: 2, Ohms: 6}, {Miles: 1}, {Miles: 2}, {Miles: 3, Kind: 3, Ohms: 7}, {Miles: 4, Kind: 0, Ohms: 8}, {Miles: 3}, {Miles: 4}}
		before := slices.Clone(whole)
		results := append(call(whole[0:3], whole[5:7]), call(whole[0:3], whole[5:7])...)
		for i := range results {
			kept := [][]impl.Section{}
			for _, other := range results {
				kept = append(kept, slices.Clone(other))
			}
			if len(results[i]) == 0 {
				t.Fatalf("%s returned nothing", name)
			}
			changed := results[i][:cap(results[i])]
			for k := range changed {
				changed[k] = impl.Section{Miles: -7 - i}
			}
			for k, other := range results {
				if k != i && !slices.Equal(other, kept[k]) {
					t.Fatalf("%s: two of its results share memory: %v", name, results)
				}
			}
		}
		if !slices.Equal(whole, before) {
			t.Fatalf("%s: its result shares memory, or it changes an argument: %v", name, whole)
		}
	}
}
