package tests

import (
	"fmt"
	"math/rand"
	"slices"
	"testing"

	"loop.example/cableship/impl"
)

// The tests of chapter 7 hold the program against all sides, all loads of small nets, and ways that are chosen from all rows of stations.

// net is a list of lines with the number of their stations.
type net struct {
	n     int
	lines []impl.Line
}

// ends are the first and the last station of loads.
type ends struct {
	from int
	to   int
}

// netOf returns a net whose lines are written as numbers: of each one its A, its B and its Channels.
func netOf(n int, numbers ...int) net {
	return net{n, linesOf(numbers...)}
}

func linesOf(numbers ...int) []impl.Line {
	lines := []impl.Line{}
	for line := range slices.Chunk(numbers, 3) {
		lines = append(lines, impl.Line{A: line[0], B: line[1], Channels: line[2]})
	}
	return lines
}

// oneLine is so many lines between the first two of some stations.
func oneLine(n int, many int, channels int) net {
	return netOf(n, slices.Repeat([]int{0, 1, channels}, many)...)
}

// eachWithEach has a line between any two of so many first stations.
func eachWithEach(n int, stations int, channels int) net {
	numbers := []int{}
	for b := range stations {
		for a := range b {
			numbers = append(numbers, a, b, channels)
		}
	}
	return netOf(n, numbers...)
}

// ring joins all stations in a ring, with 1 channel more from line to line.
func ring(n int, channels int) net {
	numbers := []int{}
	for a := range n {
		numbers = append(numbers, a, (a+1)%n, channels+a)
	}
	return netOf(n, numbers...)
}

// triangle is a net of 3 stations and a line between any two.
func triangle() net {
	return netOf(3, 0, 1, 3, 1, 2, 2, 0, 2, 1)
}

// takenBack is a net in which the first way from 0 to 5 takes the line between 1 and 2, which a later one must take back.
func takenBack() net {
	return netOf(6, 0, 1, 1, 1, 2, 1, 2, 5, 1, 0, 3, 1, 3, 2, 1, 1, 4, 1, 4, 5, 1)
}

// takenBackBy is such a net with the stations between renamed, its lines in any order and in any direction, some of them twice, with as many channels each but one.
func takenBackBy(random *rand.Rand) net {
	s := takenBack()
	for range random.Intn(4) {
		s.lines = append(s.lines, s.lines[random.Intn(7)])
	}
	channels := 1 + random.Intn(3)
	between := random.Perm(4)
	names := []int{0, 1 + between[0], 1 + between[1], 1 + between[2], 1 + between[3], 5}
	for i, line := range s.lines {
		a, b := names[line.A], names[line.B]
		if random.Intn(2) == 0 {
			a, b = b, a
		}
		s.lines[i] = impl.Line{A: a, B: b, Channels: channels}
	}
	s.lines[random.Intn(len(s.lines))].Channels++
	random.Shuffle(len(s.lines), func(a int, b int) { s.lines[a], s.lines[b] = s.lines[b], s.lines[a] })
	return s
}

// ladder is a net with two ways of as few lines from 0 to 3.
func ladder() net {
	return netOf(4, 0, 2, 2, 2, 3, 2, 0, 1, 2, 1, 3, 2)
}

// edgeNets are nets at the document's limits: without lines, of one line, of LinesMax lines, of 2 stations and of StationsMax stations, with stations without lines, in two parts, with several lines between the same stations, and with lines of 1 and of 9 channels.
func edgeNets() []net {
	return []net{
		netOf(2), netOf(3), netOf(6), netOf(2, 0, 1, 1), netOf(2, 1, 0, 1), netOf(2, 0, 1, 9), netOf(2, 1, 0, 9), oneLine(2, 9, 9), oneLine(2, 10, 9), oneLine(2, 10, 1), oneLine(6, 10, 9),
		netOf(2, 0, 1, 3, 1, 0, 5), netOf(2, 0, 1, 1, 1, 0, 2, 0, 1, 3, 1, 0, 4, 0, 1, 5, 1, 0, 6, 0, 1, 7, 1, 0, 8, 0, 1, 9, 1, 0, 9),
		netOf(3, 0, 1, 5), netOf(3, 1, 2, 5), netOf(3, 0, 2, 5), netOf(6, 0, 5, 4), netOf(6, 2, 3, 9), netOf(6, 1, 2, 2, 2, 3, 3, 3, 4, 1, 4, 1, 2), netOf(6, 0, 1, 3, 1, 2, 3, 2, 3, 3, 3, 0, 3), netOf(6, 5, 4, 3, 4, 3, 3, 3, 2, 3, 2, 5, 3), netOf(5, 0, 1, 2, 1, 3, 2, 3, 4, 2, 0, 3, 1, 1, 4, 1),
		netOf(4, 0, 1, 2, 2, 3, 2), netOf(4, 0, 2, 1, 1, 3, 9), netOf(6, 0, 1, 2, 1, 2, 3, 2, 0, 4, 3, 4, 5, 4, 5, 6, 5, 3, 7), netOf(6, 0, 2, 2, 2, 4, 3, 4, 0, 4, 1, 3, 5, 3, 5, 6, 5, 1, 7),
		triangle(), takenBack(), ladder(), ring(3, 1), ring(4, 2), ring(6, 1), ring(6, 4), netOf(6, 0, 1, 9, 1, 2, 9, 2, 3, 9, 3, 4, 9, 4, 5, 9), netOf(6, 5, 0, 1, 0, 4, 2, 4, 1, 3, 1, 3, 4, 3, 2, 5), netOf(6, 0, 1, 1, 0, 2, 2, 0, 3, 3, 0, 4, 4, 0, 5, 5), netOf(6, 1, 5, 9, 2, 5, 8, 5, 3, 7, 5, 4, 6, 0, 5, 5),
		eachWithEach(4, 4, 1), eachWithEach(4, 4, 9), eachWithEach(5, 5, 1), eachWithEach(5, 5, 9), eachWithEach(6, 5, 3), eachWithEach(6, 4, 2),
		netOf(3, 0, 1, 1, 0, 1, 1, 1, 2, 1, 1, 2, 1, 1, 2, 1), netOf(3, 1, 0, 2, 0, 1, 1, 2, 1, 3, 1, 2, 1, 0, 2, 1, 2, 0, 1), netOf(4, 0, 1, 1, 1, 2, 1, 2, 1, 1, 1, 2, 1, 2, 3, 9, 3, 0, 2),
		netOf(6, 0, 1, 2, 1, 2, 1, 2, 1, 1, 2, 5, 2, 0, 3, 2, 3, 2, 2, 1, 4, 2, 4, 5, 2), netOf(6, 5, 3, 1, 3, 4, 1, 4, 0, 1, 5, 1, 1, 1, 4, 1, 3, 2, 1, 2, 0, 1, 0, 5, 1),
	}
}

// randomNet has so many lines between random stations.
func randomNet(random *rand.Rand, n int, lines int, channels int) net {
	s := net{n: n}
	for range lines {
		a := random.Intn(n)
		b := (a + 1 + random.Intn(n-1)) % n
		s.lines = append(s.lines, impl.Line{A: a, B: b, Channels: 1 + random.Intn(channels)})
	}
	return s
}

// sampleNets are the edge nets and random ones.
func sampleNets() []net {
	list := edgeNets()
	random := newRandom()
	for n := 2; n <= 6; n++ {
		for lines := range 11 {
			list = append(list, randomNet(random, n, lines, 9), randomNet(random, n, lines, 3), randomNet(random, n, lines, 1))
		}
		for range 10 {
			list = append(list, randomNet(random, n, 8+random.Intn(3), 2), randomNet(random, n, 10, 4))
		}
	}
	for range 100 {
		list = append(list, takenBackBy(random))
	}
	return list
}

// smallNets are nets of which all lists of numbers can be tried.
func smallNets() []net {
	list := []net{netOf(2), netOf(4), netOf(2, 0, 1, 9), netOf(2, 1, 0, 2, 0, 1, 3), netOf(3, 1, 2, 4), triangle(), ring(3, 1), eachWithEach(4, 4, 1), netOf(4, 0, 1, 2, 1, 2, 1, 2, 3, 1, 3, 1, 2), ladder()}
	random := newRandom()
	for n := 2; n <= 6; n++ {
		for lines := 1; lines <= 4; lines++ {
			list = append(list, randomNet(random, n, lines, 2))
		}
		list = append(list, randomNet(random, n, 5, 1), randomNet(random, n, 6, 1))
	}
	return list
}

// pairsOf are all pairs of two of so many stations, in both orders.
func pairsOf(n int) []ends {
	pairs := []ends{}
	for a := range n {
		for b := range n {
			if a != b {
				pairs = append(pairs, ends{a, b})
			}
		}
	}
	return pairs
}

// eachEnds calls a function with the sample nets and two stations: all of the edge nets and of nets of few stations, else some, always the outermost ones.
func eachEnds(check func(s net, from int, to int)) {
	random := newRandom()
	edges := len(edgeNets())
	for i, s := range sampleNets() {
		pairs := pairsOf(s.n)
		if i >= edges && s.n > 3 {
			random.Shuffle(len(pairs), func(a int, b int) { pairs[a], pairs[b] = pairs[b], pairs[a] })
			pairs = append([]ends{{0, s.n - 1}, {s.n - 1, 0}}, pairs[:3]...)
		}
		for _, p := range pairs {
			check(s, p.from, p.to)
		}
	}
}

// badEnds are no two different ones of n stations.
func badEnds(n int) []ends {
	pairs := []ends{}
	for station := range n {
		pairs = append(pairs, ends{station, station})
		for _, other := range append(farNumbers(), -n, -2, -1, n, n+1, 6, 7, 256, 1<<32, 1<<32+1) {
			if other < 0 || other >= n {
				pairs = append(pairs, ends{station, other}, ends{other, station}, ends{other, other})
			}
		}
	}
	return append(pairs, ends{-1, n}, ends{n, -1}, ends{n, n + 1})
}

// badNets are lists that are no nets, or numbers that are none of stations.
func badNets() []net {
	bad := []net{oneLine(2, 11, 1), oneLine(6, 11, 9), oneLine(2, 12, 1), oneLine(2, 20, 1), oneLine(3, 256, 1), oneLine(3, 266, 1), oneLine(2, 500, 1), {2, make([]impl.Line, 1)}, {6, make([]impl.Line, 11)}, eachWithEach(6, 6, 1)}
	for _, n := range append(farNumbers(), -6, -2, -1, 0, 1, 7, 8, 63, 64, 65, 256, 258, 1<<32, 1<<32+2) {
		bad = append(bad, net{n: n}, oneLine(n, 1, 1), oneLine(n, 10, 9), oneLine(n, 11, 1), net{n, triangle().lines})
	}
	for _, s := range []net{netOf(2, 0, 1, 9), triangle(), ring(6, 1), eachWithEach(5, 5, 9), oneLine(6, 10, 1)} {
		for i, line := range s.lines {
			for _, channels := range append(farNumbers(), -9, -2, -1, 0, 10, 11, 256, 257, 1<<32, 1<<32+1) {
				bad = append(bad, s.with(i, impl.Line{A: line.A, B: line.B, Channels: channels}))
			}
			for _, station := range append(farNumbers(), -s.n, -2, -1, s.n, s.n+1, 6, 7, 256, 1<<32, 1<<32+1) {
				bad = append(bad, s.with(i, impl.Line{A: station, B: line.B, Channels: 1}), s.with(i, impl.Line{A: line.A, B: station, Channels: 1}), s.with(i, impl.Line{A: station, B: station, Channels: 1}))
			}
			bad = append(bad, s.with(i, impl.Line{A: line.A, B: line.A, Channels: 1}), s.with(i, impl.Line{A: line.B, B: line.B, Channels: 9}), s.with(i, impl.Line{}))
		}
	}
	return bad
}

// with returns a net with another line in the place of one.
func (s net) with(i int, line impl.Line) net {
	lines := slices.Clone(s.lines)
	lines[i] = line
	return net{s.n, lines}
}

// drop returns a net without a line.
func (s net) drop(i int) net {
	return net{s.n, slices.Delete(slices.Clone(s.lines), i, i+1)}
}

// at returns the sum of the channels at a station.
func (s net) at(station int) int {
	channels := 0
	for _, line := range s.lines {
		if line.A == station || line.B == station {
			channels += line.Channels
		}
	}
	return channels
}

// outOf returns what goes out of a station less what comes in.
func (s net) outOf(station int, load []int) int {
	out := 0
	for i, line := range s.lines {
		if line.A == station {
			out += load[i]
		}
		if line.B == station {
			out -= load[i]
		}
	}
	return out
}

// wantTraffic returns the traffic of a load, or -1 if it is none.
func (s net) wantTraffic(from int, to int, load []int) int {
	if len(load) != len(s.lines) {
		return -1
	}
	for i, line := range s.lines {
		if load[i] > line.Channels || load[i] < -line.Channels {
			return -1
		}
	}
	for station := range s.n {
		if out := s.outOf(station, load); station == from && out < 0 || station != from && station != to && out != 0 {
			return -1
		}
	}
	return s.outOf(from, load)
}

// wantCut returns the channels between stations of a set, given as a number with a bit for each, and the others.
func (s net) wantCut(set int) int {
	cut := 0
	for _, line := range s.lines {
		if set>>line.A&1 != set>>line.B&1 {
			cut += line.Channels
		}
	}
	return cut
}

// setsBetween are all sets of stations with the first and without the last one.
func (s net) setsBetween(from int, to int) []int {
	sets := []int{}
	for set := range 1 << s.n {
		if set>>from&1 == 1 && set>>to&1 == 0 {
			sets = append(sets, set)
		}
	}
	return sets
}

// sideOf is a set of stations as a list.
func (s net) sideOf(set int) []int {
	side := []int{}
	for station := range s.n {
		side = append(side, set>>station&1)
	}
	return side
}

// wantSet returns the least set of the least cut, the cut, and how many sets have it.
func (s net) wantSet(from int, to int) (int, int, int) {
	least, cut, many := 0, 1000, 0
	for _, set := range slices.Backward(s.setsBetween(from, to)) {
		other := s.wantCut(set)
		if other < cut {
			cut, many = other, 0
		}
		if other == cut {
			least = set
			many++
		}
	}
	return least, cut, many
}

// wantMost returns the greatest traffic: it is the least cut.
func (s net) wantMost(from int, to int) int {
	_, cut, _ := s.wantSet(from, to)
	return cut
}

// rowsBetween are all rows of stations from one to another one, none twice, those with fewer stations first, then by the first station that differs.
func (s net) rowsBetween(from int, to int) [][]int {
	done, open := [][]int{}, [][]int{{from}}
	for len(open) > 0 {
		row := open[0]
		open = open[1:]
		for next := range s.n {
			if slices.Contains(row, next) {
				continue
			}
			longer := append(slices.Clone(row), next)
			if next == to {
				done = append(done, longer)
			} else {
				open = append(open, longer)
			}
		}
	}
	slices.SortFunc(done, func(a []int, b []int) int {
		if len(a) != len(b) {
			return len(a) - len(b)
		}
		return slices.Compare(a, b)
	})
	return done
}

// hop returns the first line with a free channel from a station to another one, or -1, and the number that it adds.
func (s net) hop(load []int, a int, b int) (int, int) {
	for i, line := range s.lines {
		if line == (impl.Line{A: a, B: b, Channels: line.Channels}) && load[i]+1 <= line.Channels {
			return i, 1
		}
		if line == (impl.Line{A: b, B: a, Channels: line.Channels}) && load[i]-1 >= -line.Channels {
			return i, -1
		}
	}
	return -1, 0
}

// lay adds one channel along a row of stations, and reports whether there were free ones. It counts the lines of which some is taken back.
func (s net) lay(load []int, row []int) (bool, int) {
	for i := 1; i < len(row); i++ {
		if line, _ := s.hop(load, row[i-1], row[i]); line < 0 {
			return false, 0
		}
	}
	back := 0
	for i := 1; i < len(row); i++ {
		line, one := s.hop(load, row[i-1], row[i])
		if load[line]*one < 0 {
			back++
		}
		load[line] += one
	}
	return true, back
}

// wantLoad adds way by way, each time the first one of all rows of stations that is free, and returns how many lines were taken back, too.
func (s net) wantLoad(from int, to int) ([]int, int) {
	load := make([]int, len(s.lines))
	rows := s.rowsBetween(from, to)
	back := 0
	for {
		next := slices.IndexFunc(rows, func(row []int) bool {
			laid, taken := s.lay(load, row)
			back += taken
			return laid
		})
		if next < 0 {
			return load, back
		}
	}
}

// component is the set of all stations to which lines lead from one.
func (s net) component(station int) int {
	set := 1 << station
	for range s.n {
		for _, line := range s.lines {
			if set>>line.A&1 == 1 || set>>line.B&1 == 1 {
				set |= 1<<line.A | 1<<line.B
			}
		}
	}
	return set
}

// sampleLoads are loads of a net: none, the greatest one, and random ways and circles.
func (s net) sampleLoads(random *rand.Rand, from int, to int) [][]int {
	most, _ := s.wantLoad(from, to)
	loads := [][]int{make([]int, len(s.lines)), most}
	rows := s.rowsBetween(from, to)
	for range 4 {
		load := make([]int, len(s.lines))
		for range 1 + random.Intn(4) {
			s.lay(load, rows[random.Intn(len(rows))])
		}
		s.circle(random, load)
		loads = append(loads, slices.Clone(load))
		s.circle(random, load)
		loads = append(loads, load)
	}
	return loads
}

// circle adds a circle over random stations to a load, if there are channels.
func (s net) circle(random *rand.Rand, load []int) {
	for range 20 {
		row := random.Perm(s.n)[:2+random.Intn(s.n-1)]
		trial := slices.Clone(load)
		if len(row) == 2 {
			// Two lines between the same stations are a circle, too.
			s.twoLines(random, trial, row[0], row[1])
		} else if laid, _ := s.lay(trial, append(slices.Clone(row), row[0])); !laid {
			continue
		}
		if !slices.Equal(trial, load) && s.fits(trial) {
			copy(load, trial)
			return
		}
	}
}

// twoLines lets a channel go from a station to another one on one line, and back on a later one.
func (s net) twoLines(random *rand.Rand, load []int, a int, b int) {
	one := 1
	for i, line := range s.lines {
		if line.A == a && line.B == b {
			load[i] += one
			one = -one
		} else if line.A == b && line.B == a {
			load[i] -= one
			one = -one
		}
	}
	if one < 0 {
		clear(load)
	}
}

// fits reports whether no number of a list is more than the channels of its line.
func (s net) fits(load []int) bool {
	for i, line := range s.lines {
		if load[i] > line.Channels || load[i] < -line.Channels {
			return false
		}
	}
	return true
}

// eachLoad calls a function with sample nets and loads of them.
func eachLoad(check func(s net, from int, to int, load []int)) {
	random := newRandom()
	eachEnds(func(s net, from int, to int) {
		for _, load := range s.sampleLoads(random, from, to) {
			check(s, from, to, load)
		}
	})
}

// eachTrial calls a function with small nets and all lists of numbers for their lines, of which one channel more than there are is the greatest.
func eachTrial(check func(s net, from int, to int, load []int)) {
	for _, s := range smallNets() {
		trials := [][]int{{}}
		for _, line := range s.lines {
			longer := [][]int{}
			for _, trial := range trials {
				for channels := -line.Channels - 1; channels <= line.Channels+1; channels++ {
					longer = append(longer, append(slices.Clone(trial), channels))
				}
			}
			trials = longer
		}
		pairs := []ends{{0, s.n - 1}, {s.n - 1, 0}, {0, 1}, {s.n - 1, s.n / 2}}
		for _, p := range pairs {
			if p.from == p.to {
				continue
			}
			for _, load := range trials {
				check(s, p.from, p.to, load)
			}
		}
	}
}

// badLoads are lists that are no loads of a net: too short, too long, with more channels than there are.
func (s net) badLoads() [][]int {
	zero := make([]int, len(s.lines))
	bad := [][]int{append(slices.Clone(zero), 0), append(slices.Clone(zero), 0, 0), append(slices.Clone(zero), 1), make([]int, len(zero)+256)}
	if len(zero) > 0 {
		bad = append(bad, nil, zero[1:])
	}
	for i, line := range s.lines {
		for _, channels := range append(farNumbers(), line.Channels+1, -line.Channels-1, 10, -10, 256, -256, 1<<32, -1<<32, 1<<32+1) {
			load := slices.Clone(zero)
			load[i] = channels
			bad = append(bad, load)
		}
	}
	return bad
}

// checkNoLoad checks what is said of a list that is no load.
func checkNoLoad(t *testing.T, n int, lines []impl.Line, from int, to int, load []int) {
	t.Helper()
	call := fmt.Sprintf("(%d, %v, %d, %d, %v)", n, lines, from, to, load)
	checkHolds(t, "LoadValid"+call, impl.LoadValid(n, lines, from, to, load), false)
	checkNumber(t, "LoadTraffic"+call, impl.LoadTraffic(n, lines, from, to, load), -1)
	for _, other := range [][]int{load, make([]int, len(lines)), make([]int, len(load))} {
		got, ok := impl.LoadAdd(n, lines, from, to, load, other)
		checkFails(t, "LoadAdd of the first one "+call, got, ok)
		got, ok = impl.LoadAdd(n, lines, from, to, other, load)
		checkFails(t, "LoadAdd of the second one "+call, got, ok)
	}
}

// checkNoTraffic checks what is said of a list that is no net, or of stations that are no two different ones of it.
func checkNoTraffic(t *testing.T, n int, lines []impl.Line, from int, to int) {
	t.Helper()
	call := fmt.Sprintf("(%d, %v, %d, %d)", n, lines, from, to)
	checkNumber(t, "TrafficMost"+call, impl.TrafficMost(n, lines, from, to), -1)
	got, ok := impl.TrafficLoad(n, lines, from, to)
	checkFails(t, "TrafficLoad"+call, got, ok)
	got, ok = impl.CutLeast(n, lines, from, to)
	checkFails(t, "CutLeast"+call, got, ok)
	k, ok := impl.NetWeakest(n, lines, from, to)
	checkNoIndex(t, "NetWeakest"+call, k, ok)
	checkFails(t, "NetNeeded"+call, impl.NetNeeded(n, lines, from, to), false)
	stations := min(max(n, 0), 8)
	for _, side := range [][]int{nil, {1, 0}, {0, 1}, make([]int, stations), repeated(1, stations), append([]int{1}, make([]int, stations)...), {1, 0, 0, 0, 0, 0}} {
		checkNumber(t, fmt.Sprintf("CutOf%s of %v", call, side), impl.CutOf(n, lines, from, to, side), -1)
	}
	checkNoLoad(t, n, lines, from, to, nil)
	checkNoLoad(t, n, lines, from, to, make([]int, min(len(lines), 12)))
}

// checkLines fails unless a call succeeded with a net.
func checkLines(t *testing.T, call string, got []impl.Line, ok bool, want []impl.Line) {
	t.Helper()
	if !ok || !slices.Equal(got, want) {
		t.Fatalf("%s returned %v, %v instead of %v, true", call, got, ok, want)
	}
}

// checkNoLines fails unless a call returned an empty list and false.
func checkNoLines(t *testing.T, call string, got []impl.Line, ok bool) {
	t.Helper()
	if ok || len(got) != 0 {
		t.Fatalf("%s returned %v, %v instead of no lines and false", call, got, ok)
	}
}

// mustLoad returns TrafficLoad of a net.
func mustLoad(t *testing.T, s net, from int, to int) []int {
	t.Helper()
	load, ok := impl.TrafficLoad(s.n, s.lines, from, to)
	checkHolds(t, fmt.Sprintf("TrafficLoad(%v, %d, %d)", s, from, to), ok, true)
	return load
}

// mustCut returns CutLeast of a net.
func mustCut(t *testing.T, s net, from int, to int) []int {
	t.Helper()
	side, ok := impl.CutLeast(s.n, s.lines, from, to)
	checkHolds(t, fmt.Sprintf("CutLeast(%v, %d, %d)", s, from, to), ok && len(side) == s.n, true)
	return side
}

// mustDropLine returns NetWithout of a net.
func mustDropLine(t *testing.T, s net, k int) net {
	t.Helper()
	lines, ok := impl.NetWithout(s.n, s.lines, k)
	checkLines(t, fmt.Sprintf("NetWithout(%v, %d)", s, k), lines, ok, s.drop(k).lines)
	return net{s.n, lines}
}

// traffic returns TrafficMost of a net.
func (s net) traffic(from int, to int) int {
	return impl.TrafficMost(s.n, s.lines, from, to)
}

// opposite returns a list with the opposite numbers.
func opposite(list []int) []int {
	other := make([]int, len(list))
	for i, number := range list {
		other[i] = -number
	}
	return other
}

// exchanged returns a list with 0 and 1 exchanged.
func exchanged(side []int) []int {
	other := make([]int, len(side))
	for i, number := range side {
		other[i] = 1 - number
	}
	return other
}

func TestTrafficConstants(t *testing.T) {
	checkNumber(t, "StationsMax", impl.StationsMax, 6)
	checkNumber(t, "LinesMax", impl.LinesMax, 10)
}

func TestNetValid(t *testing.T) {
	checkHolds(t, "NetValid(2, nil)", impl.NetValid(2, nil), true)
	for _, s := range append(sampleNets(), smallNets()...) {
		checkHolds(t, fmt.Sprintf("NetValid(%v)", s), impl.NetValid(s.n, s.lines), true)
	}
	for n := -1; n <= 8; n++ {
		inside := n >= 2 && n <= 6
		checkHolds(t, fmt.Sprintf("NetValid(%d, nil)", n), impl.NetValid(n, nil), inside)
		for a := -1; a <= 7; a++ {
			for b := -1; b <= 7; b++ {
				stations := inside && a != b && a >= 0 && a < n && b >= 0 && b < n
				for _, numbers := range [][]int{{a, b, 1}, {0, 1, 9, a, b, 9}, {a, b, 5, 1, 0, 1}} {
					checkHolds(t, fmt.Sprintf("NetValid(%d, %v)", n, numbers), impl.NetValid(n, linesOf(numbers...)), stations)
				}
			}
		}
		for channels := -1; channels <= 11; channels++ {
			checkHolds(t, fmt.Sprintf("NetValid(%d) of %d channels", n, channels), impl.NetValid(n, linesOf(0, 1, channels)), inside && channels >= 1 && channels <= 9)
		}
		for many := range 13 {
			checkHolds(t, fmt.Sprintf("NetValid(%d) of %d lines", n, many), impl.NetValid(n, oneLine(n, many, 1).lines), inside && many <= 10)
		}
	}
}

func TestPromises71To81NoNet(t *testing.T) {
	for _, s := range badNets() {
		call := fmt.Sprintf("(%d, %v", s.n, s.lines)
		checkHolds(t, "NetValid"+call+")", impl.NetValid(s.n, s.lines), false)
		got, ok := impl.NetTree(s.n, s.lines)
		checkFails(t, "NetTree"+call+")", got, ok)
		for _, k := range []int{-1, 0, 1, len(s.lines) - 1, len(s.lines)} {
			lines, ok := impl.NetWithout(s.n, s.lines, k)
			checkNoLines(t, fmt.Sprintf("NetWithout%s, %d)", call, k), lines, ok)
		}
		for _, p := range []ends{{0, 1}, {1, 0}, {0, s.n - 1}, {0, 0}, {-1, s.n}} {
			checkNoTraffic(t, s.n, s.lines, p.from, p.to)
		}
	}
}

func TestPromises71To81NoStations(t *testing.T) {
	for _, s := range []net{netOf(2), netOf(2, 0, 1, 9), triangle(), netOf(5, 1, 2, 3), netOf(6), ring(6, 1), oneLine(6, 10, 9)} {
		for _, p := range badEnds(s.n) {
			checkNoTraffic(t, s.n, s.lines, p.from, p.to)
		}
	}
}

// TestPromises71To80NoLines checks stations without lines, among them the first and the last one, and others to which no lines lead.
func TestPromises71To80NoLines(t *testing.T) {
	alone, apart := 0, 0
	eachEnds(func(s net, from int, to int) {
		call := fmt.Sprintf("(%v, %d, %d)", s, from, to)
		reached := s.component(from)
		if reached>>to&1 == 1 {
			return
		}
		apart++
		if s.at(from) == 0 || s.at(to) == 0 {
			alone++
		}
		none := make([]int, len(s.lines))
		checkNumber(t, "TrafficMost"+call, s.traffic(from, to), 0)
		checkList(t, "TrafficLoad"+call, mustLoad(t, s, from, to), true, none)
		checkNumber(t, "LoadTraffic of no load "+call, impl.LoadTraffic(s.n, s.lines, from, to, none), 0)
		side := mustCut(t, s, from, to)
		checkList(t, "CutLeast"+call, side, true, s.sideOf(reached))
		checkNumber(t, "CutOf"+call, impl.CutOf(s.n, s.lines, from, to, side), 0)
		k, ok := impl.NetWeakest(s.n, s.lines, from, to)
		if len(s.lines) == 0 {
			checkNoIndex(t, "NetWeakest"+call, k, ok)
		} else {
			checkIndex(t, "NetWeakest"+call, k, ok, 0)
		}
		checkFails(t, "NetNeeded"+call, impl.NetNeeded(s.n, s.lines, from, to), false)
	})
	if alone < 150 || apart < alone+20 {
		t.Fatalf("%d pairs have a station without lines, %d have no way", alone, apart)
	}
}

// TestPromises71To80FurtherStation puts a station without lines to nets, so that all that is said of the others stays.
func TestPromises71To80FurtherStation(t *testing.T) {
	eachEnds(func(s net, from int, to int) {
		if s.n == 6 {
			return
		}
		call := fmt.Sprintf("(%v, %d, %d)", s, from, to)
		more := net{s.n + 1, s.lines}
		checkList(t, "TrafficLoad with a station more "+call, mustLoad(t, more, from, to), true, mustLoad(t, s, from, to))
		checkList(t, "CutLeast with a station more "+call, mustCut(t, more, from, to), true, append(mustCut(t, s, from, to), 0))
		checkNumber(t, "TrafficMost with a station more "+call, more.traffic(from, to), s.traffic(from, to))
		checkNumber(t, "TrafficMost to a station more "+call, more.traffic(from, s.n), 0)
		checkNumber(t, "TrafficMost from a station more "+call, more.traffic(s.n, to), 0)
		checkList(t, "CutLeast from a station more "+call, mustCut(t, more, s.n, to), true, append(make([]int, s.n), 1))
		checkList(t, "NetNeeded with a station more "+call, impl.NetNeeded(more.n, more.lines, from, to), true, impl.NetNeeded(s.n, s.lines, from, to))
	})
}

func TestPromise71LoadValid(t *testing.T) {
	eachLoad(func(s net, from int, to int, load []int) {
		call := fmt.Sprintf("LoadValid(%v, %d, %d, %v)", s, from, to, load)
		checkHolds(t, call, impl.LoadValid(s.n, s.lines, from, to, load), true)
		checkNumber(t, "what comes to the last station of "+call, -s.outOf(to, load), s.outOf(from, load))
		checkHolds(t, "the load back of "+call, impl.LoadValid(s.n, s.lines, to, from, opposite(load)), true)
		checkHolds(t, "no load of "+call, impl.LoadValid(s.n, s.lines, from, to, make([]int, len(load))), true)
		checkHolds(t, "the load of "+call+" the other way", impl.LoadValid(s.n, s.lines, to, from, load), s.outOf(from, load) == 0)
	})
}

// TestPromise71LoadValidOneOther changes one number of a load.
func TestPromise71LoadValidOneOther(t *testing.T) {
	valid, invalid := 0, 0
	eachLoad(func(s net, from int, to int, load []int) {
		for i := range load {
			for _, more := range []int{-1, 1} {
				other := slices.Clone(load)
				other[i] += more
				want := s.wantTraffic(from, to, other)
				checkHolds(t, fmt.Sprintf("LoadValid(%v, %d, %d, %v)", s, from, to, other), impl.LoadValid(s.n, s.lines, from, to, other), want >= 0)
				checkNumber(t, fmt.Sprintf("LoadTraffic(%v, %d, %d, %v)", s, from, to, other), impl.LoadTraffic(s.n, s.lines, from, to, other), want)
				if want >= 0 {
					valid++
				} else {
					invalid++
				}
			}
		}
	})
	if valid < 1000 || invalid < 1000 {
		t.Fatalf("%d loads and %d lists that are none", valid, invalid)
	}
}

// TestPromises71To73AllLoads tries all lists of numbers for small nets.
func TestPromises71To73AllLoads(t *testing.T) {
	valid := 0
	greatest := map[string]int{}
	most := map[string]int{}
	eachTrial(func(s net, from int, to int, load []int) {
		call := fmt.Sprintf("(%v, %d, %d", s, from, to)
		want := s.wantTraffic(from, to, load)
		got := impl.LoadTraffic(s.n, s.lines, from, to, load)
		if got != want || impl.LoadValid(s.n, s.lines, from, to, load) != (want >= 0) {
			t.Fatalf("LoadTraffic%s, %v) returned %d instead of %d", call, load, got, want)
		}
		if want >= 0 {
			valid++
			greatest[call] = max(greatest[call], want)
			if _, ok := most[call]; !ok {
				most[call] = s.traffic(from, to)
			}
		}
	})
	for call, traffic := range greatest {
		checkNumber(t, "TrafficMost"+call+")", most[call], traffic)
	}
	if valid < 500 {
		t.Fatalf("only %d loads", valid)
	}
}

func TestPromises71And72Edges(t *testing.T) {
	circle := ring(3, 1)
	two := netOf(2, 0, 1, 3, 1, 0, 5)
	for _, c := range []struct {
		s    net
		from int
		to   int
		load []int
		want int
	}{
		{netOf(2), 0, 1, nil, 0}, {netOf(2), 1, 0, []int{}, 0}, {netOf(6), 5, 0, nil, 0}, {netOf(2), 0, 1, []int{0}, -1},
		{netOf(2, 0, 1, 9), 0, 1, []int{0}, 0}, {netOf(2, 0, 1, 9), 0, 1, []int{9}, 9}, {netOf(2, 0, 1, 9), 0, 1, []int{10}, -1}, {netOf(2, 0, 1, 9), 0, 1, []int{-1}, -1}, {netOf(2, 0, 1, 9), 1, 0, []int{-9}, 9}, {netOf(2, 0, 1, 9), 1, 0, []int{-10}, -1}, {netOf(2, 0, 1, 9), 1, 0, []int{1}, -1}, {netOf(2, 1, 0, 1), 0, 1, []int{-1}, 1}, {netOf(2, 1, 0, 1), 0, 1, []int{1}, -1}, {netOf(2, 1, 0, 1), 0, 1, []int{-2}, -1},
		// Two lines between the same stations: a circle, more forth than back, more back than forth.
		{two, 0, 1, []int{3, 3}, 0}, {two, 0, 1, []int{-3, -3}, 0}, {two, 0, 1, []int{3, 2}, 1}, {two, 0, 1, []int{3, -5}, 8}, {two, 0, 1, []int{3, 4}, -1}, {two, 1, 0, []int{3, 4}, 1}, {two, 0, 1, []int{3, -6}, -1}, {two, 0, 1, []int{4, -5}, -1}, {two, 0, 1, []int{3}, -1}, {two, 0, 1, []int{3, -5, 0}, -1},
		// Circles over three stations, with and without traffic.
		{circle, 0, 2, []int{1, 1, 1}, 0}, {circle, 0, 2, []int{-1, -1, -1}, 0}, {circle, 0, 1, []int{0, 0, 0}, 0}, {circle, 0, 2, []int{1, 1, -3}, 4}, {circle, 0, 2, []int{1, 1, -2}, 3}, {circle, 0, 2, []int{-1, -1, -2}, 1}, {circle, 0, 2, []int{-1, -1, 0}, -1}, {circle, 0, 2, []int{1, 1, 2}, -1}, {circle, 2, 0, []int{1, 1, 2}, 1}, {circle, 0, 2, []int{1, 0, 0}, -1}, {circle, 0, 2, []int{0, 1, 0}, -1}, {circle, 0, 1, []int{1, 0, 0}, 1}, {circle, 0, 2, []int{1, 2, 0}, -1}, {circle, 0, 2, []int{2, 2, 0}, -1},
		{triangle(), 0, 2, []int{2, 2, 1}, 3}, {triangle(), 0, 1, []int{3, -1, 1}, 4}, {triangle(), 0, 1, []int{3, -2, 1}, -1}, {triangle(), 2, 0, []int{-2, -2, -1}, 3}, {triangle(), 1, 2, []int{-1, 2, 1}, 3},
		// A circle apart from the way, and channels that are lost at a station without the ends.
		{netOf(5, 0, 1, 9, 2, 3, 1, 3, 4, 1, 4, 2, 1), 0, 1, []int{9, 1, 1, 1}, 9}, {netOf(5, 0, 1, 9, 2, 3, 1, 3, 4, 1, 4, 2, 1), 0, 1, []int{9, 1, 1, 0}, -1}, {netOf(5, 0, 1, 9, 2, 3, 1, 3, 4, 1, 4, 2, 1), 0, 1, []int{0, 0, 0, -1}, -1}, {netOf(5, 0, 1, 9, 2, 3, 1, 3, 4, 1, 4, 2, 1), 4, 2, []int{0, -1, -1, 1}, 2}, {netOf(5, 0, 1, 9, 2, 3, 1, 3, 4, 1, 4, 2, 1), 4, 2, []int{1, -1, -1, 1}, -1},
		{oneLine(2, 10, 9), 0, 1, repeated(9, 10), 90}, {oneLine(2, 10, 9), 0, 1, append(repeated(9, 9), 10), -1}, {oneLine(2, 10, 9), 0, 1, append(repeated(9, 5), repeated(-9, 5)...), 0}, {oneLine(2, 10, 9), 0, 1, repeated(-9, 10), -1}, {oneLine(2, 10, 9), 1, 0, repeated(-9, 10), 90},
	} {
		call := fmt.Sprintf("(%v, %d, %d, %v)", c.s, c.from, c.to, c.load)
		checkNumber(t, "LoadTraffic"+call, impl.LoadTraffic(c.s.n, c.s.lines, c.from, c.to, c.load), c.want)
		checkHolds(t, "LoadValid"+call, impl.LoadValid(c.s.n, c.s.lines, c.from, c.to, c.load), c.want >= 0)
	}
}

func TestPromises71And81NoLoad(t *testing.T) {
	for _, s := range edgeNets() {
		for _, p := range []ends{{0, 1}, {1, 0}, {0, s.n - 1}, {s.n - 1, 0}} {
			for _, load := range s.badLoads() {
				checkNoLoad(t, s.n, s.lines, p.from, p.to, load)
			}
		}
	}
}

func TestPromise72LoadTraffic(t *testing.T) {
	eachLoad(func(s net, from int, to int, load []int) {
		call := fmt.Sprintf("LoadTraffic(%v, %d, %d, %v)", s, from, to, load)
		got := impl.LoadTraffic(s.n, s.lines, from, to, load)
		checkNumber(t, call, got, s.outOf(from, load))
		if most := s.traffic(from, to); got < 0 || got > most || got > s.at(from) {
			t.Fatalf("%s returned %d, TrafficMost is %d, at the first station are %d channels", call, got, most, s.at(from))
		}
	})
	eachEnds(func(s net, from int, to int) {
		traffic := impl.LoadTraffic(s.n, s.lines, from, to, mustLoad(t, s, from, to))
		for _, set := range s.setsBetween(from, to) {
			if cut := impl.CutOf(s.n, s.lines, from, to, s.sideOf(set)); traffic > cut {
				t.Fatalf("%v has traffic %d from %d to %d, but a cut of %d", s, traffic, from, to, cut)
			}
		}
	})
}

func TestPromise73TrafficMost(t *testing.T) {
	eachEnds(func(s net, from int, to int) {
		call := fmt.Sprintf("TrafficMost(%v, %d, %d)", s, from, to)
		got := s.traffic(from, to)
		checkNumber(t, call, got, s.wantMost(from, to))
		checkNumber(t, "CutOf of CutLeast instead of "+call, impl.CutOf(s.n, s.lines, from, to, mustCut(t, s, from, to)), got)
		checkNumber(t, "LoadTraffic of TrafficLoad instead of "+call, impl.LoadTraffic(s.n, s.lines, from, to, mustLoad(t, s, from, to)), got)
		checkNumber(t, call+" with both stations exchanged", s.traffic(to, from), got)
	})
}

func TestPromise73TrafficMostEdges(t *testing.T) {
	for _, c := range []struct {
		s    net
		from int
		to   int
		want int
	}{
		{netOf(2), 0, 1, 0}, {netOf(6), 5, 2, 0}, {netOf(2, 0, 1, 1), 0, 1, 1}, {netOf(2, 0, 1, 9), 1, 0, 9}, {oneLine(2, 10, 9), 0, 1, 90}, {oneLine(2, 10, 1), 1, 0, 10}, {oneLine(6, 10, 9), 0, 1, 90}, {oneLine(6, 10, 9), 0, 2, 0}, {oneLine(6, 10, 9), 5, 1, 0},
		{triangle(), 0, 2, 3}, {triangle(), 0, 1, 4}, {triangle(), 1, 2, 3}, {triangle(), 2, 0, 3}, {takenBack(), 0, 5, 2}, {takenBack(), 1, 2, 3}, {ladder(), 0, 3, 4}, {ladder(), 1, 2, 4},
		{ring(6, 1), 0, 3, 5}, {ring(6, 1), 0, 1, 3}, {ring(6, 1), 5, 0, 7}, {eachWithEach(5, 5, 9), 0, 4, 36}, {eachWithEach(6, 5, 3), 0, 5, 0}, {eachWithEach(4, 4, 1), 3, 0, 3}, {netOf(6, 0, 1, 9, 1, 2, 8, 2, 3, 7, 3, 4, 8, 4, 5, 9), 0, 5, 7}, {netOf(6, 0, 1, 9, 1, 2, 8, 2, 3, 7, 3, 4, 8, 4, 5, 9), 0, 2, 8}, {netOf(4, 0, 1, 2, 2, 3, 2), 0, 3, 0}, {netOf(4, 0, 1, 2, 2, 3, 2), 3, 2, 2},
	} {
		checkNumber(t, fmt.Sprintf("TrafficMost(%v, %d, %d)", c.s, c.from, c.to), c.s.traffic(c.from, c.to), c.want)
	}
}

func TestPromise74TrafficLoad(t *testing.T) {
	full, taken := 0, 0
	eachEnds(func(s net, from int, to int) {
		call := fmt.Sprintf("TrafficLoad(%v, %d, %d)", s, from, to)
		got, ok := impl.TrafficLoad(s.n, s.lines, from, to)
		want, back := s.wantLoad(from, to)
		checkList(t, call, got, ok, want)
		checkHolds(t, "LoadValid of "+call, impl.LoadValid(s.n, s.lines, from, to, got), true)
		taken += back
		side := mustCut(t, s, from, to)
		for i, line := range s.lines {
			if side[line.A] != side[line.B] {
				checkNumber(t, fmt.Sprintf("the line %d of %s", i, call), got[i], (side[line.A]-side[line.B])*line.Channels)
				full++
			}
		}
	})
	if full < 500 || taken < 40 {
		t.Fatalf("%d lines are full, %d are taken back", full, taken)
	}
}

// TestPromise74TrafficLoadEdges checks nets with several greatest loads.
func TestPromise74TrafficLoadEdges(t *testing.T) {
	for _, c := range []struct {
		s    net
		from int
		to   int
		want []int
	}{
		{netOf(2), 0, 1, nil}, {netOf(6), 3, 1, nil}, {netOf(2, 0, 1, 9), 0, 1, []int{9}}, {netOf(2, 0, 1, 9), 1, 0, []int{-9}}, {netOf(2, 1, 0, 1), 0, 1, []int{-1}}, {netOf(2, 1, 0, 1), 1, 0, []int{1}}, {netOf(3, 1, 2, 5), 0, 2, []int{0}}, {netOf(3, 0, 1, 5), 0, 2, []int{0}}, {netOf(3, 0, 1, 5), 2, 0, []int{0}},
		{oneLine(2, 10, 9), 0, 1, repeated(9, 10)}, {oneLine(2, 10, 9), 1, 0, repeated(-9, 10)}, {netOf(2, 0, 1, 3, 1, 0, 5), 0, 1, []int{3, -5}}, {netOf(2, 0, 1, 3, 1, 0, 5), 1, 0, []int{-3, 5}},
		{triangle(), 0, 2, []int{2, 2, 1}}, {triangle(), 2, 0, []int{-2, -2, -1}}, {triangle(), 0, 1, []int{3, -1, 1}}, {triangle(), 1, 2, []int{-1, 2, 1}},
		// The lines with the least indexes are used first, of several between the same stations.
		{netOf(3, 0, 1, 3, 1, 2, 2, 2, 1, 4), 0, 2, []int{3, 2, -1}}, {netOf(3, 0, 1, 3, 0, 1, 4, 1, 2, 5), 0, 2, []int{3, 2, 5}}, {netOf(3, 1, 0, 4, 0, 1, 3, 2, 1, 5), 0, 2, []int{-4, 1, -5}}, {netOf(3, 1, 0, 4, 0, 1, 3, 2, 1, 5), 2, 0, []int{4, -1, 5}},
		// Of two ways with as few lines, the one over the lesser station comes first.
		{netOf(5, 0, 2, 2, 2, 3, 2, 0, 1, 2, 1, 3, 2, 3, 4, 3), 0, 4, []int{1, 1, 2, 2, 3}}, {netOf(5, 0, 2, 2, 2, 3, 2, 0, 1, 2, 1, 3, 2, 3, 4, 2), 0, 4, []int{0, 0, 2, 2, 2}}, {netOf(5, 0, 2, 2, 2, 3, 2, 0, 1, 2, 1, 3, 2, 3, 4, 3), 4, 0, []int{-1, -1, -2, -2, -3}},
		// The first station that differs decides, not the last one: 0, 1, 4, 5 comes ahead of 0, 2, 3, 5.
		{netOf(6, 0, 2, 1, 2, 3, 1, 3, 5, 1, 0, 1, 1, 1, 4, 1, 4, 5, 1), 0, 5, []int{1, 1, 1, 1, 1, 1}}, {netOf(6, 0, 2, 9, 0, 1, 9, 2, 3, 9, 1, 4, 9, 3, 5, 9, 4, 5, 9), 5, 0, []int{-9, -9, -9, -9, -9, -9}},
		// Fewer lines come ahead of lesser stations: 5, 4, 0 has fewer lines than 5, 1, 2, 0, and what goes from 5 is less than both.
		{netOf(6, 3, 5, 2, 5, 1, 9, 1, 2, 9, 2, 0, 9, 5, 4, 9, 4, 0, 9), 3, 0, []int{2, 0, 0, 0, 2, 2}}, {netOf(6, 3, 5, 9, 5, 1, 9, 1, 2, 9, 2, 0, 9, 5, 4, 4, 4, 0, 9), 3, 0, []int{9, 5, 5, 5, 4, 4}},
		// The way over the line from 1 to 2 is taken back by a later one, so that nothing is left on it.
		{takenBack(), 0, 5, []int{1, 0, 1, 1, 1, 1, 1}}, {takenBack(), 5, 0, []int{-1, 0, -1, -1, -1, -1, -1}}, {ladder(), 0, 3, []int{2, 2, 2, 2}}, {ladder(), 3, 0, []int{-2, -2, -2, -2}}, {ladder(), 1, 2, []int{2, -2, -2, 2}},
		// Two channels go forth on two lines; both are taken back on the first one, as it has free ones: a circle is left.
		{netOf(6, 0, 1, 2, 1, 2, 1, 2, 1, 1, 2, 5, 2, 0, 3, 2, 3, 2, 2, 1, 4, 2, 4, 5, 2), 0, 5, []int{2, -1, -1, 2, 2, 2, 2, 2}},
	} {
		got, ok := impl.TrafficLoad(c.s.n, c.s.lines, c.from, c.to)
		checkList(t, fmt.Sprintf("TrafficLoad(%v, %d, %d)", c.s, c.from, c.to), got, ok, c.want)
	}
}

func TestPromise75CutOf(t *testing.T) {
	eachEnds(func(s net, from int, to int) {
		most := s.traffic(from, to)
		for _, set := range s.setsBetween(from, to) {
			side := s.sideOf(set)
			call := fmt.Sprintf("CutOf(%v, %d, %d, %v)", s, from, to, side)
			got := impl.CutOf(s.n, s.lines, from, to, side)
			checkNumber(t, call, got, s.wantCut(set))
			checkNumber(t, "with 0 and 1 exchanged "+call, impl.CutOf(s.n, s.lines, to, from, exchanged(side)), got)
			if got < most {
				t.Fatalf("%s returned %d, TrafficMost is %d", call, got, most)
			}
		}
		all := s.sideOf(1<<s.n - 1 - 1<<to)
		checkNumber(t, fmt.Sprintf("CutOf(%v, %d, %d, %v)", s, from, to, all), impl.CutOf(s.n, s.lines, from, to, all), s.at(to))
	})
}

func TestPromise75CutOfEdges(t *testing.T) {
	for _, c := range []struct {
		s    net
		from int
		to   int
		side []int
		want int
	}{
		{netOf(2), 0, 1, []int{1, 0}, 0}, {netOf(2, 0, 1, 9), 0, 1, []int{1, 0}, 9}, {netOf(2, 1, 0, 9), 0, 1, []int{1, 0}, 9}, {netOf(2, 0, 1, 9), 1, 0, []int{0, 1}, 9}, {oneLine(2, 10, 9), 0, 1, []int{1, 0}, 90}, {oneLine(6, 10, 9), 0, 5, []int{1, 0, 0, 0, 0, 0}, 90}, {oneLine(6, 10, 9), 0, 5, []int{1, 1, 0, 0, 0, 0}, 0},
		{triangle(), 0, 2, []int{1, 0, 0}, 4}, {triangle(), 0, 2, []int{1, 1, 0}, 3}, {triangle(), 0, 1, []int{1, 0, 0}, 4}, {triangle(), 0, 1, []int{1, 0, 1}, 5}, {triangle(), 2, 1, []int{0, 0, 1}, 3}, {triangle(), 2, 1, []int{1, 0, 1}, 5},
		{ring(6, 1), 0, 3, []int{1, 0, 1, 0, 1, 0}, 21}, {ring(6, 1), 0, 3, []int{1, 1, 1, 0, 0, 0}, 9}, {ring(6, 1), 0, 3, []int{1, 0, 0, 0, 0, 1}, 6}, {netOf(4, 0, 1, 2, 2, 3, 2), 0, 3, []int{1, 1, 0, 0}, 0}, {netOf(4, 0, 1, 2, 2, 3, 2), 0, 3, []int{1, 0, 1, 0}, 4},
		{triangle(), 0, 2, []int{1, 1, 1}, -1}, {triangle(), 0, 2, []int{0, 1, 0}, -1}, {triangle(), 0, 2, []int{0, 0, 1}, -1}, {triangle(), 0, 2, []int{0, 0, 0}, -1}, {triangle(), 0, 2, []int{1, 2, 0}, -1}, {triangle(), 0, 2, []int{1, -1, 0}, -1}, {triangle(), 0, 2, []int{2, 1, 0}, -1}, {triangle(), 0, 2, []int{1, 1, -1}, -1}, {triangle(), 0, 2, []int{1, 0}, -1}, {triangle(), 0, 2, []int{1, 0, 0, 0}, -1}, {triangle(), 0, 2, nil, -1},
	} {
		checkNumber(t, fmt.Sprintf("CutOf(%v, %d, %d, %v)", c.s, c.from, c.to, c.side), impl.CutOf(c.s.n, c.s.lines, c.from, c.to, c.side), c.want)
	}
}

func TestPromise75CutOfInvalid(t *testing.T) {
	for _, s := range edgeNets() {
		for _, p := range pairsOf(s.n) {
			for set := range 1 << s.n {
				if set>>p.from&1 == 0 || set>>p.to&1 == 1 {
					checkNumber(t, fmt.Sprintf("CutOf(%v, %d, %d, %v)", s, p.from, p.to, s.sideOf(set)), impl.CutOf(s.n, s.lines, p.from, p.to, s.sideOf(set)), -1)
				}
			}
			side := s.sideOf(1 << p.from)
			bad := [][]int{nil, side[:s.n-1], side[1:], append(slices.Clone(side), 0), append(slices.Clone(side), 1), append([]int{0}, side...), make([]int, 256+s.n)}
			for station := range side {
				for _, number := range append(farNumbers(), -2, -1, 2, 3, 256, 257, 1<<32, 1<<32+1) {
					other := slices.Clone(side)
					other[station] = number
					bad = append(bad, other)
				}
			}
			for _, other := range bad {
				checkNumber(t, fmt.Sprintf("CutOf(%v, %d, %d, %v)", s, p.from, p.to, other), impl.CutOf(s.n, s.lines, p.from, p.to, other), -1)
			}
		}
	}
}

func TestPromise76CutLeast(t *testing.T) {
	several := 0
	eachEnds(func(s net, from int, to int) {
		call := fmt.Sprintf("CutLeast(%v, %d, %d)", s, from, to)
		got, ok := impl.CutLeast(s.n, s.lines, from, to)
		set, cut, many := s.wantSet(from, to)
		checkList(t, call, got, ok, s.sideOf(set))
		if many > 1 {
			several++
		}
		for station := range s.n {
			other := slices.Clone(got)
			other[station] = 1 - other[station]
			changed := impl.CutOf(s.n, s.lines, from, to, other)
			if station == from || station == to {
				checkNumber(t, fmt.Sprintf("%s with the station %d on the other side", call, station), changed, -1)
			} else if changed < cut {
				t.Fatalf("%s returned %v of %d, but %v has %d", call, got, cut, other, changed)
			}
		}
		left := slices.DeleteFunc(slices.Clone(s.lines), func(line impl.Line) bool { return got[line.A] != got[line.B] })
		checkNumber(t, "the traffic without the lines of "+call, impl.TrafficMost(s.n, left, from, to), 0)
	})
	if several < 200 {
		t.Fatalf("only %d have several least cuts", several)
	}
}

func TestPromise76CutLeastEdges(t *testing.T) {
	level := netOf(6, 0, 1, 2, 1, 2, 2, 2, 3, 2, 3, 4, 2, 4, 5, 2)
	for _, c := range []struct {
		s    net
		from int
		to   int
		want []int
	}{
		{netOf(2), 0, 1, []int{1, 0}}, {netOf(2), 1, 0, []int{0, 1}}, {netOf(6), 0, 5, []int{1, 0, 0, 0, 0, 0}}, {netOf(6), 5, 0, []int{0, 0, 0, 0, 0, 1}}, {netOf(6), 3, 2, []int{0, 0, 0, 1, 0, 0}}, {netOf(2, 0, 1, 9), 1, 0, []int{0, 1}}, {netOf(3, 0, 1, 5), 0, 2, []int{1, 1, 0}}, {netOf(3, 0, 1, 5), 2, 0, []int{0, 0, 1}}, {netOf(3, 1, 2, 5), 2, 0, []int{0, 1, 1}},
		{triangle(), 0, 2, []int{1, 1, 0}}, {triangle(), 2, 0, []int{0, 0, 1}}, {triangle(), 0, 1, []int{1, 0, 0}}, {triangle(), 1, 0, []int{0, 1, 1}},
		// Of several least cuts, that with the fewest stations and so the least number.
		{level, 0, 5, []int{1, 0, 0, 0, 0, 0}}, {level, 5, 0, []int{0, 0, 0, 0, 0, 1}}, {level, 1, 4, []int{1, 1, 0, 0, 0, 0}}, {level, 4, 1, []int{0, 0, 0, 0, 1, 1}}, {level, 2, 3, []int{1, 1, 1, 0, 0, 0}}, {ladder(), 0, 3, []int{1, 0, 0, 0}}, {ladder(), 3, 0, []int{0, 0, 0, 1}}, {ladder(), 1, 2, []int{0, 1, 0, 0}}, {ring(6, 1), 0, 3, []int{1, 0, 0, 0, 1, 1}}, {ring(6, 1), 3, 0, []int{0, 1, 1, 1, 0, 0}}, {eachWithEach(5, 5, 9), 0, 4, []int{1, 0, 0, 0, 0}}, {eachWithEach(6, 5, 3), 0, 5, []int{1, 1, 1, 1, 1, 0}}, {eachWithEach(6, 5, 3), 5, 0, []int{0, 0, 0, 0, 0, 1}},
		{netOf(6, 0, 5, 1, 5, 1, 9, 1, 4, 2, 4, 2, 1), 0, 2, []int{1, 0, 0, 0, 0, 0}}, {netOf(6, 0, 5, 2, 5, 1, 9, 1, 4, 2, 4, 2, 1), 0, 2, []int{1, 1, 0, 0, 1, 1}}, {netOf(6, 0, 5, 2, 5, 1, 9, 1, 4, 1, 4, 2, 1), 0, 2, []int{1, 1, 0, 0, 0, 1}},
	} {
		got, ok := impl.CutLeast(c.s.n, c.s.lines, c.from, c.to)
		checkList(t, fmt.Sprintf("CutLeast(%v, %d, %d)", c.s, c.from, c.to), got, ok, c.want)
	}
}

func TestPromise77NetWithout(t *testing.T) {
	for _, s := range sampleNets() {
		for k, line := range s.lines {
			call := fmt.Sprintf("NetWithout(%v, %d)", s, k)
			got := mustDropLine(t, s, k)
			checkNumber(t, "between the own ends of "+call, got.traffic(line.A, line.B), s.traffic(line.A, line.B)-line.Channels)
			checkNumber(t, "back between the own ends of "+call, got.traffic(line.B, line.A), s.traffic(line.B, line.A)-line.Channels)
			for a := range s.n {
				b := (a + 1 + k) % s.n
				if a == b {
					continue
				}
				before, now := s.traffic(a, b), got.traffic(a, b)
				if now > before || now < before-line.Channels {
					t.Fatalf("%s: from %d to %d are %d instead of %d", call, a, b, now, before)
				}
			}
		}
	}
}

func TestPromise77NetWithoutInvalid(t *testing.T) {
	for _, s := range edgeNets() {
		for _, k := range append(farNumbers(), -10, -2, -1, len(s.lines), len(s.lines)+1, 10, 11, 256, 1<<32, 1<<32+1, -1<<32) {
			got, ok := impl.NetWithout(s.n, s.lines, k)
			checkNoLines(t, fmt.Sprintf("NetWithout(%v, %d)", s, k), got, ok)
		}
	}
}

func TestPromise78NetWeakest(t *testing.T) {
	several := 0
	eachEnds(func(s net, from int, to int) {
		call := fmt.Sprintf("NetWeakest(%v, %d, %d)", s, from, to)
		got, ok := impl.NetWeakest(s.n, s.lines, from, to)
		if len(s.lines) == 0 {
			checkNoIndex(t, call, got, ok)
			return
		}
		checkHolds(t, call, ok && got >= 0 && got < len(s.lines), true)
		least := mustDropLine(t, s, got).traffic(from, to)
		checkNumber(t, "the traffic without the line of "+call, least, s.drop(got).wantMost(from, to))
		for k := range s.lines {
			left := s.drop(k).wantMost(from, to)
			if left < least || left == least && k < got {
				t.Fatalf("%s returned %d, of which %d is left, but of %d are %d left", call, got, least, k, left)
			}
			if left == least && k > got {
				several++
			}
		}
		needed := impl.NetNeeded(s.n, s.lines, from, to)
		checkHolds(t, fmt.Sprintf("that %v has %d of %s", needed, got, call), len(needed) == 0 || slices.Contains(needed, got), true)
	})
	if several < 500 {
		t.Fatalf("only %d lines take as much", several)
	}
}

func TestPromise78NetWeakestEdges(t *testing.T) {
	for _, c := range []struct {
		s    net
		from int
		to   int
		want int
	}{
		{netOf(2, 0, 1, 1), 0, 1, 0}, {oneLine(2, 10, 9), 0, 1, 0}, {oneLine(6, 10, 9), 0, 5, 0}, {triangle(), 0, 2, 0}, {triangle(), 0, 1, 0}, {triangle(), 1, 2, 1}, {triangle(), 2, 1, 1}, {netOf(3, 0, 2, 1, 1, 2, 2, 0, 1, 3), 0, 2, 1}, {netOf(3, 0, 2, 1, 1, 2, 2, 0, 1, 3), 0, 1, 2},
		{netOf(2, 0, 1, 3, 1, 0, 5), 0, 1, 1}, {netOf(2, 0, 1, 1, 1, 0, 9, 0, 1, 9), 0, 1, 1}, {netOf(4, 2, 3, 9, 0, 1, 1), 0, 1, 1}, {netOf(4, 2, 3, 9, 0, 1, 1), 0, 3, 0}, {netOf(6, 1, 5, 9, 2, 5, 8, 5, 3, 7, 5, 4, 6, 0, 5, 5), 0, 3, 2}, {netOf(6, 1, 5, 9, 2, 5, 8, 5, 3, 7, 5, 4, 6, 0, 5, 5), 0, 4, 3}, {eachWithEach(5, 5, 1), 0, 4, 0}, {eachWithEach(5, 5, 1), 2, 4, 1},
	} {
		got, ok := impl.NetWeakest(c.s.n, c.s.lines, c.from, c.to)
		checkIndex(t, fmt.Sprintf("NetWeakest(%v, %d, %d)", c.s, c.from, c.to), got, ok, c.want)
	}
	for _, s := range []net{netOf(2), {n: 4}, netOf(6)} {
		for _, p := range pairsOf(s.n) {
			got, ok := impl.NetWeakest(s.n, s.lines, p.from, p.to)
			checkNoIndex(t, fmt.Sprintf("NetWeakest(%v, %d, %d)", s, p.from, p.to), got, ok)
		}
	}
}

func TestPromise79NetNeeded(t *testing.T) {
	none, some, all := 0, 0, 0
	eachEnds(func(s net, from int, to int) {
		call := fmt.Sprintf("NetNeeded(%v, %d, %d)", s, from, to)
		got := impl.NetNeeded(s.n, s.lines, from, to)
		want := []int{}
		for k := range s.lines {
			if s.drop(k).wantMost(from, to) < s.wantMost(from, to) {
				want = append(want, k)
			}
		}
		checkList(t, call, got, true, want)
		switch {
		case len(got) == 0:
			none++
			return
		case len(got) == len(s.lines):
			all++
		default:
			some++
		}
		side, load := mustCut(t, s, from, to), mustLoad(t, s, from, to)
		for k, line := range s.lines {
			if side[line.A] != side[line.B] {
				checkHolds(t, fmt.Sprintf("that %d is in %v of %s", k, got, call), slices.Contains(got, k), true)
			}
		}
		for _, k := range got {
			checkHolds(t, fmt.Sprintf("that %v of %s uses %d", load, call, k), load[k] != 0, true)
		}
	})
	if none < 100 || some < 100 || all < 100 {
		t.Fatalf("%d need no line, %d some, %d all", none, some, all)
	}
}

func TestPromise79NetNeededEdges(t *testing.T) {
	for _, c := range []struct {
		s    net
		from int
		to   int
		want []int
	}{
		{netOf(2), 0, 1, nil}, {netOf(6), 0, 5, nil}, {netOf(2, 0, 1, 1), 0, 1, []int{0}}, {netOf(3, 0, 1, 1), 0, 2, nil}, {netOf(3, 0, 1, 1), 2, 1, nil}, {oneLine(2, 10, 9), 1, 0, upTo(10)}, {oneLine(6, 10, 9), 1, 2, nil}, {triangle(), 0, 2, []int{0, 1, 2}}, {triangle(), 0, 1, []int{0, 1, 2}}, {takenBack(), 0, 5, []int{0, 2, 3, 4, 5, 6}}, {ladder(), 0, 3, []int{0, 1, 2, 3}}, {eachWithEach(5, 5, 9), 0, 4, []int{0, 1, 3, 6, 7, 8, 9}}, {netOf(4, 2, 3, 9, 0, 1, 1), 0, 1, []int{1}},
		// Each one of three lines behind a narrow one can fail.
		{netOf(3, 0, 1, 2, 1, 2, 1, 1, 2, 1, 1, 2, 1), 0, 2, []int{0}}, {netOf(3, 0, 1, 3, 1, 2, 1, 1, 2, 1, 1, 2, 1), 0, 2, []int{0, 1, 2, 3}}, {netOf(4, 0, 1, 1, 0, 1, 1, 1, 2, 1, 2, 3, 1, 2, 3, 1), 0, 3, []int{2}}, {netOf(6, 0, 1, 1, 1, 5, 1, 0, 2, 1, 2, 5, 1, 0, 3, 1, 3, 4, 1), 0, 5, []int{0, 1, 2, 3}},
		// No line is needed if there are ways enough for any one.
		{netOf(5, 0, 1, 1, 0, 1, 1, 1, 4, 1, 1, 4, 1), 0, 4, []int{0, 1, 2, 3}}, {netOf(4, 0, 3, 2, 1, 2, 2), 1, 2, []int{1}}, {netOf(4, 0, 1, 9, 1, 2, 3, 2, 3, 9), 0, 3, []int{0, 1, 2}},
	} {
		checkList(t, fmt.Sprintf("NetNeeded(%v, %d, %d)", c.s, c.from, c.to), impl.NetNeeded(c.s.n, c.s.lines, c.from, c.to), true, c.want)
	}
}

func TestPromise80NetTree(t *testing.T) {
	for _, s := range sampleNets() {
		call := fmt.Sprintf("NetTree(%v)", s)
		got, ok := impl.NetTree(s.n, s.lines)
		want := []int{}
		place := map[ends]int{}
		for _, p := range pairsOf(s.n) {
			if p.from < p.to {
				place[p] = len(want)
				want = append(want, s.wantMost(p.from, p.to))
				checkNumber(t, fmt.Sprintf("the traffic of %v of %s", p, call), s.traffic(p.from, p.to), s.wantMost(p.from, p.to))
			}
		}
		checkList(t, call, got, ok, want)
		for c := range s.n {
			for b := range c {
				for a := range b {
					three := []int{got[place[ends{a, b}]], got[place[ends{a, c}]], got[place[ends{b, c}]]}
					slices.Sort(three)
					checkNumber(t, fmt.Sprintf("the second least of %d, %d and %d of %s", a, b, c, call), three[1], three[0])
				}
			}
		}
	}
}

func TestPromise80NetTreeEdges(t *testing.T) {
	for _, c := range []struct {
		s    net
		want []int
	}{
		{netOf(2), []int{0}}, {netOf(3), []int{0, 0, 0}}, {netOf(6), make([]int, 15)}, {netOf(2, 1, 0, 9), []int{9}}, {oneLine(2, 10, 9), []int{90}}, {oneLine(6, 10, 9), append([]int{90}, make([]int, 14)...)}, {triangle(), []int{4, 3, 3}}, {netOf(4, 0, 1, 1, 1, 2, 2, 2, 3, 3), []int{1, 1, 1, 2, 2, 3}}, {netOf(4, 2, 3, 7), []int{0, 0, 0, 0, 0, 7}}, {netOf(4, 0, 1, 2, 2, 3, 5), []int{2, 0, 0, 0, 0, 5}}, {netOf(6, 0, 1, 1, 0, 2, 2, 0, 3, 3, 0, 4, 4, 0, 5, 5), []int{1, 2, 3, 4, 5, 1, 1, 1, 1, 2, 2, 2, 3, 3, 4}}, {ring(4, 2), []int{5, 6, 7, 5, 5, 6}}, {eachWithEach(5, 5, 9), repeated(36, 10)},
	} {
		got, ok := impl.NetTree(c.s.n, c.s.lines)
		checkList(t, fmt.Sprintf("NetTree(%v)", c.s), got, ok, c.want)
	}
}

func TestPromise81LoadAdd(t *testing.T) {
	random := newRandom()
	good, bad := 0, 0
	eachEnds(func(s net, from int, to int) {
		loads := s.sampleLoads(random, from, to)
		for _, a := range loads {
			for _, b := range loads[1:] {
				call := fmt.Sprintf("LoadAdd(%v, %d, %d, %v, %v)", s, from, to, a, b)
				sums := make([]int, len(a))
				for i := range sums {
					sums[i] = a[i] + b[i]
				}
				got, ok := impl.LoadAdd(s.n, s.lines, from, to, a, b)
				other, also := impl.LoadAdd(s.n, s.lines, from, to, b, a)
				if !s.fits(sums) {
					checkFails(t, call, got, ok)
					checkFails(t, "exchanged "+call, other, also)
					bad++
					continue
				}
				checkList(t, call, got, ok, sums)
				checkList(t, "exchanged "+call, other, also, sums)
				both := impl.LoadTraffic(s.n, s.lines, from, to, a) + impl.LoadTraffic(s.n, s.lines, from, to, b)
				checkNumber(t, "the traffic of "+call, impl.LoadTraffic(s.n, s.lines, from, to, got), both)
				good++
			}
		}
	})
	if good < 5000 || bad < 5000 {
		t.Fatalf("%d sums are loads, %d are none", good, bad)
	}
}

func TestPromise81LoadAddEdges(t *testing.T) {
	one := netOf(2, 0, 1, 9)
	two := netOf(2, 0, 1, 3, 1, 0, 5)
	for _, c := range []struct {
		s    net
		from int
		to   int
		a    []int
		b    []int
		want []int
		ok   bool
	}{
		{netOf(2), 0, 1, nil, nil, nil, true}, {netOf(6), 5, 0, []int{}, nil, nil, true}, {one, 0, 1, []int{4}, []int{5}, []int{9}, true}, {one, 0, 1, []int{5}, []int{5}, nil, false}, {one, 0, 1, []int{9}, []int{0}, []int{9}, true}, {one, 0, 1, []int{9}, []int{1}, nil, false}, {one, 1, 0, []int{-4}, []int{-5}, []int{-9}, true}, {one, 1, 0, []int{-5}, []int{-5}, nil, false},
		// A load against the stations is none, even if the sum is one.
		{one, 0, 1, []int{9}, []int{-1}, nil, false}, {one, 0, 1, []int{-1}, []int{9}, nil, false}, {one, 0, 1, []int{-1}, []int{-1}, nil, false}, {one, 0, 1, []int{10}, []int{-1}, nil, false}, {one, 0, 1, []int{0}, nil, nil, false}, {one, 0, 1, nil, []int{0}, nil, false}, {one, 0, 1, []int{0, 0}, []int{0}, nil, false},
		// Circles against each other and with each other.
		{two, 0, 1, []int{3, 3}, []int{-3, -3}, []int{0, 0}, true}, {two, 0, 1, []int{1, 1}, []int{2, 2}, []int{3, 3}, true}, {two, 0, 1, []int{2, 2}, []int{2, 2}, nil, false}, {two, 0, 1, []int{3, 3}, []int{0, -5}, []int{3, -2}, true}, {two, 0, 1, []int{0, -5}, []int{0, -1}, nil, false}, {two, 1, 0, []int{-3, 2}, []int{3, 3}, []int{0, 5}, true},
		{triangle(), 0, 2, []int{2, 2, 0}, []int{0, 0, 1}, []int{2, 2, 1}, true}, {triangle(), 0, 2, []int{2, 2, 0}, []int{1, 1, 0}, nil, false}, {triangle(), 0, 2, []int{1, 1, 1}, []int{1, 1, 0}, []int{2, 2, 1}, true}, {triangle(), 0, 2, []int{1, 1, 1}, []int{0, 0, 1}, nil, false}, {triangle(), 0, 2, []int{1, 1, -1}, []int{1, 1, -1}, nil, false}, {triangle(), 0, 2, []int{1, 0, 0}, []int{0, 1, 0}, nil, false}, {triangle(), 0, 2, []int{1, 0, 0}, []int{-1, 0, 0}, nil, false},
	} {
		call := fmt.Sprintf("LoadAdd(%v, %d, %d, %v, %v)", c.s, c.from, c.to, c.a, c.b)
		got, ok := impl.LoadAdd(c.s.n, c.s.lines, c.from, c.to, c.a, c.b)
		if c.ok {
			checkList(t, call, got, ok, c.want)
		} else {
			checkFails(t, call, got, ok)
		}
	}
}

// TestTrafficAgain calls the functions many times, as the order of a map must not be seen.
func TestTrafficAgain(t *testing.T) {
	for _, s := range []net{eachWithEach(5, 5, 3), takenBack(), ring(6, 4), oneLine(2, 10, 9)} {
		load := mustLoad(t, s, 0, s.n-1)
		none := make([]int, len(load))
		for range 300 {
			checkList(t, "TrafficLoad again", mustLoad(t, s, 0, s.n-1), true, load)
			sums, ok := impl.LoadAdd(s.n, s.lines, 0, s.n-1, load, none)
			checkList(t, "LoadAdd again", sums, ok, load)
		}
	}
}

// TestTrafficMemory changes what each function returns, up to its capacity, and checks that neither other results, nor the lists, nor what lies behind them changes.
func TestTrafficMemory(t *testing.T) {
	calls := map[string]func(lines []impl.Line, load []int, side []int) []int{
		"TrafficLoad": func(lines []impl.Line, load []int, side []int) []int {
			x, _ := impl.TrafficLoad(3, lines, 0, 2)
			return x
		},
		"CutLeast": func(lines []impl.Line, load []int, side []int) []int { x, _ := impl.CutLeast(3, lines, 0, 2); return x },
		"NetNeeded": func(lines []impl.Line, load []int, side []int) []int {
			return impl.NetNeeded(3, lines, 0, 2)
		},
		"NetTree": func(lines []impl.Line, load []int, side []int) []int { x, _ := impl.NetTree(3, lines); return x },
		"LoadAdd": func(lines []impl.Line, load []int, side []int) []int {
			x, _ := impl.LoadAdd(3, lines, 0, 2, load, load)
			return x
		},
		"the others": func(lines []impl.Line, load []int, side []int) []int {
			impl.NetValid(3, lines)
			impl.LoadValid(3, lines, 0, 2, load)
			impl.LoadTraffic(3, lines, 0, 2, load)
			impl.TrafficMost(3, lines, 0, 2)
			impl.CutOf(3, lines, 0, 2, side)
			impl.NetWeakest(3, lines, 0, 2)
			return nil
		},
	}
	for name, call := range calls {
		lines := append(triangle().lines, linesOf(0, 2, 7, 1, 2, 8)...)
		load, side := []int{1, 1, 0, 30, 31, 32}, []int{1, 1, 0, 40, 41, 42}
		linesBefore, loadBefore, sideBefore := slices.Clone(lines), slices.Clone(load), slices.Clone(side)
		first, second := call(lines[0:3], load[0:3], side[0:3]), call(lines[0:3], load[0:3], side[0:3])
		if name != "the others" && len(first) != 3 {
			t.Fatalf("%s returned %v", name, first)
		}
		kept := slices.Clone(second)
		first = first[:cap(first)]
		for i := range first {
			first[i] = -7
		}
		if !slices.Equal(lines, linesBefore) || !slices.Equal(load, loadBefore) || !slices.Equal(side, sideBefore) || !slices.Equal(second, kept) {
			t.Fatalf("%s: its result shares memory, or it changes an argument: %v, %v, %v", name, lines, load, side)
		}
		checkList(t, name+" again", call(lines[0:3], load[0:3], side[0:3]), true, kept)
	}
}

// TestNetWithoutMemory changes the net that is returned, up to its capacity, and checks that neither another one nor the lines change.
func TestNetWithoutMemory(t *testing.T) {
	for k := range 3 {
		lines := append(triangle().lines, linesOf(0, 2, 7, 1, 2, 8)...)
		before := slices.Clone(lines)
		first, _ := impl.NetWithout(3, lines[0:3], k)
		second, ok := impl.NetWithout(3, lines[0:3], k)
		first = first[:cap(first)]
		for i := range first {
			first[i] = impl.Line{A: -7, B: -7, Channels: -7}
		}
		checkLines(t, "NetWithout", second, ok, triangle().drop(k).lines)
		if !slices.Equal(lines, before) {
			t.Fatalf("NetWithout of %d shares memory, or it changes its argument: %v", k, lines)
		}
	}
}
