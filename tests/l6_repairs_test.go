package tests

import (
	"fmt"
	"math/rand"
	"slices"
	"strings"
	"testing"

	"loop.example/cableship/impl"
)

// The tests of chapter 6 hold the program against repairs that are worked at day by day, and all plans of them.

// allForecasts are all forecasts of at most so many days.
func allForecasts(most int) []string {
	all := []string{}
	for days := 0; days <= most; days++ {
		for _, row := range rowsOf(2, days) {
			s := ""
			for _, letter := range row {
				s += "ox"[letter : letter+1]
			}
			all = append(all, s)
		}
	}
	return all
}

// edgeForecasts are forecasts at the document's limits: without days, of one day, of all days or one less, and with closed days at the end, at the beginning, between, everywhere and nowhere.
func edgeForecasts() []string {
	return []string{
		"", "o", "x", "ox", "xo", "oo", "xx", "oxo", "oxoo", "oxooo", "ooxooo", "oooxxx", "xxxooo", "xoooxx", "oxoxox", "xoxoxo",
		strings.Repeat("o", 9), strings.Repeat("o", 29), strings.Repeat("x", 29), strings.Repeat("o", 30), strings.Repeat("x", 30),
		strings.Repeat("o", 29) + "x", "x" + strings.Repeat("o", 29), strings.Repeat("x", 29) + "o", "o" + strings.Repeat("x", 29), "o" + strings.Repeat("x", 28) + "o", "x" + strings.Repeat("o", 28) + "x",
		strings.Repeat("ox", 15), strings.Repeat("xo", 15), strings.Repeat("oox", 10), strings.Repeat("oxx", 10), strings.Repeat("o", 15) + strings.Repeat("x", 15), strings.Repeat("x", 15) + strings.Repeat("o", 15),
		strings.Repeat("o", 14) + "xx" + strings.Repeat("o", 14), strings.Repeat("o", 10) + strings.Repeat("x", 10) + strings.Repeat("o", 10), strings.Repeat("x", 10) + strings.Repeat("o", 10) + strings.Repeat("x", 10), "oo" + strings.Repeat("x", 8) + "ooo",
	}
}

// randomForecast is a forecast of so many days that has about as many open days among ten as are asked for.
func randomForecast(random *rand.Rand, days int, open int) string {
	s := ""
	for range days {
		if random.Intn(10) < open {
			s += "o"
		} else {
			s += "x"
		}
	}
	return s
}

// sampleForecasts are the edge forecasts, all of a few days, and random ones of up to the most days.
func sampleForecasts() []string {
	list := append(edgeForecasts(), allForecasts(7)...)
	random := newRandom()
	for days := 8; days <= 30; days++ {
		for _, open := range []int{2, 5, 8, 9} {
			list = append(list, randomForecast(random, days, open), randomForecast(random, days, open))
		}
	}
	return list
}

// badForecasts are texts that are no forecasts.
func badForecasts() []string {
	bad := []string{
		"O", "X", "0", " ", "\n", "\x00", "OX", "Oo", "oO", "xX", "o x", "o,x", "o-", " o", "x ", "oxo\n", "open", "closed", "ö", "oö", "öx", "\u00d7", "\u03bf", "\u043e", "\u0445x", "o\u0301", "\xff", "o\xff", "\xffx", "o\x00", "\ufeffo",
		strings.Repeat("o", 31), strings.Repeat("x", 31), strings.Repeat("o", 30) + "x", strings.Repeat("x", 30) + "o", strings.Repeat("o", 30) + "\n", strings.Repeat("x", 30) + " ", strings.Repeat("ox", 16), strings.Repeat("o", 33), strings.Repeat("x", 64), strings.Repeat("o", 65),
		strings.Repeat("o", 256), strings.Repeat("o", 286), strings.Repeat("x", 500), strings.Repeat("O", 30), strings.Repeat("o", 29) + "O", "X" + strings.Repeat("x", 29), strings.Repeat("o", 14) + "-" + strings.Repeat("o", 15), strings.Repeat("o", 29) + "ö", strings.Repeat("\u03bf", 15), strings.Repeat("o", 100000),
	}
	for letter := range 256 {
		if letter != 'o' && letter != 'x' {
			one := string([]byte{byte(letter)})
			bad = append(bad, one, one+"o", "x"+one, "oo"+one+"xo")
		}
	}
	return bad
}

// openIn returns the number of open days of a forecast.
func openIn(s string) int {
	return strings.Count(s, "o")
}

// wantDay returns the least number of first days of which so many are open, or -1 if there are not so many.
func wantDay(s string, work int) int {
	for end := range len(s) + 1 {
		if openIn(s[:end]) == work {
			return end
		}
	}
	return -1
}

// wantRun returns the length of the longest piece of a forecast between closed days.
func wantRun(s string) int {
	longest := 0
	for _, piece := range strings.Split(s, "x") {
		longest = max(longest, len(piece))
	}
	return longest
}

// jobsOf returns repairs that are written as numbers: of each one its Days, then its Weight.
func jobsOf(numbers ...int) []impl.Job {
	jobs := []impl.Job{}
	for pair := range slices.Chunk(numbers, 2) {
		jobs = append(jobs, impl.Job{Days: pair[0], Weight: pair[1]})
	}
	return jobs
}

// edgeJobs are repairs at the document's limits: none, one, as many as can be, of the least and the greatest days and weights, all alike, or of equal rates.
func edgeJobs() [][]impl.Job {
	return [][]impl.Job{
		{}, jobsOf(1, 1), jobsOf(9, 9), jobsOf(1, 9), jobsOf(9, 1), jobsOf(5, 3), jobsOf(3, 1, 1, 2), jobsOf(1, 2, 3, 1), jobsOf(1, 1, 1, 1), jobsOf(9, 9, 9, 9), jobsOf(1, 1, 2, 2), jobsOf(2, 2, 1, 1), jobsOf(3, 9, 2, 5), jobsOf(9, 1, 1, 9), jobsOf(1, 9, 9, 1), jobsOf(9, 9, 1, 1), jobsOf(8, 9, 9, 8), jobsOf(9, 8, 8, 9), jobsOf(9, 8, 8, 7),
		jobsOf(1, 1, 2, 2, 3, 3), jobsOf(3, 3, 2, 2, 1, 1), jobsOf(2, 1, 4, 2, 6, 3), jobsOf(6, 3, 2, 1, 4, 2), jobsOf(1, 3, 2, 3, 3, 3), jobsOf(3, 3, 3, 2, 3, 1), jobsOf(2, 5, 2, 5, 2, 5), jobsOf(9, 9, 9, 9, 9, 9), jobsOf(9, 9, 9, 9, 9, 9, 3, 3), jobsOf(9, 9, 9, 9, 9, 9, 4, 4),
		slices.Repeat(jobsOf(1, 1), 5), slices.Repeat(jobsOf(1, 1), 6), slices.Repeat(jobsOf(1, 9), 6), slices.Repeat(jobsOf(5, 4), 6), slices.Repeat(jobsOf(9, 9), 6), slices.Repeat(jobsOf(9, 1), 6),
		jobsOf(1, 1, 2, 2, 3, 3, 4, 4, 5, 5, 6, 6), jobsOf(6, 6, 5, 5, 4, 4, 3, 3, 2, 2, 1, 1), jobsOf(1, 6, 1, 5, 1, 4, 1, 3, 1, 2, 1, 1), jobsOf(1, 1, 1, 2, 1, 3, 1, 4, 1, 5, 1, 6), jobsOf(5, 1, 4, 1, 3, 1, 2, 1, 1, 1, 1, 1), jobsOf(3, 2, 1, 4, 6, 4, 2, 8, 5, 1, 4, 1), jobsOf(9, 9, 9, 9, 1, 9, 9, 1, 1, 1, 1, 1),
	}
}

// randomJobs are so many repairs of few days, so that there is often time for them.
func randomJobs(random *rand.Rand, repairs int, most int) []impl.Job {
	jobs := []impl.Job{}
	for range repairs {
		jobs = append(jobs, impl.Job{Days: 1 + random.Intn(most), Weight: 1 + random.Intn(9)})
	}
	return jobs
}

// badJobs are lists that are no repairs.
func badJobs() [][]impl.Job {
	bad := [][]impl.Job{jobsOf(0, 0), {{}}, jobsOf(10, 10), jobsOf(-1, -1), jobsOf(1, 0, 0, 1), jobsOf(10, 1, 1, 1), jobsOf(1, 1, 1, 10), jobsOf(9, 9, 9, 9, -1, 1)}
	for _, many := range []int{7, 8, 12, 256, 262, 500} {
		bad = append(bad, slices.Repeat(jobsOf(1, 1), many), slices.Repeat(jobsOf(9, 9), many), make([]impl.Job, many))
	}
	for _, jobs := range edgeJobs() {
		for i := range jobs {
			for _, number := range append(farNumbers(), -9, -2, -1, 0, 10, 11, 256, 257, 1<<32, 1<<32+1) {
				days, weight := slices.Clone(jobs), slices.Clone(jobs)
				days[i].Days, weight[i].Weight = number, number
				bad = append(bad, days, weight)
			}
		}
	}
	return bad
}

func daysOf(jobs []impl.Job) int {
	days := 0
	for _, job := range jobs {
		days += job.Days
	}
	return days
}

func weightsOf(jobs []impl.Job) int {
	weights := 0
	for _, job := range jobs {
		weights += job.Weight
	}
	return weights
}

// plansOf are all rows with the index of each of so many repairs once, in the order of their indexes.
func plansOf(repairs int) [][]int {
	rows := [][]int{}
	for _, row := range rowsOf(repairs, repairs) {
		if isPlan(row, repairs) {
			rows = append(rows, row)
		}
	}
	return rows
}

// isPlan reports whether a list has the index of each of so many repairs once.
func isPlan(plan []int, repairs int) bool {
	return slices.Equal(slices.Sorted(slices.Values(plan)), upTo(repairs))
}

// wantEnds works at repairs day by day, and returns the end of each one, or false if the forecast ends ahead of them.
func wantEnds(s string, jobs []impl.Job, plan []int) ([]int, bool) {
	ends := make([]int, len(jobs))
	day := 0
	for _, i := range plan {
		for left := jobs[i].Days; left > 0; day++ {
			if day == len(s) {
				return nil, false
			}
			if s[day] == 'o' {
				left--
			}
		}
		ends[i] = day
	}
	return ends, true
}

func wantLoss(s string, jobs []impl.Job, plan []int) int {
	ends, _ := wantEnds(s, jobs, plan)
	loss := 0
	for i, end := range ends {
		loss += jobs[i].Weight * end
	}
	return loss
}

// wantBestPlan tries all plans, and returns the first one of the least loss and how many have it.
func wantBestPlan(s string, jobs []impl.Job, all [][]int) ([]int, int) {
	var best []int
	least, many := 1000000, 0
	for _, plan := range all {
		loss := wantLoss(s, jobs, plan)
		if loss < least {
			best, least, many = plan, loss, 0
		}
		if loss == least {
			many++
		}
	}
	return best, many
}

// wantRate puts each repair behind as many others as come ahead of it.
func wantRate(jobs []impl.Job) []int {
	plan := make([]int, len(jobs))
	for i := range jobs {
		ahead := 0
		for k := range jobs {
			if rateAhead(jobs, k, i) {
				ahead++
			}
		}
		plan[ahead] = i
	}
	return plan
}

// rateAhead reports whether a repair comes ahead of another one by their rates.
func rateAhead(jobs []impl.Job, a int, b int) bool {
	one, other := jobs[a].Weight*jobs[b].Days, jobs[b].Weight*jobs[a].Days
	return one > other || one == other && a < b
}

// spread returns a random forecast with just so many open days.
func spread(random *rand.Rand, open int) string {
	letters := []byte(strings.Repeat("o", open) + strings.Repeat("x", random.Intn(31-open)))
	random.Shuffle(len(letters), func(a int, b int) { letters[a], letters[b] = letters[b], letters[a] })
	return string(letters)
}

// eachRepairs calls a function with sample forecasts and repairs, and whether there are enough open days for them: often just enough or one too few.
func eachRepairs(check func(s string, jobs []impl.Job, enough bool)) {
	tell := func(s string, jobs []impl.Job) { check(s, jobs, daysOf(jobs) <= openIn(s)) }
	random := newRandom()
	lists := edgeJobs()
	for range 150 {
		lists = append(lists, randomJobs(random, 1+random.Intn(6), 1+random.Intn(9)))
	}
	for _, jobs := range lists {
		days := daysOf(jobs)
		for _, open := range []int{days - 1, days, days + 1 + random.Intn(4)} {
			if open < 0 || open > 30 {
				continue
			}
			for range 4 {
				tell(spread(random, open), jobs)
			}
			tell(strings.Repeat("o", open), jobs)
			tell(strings.Repeat("o", open)+strings.Repeat("x", random.Intn(31-open)), jobs)
			tell(strings.Repeat("x", 30-open)+strings.Repeat("o", open), jobs)
		}
		tell(strings.Repeat("o", 30), jobs)
	}
	for _, jobs := range lists[:25] {
		for _, s := range edgeForecasts() {
			tell(s, jobs)
		}
	}
}

// eachPlanned calls a function with the sample forecasts and repairs of which there are plans.
func eachPlanned(check func(s string, jobs []impl.Job)) {
	eachRepairs(func(s string, jobs []impl.Job, enough bool) {
		if enough {
			check(s, jobs)
		}
	})
}

// eachPlan calls a function with sample forecasts, repairs and plans of them: all plans of a few repairs, else some.
func eachPlan(check func(s string, jobs []impl.Job, plan []int)) {
	random := newRandom()
	few := [][][]int{plansOf(0), plansOf(1), plansOf(2), plansOf(3)}
	eachPlanned(func(s string, jobs []impl.Job) {
		rows := [][]int{upTo(len(jobs)), reversed(upTo(len(jobs))), random.Perm(len(jobs)), random.Perm(len(jobs)), random.Perm(len(jobs))}
		if len(jobs) < len(few) {
			rows = few[len(jobs)]
		}
		for _, plan := range rows {
			check(s, jobs, plan)
		}
	})
}

// badPlans are lists that are no plans of so many repairs.
func badPlans(repairs int) [][]int {
	rows := [][]int{upTo(repairs + 1), repeated(0, repairs+1), append(upTo(repairs), repairs), append(upTo(repairs), 0), append(upTo(repairs), -1), append([]int{-1}, upTo(repairs)...), upTo(500)}
	if repairs == 0 {
		return append(rows, []int{0}, []int{-1}, []int{1})
	}
	rows = append(rows, nil, upTo(repairs-1), upTo(repairs)[1:], append(upTo(repairs), repairs-1))
	for _, plan := range [][]int{upTo(repairs), reversed(upTo(repairs))} {
		for place := range plan {
			wrong := append(farNumbers(), -2, -1, repairs, repairs+1, 6, 256, 1<<32, 1<<32+plan[place])
			if repairs > 1 {
				wrong = append(wrong, plan[(place+1)%repairs])
			}
			for _, number := range wrong {
				row := slices.Clone(plan)
				row[place] = number
				rows = append(rows, row)
			}
			rows = append(rows, without(plan, place))
		}
	}
	return rows
}

// checkNotPlan checks what is said of a list that is no plan.
func checkNotPlan(t *testing.T, s string, jobs []impl.Job, plan []int) {
	t.Helper()
	call := fmt.Sprintf("(%.40q, %v, %v)", s, jobs, plan)
	checkHolds(t, "PlanValid"+call, impl.PlanValid(s, jobs, plan), false)
	checkNumber(t, "PlanLoss"+call, impl.PlanLoss(s, jobs, plan), -1)
	got, ok := impl.PlanEnds(s, jobs, plan)
	checkFails(t, "PlanEnds"+call, got, ok)
}

// checkNoPlans checks what is said of a text and a list that have no plans.
func checkNoPlans(t *testing.T, s string, jobs []impl.Job) {
	t.Helper()
	call := fmt.Sprintf("(%.40q, %v)", s, jobs)
	got, ok := impl.PlanBest(s, jobs)
	checkFails(t, "PlanBest"+call, got, ok)
	got, ok = impl.PlanRate(s, jobs)
	checkFails(t, "PlanRate"+call, got, ok)
	for _, plan := range [][]int{nil, {0}, upTo(len(jobs)), reversed(upTo(len(jobs)))} {
		checkNotPlan(t, s, jobs, plan)
	}
}

// checkNoForecast checks what is said of a text that is no forecast.
func checkNoForecast(t *testing.T, s string) {
	t.Helper()
	call := fmt.Sprintf("(%.40q", s)
	checkHolds(t, "ForecastValid"+call+")", impl.ForecastValid(s), false)
	checkNumber(t, "ForecastLongest"+call+")", impl.ForecastLongest(s), -1)
	for _, number := range []int{-1, 0, 1, 2, 3, 29, 30, 31, len(s) - 1, len(s)} {
		end := fmt.Sprintf(", %d)", number)
		checkNumber(t, "ForecastOpen"+call+end, impl.ForecastOpen(s, number), -1)
		checkNumber(t, "ForecastDay"+call+end, impl.ForecastDay(s, number), -1)
		checkNumber(t, "ForecastWindow"+call+end, impl.ForecastWindow(s, number), -1)
	}
	for _, jobs := range [][]impl.Job{nil, jobsOf(1, 1), jobsOf(1, 2, 1, 1)} {
		checkNoPlans(t, s, jobs)
	}
}

// mustEnds returns PlanEnds of a plan.
func mustEnds(t *testing.T, s string, jobs []impl.Job, plan []int) []int {
	t.Helper()
	ends, ok := impl.PlanEnds(s, jobs, plan)
	checkHolds(t, fmt.Sprintf("PlanEnds(%q, %v, %v)", s, jobs, plan), ok, true)
	return ends
}

// mustBest returns PlanBest of repairs.
func mustBest(t *testing.T, s string, jobs []impl.Job) []int {
	t.Helper()
	plan, ok := impl.PlanBest(s, jobs)
	checkHolds(t, fmt.Sprintf("PlanBest(%q, %v)", s, jobs), ok, true)
	return plan
}

// mustRate returns PlanRate of repairs.
func mustRate(t *testing.T, s string, jobs []impl.Job) []int {
	t.Helper()
	plan, ok := impl.PlanRate(s, jobs)
	checkHolds(t, fmt.Sprintf("PlanRate(%q, %v)", s, jobs), ok, true)
	return plan
}

func TestRepairConstants(t *testing.T) {
	checkNumber(t, "DaysMax", impl.DaysMax, 30)
	checkNumber(t, "JobsMax", impl.JobsMax, 6)
}

func TestPromise60ForecastValid(t *testing.T) {
	for _, s := range sampleForecasts() {
		checkHolds(t, fmt.Sprintf("ForecastValid(%q)", s), impl.ForecastValid(s), true)
		all := impl.ForecastOpen(s, len(s))
		for day := range len(s) + 1 {
			first, others := s[:day], s[day:]
			checkHolds(t, fmt.Sprintf("ForecastValid(%q)", first), impl.ForecastValid(first), true)
			checkHolds(t, fmt.Sprintf("ForecastValid(%q)", others), impl.ForecastValid(others), true)
			both := impl.ForecastOpen(first, len(first)) + impl.ForecastOpen(others, len(others))
			checkNumber(t, fmt.Sprintf("the open days of %q and %q", first, others), both, all)
		}
	}
}

func TestPromises60To70NoForecast(t *testing.T) {
	for _, s := range badForecasts() {
		checkNoForecast(t, s)
	}
}

func TestPromise61ForecastOpen(t *testing.T) {
	for _, s := range sampleForecasts() {
		for day := range len(s) + 1 {
			call := fmt.Sprintf("ForecastOpen(%q, %d)", s, day)
			got := impl.ForecastOpen(s, day)
			checkNumber(t, call, got, openIn(s[:day]))
			end := impl.ForecastDay(s, got)
			if got > day || end < 0 || end > day {
				t.Fatalf("%s returned %d, of which ForecastDay is %d", call, got, end)
			}
			if day < len(s) {
				next := impl.ForecastOpen(s, day+1)
				checkHolds(t, "that the next day of "+call+" has 1 more", next == got+1, s[day] == 'o')
				checkHolds(t, "that the next day of "+call+" has as many", next == got, s[day] == 'x')
			}
		}
	}
}

func TestPromise61ForecastOpenEdges(t *testing.T) {
	for _, c := range []struct {
		s    string
		day  int
		want int
	}{
		{"", 0, 0}, {"o", 0, 0}, {"o", 1, 1}, {"x", 0, 0}, {"x", 1, 0}, {"oxo", 0, 0}, {"oxo", 1, 1}, {"oxo", 2, 1}, {"oxo", 3, 2}, {"oxx", 1, 1}, {"oxx", 2, 1}, {"oxx", 3, 1}, {"xxo", 2, 0}, {"xxo", 3, 1},
		{strings.Repeat("o", 30), 0, 0}, {strings.Repeat("o", 30), 29, 29}, {strings.Repeat("o", 30), 30, 30}, {strings.Repeat("x", 30), 30, 0}, {strings.Repeat("x", 29) + "o", 29, 0}, {strings.Repeat("x", 29) + "o", 30, 1}, {"o" + strings.Repeat("x", 29), 30, 1}, {strings.Repeat("o", 29) + "x", 30, 29},
	} {
		checkNumber(t, fmt.Sprintf("ForecastOpen(%q, %d)", c.s, c.day), impl.ForecastOpen(c.s, c.day), c.want)
	}
}

func TestPromise61ForecastOpenInvalid(t *testing.T) {
	for _, s := range edgeForecasts() {
		for _, day := range append(farNumbers(), -31, -2, -1, len(s)+1, len(s)+2, 31, 32, 33, 64, 256, 1<<32, 1<<32+1, -1<<32) {
			checkNumber(t, fmt.Sprintf("ForecastOpen(%q, %d)", s, day), impl.ForecastOpen(s, day), -1)
		}
	}
}

func TestPromise62ForecastDay(t *testing.T) {
	for _, s := range sampleForecasts() {
		open := impl.ForecastOpen(s, len(s))
		for work := range open + 1 {
			call := fmt.Sprintf("ForecastDay(%q, %d)", s, work)
			got := impl.ForecastDay(s, work)
			checkNumber(t, call, got, wantDay(s, work))
			checkNumber(t, "ForecastOpen of "+call, impl.ForecastOpen(s, got), work)
			if work > 0 {
				checkText(t, "the day before "+call, s[got-1:got], "o")
			}
			if next := impl.ForecastDay(s, work+1); work < open && next <= got {
				t.Fatalf("%s returned %d, with 1 more work %d", call, got, next)
			}
		}
	}
}

func TestPromise62ForecastDayEdges(t *testing.T) {
	for _, c := range []struct {
		s    string
		work int
		want int
	}{
		{"", 0, 0}, {"o", 0, 0}, {"o", 1, 1}, {"x", 0, 0}, {"xxx", 0, 0}, {"xo", 0, 0}, {"xo", 1, 2}, {"ox", 1, 1}, {"oxxx", 1, 1}, {"ooxx", 2, 2}, {"oxoxx", 2, 3}, {"oxoo", 1, 1}, {"oxoo", 2, 3}, {"oxoo", 3, 4}, {"xxoxo", 1, 3}, {"xxoxo", 2, 5},
		{strings.Repeat("o", 30), 0, 0}, {strings.Repeat("o", 30), 1, 1}, {strings.Repeat("o", 30), 29, 29}, {strings.Repeat("o", 30), 30, 30}, {strings.Repeat("x", 30), 0, 0}, {strings.Repeat("x", 29) + "o", 1, 30}, {"o" + strings.Repeat("x", 29), 1, 1}, {"o" + strings.Repeat("x", 28) + "o", 2, 30}, {strings.Repeat("o", 29) + "x", 29, 29}, {"x" + strings.Repeat("o", 29), 29, 30},
	} {
		checkNumber(t, fmt.Sprintf("ForecastDay(%q, %d)", c.s, c.work), impl.ForecastDay(c.s, c.work), c.want)
	}
}

func TestPromise62ForecastDayInvalid(t *testing.T) {
	for _, s := range sampleForecasts() {
		for _, work := range append(farNumbers(), -31, -2, -1, openIn(s)+1, openIn(s)+2, 31, 32, 33, 64, 256, 1<<32, 1<<32+1, -1<<32) {
			checkNumber(t, fmt.Sprintf("ForecastDay(%q, %d)", s, work), impl.ForecastDay(s, work), -1)
		}
	}
}

func TestPromise63ForecastLongest(t *testing.T) {
	for _, s := range sampleForecasts() {
		call := fmt.Sprintf("ForecastLongest(%q)", s)
		got := impl.ForecastLongest(s)
		checkNumber(t, call, got, wantRun(s))
		checkHolds(t, "that there is a window of "+call, impl.ForecastWindow(s, got) >= 0, got > 0)
		checkNumber(t, "ForecastWindow of 1 more than "+call, impl.ForecastWindow(s, got+1), -1)
		if got > impl.ForecastOpen(s, len(s)) {
			t.Fatalf("%s returned %d", call, got)
		}
	}
}

func TestPromise63ForecastLongestEdges(t *testing.T) {
	for _, c := range []struct {
		s    string
		want int
	}{
		{"", 0}, {"o", 1}, {"x", 0}, {"xx", 0}, {"oxo", 1}, {"oox", 2}, {"xoo", 2}, {"oxoo", 2}, {"ooxo", 2}, {"ooxooo", 3}, {"oooxoo", 3}, {"xooox", 3}, {"oxooxooo", 3}, {"oooxx", 3},
		{strings.Repeat("o", 30), 30}, {strings.Repeat("x", 30), 0}, {strings.Repeat("o", 29) + "x", 29}, {"x" + strings.Repeat("o", 29), 29}, {strings.Repeat("ox", 15), 1}, {strings.Repeat("x", 29) + "o", 1}, {strings.Repeat("o", 14) + "x" + strings.Repeat("o", 15), 15}, {strings.Repeat("o", 15) + "x" + strings.Repeat("o", 14), 15},
	} {
		checkNumber(t, fmt.Sprintf("ForecastLongest(%q)", c.s), impl.ForecastLongest(c.s), c.want)
	}
}

func TestPromise64ForecastWindow(t *testing.T) {
	for _, s := range sampleForecasts() {
		for days := 1; days <= 30; days++ {
			call := fmt.Sprintf("ForecastWindow(%q, %d)", s, days)
			got := impl.ForecastWindow(s, days)
			window := strings.Repeat("o", days)
			checkNumber(t, call, got, strings.Index(s, window))
			if got < 0 {
				continue
			}
			checkText(t, "the window of "+call, s[got:got+days], window)
			for day := range got {
				checkHolds(t, fmt.Sprintf("that %s begins at %d", call, day), strings.HasPrefix(s[day:], window), false)
			}
			if less := impl.ForecastWindow(s, days-1); days > 1 && (less < 0 || less > got) {
				t.Fatalf("%s returned %d, of 1 day less %d", call, got, less)
			}
		}
	}
}

func TestPromise64ForecastWindowEdges(t *testing.T) {
	for _, c := range []struct {
		s    string
		days int
		want int
	}{
		{"", 1, -1}, {"", 30, -1}, {"o", 1, 0}, {"o", 2, -1}, {"x", 1, -1}, {"xo", 1, 1}, {"oo", 2, 0}, {"oo", 3, -1}, {"oxo", 1, 0}, {"oxo", 2, -1}, {"oxoo", 2, 2}, {"ooxooo", 1, 0}, {"ooxooo", 2, 0}, {"ooxooo", 3, 3}, {"ooxooo", 4, -1}, {"oooxooo", 3, 0}, {"xoooxx", 3, 1}, {"xoooxx", 2, 1}, {"oxooxooo", 2, 2}, {"oxooxooo", 3, 5},
		{strings.Repeat("o", 30), 1, 0}, {strings.Repeat("o", 30), 29, 0}, {strings.Repeat("o", 30), 30, 0}, {strings.Repeat("o", 29), 29, 0}, {strings.Repeat("o", 29), 30, -1}, {strings.Repeat("x", 30), 1, -1}, {"x" + strings.Repeat("o", 29), 29, 1}, {"x" + strings.Repeat("o", 29), 30, -1}, {strings.Repeat("x", 29) + "o", 1, 29}, {strings.Repeat("x", 28) + "oo", 2, 28}, {strings.Repeat("o", 29) + "x", 29, 0},
	} {
		checkNumber(t, fmt.Sprintf("ForecastWindow(%q, %d)", c.s, c.days), impl.ForecastWindow(c.s, c.days), c.want)
	}
}

func TestPromise64ForecastWindowInvalid(t *testing.T) {
	for _, s := range edgeForecasts() {
		for _, days := range append(farNumbers(), -30, -2, -1, 0, 31, 32, 33, 64, 65, 256, 257, 1<<32, 1<<32+1, -1<<32) {
			checkNumber(t, fmt.Sprintf("ForecastWindow(%q, %d)", s, days), impl.ForecastWindow(s, days), -1)
		}
	}
}

func TestJobsValid(t *testing.T) {
	checkHolds(t, "JobsValid(nil)", impl.JobsValid(nil), true)
	for _, jobs := range edgeJobs() {
		checkHolds(t, fmt.Sprintf("JobsValid(%v)", jobs), impl.JobsValid(jobs), true)
	}
	for days := -1; days <= 11; days++ {
		for weight := -1; weight <= 11; weight++ {
			inside := days >= 1 && days <= 9 && weight >= 1 && weight <= 9
			for _, jobs := range [][]impl.Job{jobsOf(days, weight), jobsOf(1, 1, days, weight), jobsOf(days, weight, 9, 9)} {
				checkHolds(t, fmt.Sprintf("JobsValid(%v)", jobs), impl.JobsValid(jobs), inside)
			}
		}
	}
}

func TestPromises65To70NoRepairs(t *testing.T) {
	for _, jobs := range badJobs() {
		checkHolds(t, fmt.Sprintf("JobsValid(%v)", jobs), impl.JobsValid(jobs), false)
		checkNumber(t, fmt.Sprintf("JobsDays(%v)", jobs), impl.JobsDays(jobs), -1)
		checkNoPlans(t, "", jobs)
		checkNoPlans(t, strings.Repeat("o", 30), jobs)
	}
}

func TestPromise65PlanValid(t *testing.T) {
	eachPlan(func(s string, jobs []impl.Job, plan []int) {
		call := fmt.Sprintf("PlanValid(%q, %v, %v)", s, jobs, plan)
		checkHolds(t, call, impl.PlanValid(s, jobs, plan), true)
		checkHolds(t, call+" in the opposite order", impl.PlanValid(s, jobs, reversed(plan)), true)
		if impl.ForecastOpen(s, len(s)) < impl.JobsDays(jobs) {
			t.Fatalf("%s holds with too few open days", call)
		}
		if best := mustBest(t, s, jobs); impl.PlanLoss(s, jobs, plan) < impl.PlanLoss(s, jobs, best) {
			t.Fatalf("%s loses less than PlanBest, %v", call, best)
		}
	})
}

func TestPromise65PlanValidEdges(t *testing.T) {
	fives := slices.Repeat(jobsOf(5, 4), 6)
	for _, c := range []struct {
		s    string
		jobs []impl.Job
		plan []int
		want bool
	}{
		{"", nil, nil, true}, {"", []impl.Job{}, []int{}, true}, {"x", nil, nil, true}, {strings.Repeat("o", 30), nil, nil, true}, {"", jobsOf(1, 1), []int{0}, false}, {"x", jobsOf(1, 1), []int{0}, false}, {"o", jobsOf(1, 1), []int{0}, true}, {"ox", jobsOf(1, 1), []int{0}, true}, {"xo", jobsOf(1, 1), []int{0}, true}, {"o", jobsOf(1, 1), []int{1}, false}, {"o", nil, []int{0}, false},
		{"ooo", jobsOf(3, 1, 1, 2), []int{0, 1}, false}, {"oooo", jobsOf(3, 1, 1, 2), []int{0, 1}, true}, {"ooox", jobsOf(3, 1, 1, 2), []int{0, 1}, false}, {"oooxo", jobsOf(3, 1, 1, 2), []int{0, 1}, true}, {"ooooxx", jobsOf(3, 1, 1, 2), []int{1, 0}, true}, {"oooo", jobsOf(3, 1, 1, 2), []int{0, 0}, false}, {"oooo", jobsOf(3, 1, 1, 2), []int{1, 1}, false},
		{strings.Repeat("o", 30), fives, upTo(6), true}, {strings.Repeat("o", 29) + "x", fives, upTo(6), false}, {strings.Repeat("o", 29), fives, upTo(6), false}, {strings.Repeat("o", 29), fives[1:], upTo(5), true}, {strings.Repeat("o", 30), slices.Repeat(jobsOf(9, 9), 3), upTo(3), true}, {strings.Repeat("o", 30), slices.Repeat(jobsOf(9, 9), 4), upTo(4), false}, {strings.Repeat("ox", 15), fives[:3], []int{2, 0, 1}, true}, {strings.Repeat("xo", 14) + "xx", fives[:3], []int{2, 0, 1}, false},
	} {
		checkHolds(t, fmt.Sprintf("PlanValid(%q, %v, %v)", c.s, c.jobs, c.plan), impl.PlanValid(c.s, c.jobs, c.plan), c.want)
	}
}

func TestPromises65To67NoPlan(t *testing.T) {
	for _, jobs := range edgeJobs() {
		if daysOf(jobs) > 30 {
			continue
		}
		for _, plan := range badPlans(len(jobs)) {
			checkNotPlan(t, strings.Repeat("o", 30), jobs, plan)
			checkNotPlan(t, strings.Repeat("o", daysOf(jobs))+strings.Repeat("x", 30-daysOf(jobs)), jobs, plan)
		}
	}
	for repairs := range 5 {
		jobs := slices.Repeat(jobsOf(2, 3), repairs)
		for _, plan := range rowsOf(repairs+1, repairs) {
			checkHolds(t, fmt.Sprintf("PlanValid of %v", plan), impl.PlanValid(strings.Repeat("ooox", 4), jobs, plan), isPlan(plan, repairs))
		}
	}
}

// TestPromises65To69TooFewDays checks repairs of more days than are open.
func TestPromises65To69TooFewDays(t *testing.T) {
	checked := 0
	eachRepairs(func(s string, jobs []impl.Job, enough bool) {
		if !enough {
			checkNoPlans(t, s, jobs)
			checked++
		}
	})
	if checked < 500 {
		t.Fatalf("only %d repairs have too few days", checked)
	}
}

func TestPromise66PlanEnds(t *testing.T) {
	eachPlan(func(s string, jobs []impl.Job, plan []int) {
		call := fmt.Sprintf("PlanEnds(%q, %v, %v)", s, jobs, plan)
		got, ok := impl.PlanEnds(s, jobs, plan)
		want, _ := wantEnds(s, jobs, plan)
		checkList(t, call, got, ok, want)
		end := 0
		for _, i := range plan {
			if got[i] <= end {
				t.Fatalf("%s returned %v", call, got)
			}
			checkNumber(t, fmt.Sprintf("the open days up to the end of %d of %s", i, call), openIn(s[end:got[i]]), jobs[i].Days)
			end = got[i]
		}
		checkNumber(t, "ForecastDay of JobsDays instead of "+call, impl.ForecastDay(s, impl.JobsDays(jobs)), end)
	})
}

// TestPromises66And67Edges checks plans with closed days at the end, at the beginning and between.
func TestPromises66And67Edges(t *testing.T) {
	two := jobsOf(3, 1, 1, 2)
	fives := slices.Repeat(jobsOf(5, 4), 6)
	for _, c := range []struct {
		s    string
		jobs []impl.Job
		plan []int
		ends []int
		loss int
	}{
		{"", nil, nil, nil, 0}, {"xxx", []impl.Job{}, []int{}, nil, 0}, {"o", jobsOf(1, 1), []int{0}, []int{1}, 1}, {"o", jobsOf(1, 9), []int{0}, []int{1}, 9}, {"oxx", jobsOf(1, 9), []int{0}, []int{1}, 9}, {"xxo", jobsOf(1, 9), []int{0}, []int{3}, 27}, {strings.Repeat("x", 29) + "o", jobsOf(1, 9), []int{0}, []int{30}, 270},
		{"oxooo", two, []int{1, 0}, []int{5, 1}, 7}, {"oxooo", two, []int{0, 1}, []int{4, 5}, 14}, {"oooo", two, []int{0, 1}, []int{3, 4}, 11}, {"oooo", two, []int{1, 0}, []int{4, 1}, 6}, {"ooooxx", two, []int{0, 1}, []int{3, 4}, 11}, {"ooooxx", two, []int{1, 0}, []int{4, 1}, 6}, {"oooxxo", two, []int{0, 1}, []int{3, 6}, 15}, {"oooxxo", two, []int{1, 0}, []int{6, 1}, 8}, {"xxoooo", two, []int{0, 1}, []int{5, 6}, 17}, {"xoxooxox", two, []int{1, 0}, []int{7, 2}, 11}, {"ooooooxx", two, []int{0, 1}, []int{3, 4}, 11},
		{strings.Repeat("o", 30), fives, upTo(6), []int{5, 10, 15, 20, 25, 30}, 420}, {strings.Repeat("o", 30), fives, reversed(upTo(6)), []int{30, 25, 20, 15, 10, 5}, 420}, {strings.Repeat("o", 30), jobsOf(9, 9, 9, 1, 9, 9), []int{2, 0, 1}, []int{18, 27, 9}, 270}, {strings.Repeat("ox", 15), jobsOf(9, 2, 6, 3), []int{0, 1}, []int{17, 29}, 121}, {strings.Repeat("xo", 15), jobsOf(9, 2, 6, 3), []int{1, 0}, []int{30, 12}, 96},
	} {
		call := fmt.Sprintf("(%q, %v, %v)", c.s, c.jobs, c.plan)
		got, ok := impl.PlanEnds(c.s, c.jobs, c.plan)
		checkList(t, "PlanEnds"+call, got, ok, c.ends)
		checkNumber(t, "PlanLoss"+call, impl.PlanLoss(c.s, c.jobs, c.plan), c.loss)
	}
}

func TestPromise67PlanLoss(t *testing.T) {
	full := 0
	eachPlan(func(s string, jobs []impl.Job, plan []int) {
		call := fmt.Sprintf("PlanLoss(%q, %v, %v)", s, jobs, plan)
		got := impl.PlanLoss(s, jobs, plan)
		checkNumber(t, call, got, wantLoss(s, jobs, plan))
		total := 0
		for i, end := range mustEnds(t, s, jobs, plan) {
			total += jobs[i].Weight * end
		}
		checkNumber(t, "the ends and Weights instead of "+call, total, got)
		if len(s) == 30 {
			checkNumber(t, "with a closed day, without room, "+call, impl.PlanLoss("x"+s, jobs, plan), -1)
			full++
			return
		}
		checkNumber(t, "with a closed day ahead "+call, impl.PlanLoss("x"+s, jobs, plan), got+weightsOf(jobs))
		checkNumber(t, "with a closed day at the end "+call, impl.PlanLoss(s+"x", jobs, plan), got)
	})
	if full < 100 {
		t.Fatalf("only %d forecasts have no room", full)
	}
}

func TestPromise68PlanBest(t *testing.T) {
	all := [][][]int{plansOf(0), plansOf(1), plansOf(2), plansOf(3), plansOf(4), plansOf(5), plansOf(6)}
	several, unlike := 0, 0
	eachPlanned(func(s string, jobs []impl.Job) {
		call := fmt.Sprintf("PlanBest(%q, %v)", s, jobs)
		got, ok := impl.PlanBest(s, jobs)
		want, many := wantBestPlan(s, jobs, all[len(jobs)])
		checkList(t, call, got, ok, want)
		checkHolds(t, "PlanValid of "+call, impl.PlanValid(s, jobs, got), true)
		least := impl.PlanLoss(s, jobs, got)
		for place := 1; place < len(got); place++ {
			other := slices.Clone(got)
			other[place-1], other[place] = got[place], got[place-1]
			loss := impl.PlanLoss(s, jobs, other)
			if loss < least || loss == least && got[place] < got[place-1] {
				t.Fatalf("%s returned %v, but %v loses %d instead of %d", call, got, other, loss, least)
			}
		}
		rated := impl.PlanLoss(s, jobs, mustRate(t, s, jobs))
		if rated < least {
			t.Fatalf("%s returned %v of %d, PlanRate loses %d", call, got, least, rated)
		}
		if many > 1 {
			several++
		}
		if rated > least {
			unlike++
		}
	})
	if several < 100 || unlike < 50 {
		t.Fatalf("%d have several best plans, %d lose less than by rates", several, unlike)
	}
}

func TestPromise68PlanBestEdges(t *testing.T) {
	for _, c := range []struct {
		s    string
		jobs []impl.Job
		want []int
	}{
		{"", nil, nil}, {"xx", []impl.Job{}, nil}, {"o", jobsOf(1, 1), []int{0}}, {"xox", jobsOf(1, 1), []int{0}}, {strings.Repeat("o", 9), jobsOf(9, 9), []int{0}},
		{"oo", jobsOf(1, 1, 1, 1), []int{0, 1}}, {"oxo", jobsOf(1, 1, 1, 2), []int{1, 0}}, {"ooxx", jobsOf(1, 1, 1, 2), []int{1, 0}}, {"ooxx", jobsOf(1, 2, 1, 1), []int{0, 1}}, {"ooo", jobsOf(2, 2, 1, 1), []int{0, 1}}, {"ooo", jobsOf(1, 1, 2, 2), []int{0, 1}},
		// Of equal rates the short one comes first if days are closed between, as only one fits ahead of them.
		{"oxoo", jobsOf(2, 2, 1, 1), []int{1, 0}}, {"ooxo", jobsOf(1, 1, 2, 2), []int{1, 0}}, {"ooxo", jobsOf(2, 2, 1, 1), []int{0, 1}},
		{"oo" + strings.Repeat("x", 8) + "ooo", jobsOf(3, 9, 2, 5), []int{1, 0}}, {"ooooo", jobsOf(3, 9, 2, 5), []int{0, 1}}, {"oooooxxxxxxxx", jobsOf(3, 9, 2, 5), []int{0, 1}}, {"ooooo", jobsOf(2, 5, 3, 9), []int{1, 0}},
		{"oxooo", jobsOf(3, 1, 1, 2), []int{1, 0}}, {"oooooo", slices.Repeat(jobsOf(1, 9), 6), upTo(6)}, {strings.Repeat("o", 30), slices.Repeat(jobsOf(5, 4), 6), upTo(6)}, {"oooooo", jobsOf(1, 1, 1, 2, 1, 3, 1, 4, 1, 5, 1, 6), reversed(upTo(6))}, {"ooooooxxx", jobsOf(1, 6, 1, 5, 1, 4, 1, 3, 1, 2, 1, 1), upTo(6)}, {strings.Repeat("o", 21), jobsOf(6, 6, 5, 5, 4, 4, 3, 3, 2, 2, 1, 1), upTo(6)},
	} {
		got, ok := impl.PlanBest(c.s, c.jobs)
		checkList(t, fmt.Sprintf("PlanBest(%q, %v)", c.s, c.jobs), got, ok, c.want)
	}
}

func TestPromise69PlanRate(t *testing.T) {
	fair := 0
	eachPlanned(func(s string, jobs []impl.Job) {
		call := fmt.Sprintf("PlanRate(%q, %v)", s, jobs)
		got, ok := impl.PlanRate(s, jobs)
		checkList(t, call, got, ok, wantRate(jobs))
		for place := 1; place < len(got); place++ {
			one, next := jobs[got[place-1]], jobs[got[place]]
			if one.Weight*next.Days < next.Weight*one.Days {
				t.Fatalf("%s returned %v, in which rates rise", call, got)
			}
		}
		if strings.HasPrefix(s, strings.Repeat("o", impl.JobsDays(jobs))) {
			best := mustBest(t, s, jobs)
			checkNumber(t, "the loss of "+call, impl.PlanLoss(s, jobs, got), impl.PlanLoss(s, jobs, best))
			fair++
		}
	})
	if fair < 300 {
		t.Fatalf("only %d forecasts begin with open days for all repairs", fair)
	}
}

func TestPromise69PlanRateEdges(t *testing.T) {
	for _, c := range []struct {
		s    string
		jobs []impl.Job
		want []int
	}{
		{"", nil, nil}, {"xx", []impl.Job{}, nil}, {"o", jobsOf(1, 1), []int{0}}, {"oox", jobsOf(1, 1, 1, 1), []int{0, 1}}, {"oooo", jobsOf(3, 1, 1, 2), []int{1, 0}}, {"ooo", jobsOf(2, 2, 1, 1), []int{0, 1}}, {"ooo", jobsOf(1, 1, 2, 2), []int{0, 1}},
		// Rates do not ask for the weather, so that they may be worse than the best plan.
		{"oxoo", jobsOf(2, 2, 1, 1), []int{0, 1}}, {"oo" + strings.Repeat("x", 8) + "ooo", jobsOf(3, 9, 2, 5), []int{0, 1}}, {"oo" + strings.Repeat("x", 8) + "ooo", jobsOf(2, 5, 3, 9), []int{1, 0}},
		{strings.Repeat("o", 17), jobsOf(9, 8, 8, 7), []int{0, 1}}, {strings.Repeat("o", 17), jobsOf(8, 7, 9, 8), []int{1, 0}}, {strings.Repeat("o", 10), jobsOf(9, 1, 1, 9), []int{1, 0}}, {strings.Repeat("o", 10), jobsOf(9, 9, 1, 1), []int{0, 1}}, {"ooooo", jobsOf(3, 3, 2, 2), []int{0, 1}},
		{strings.Repeat("o", 21), jobsOf(3, 2, 1, 4, 6, 4, 2, 8, 5, 1, 4, 1), []int{1, 3, 0, 2, 5, 4}}, {strings.Repeat("o", 12), jobsOf(6, 3, 2, 1, 4, 2), []int{0, 1, 2}}, {"oooooo", slices.Repeat(jobsOf(1, 1), 6), upTo(6)}, {"oooooo", jobsOf(1, 1, 1, 2, 1, 3, 1, 4, 1, 5, 1, 6), reversed(upTo(6))},
	} {
		got, ok := impl.PlanRate(c.s, c.jobs)
		checkList(t, fmt.Sprintf("PlanRate(%q, %v)", c.s, c.jobs), got, ok, c.want)
	}
}

func TestPromise70JobsDays(t *testing.T) {
	random := newRandom()
	lists := edgeJobs()
	for range 200 {
		lists = append(lists, randomJobs(random, random.Intn(7), 9))
	}
	room := 0
	for _, jobs := range lists {
		call := fmt.Sprintf("JobsDays(%v)", jobs)
		got := impl.JobsDays(jobs)
		checkNumber(t, call, got, daysOf(jobs))
		for first := range len(jobs) + 1 {
			checkNumber(t, fmt.Sprintf("%s of the first %d and the others", call, first), impl.JobsDays(jobs[:first])+impl.JobsDays(jobs[first:]), got)
		}
		if got > 30 {
			continue
		}
		room++
		for _, s := range []string{strings.Repeat("o", got), strings.Repeat("o", got) + strings.Repeat("x", 30-got), strings.Repeat("x", 30-got) + strings.Repeat("o", got), spread(random, got)} {
			best, ok := impl.PlanBest(s, jobs)
			checkHolds(t, fmt.Sprintf("PlanBest(%q, %v)", s, jobs), ok && isPlan(best, len(jobs)), true)
		}
	}
	if room < 100 || room == len(lists) {
		t.Fatalf("%d of %d lists have room", room, len(lists))
	}
}

func TestPromise70JobsDaysEdges(t *testing.T) {
	for _, c := range []struct {
		jobs []impl.Job
		want int
	}{
		{nil, 0}, {[]impl.Job{}, 0}, {jobsOf(1, 9), 1}, {jobsOf(9, 1), 9}, {jobsOf(3, 1, 1, 2), 4}, {slices.Repeat(jobsOf(1, 9), 6), 6}, {slices.Repeat(jobsOf(5, 4), 6), 30}, {slices.Repeat(jobsOf(9, 9), 6), 54}, {slices.Repeat(jobsOf(9, 9), 7), -1}, {jobsOf(9, 9, 0, 9), -1},
	} {
		checkNumber(t, fmt.Sprintf("JobsDays(%v)", c.jobs), impl.JobsDays(c.jobs), c.want)
	}
}

// TestRepairMemory changes what each function returns, up to its capacity, and checks that neither other results, nor the lists, nor what lies behind them changes.
func TestRepairMemory(t *testing.T) {
	s := "oxooxoxooox"
	calls := map[string]func(jobs []impl.Job, plan []int) []int{
		"PlanEnds": func(jobs []impl.Job, plan []int) []int { x, _ := impl.PlanEnds(s, jobs, plan); return x },
		"PlanBest": func(jobs []impl.Job, plan []int) []int { x, _ := impl.PlanBest(s, jobs); return x },
		"PlanRate": func(jobs []impl.Job, plan []int) []int { x, _ := impl.PlanRate(s, jobs); return x },
		"the others": func(jobs []impl.Job, plan []int) []int {
			impl.JobsValid(jobs)
			impl.PlanValid(s, jobs, plan)
			impl.PlanLoss(s, jobs, plan)
			impl.JobsDays(jobs)
			return nil
		},
	}
	for name, call := range calls {
		jobs := jobsOf(2, 1, 3, 8, 1, 3, 7, 7, 8, 8)
		plan := []int{1, 2, 0, 30, 31, 32, 33}
		jobsBefore, planBefore := slices.Clone(jobs), slices.Clone(plan)
		first, second := call(jobs[0:3], plan[0:3]), call(jobs[0:3], plan[0:3])
		if name != "the others" && len(first) != 3 {
			t.Fatalf("%s returned %v", name, first)
		}
		kept := slices.Clone(second)
		first = first[:cap(first)]
		for i := range first {
			first[i] = -7
		}
		if !slices.Equal(jobs, jobsBefore) || !slices.Equal(plan, planBefore) || !slices.Equal(second, kept) {
			t.Fatalf("%s: its result shares memory, or it changes an argument: %v, %v", name, jobs, plan)
		}
		checkList(t, name+" again", call(jobs[0:3], plan[0:3]), true, kept)
	}
}
