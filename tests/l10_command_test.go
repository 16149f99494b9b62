package tests

import (
	"fmt"
	"math/rand"
	"regexp"
	"slices"
	"strconv"
	"strings"
	"testing"

	"loop.example/cableship/impl"
)

// The tests of chapter 10 hold the program against answers that are written out, and scripts of all kinds against a clerk who reads lines with patterns.

// talk is a script, line by line, each with what it tells, and the last line of the output.
type talk struct {
	asked []ask
	last  string
}

// ask is a line of a script and what it tells.
type ask struct {
	line string
	told string
}

// scriptOf returns a script of complete lines.
func scriptOf(lines ...string) string {
	script := ""
	for _, line := range lines {
		script += line + "\n"
	}
	return script
}

// nothing is the last line of the output of a script that puts nothing down.
const nothing = "sections 0 spares 0 routes 0"

// desk are lines that put down a cable, spares and a chart.
func desk() []string {
	return []string{"section 10 0 3", "section 5 1 4", "spare 8 0", "spare 5 0", "spare 9 3", "route 0 2 6 2", "route 1 0 1 4"}
}

// fullDesk are lines that put down as many sections, spares and routes as there can be.
func fullDesk() []string {
	return slices.Concat(sectionLines(fullCable()), spareLines(ofKind(2, 1, 2, 3, 4, 5, 6, 7, 8, 9, 10)), routeLines(levels(8)))
}

// fullCable is a cable of SectionsMax sections.
func fullCable() []impl.Section {
	cable := []impl.Section{}
	for i := range 8 {
		cable = append(cable, impl.Section{Miles: 1 + i, Kind: i % 4, Ohms: 13 + i})
	}
	return cable
}

// desks are the empty one, those with one thing that is put down, and others up to the full one.
func desks() [][]string {
	return [][]string{{}, {"section 10 0 3"}, {"spare 8 0"}, {"route 0 2 6 2"}, desk(), fullDesk()}
}

// looks are lines that put nothing down and show what is there.
func looks() []string {
	return []string{"cable", "fault 4 6", "find 18 44", "joint 0 13", "joint 0 5", "joint 3 9", "joint 2 55", "lift"}
}

// goodLines are one line of each kind that does not fail behind those of the desk.
func goodLines() []ask {
	return []ask{
		{"section 9 1 5", "ok"}, {"cable", "10m0k3o+5m1k4o"}, {"fault 4 6", "18 44"}, {"find 18 44", "4 6"}, {"spare 9 3", "ok"}, {"joint 0 12", "0 1"},
		{"stow 2 0 3 1", "0 0 1 1"}, {"route 2 2 8 3", "ok"}, {"lift", "1 0"}, {"signal abc", "-0+0--"}, {"read -0+", "ab"},
	}
}

func sectionLines(cable []impl.Section) []string {
	lines := []string{}
	for _, s := range cable {
		lines = append(lines, fmt.Sprintf("section %d %d %d", s.Miles, s.Kind, s.Ohms))
	}
	return lines
}

func spareLines(list []impl.Spare) []string {
	lines := []string{}
	for _, s := range list {
		lines = append(lines, fmt.Sprintf("spare %d %d", s.Miles, s.Kind))
	}
	return lines
}

func routeLines(chart []impl.Route) []string {
	lines := []string{}
	for _, r := range chart {
		lines = append(lines, fmt.Sprintf("route %d %d %d %d", r.Ax, r.Ay, r.Bx, r.By))
	}
	return lines
}

// spaced returns numbers with a space between.
func spaced(list []int) string {
	return strings.Trim(fmt.Sprint(list), "[]")
}

// lastLine is the last line of the output.
func lastLine(sections int, spares int, routes int) string {
	return fmt.Sprintf("sections %d spares %d routes %d", sections, spares, routes)
}

// stowLine is the line that stows orders.
func stowLine(orders []int) string {
	return strings.Join(append([]string{"stow"}, strings.Fields(spaced(orders))...), " ")
}

// told runs a script of complete lines, and returns what each of them tells, and the last line of the output.
func told(t *testing.T, lines ...string) []string {
	t.Helper()
	output := impl.Execute(scriptOf(lines...))
	list := strings.SplitAfter(output, "\n")
	if len(list) != len(lines)+2 || list[len(lines)+1] != "" {
		t.Fatalf("Execute(%q) returned %q: not a line for each one, and the last one", scriptOf(lines...), output)
	}
	for i := range list {
		list[i] = strings.TrimSuffix(list[i], "\n")
	}
	return list[:len(lines)+1]
}

// checkTold fails unless lines tell what is wanted, with the last line of the output.
func checkTold(t *testing.T, lines []string, want []string) {
	t.Helper()
	if got := told(t, lines...); !slices.Equal(got, want) {
		t.Fatalf("Execute(%q) told %q instead of %q", scriptOf(lines...), got, want)
	}
}

// checkExecute fails unless a script has an output.
func checkExecute(t *testing.T, script string, want string) {
	t.Helper()
	checkText(t, fmt.Sprintf("Execute(%q)", script), impl.Execute(script), want)
}

// checkChangesNothing fails unless a line, behind others, tells what is wanted, and all lines behind it tell the same as without it.
func checkChangesNothing(t *testing.T, ahead []string, line string, want string) {
	t.Helper()
	behind := append(looks(), "section 1 0 1", "cable", "spare 1 0", "joint 0 14", "route 3 0 3 4", "lift")
	without := told(t, slices.Concat(ahead, behind)...)
	checkTold(t, slices.Concat(ahead, []string{line}, behind), slices.Insert(without, len(ahead), want))
}

// talks are scripts that are written out with all that they tell.
func talks() []talk {
	full := talk{last: "sections 8 spares 10 routes 8"}
	for _, line := range fullDesk() {
		full.asked = append(full.asked, ask{line, "ok"})
	}
	return []talk{
		{nil, nothing},
		{[]ask{{"", "what"}}, nothing},
		{[]ask{{"", "what"}, {"", "what"}, {" ", "what"}, {"  ", "what"}}, nothing},
		{[]ask{{"cable", "no"}, {"fault 0 0", "no"}, {"find 0 0", "no"}, {"joint 0 1", "no"}, {"stow", ""}, {"lift", ""}, {"signal ", ""}, {"read ", ""}}, nothing},
		{[]ask{{"section 10 0 3", "ok"}, {"cable", "10m0k3o"}, {"section 5 1 4", "ok"}, {"cable", "10m0k3o+5m1k4o"}, {"section 5 1 4", "ok"}, {"cable", "10m0k3o+5m1k4o+5m1k4o"}}, "sections 3 spares 0 routes 0"},
		{[]ask{{"section 50 3 20", "ok"}, {"section 1 0 1", "ok"}, {"cable", "50m3k20o+1m0k1o"}, {"fault 0 0", "0 1001"}, {"fault 51 1000", "2001 1000"}, {"fault 50 1", "1001 2"}, {"find 1001 2", "50 1"}, {"fault 52 0", "no"}, {"fault 0 1001", "no"}}, "sections 2 spares 0 routes 0"},
		{[]ask{{"section 50 0 20", "ok"}, {"section 50 1 20", "ok"}, {"section 50 2 20", "ok"}, {"fault 0 1000", "1000 4000"}, {"fault 150 1000", "4000 1000"}, {"fault 75 0", "1500 1500"}, {"find 1000 4000", "0 1000"}, {"find 4000 1000", "150 1000"}, {"find 1500 1500", "75 0"}, {"find 9999 9999", "no"}}, "sections 3 spares 0 routes 0"},
		{[]ask{{"section 10 0 3", "ok"}, {"find 0 30", "0 0"}, {"find 30 0", "10 0"}, {"find 1 31", "0 1"}, {"find 1 30", "no"}, {"find 0 31", "no"}, {"find 3 27", "1 0"}, {"find 27 3", "9 0"}}, "sections 1 spares 0 routes 0"},
		{[]ask{{"spare 8 0", "ok"}, {"spare 5 0", "ok"}, {"joint 0 12", "0 1"}, {"joint 0 13", "0 1"}, {"joint 0 14", "no"}, {"joint 0 8", "0"}, {"joint 0 5", "1"}, {"joint 0 1", "1"}, {"joint 0 0", "no"}, {"joint 1 1", "no"}, {"spare 1 1", "ok"}, {"joint 1 1", "2"}, {"joint 1 2", "no"}}, "sections 0 spares 3 routes 0"},
		{[]ask{{"spare 50 3", "ok"}, {"spare 1 0", "ok"}, {"spare 50 3", "ok"}, {"joint 3 51", "0 2"}, {"joint 3 50", "0"}, {"joint 0 1", "1"}, {"joint 3 101", "no"}}, "sections 0 spares 3 routes 0"},
		{[]ask{{"stow", ""}, {"stow 0", "0"}, {"stow 1", "no"}, {"stow 0 1", "0 1"}, {"stow 1 0", "0 0"}, {"stow 0 0", "no"}, {"stow 2 0 3 1", "0 0 1 1"}, {"stow 0 1 2 3 4", "0 1 2 3 4"}, {"stow 0 1 2 3 4 5", "no"}, {"stow 9 8 7 6 5 4 3 2 1 0", "0 0 0 0 0 0 0 0 0 0"}, {"stow 10 9 8 7 6 5 4 3 2 1 0", "no"}}, nothing},
		{[]ask{{"lift", ""}, {"route 0 2 6 2", "ok"}, {"lift", "0"}, {"route 1 0 1 4", "ok"}, {"lift", "1 0"}, {"route 4 0 4 2", "ok"}, {"lift", "1 0 2"}, {"route 0 3 3 3", "ok"}, {"lift", "2 3 1 0"}, {"route 20 0 20 20", "ok"}, {"route 20 20 0 20", "ok"}, {"lift", "2 3 1 0 4 5"}}, "sections 0 spares 0 routes 6"},
		{[]ask{{"signal a", "-"}, {"signal b", "+"}, {"signal z", "+-++"}, {"signal abc", "-0+0--"}, {"signal zzzzzzzzzzzz", strings.Repeat("+-++0", 11) + "+-++"}, {"signal aaaaaaaaaaaaa", "no"}, {"signal A", "no"}, {"signal ", ""}}, nothing},
		{[]ask{{"read -", "a"}, {"read +", "b"}, {"read +-++", "z"}, {"read -0+0--", "abc"}, {"read " + strings.Repeat("-0", 11) + "-", "aaaaaaaaaaaa"}, {"read " + strings.Repeat("-0", 12) + "-", "no"}, {"read -0", "no"}, {"read 0", "no"}, {"read a", "no"}, {"read ", ""}}, nothing},
		{[]ask{{"section 1 0 1", "ok"}, {"spare 1 0", "ok"}, {"route 0 0 0 1", "ok"}, {"spare 2 1", "ok"}, {"route 0 0 1 0", "ok"}, {"spare 3 2", "ok"}}, "sections 1 spares 3 routes 2"},
		full,
	}
}

// sampleScripts are scripts of complete lines: those that are written out, those of the desks with and without looks, and random ones.
func sampleScripts() [][]string {
	scripts := [][]string{}
	for _, s := range talks() {
		lines := []string{}
		for _, a := range s.asked {
			lines = append(lines, a.line)
		}
		scripts = append(scripts, lines)
	}
	for _, lines := range desks() {
		scripts = append(scripts, slices.Concat(lines, looks()))
	}
	random := newRandom()
	for range 3000 {
		lines := []string{}
		for range random.Intn(40) {
			line := randomLine(random)
			if len(scriptOf(append(lines, line)...)) > 580 {
				break
			}
			lines = append(lines, line)
		}
		scripts = append(scripts, lines)
	}
	return scripts
}

// randomLine returns a line of any kind, with numbers that are often in range, and sometimes malformed.
func randomLine(random *rand.Rand) string {
	words := randomWords(random)
	k := random.Intn(len(words))
	switch random.Intn(24) {
	case 0:
		words[k] = []string{"", "x", "-1", "+1", "00001", "1\t", "0x1", "\xff", "12345"}[random.Intn(9)]
	case 1:
		words = slices.Delete(words, k, k+1)
	case 2:
		words = slices.Insert(words, k, []string{"", "0", "1", "lift"}[random.Intn(4)])
	case 3:
		words = append(words, []string{"", "0", "1", "lift"}[random.Intn(4)])
	case 4:
		words[k] = strings.ToUpper(words[k])
	case 5:
		words[k] = "00" + words[k]
	case 6:
		words[k] = strconv.Itoa(random.Intn(10000))
	}
	return strings.Join(words, " ")
}

// randomWords returns the words of a line of any kind that is not malformed.
func randomWords(random *rand.Rand) []string {
	number := func(most int) string { return strconv.Itoa(random.Intn(most + 1)) }
	switch random.Intn(14) {
	case 0, 1:
		return []string{"section", number(4), number(3), number(3)}
	case 2:
		return []string{"cable"}
	case 3:
		return []string{"fault", number(8), number(8)}
	case 4:
		return []string{"find", number(9), number(9)}
	case 5, 6:
		return []string{"spare", number(9), number(1)}
	case 7:
		return []string{"joint", number(1), number(14)}
	case 8:
		return strings.Split(stowLine(random.Perm(random.Intn(5))), " ")
	case 9, 10:
		return []string{"route", number(20), number(20), number(20), number(20)}
	case 11:
		return []string{"lift"}
	case 12:
		return []string{"signal", randomText(random, random.Intn(6), 26)}
	}
	return []string{"read", wantSignal(randomText(random, random.Intn(6), 26))}
}

// The clerk's patterns: a number, and lines with numbers or of one word.
var (
	numberPattern = regexp.MustCompile(`^[0-9]{1,4}$`)
	linePattern   = regexp.MustCompile(`^(section( [^ ]*){3}|cable|(fault|find|spare|joint)( [^ ]*){2}|stow( [^ ]*)*|route( [^ ]*){4}|lift)$`)
	signalPattern = regexp.MustCompile(`^signal [^ ]*$`)
	letterPattern = regexp.MustCompile(`^signal [a-z]{0,12}$`)
	readPattern   = regexp.MustCompile(`^read [^ ]*$`)
)

// clerk answers lines one by one, and finds with patterns what a line says.
type clerk struct {
	cable  []impl.Section
	spares []impl.Spare
	chart  []impl.Route
}

// clerkNumbers are the numbers of words.
func clerkNumbers(words []string) []int {
	list := []int{}
	for _, word := range words {
		number := -1
		if numberPattern.MatchString(word) {
			number, _ = strconv.Atoi(word)
		}
		list = append(list, number)
	}
	return list
}

// clerkAnswer is a text, or no if it fails.
func clerkAnswer(text string, ok bool) string {
	if !ok {
		return "no"
	}
	return text
}

// puts puts down what is valid.
func (c *clerk) puts(name string, n []int) string {
	next := clerk{slices.Clone(c.cable), slices.Clone(c.spares), slices.Clone(c.chart)}
	switch name {
	case "section":
		next.cable = append(next.cable, impl.Section{Miles: n[0], Kind: n[1], Ohms: n[2]})
	case "spare":
		next.spares = append(next.spares, impl.Spare{Miles: n[0], Kind: n[1]})
	case "route":
		next.chart = append(next.chart, impl.Route{Ax: n[0], Ay: n[1], Bx: n[2], By: n[3]})
	}
	if len(next.cable) > 0 && !impl.CableValid(next.cable) || !impl.SparesValid(next.spares) || !impl.ChartValid(next.chart) {
		return "no"
	}
	*c = next
	return "ok"
}

// tells answers a line with numbers, or of one word.
func (c *clerk) tells(name string, n []int) string {
	switch name {
	case "cable":
		return clerkAnswer(impl.CableText(c.cable), impl.CableValid(c.cable))
	case "fault":
		a, b, ok := impl.FaultOpen(c.cable, impl.Fault{Mile: n[0], Ohms: n[1]})
		return clerkAnswer(fmt.Sprint(a, b), ok)
	case "find":
		f, ok := wantFind(c.cable, n[0], n[1])
		return clerkAnswer(fmt.Sprint(f.Mile, f.Ohms), ok && impl.CableValid(c.cable))
	case "joint":
		joint := wantJoint(setsOf(c.spares, n[0]), n[1])
		return clerkAnswer(spaced(joint), joint != nil)
	case "stow":
		tanks, ok := wantMake(n)
		return clerkAnswer(spaced(tanks), ok && impl.OrdersValid(n))
	case "lift":
		order, ok := impl.LiftFirst(c.chart)
		return clerkAnswer(spaced(order), ok)
	}
	return c.puts(name, n)
}

// answers answers a line.
func (c *clerk) answers(line string) string {
	words := strings.Split(line, " ")
	switch {
	case linePattern.MatchString(line):
		return c.tells(words[0], clerkNumbers(words[1:]))
	case letterPattern.MatchString(line):
		return wantSignal(words[1])
	case signalPattern.MatchString(line):
		return "no"
	case readPattern.MatchString(line):
		return clerkAnswer(wantRead(words[1]))
	}
	return "what"
}

// wantOutput is the output of a script of at most MaxScript bytes.
func wantOutput(script string) string {
	c := clerk{}
	output := ""
	for line, rest, found := strings.Cut(script, "\n"); found; line, rest, found = strings.Cut(rest, "\n") {
		output += c.answers(line) + "\n"
	}
	return output + lastLine(len(c.cable), len(c.spares), len(c.chart)) + "\n"
}

func TestCommandConstants(t *testing.T) {
	checkNumber(t, "MaxScript", impl.MaxScript, 600)
}

// TestCommandTalks runs the scripts that are written out, whole and up to each line.
func TestCommandTalks(t *testing.T) {
	for _, s := range talks() {
		lines, want := []string{}, []string{}
		for _, a := range s.asked {
			lines, want = append(lines, a.line), append(want, a.told)
			got := told(t, lines...)
			if !slices.Equal(got[:len(lines)], want) {
				t.Fatalf("Execute(%q) told %q instead of %q and the last line", scriptOf(lines...), got, want)
			}
		}
		checkTold(t, lines, append(want, s.last))
	}
}

// TestCommandScripts holds scripts of all kinds, also those that end within a line, against the clerk.
func TestCommandScripts(t *testing.T) {
	random := newRandom()
	for _, lines := range sampleScripts() {
		script := scriptOf(lines...)
		checkExecute(t, script, wantOutput(script))
		part := script[:random.Intn(len(script)+1)]
		checkExecute(t, part, wantOutput(part))
	}
}

// TestCommandShort holds all short rows of words, spaces and newlines against the clerk.
func TestCommandShort(t *testing.T) {
	parts := []string{"\n", " ", "lift", "stow", "signal", "0", "1", "a", "-"}
	for size := range 6 {
		for _, row := range rowsOf(len(parts), size) {
			script := ""
			for _, k := range row {
				script += parts[k]
			}
			checkExecute(t, script+"\n", wantOutput(script+"\n"))
		}
	}
}

// TestCommandAgain runs scripts one behind the other, with others between: nothing is kept from one to the next.
func TestCommandAgain(t *testing.T) {
	for _, lines := range desks() {
		script := scriptOf(append(lines, looks()...)...)
		first := impl.Execute(script)
		for _, other := range desks() {
			impl.Execute(scriptOf(other...))
			checkExecute(t, "", nothing+"\n")
			checkExecute(t, script, first)
		}
	}
}

func TestPromise105Execute(t *testing.T) {
	checkExecute(t, "", nothing+"\n")
	for _, lines := range sampleScripts() {
		script := scriptOf(lines...)
		output := impl.Execute(script)
		checkHolds(t, fmt.Sprintf("Execute(%q) is not empty", script), strings.HasSuffix(output, "\n"), true)
		for _, rest := range []string{"x", " ", "section 1 0 1", "spare 1 0", "route 0 0 1 1", "cable", "lift", "stow", "what", "\r", "\x00"} {
			checkExecute(t, script+rest, output)
		}
	}
}

// TestPromise105ExecuteEdges has scripts of MaxScript bytes and of one byte less and more.
func TestPromise105ExecuteEdges(t *testing.T) {
	for _, lines := range [][]string{{}, {"cable"}, desk(), append(desk(), looks()...), append(fullDesk(), looks()...)} {
		script := scriptOf(lines...)
		output := impl.Execute(script)
		for _, rest := range []string{"x", " ", "0", "\x00", "\xff", "\t"} {
			behind := script + strings.Repeat(rest, 600-len(script))
			checkExecute(t, behind[:599], output)
			checkExecute(t, behind, output)
			checkExecute(t, behind+"\n", "too long\n")
			checkTold(t, append(slices.Clone(lines), behind[len(script):599]), slices.Insert(told(t, lines...), len(lines), "what"))
			for _, more := range []int{1, 2, 10, 256, 600, 100000} {
				checkExecute(t, behind+strings.Repeat(rest, more), "too long\n")
			}
		}
	}
	checkExecute(t, strings.Repeat("\n", 600), strings.Repeat("what\n", 600)+nothing+"\n")
	checkExecute(t, strings.Repeat("\n", 601), "too long\n")
	checkExecute(t, strings.Repeat("lift\n", 120), strings.Repeat("\n", 120)+nothing+"\n")
	checkExecute(t, strings.Repeat("lift\n", 120)+"l", "too long\n")
	checkExecute(t, strings.Repeat("\u00e9", 299)+"\n", "what\n"+nothing+"\n")
	checkExecute(t, strings.Repeat("\u00e9", 300), nothing+"\n")
	checkExecute(t, strings.Repeat("\u00e9", 300)+"\n", "too long\n")
}

// TestPromise105ExecuteUnended has lines that are ignored, since they do not end.
func TestPromise105ExecuteUnended(t *testing.T) {
	for _, a := range goodLines() {
		checkExecute(t, a.line, nothing+"\n")
		checkExecute(t, "\n"+a.line, "what\n"+nothing+"\n")
		for _, lines := range desks() {
			output := impl.Execute(scriptOf(lines...))
			for part := range a.line {
				checkExecute(t, scriptOf(lines...)+a.line[:part], output)
			}
			checkExecute(t, scriptOf(lines...)+a.line, output)
			checkExecute(t, scriptOf(lines...)+a.line+"\r", output)
		}
	}
}

// checkInserted fails unless a script with lines behind it tells the same as before, what is wanted for these, and the same last line.
func checkInserted(t *testing.T, lines []string, behind []string, want ...string) {
	t.Helper()
	without := told(t, lines...)
	checkTold(t, slices.Concat(lines, behind), slices.Insert(without, len(lines), want...))
}

func TestPromise106Execute(t *testing.T) {
	for _, lines := range sampleScripts() {
		checkInserted(t, lines, []string{"zzz", "route 1 1 1 1"}, "what", "no")
	}
}

// TestPromise106ExecuteEdges has what fails or is malformed behind all desks.
func TestPromise106ExecuteEdges(t *testing.T) {
	for _, lines := range desks() {
		for _, line := range []string{"zzz", "", " ", "  ", "cabl", "cables", "ccable", "able", "cable cable", "section", "spare", "route", "joint", "fault", "find", "signal", "read", "sections 1 0 1", "spares 1 0", "routes 0 0 1 1", "ok", "no", "what", "too long", "sections 0 spares 0 routes 0", "0", "1 2 3", "execute", "lift,", "#", "stow0", "stows 0", "section,1,0,1", "spare;1;0"} {
			checkChangesNothing(t, lines, line, "what")
		}
		for _, line := range []string{"route 1 1 1 1", "route 0 0 0 0", "route 20 20 20 20", "section 0 0 0", "section 0 0 1", "section 1 0 0", "section 51 0 1", "section 1 4 1", "section 1 0 21", "section 9999 9999 9999", "section 256 0 1", "section 1 256 1", "section 1 0 256", "spare 0 0", "spare 51 0", "spare 1 4", "spare 257 0", "spare 1 256", "route 21 0 1 1", "route 0 21 1 1", "route 0 0 21 1", "route 0 0 1 21", "route 256 0 1 1", "fault 400 0", "fault 0 1001", "find 9999 0", "find 0 9999", "joint 0 0", "joint 4 1", "joint 0 501", "joint 2 56", "stow 1", "stow 0 0", "stow 0 2", "stow 9999", "stow 0 1 2 3 4 5", "stow 0 1 2 3 4 5 6 7 8 9 10", "signal A", "signal abcdefghijklm", "signal -", "read a", "read 0", "read -0", "read 0-", "read -----", "read " + strings.Repeat("-", 81), "read " + strings.Repeat("-0", 12) + "-"} {
			checkChangesNothing(t, lines, line, "no")
		}
	}
}

// TestPromise106ExecuteTooMany puts down one thing more than there can be, and what there is room for behind it.
func TestPromise106ExecuteTooMany(t *testing.T) {
	for _, line := range []string{"section 1 0 1", "section 50 3 20", "spare 1 0", "spare 50 3", "route 0 0 1 1", "route 0 20 20 0"} {
		checkChangesNothing(t, fullDesk(), line, "no")
	}
	sections, spares, routes := slices.Repeat([]string{"section 1 0 1"}, 9), slices.Repeat([]string{"spare 1 0"}, 11), slices.Repeat([]string{"route 0 0 1 1"}, 9)
	checkTold(t, slices.Concat(sections, spares, routes), slices.Concat(slices.Repeat([]string{"ok"}, 8), []string{"no"}, slices.Repeat([]string{"ok"}, 10), []string{"no"}, slices.Repeat([]string{"ok"}, 8), []string{"no", lastLine(8, 10, 8)}))
	checkTold(t, slices.Concat(sections, spares[:1]), slices.Concat(slices.Repeat([]string{"ok"}, 8), []string{"no", "ok", lastLine(8, 1, 0)}))
}

// TestPromise106ExecuteFailing has each thing fail at each place among others that do not.
func TestPromise106ExecuteFailing(t *testing.T) {
	checkFailsAnywhere(t, sectionLines(fullCable()), "section 0 0 1", "section 1 4 1", "section 1 0 0", "section x 0 1", "section 1 x 1", "section 1 0 x")
	checkFailsAnywhere(t, spareLines(depot()), "spare 0 0", "spare 1 4", "spare x 0", "spare 1 x")
	checkFailsAnywhere(t, routeLines(starChart()), "route 21 0 1 1", "route 0 21 1 1", "route 0 0 21 1", "route 0 0 1 21", "route 3 4 3 4", "route x 0 1 1", "route 0 x 1 1", "route 0 0 x 1", "route 0 0 1 x")
}

// checkFailsAnywhere fails unless each line that is wrong fails at each place among others, and these tell the same as without it.
func checkFailsAnywhere(t *testing.T, lines []string, wrong ...string) {
	t.Helper()
	lines = append(lines, "cable", "joint 0 10", "joint 1 5", "lift")
	without := told(t, lines...)
	for place := range lines {
		for _, line := range wrong {
			checkTold(t, slices.Insert(slices.Clone(lines), place, line), slices.Insert(slices.Clone(without), place, "no"))
		}
	}
}

func TestPromise107Execute(t *testing.T) {
	for _, lines := range sampleScripts() {
		got := told(t, append(slices.Clone(lines), "lift", "lift")...)
		without := told(t, lines...)
		lift := got[len(lines)]
		checkText(t, fmt.Sprintf("the second lift behind %q", lines), got[len(lines)+1], lift)
		checkTold(t, append(slices.Clone(lines), "lift", "lift"), slices.Insert(without, len(lines), lift, lift))
	}
}

// TestPromise107ExecuteEdges asks each thing twice, and once more when something is put down.
func TestPromise107ExecuteEdges(t *testing.T) {
	checkTold(t, []string{"lift", "lift"}, []string{"", "", nothing})
	for _, lines := range desks() {
		asked := append(looks(), "stow 2 0 3 1", "stow", "signal abc", "read -0+", "signal ", "read ")
		for _, line := range asked {
			tells := told(t, append(slices.Clone(lines), line)...)[len(lines)]
			checkChangesNothing(t, lines, line, tells)
			checkInserted(t, lines, []string{line, line}, tells, tells)
		}
	}
}

func TestPromise108Execute(t *testing.T) {
	for _, cable := range sampleCables() {
		oks := slices.Repeat([]string{"ok"}, len(cable))
		for _, l := range sampleLeaks(cable) {
			a, b := l.up+l.ohms, l.rest+l.ohms
			lines := append(sectionLines(cable), fmt.Sprintf("fault %d %d", l.mile, l.ohms), fmt.Sprintf("find %d %d", a, b))
			want := append(slices.Clone(oks), fmt.Sprint(a, b), fmt.Sprint(l.mile, l.ohms), lastLine(len(cable), 0, 0))
			checkTold(t, lines, want)
		}
		checkTold(t, append(sectionLines(cable), "cable"), append(oks, impl.CableText(cable), lastLine(len(cable), 0, 0)))
	}
}

// TestPromise108ExecuteInvalid has faults and balances of which there are none.
func TestPromise108ExecuteInvalid(t *testing.T) {
	for _, cable := range edgeCables() {
		all := len(milesOf(cable))
		ohms := impl.CableAll(cable)
		lines := sectionLines(cable)
		for _, n := range [][]int{{all + 1, 0}, {all + 1, 1001}, {0, 1001}, {all, 1001}, {9999, 0}, {0, 9999}} {
			checkInserted(t, lines, []string{fmt.Sprintf("fault %d %d", n[0], n[1])}, "no")
		}
		for _, n := range [][]int{{0, ohms + 1}, {0, ohms - 1}, {ohms + 1, 0}, {1001, ohms + 1001}, {ohms + 1001, 1001}, {9999, 9999}} {
			if _, ok := wantFind(cable, n[0], n[1]); !ok {
				checkInserted(t, lines, []string{fmt.Sprintf("find %d %d", n[0], n[1])}, "no")
			}
		}
	}
}

// checkNothingPut fails unless lines all fail, alone and behind those of each desk.
func checkNothingPut(t *testing.T, bad []string) {
	t.Helper()
	for _, line := range bad {
		for _, lines := range desks() {
			checkChangesNothing(t, lines, line, "no")
		}
	}
}

func TestPromise108ExecuteInvalidSections(t *testing.T) {
	checkNothingPut(t, sectionLines(badSections()))
}

func TestPromise109Execute(t *testing.T) {
	eachJoint(func(list []impl.Spare, kind int, miles int, joint []int) {
		line, want := fmt.Sprintf("joint %d %d", kind, miles), "no"
		if joint != nil {
			want = spaced(joint)
		}
		oks := slices.Repeat([]string{"ok"}, len(list))
		checkTold(t, append(spareLines(list), line), append(oks, want, lastLine(0, len(list), 0)))
	})
}

func TestPromise109ExecuteInvalid(t *testing.T) {
	checkNothingPut(t, spareLines(badLengths()))
}

func TestPromise110Execute(t *testing.T) {
	for _, orders := range sampleOrders() {
		want := "no"
		if tanks, ok := wantMake(orders); ok {
			want = spaced(tanks)
		}
		checkTold(t, []string{stowLine(orders)}, []string{want, nothing})
		checkTold(t, append(desk(), stowLine(orders)), append(slices.Repeat([]string{"ok"}, 7), want, lastLine(2, 3, 2)))
	}
}

func TestPromise110ExecuteInvalid(t *testing.T) {
	for _, orders := range badOrders() {
		if line := stowLine(orders); len(line) < 600 {
			checkTold(t, []string{line}, []string{"no", nothing})
		}
	}
}

func TestPromise111Execute(t *testing.T) {
	for _, chart := range sampleCharts() {
		oks := slices.Repeat([]string{"ok"}, len(chart))
		checkTold(t, append(routeLines(chart), "lift"), append(oks, spaced(mustFirst(t, chart)), lastLine(0, 0, len(chart))))
	}
	for _, l := range layouts() {
		checkText(t, "lift of "+l.name, told(t, append(routeLines(l.chart), "lift")...)[len(l.chart)], spaced(l.first))
	}
}

func TestPromise111ExecuteInvalid(t *testing.T) {
	checkNothingPut(t, routeLines(badRoutes()))
}

func TestPromise112Execute(t *testing.T) {
	for _, message := range sampleMessages() {
		signal := wantSignal(message)
		checkTold(t, []string{"signal " + message, "read " + signal}, []string{signal, message, nothing})
	}
	for _, signal := range append(edgeSignals(), signalsUpTo(6)...) {
		want := "no"
		if message, ok := wantRead(signal); ok {
			want = message
		}
		checkTold(t, []string{"read " + signal}, []string{want, nothing})
	}
}

// TestPromise112ExecuteInvalid has words that are no messages or no signals.
func TestPromise112ExecuteInvalid(t *testing.T) {
	for _, word := range badMessages() {
		checkNoWord(t, "signal", word)
	}
	for _, word := range append(badSignals(), longSignals()...) {
		if _, ok := wantRead(word); !ok {
			checkNoWord(t, "read", word)
		}
	}
}

// checkNoWord fails unless a line with a word fails, or is too long for a script. If the word is two words or two lines, the answer is the clerk's.
func checkNoWord(t *testing.T, name string, word string) {
	t.Helper()
	script := name + " " + word + "\n"
	switch {
	case len(script) > 600:
		checkExecute(t, script, "too long\n")
	case strings.ContainsAny(word, " \n"):
		checkExecute(t, script, wantOutput(script))
	default:
		checkExecute(t, script, "no\n"+nothing+"\n")
	}
}

// TestPromises105To112ExecuteWords has each kind of line with another first word: an empty one ahead, capital letters, and a letter more or fewer.
func TestPromises105To112ExecuteWords(t *testing.T) {
	for _, a := range goodLines() {
		checkText(t, a.line, told(t, append(desk(), a.line)...)[len(desk())], a.told)
		first, rest, _ := strings.Cut(a.line+" ", " ")
		last := len(first) - 1
		for _, other := range []string{" " + first, "  " + first, "\t" + first, strings.ToUpper(first), strings.ToUpper(first[:1]) + first[1:], first[:last] + strings.ToUpper(first[last:]), first[1:], first[:last], first + "s", first + first[last:]} {
			checkChangesNothing(t, desk(), strings.TrimSuffix(other+" "+rest, " "), "what")
		}
	}
}

// TestPromises105To112ExecuteCounts has each kind of line but stow with other numbers of words, also of empty ones.
func TestPromises105To112ExecuteCounts(t *testing.T) {
	for _, a := range goodLines() {
		words := strings.Split(a.line, " ")
		if words[0] == "stow" {
			continue
		}
		for _, word := range []string{"1", "", "a", "-"} {
			for many := range 9 {
				if many+1 != len(words) {
					checkChangesNothing(t, desk(), words[0]+strings.Repeat(" "+word, many), "what")
				}
			}
			for k := range words {
				checkChangesNothing(t, desk(), strings.Join(slices.Insert(slices.Clone(words), k+1, word), " "), "what")
			}
		}
		for k := 1; k < len(words); k++ {
			checkChangesNothing(t, desk(), strings.Join(slices.Delete(slices.Clone(words), k, k+1), " "), "what")
		}
	}
}

// TestPromise110ExecuteWords has orders of no words, of empty ones, and with zeros ahead.
func TestPromise110ExecuteWords(t *testing.T) {
	for _, a := range []ask{{"stow", ""}, {"stow ", "no"}, {"stow  ", "no"}, {"stow 0 ", "no"}, {"stow  0", "no"}, {"stow 1  0", "no"}, {"stow 1 0 ", "no"}, {"stow 01 00 0002", "0 0 1"}, {"stow 0001 000", "0 0"}, {"stow 00000", "no"}, {"stow 1 0 00002", "no"}} {
		checkChangesNothing(t, desk(), a.line, a.told)
	}
}

// badNumbers are words that are no numbers, though each has a number in it.
func badNumbers(number string) []string {
	digits := fmt.Sprintf("%04s", number)
	return []string{
		"0" + digits, "00000000" + digits, strings.Repeat("0", 250) + number, "+" + number, "-" + number, number + "-", number + "+", "x" + number, number + "x", "x", "-", "", number + ".", "." + number, number + ".0", number + ",", "0x" + number, "0b" + number, "0o" + number, number + "e0", "_" + number, "0_" + number,
		"\t" + number, number + "\t", number + "\r", "\r" + number, number + "\x00", "\x00" + number, "\xff" + number, number + "\xff", number + "\u00a0", "\u0660", "\u0661", "\uff11", "\u00b2", "/", ":", number + "/", number + ":", string([]byte{'0' + 128}), "a", "one", "00+" + number, "#", "'" + number + "'", "(" + number + ")",
	}
}

// TestPromises108To111ExecuteNumbers has a number of each line written in other ways, and words that are no numbers in its place.
func TestPromises108To111ExecuteNumbers(t *testing.T) {
	for _, a := range goodLines() {
		words := strings.Split(a.line, " ")
		if words[0] == "signal" || words[0] == "read" {
			continue
		}
		want := told(t, slices.Concat(desk(), []string{a.line}, looks())...)
		for k := 1; k < len(words); k++ {
			changed := slices.Clone(words)
			for zeros := range 4 - len(words[k]) {
				changed[k] = strings.Repeat("0", zeros+1) + words[k]
				checkTold(t, slices.Concat(desk(), []string{strings.Join(changed, " ")}, looks()), want)
			}
			for _, word := range badNumbers(words[k]) {
				changed[k] = word
				checkChangesNothing(t, desk(), strings.Join(changed, " "), "no")
			}
		}
	}
}

// TestPromise108ExecuteZeros has numbers that are 0, which other words are not.
func TestPromise108ExecuteZeros(t *testing.T) {
	for _, zero := range []string{"0", "00", "000", "0000"} {
		checkTold(t, []string{"section 5 " + zero + " 2", "fault " + zero + " " + zero, "find " + zero + " 10", "find 10 " + zero, "spare 3 " + zero, "joint " + zero + " 3", "stow " + zero, "route " + zero + " " + zero + " " + zero + " 1"}, []string{"ok", "0 10", "0 0", "5 0", "ok", "0", "0", "ok", lastLine(1, 1, 1)})
	}
	for _, word := range []string{"", "x", "-0", "+0", "00000", "0x", "0.", "\x00"} {
		lines := []string{"section 5 0 2", "spare 3 0"}
		checkInserted(t, lines, []string{"section 5 " + word + " 2", "fault " + word + " 0", "fault 0 " + word, "find " + word + " 10", "find 10 " + word, "spare 3 " + word, "joint " + word + " 3", "stow " + word, "route " + word + " 0 0 1", "route 0 " + word + " 0 1", "route 0 1 " + word + " 0", "route 0 1 0 " + word}, slices.Repeat([]string{"no"}, 12)...)
	}
}

// TestPromises105To112ExecuteInvalid has scripts with each byte, alone and within words.
func TestPromises105To112ExecuteInvalid(t *testing.T) {
	for letter := range 256 {
		one := string([]byte{byte(letter)})
		if one == "\n" {
			continue
		}
		checkExecute(t, one, nothing+"\n")
		for _, line := range []string{one, one + one, one + "cable", one + "lift", one + "stow", "cable" + one, "lift" + one, "ca" + one + "ble", "li" + one + "ft", "cable" + one + "cable"} {
			checkChangesNothing(t, desk(), line, "what")
		}
		for _, line := range []string{"stow" + one, "stow " + one, "signal" + one, "signal " + one, "read" + one, "read " + one, "signal " + one + "a", "read -" + one, "signal" + one + "a", "spare 1" + one + "0", "spare 1 " + one, "joint 0" + one + " 5", "section" + one + "1" + one + "0" + one + "1"} {
			script := scriptOf(append(desk(), line)...)
			checkExecute(t, script, wantOutput(script))
		}
	}
	for _, line := range []string{"cable\r", "lift\r", "stow\r", "signal\ta", "read\t-", "section\t1\t0\t1", "spare 1\t0", "route 0 0 1\u00a01", "\ufeffcable", "\ufefflift", "c\u0430ble", "lift\u2028", "lift\x00", "\x00", "\x00\x00", "lift\v", "lift\f", "lift\x85"} {
		checkChangesNothing(t, desk(), line, "what")
	}
	for _, line := range []string{"stow 0\r", "signal a\r", "read -\r", "spare 1 0\r", "route 0 0 1 1\r", "joint 0 5\r", "fault 4 6\r", "section 1 0 1\r", "find 18 44\r"} {
		checkChangesNothing(t, desk(), line, "no")
	}
}

// TestPromises105To112Bytes holds random bytes, most of them ones that matter, against the clerk.
func TestPromises105To112Bytes(t *testing.T) {
	random := newRandom()
	letters := "\n\n  01+-abcltow\x00\t\r\xff\xc3\xa9"
	for range 3000 {
		script := []byte(scriptOf("section 10 0 3", "spare 8 0", "route 0 2 6 2"))
		for range random.Intn(60) {
			script = append(script, letters[random.Intn(len(letters))])
		}
		for range random.Intn(4) {
			script[random.Intn(len(script))] = letters[random.Intn(len(letters))]
		}
		checkExecute(t, string(script), wantOutput(string(script)))
	}
}
