package tests

import (
	"fmt"
	"math/rand"
	"slices"
	"strconv"
	"strings"
	"testing"

	"loop.example/cableship/impl"
)

// The tests of chapter 8 hold the program against codes that are written out, all messages of short signals, and letters that are read one by one.

const letters = "abcdefghijklmnopqrstuvwxyz"

// codeList has the codes of all letters, in their order.
func codeList() []string {
	return []string{
		"-", "+",
		"--", "-+", "+-", "++",
		"---", "--+", "-+-", "-++", "+--", "+-+", "++-", "+++",
		"----", "---+", "--+-", "--++", "-+--", "-+-+", "-++-", "-+++", "+---", "+--+", "+-+-", "+-++",
	}
}

// wantSignal returns the signal of a message.
func wantSignal(text string) string {
	codes := []string{}
	for _, letter := range text {
		codes = append(codes, codeList()[strings.IndexRune(letters, letter)])
	}
	return strings.Join(codes, "0")
}

// wantRead takes letter by letter from a signal, and returns its message, or false if it has none.
func wantRead(signal string) (string, bool) {
	if signal == "" {
		return "", true
	}
	text := ""
	for rest := signal + "0"; rest != ""; {
		letter := slices.IndexFunc(codeList(), func(code string) bool { return strings.HasPrefix(rest, code+"0") })
		if letter < 0 || len(text) == 12 {
			return "", false
		}
		text += letters[letter : letter+1]
		rest = rest[len(codeList()[letter])+1:]
	}
	return text, true
}

// messagesOf are all messages whose signal has so many pulses, by this signal.
func messagesOf(pulses int) map[string]string {
	all := map[string]string{}
	if pulses == 0 {
		all[""] = ""
	}
	for k, code := range codeList() {
		letter := letters[k : k+1]
		if len(code) == pulses {
			all[code] = letter
		}
		if rest := pulses - len(code) - 1; rest > 0 {
			for signal, text := range messagesOf(rest) {
				all[code+"0"+signal] = letter + text
			}
		}
	}
	return all
}

// signalsOf are all signals of so many pulses.
func signalsOf(pulses int) []string {
	all := []string{}
	for _, row := range rowsOf(3, pulses) {
		signal := ""
		for _, pulse := range row {
			signal += "-+0"[pulse : pulse+1]
		}
		all = append(all, signal)
	}
	return all
}

// signalsUpTo are all signals of at most so many pulses.
func signalsUpTo(most int) []string {
	all := []string{}
	for pulses := 0; pulses <= most; pulses++ {
		all = append(all, signalsOf(pulses)...)
	}
	return all
}

// edgeMessages are messages at the document's limits: without letters, of one letter, of TextMax letters or one less, with the shortest and the longest signal.
func edgeMessages() []string {
	return []string{
		"", "a", "b", "c", "f", "g", "n", "o", "z", "aa", "ab", "ba", "az", "za", "zz", "abc", "xyz", "cable", "ship", "repair", letters[:12], letters[7:19], letters[13:25], letters[14:],
		strings.Repeat("a", 11), strings.Repeat("a", 12), strings.Repeat("b", 12), strings.Repeat("z", 11), strings.Repeat("z", 12), strings.Repeat("o", 12), strings.Repeat("az", 6), strings.Repeat("fn", 6), "a" + strings.Repeat("z", 11), strings.Repeat("z", 11) + "a",
	}
}

// randomText has so many random letters, of the first ones only.
func randomText(random *rand.Rand, size int, first int) string {
	text := ""
	for range size {
		letter := random.Intn(first)
		text += letters[letter : letter+1]
	}
	return text
}

// sampleMessages are the edge messages, all of one or two letters, and random ones.
func sampleMessages() []string {
	list := edgeMessages()
	for a := range letters {
		list = append(list, letters[a:a+1])
		for b := range letters {
			list = append(list, letters[a:a+1]+letters[b:b+1])
		}
	}
	random := newRandom()
	for size := 3; size <= 12; size++ {
		for range 20 {
			list = append(list, randomText(random, size, 26), randomText(random, size, 6))
		}
	}
	return list
}

// badMessages are texts that are no messages.
func badMessages() []string {
	bad := []string{
		strings.Repeat("a", 13), strings.Repeat("z", 13), letters[:13], letters, strings.Repeat("a", 14), strings.Repeat("a", 24), strings.Repeat("z", 80), strings.Repeat("a", 256), strings.Repeat("a", 268), strings.Repeat("b", 100000),
		strings.Repeat("a", 12) + " ", strings.Repeat("a", 11) + "A", "A" + strings.Repeat("a", 11), strings.Repeat("a", 12) + "\n", "a b", "a,b", "ab ", " ab", "aBc", "ABC", "-", "+", "0", "-0+", "a0b", "a-b", "\u00e9", "caf\u00e9", "\u00e4a", "a\u0308", "\u0430", "\uff41", "a\ufeff", "\u0131", "\u212a",
	}
	for letter := range 256 {
		one := string([]byte{byte(letter)})
		if !strings.Contains(letters, one) {
			bad = append(bad, one, one+"a", "z"+one, "mn"+one+"op")
		}
	}
	return bad
}

// edgeSignals are signals at the document's limits: without pulses, of one pulse, of PulsesMax pulses or one less, of one pulse alone, with a 0 at the beginning, at the end and beside another, with groups that are no codes, with drifts that fall below 0 and rise again, and with 12 and 13 letters.
func edgeSignals() []string {
	list := []string{
		"", "-", "+", "0", "00", "000", "0-", "0+", "-0", "+0", "0-0", "-0+", "-00+", "0-+", "+-0", "-0+0", "0+0-", "--", "++", "-+", "+-", "+-++", "++--", "++-+", "+++-", "++++", "+-++0-", "-0++--", "++++0-", "-0++-+0-", "+++-0+-++",
		"-----", "+++++", "-+-+-", "+-++-", "+-+++", "-----0-", "-0+++++", "------", "++--++", "--++", "-++", "--+++", "++--", "-++-", "++---++", "--++++--", "-0-0+0+0+", "+0--0++0-",
		"-0-0-0-0-0-0-0-0-0-0-0-", "-0-0-0-0-0-0-0-0-0-0-0-0-", "-0-0-0-0-0-0-0-0-0-0-0-0", "0-0-0-0-0-0-0-0-0-0-0-0-",
		strings.Repeat("-0", 40), strings.Repeat("0-", 40), strings.Repeat("+-", 40), strings.Repeat("-+", 40), strings.Repeat("--++", 20), strings.Repeat("+-++0", 16), strings.Repeat("-+0", 26),
		strings.Repeat("-", 40) + strings.Repeat("+", 40), strings.Repeat("+", 40) + strings.Repeat("-", 40), strings.Repeat("-", 20) + strings.Repeat("+", 40) + strings.Repeat("-", 20), strings.Repeat("0", 79) + "+", "-" + strings.Repeat("0", 79), strings.Repeat("-", 26) + strings.Repeat("+", 54),
		strings.Repeat("+-++0", 11) + "+-++", strings.Repeat("+-++0", 12), strings.Repeat("+-++0", 12) + "+-++", strings.Repeat("----0", 11) + "----", strings.Repeat("-0", 39) + "-",
	}
	for _, pulse := range []string{"-", "+", "0"} {
		for _, many := range []int{9, 10, 39, 40, 59, 60, 79, 80} {
			list = append(list, strings.Repeat(pulse, many))
		}
	}
	return list
}

// randomSignal has so many random pulses, of which about so many of ten are 0.
func randomSignal(random *rand.Rand, pulses int, gaps int) string {
	signal := ""
	for range pulses {
		if random.Intn(10) < gaps {
			signal += "0"
		} else {
			pulse := random.Intn(2)
			signal += "-+"[pulse : pulse+1]
		}
	}
	return signal
}

// replaced returns a signal with another pulse in a place.
func replaced(signal string, place int, pulse string) string {
	return signal[:place] + pulse + signal[place+1:]
}

// oneError are all signals that one error makes of a signal.
func oneError(signal string) []string {
	list := []string{}
	for place := range len(signal) {
		for _, pulse := range []string{"-", "+", "0"} {
			if signal[place:place+1] != pulse {
				list = append(list, replaced(signal, place, pulse))
			}
		}
	}
	return list
}

// longSignals are the edge signals, those of the edge messages, some with errors, and random ones of up to the most pulses.
func longSignals() []string {
	list := edgeSignals()
	random := newRandom()
	for _, text := range edgeMessages() {
		signal := wantSignal(text)
		list = append(list, signal)
		if text != "" {
			wrong := oneError(signal)
			list = append(list, wrong[random.Intn(len(wrong))], wrong[random.Intn(len(wrong))], wrong[0], wrong[len(wrong)-1])
		}
	}
	for size := 2; size <= 12; size++ {
		for range 10 {
			list = append(list, wantSignal(randomText(random, size, 26)))
		}
	}
	for pulses := 6; pulses <= 80; pulses++ {
		list = append(list, randomSignal(random, pulses, 0), randomSignal(random, pulses, 2), randomSignal(random, pulses, 4))
	}
	return list
}

// sampleSignals are the long signals and all of a few pulses.
func sampleSignals() []string {
	return append(signalsUpTo(6), longSignals()...)
}

// badSignals are texts that are no signals.
func badSignals() []string {
	bad := []string{
		"a", "abc", "- ", " -", "-\n", "-0+\n", "1", "10", "-1+", "o", "O", "-O+", "_", "=", "--x", "+-++z", "\u2212", "\u2013", "\uff0b", "\uff10", "-\uff0d", "\u06600", "+\u0300", "\ufeff-", "-\x000",
		strings.Repeat("-", 79) + "x", "x" + strings.Repeat("+", 79), strings.Repeat("0", 40) + " " + strings.Repeat("0", 39), strings.Repeat("+-", 40) + "0", "0" + strings.Repeat("+-", 40), strings.Repeat("-0", 40) + "-", strings.Repeat("+-++0", 16) + "+-++", strings.Repeat("-", 80) + "x", strings.Repeat("x", 81),
	}
	for _, pulse := range []string{"-", "+", "0"} {
		for _, many := range []int{81, 82, 83, 160, 161, 256, 257, 336, 1000, 100000} {
			bad = append(bad, strings.Repeat(pulse, many))
		}
	}
	for letter := range 256 {
		one := string([]byte{byte(letter)})
		if !strings.Contains("-+0", one) {
			bad = append(bad, one, one+"-", "+"+one, "-0"+one+"+", "0"+one+"0")
		}
	}
	return bad
}

// driftOf returns the drift of a signal at its end.
func driftOf(signal string) int {
	drift := 0
	for _, pulse := range signal {
		switch pulse {
		case '+':
			drift++
		case '-':
			drift--
		}
	}
	return drift
}

// driftsOf returns the drift behind each pulse of a signal.
func driftsOf(signal string) []int {
	drifts := []int{}
	for place := range len(signal) {
		drifts = append(drifts, driftOf(signal[:place+1]))
	}
	return drifts
}

// wantWide tries all parts of a signal: the greatest drift of one, up or down, is what its drifts differ by.
func wantWide(signal string) int {
	wide := 0
	for end := range len(signal) + 1 {
		for begin := range end {
			drift := driftOf(signal[begin:end])
			wide = max(wide, drift, -drift)
		}
	}
	return wide
}

// notZero returns the number of pulses of a signal that are not 0.
func notZero(signal string) int {
	return len(signal) - strings.Count(signal, "0")
}

// wantFar returns the number of places at which two signals of as many pulses differ.
func wantFar(a string, b string) int {
	far := 0
	for place := range len(a) {
		if a[place:place+1] != b[place:place+1] {
			far++
		}
	}
	return far
}

// errorOf returns by which error a signal differs from another one: its place and the number of the pulse of the other one in the order in which errors are told.
func errorOf(signal string, sent string) []int {
	for place := range len(signal) {
		if signal[place] != sent[place] {
			return []int{place, strings.IndexByte("-+0", sent[place])}
		}
	}
	return nil
}

// wantErrors are all messages of some, by their signals, that are one error away from a signal, in order.
func wantErrors(signal string, messages map[string]string) []string {
	sent := []string{}
	for other := range messages {
		if wantFar(signal, other) == 1 {
			sent = append(sent, other)
		}
	}
	slices.SortFunc(sent, func(a string, b string) int { return slices.Compare(errorOf(signal, a), errorOf(signal, b)) })
	list := []string{}
	for _, other := range sent {
		list = append(list, messages[other])
	}
	return list
}

// readableNear are all messages that can be read of a signal with one error, by their signals.
func readableNear(signal string) map[string]string {
	near := map[string]string{}
	for _, sent := range oneError(signal) {
		if text, ok := wantRead(sent); ok {
			near[sent] = text
		}
	}
	return near
}

// wantVote counts at each place of three signals how many of them have each pulse.
func wantVote(a string, b string, c string) string {
	voted := ""
	for place := range len(a) {
		all := a[place:place+1] + b[place:place+1] + c[place:place+1]
		most := "0"
		for _, pulse := range []string{"-", "+"} {
			if strings.Count(all, pulse) >= 2 {
				most = pulse
			}
		}
		voted += most
	}
	return voted
}

// wantLetters counts the messages of each number of letters of which the signal has so many pulses.
func wantLetters(n int) int {
	many := 0
	rows := map[int]int{-1: 1} // for each number of pulses, the rows of letters with it; a letter has a 0 ahead, but for the first one
	for range 12 {
		longer := map[int]int{}
		for pulses, count := range rows {
			for _, code := range codeList() {
				longer[pulses+1+len(code)] += count
			}
		}
		rows = longer
		many += rows[n]
	}
	return many
}

// checkTextOf fails unless a call succeeded with a text.
func checkTextOf(t *testing.T, call string, got string, ok bool, want string) {
	t.Helper()
	if !ok || got != want {
		t.Fatalf("%s returned %q, %v instead of %q, true", call, got, ok, want)
	}
}

// checkNoText fails unless a call returned the empty text and false.
func checkNoText(t *testing.T, call string, got string, ok bool) {
	t.Helper()
	if ok || got != "" {
		t.Fatalf("%s returned %q, %v instead of the empty text and false", call, got, ok)
	}
}

// checkTexts fails unless a call succeeded with texts.
func checkTexts(t *testing.T, call string, got []string, ok bool, want []string) {
	t.Helper()
	if !ok || !slices.Equal(got, want) {
		t.Fatalf("%s returned %q, %v instead of %q, true", call, got, ok, want)
	}
}

// checkNoSignal checks what is said of a text that is no signal.
func checkNoSignal(t *testing.T, signal string) {
	t.Helper()
	call := fmt.Sprintf("(%.90q)", signal)
	checkHolds(t, "SignalValid"+call, impl.SignalValid(signal), false)
	text, ok := impl.SignalRead(signal)
	checkNoText(t, "SignalRead"+call, text, ok)
	drifts, ok := impl.SignalDrift(signal)
	checkFails(t, "SignalDrift"+call, drifts, ok)
	checkNumber(t, "SignalWide"+call, impl.SignalWide(signal), -1)
	back, ok := impl.SignalBack(signal)
	checkNoText(t, "SignalBack"+call, back, ok)
	messages, ok := impl.SignalErrors(signal)
	if ok || len(messages) != 0 {
		t.Fatalf("SignalErrors%s returned %q, %v", call, messages, ok)
	}
	level, ok := impl.SignalLevel(signal)
	checkNoText(t, "SignalLevel"+call, level, ok)
	for _, other := range []string{signal, strings.Repeat("-", len(signal)), strings.Repeat("0", len(signal)), "", "+"} {
		checkNotFar(t, signal, other)
		checkNoVote(t, signal, other, other)
		checkNoVote(t, signal, signal, other)
	}
}

// checkNotFar checks what is said of two texts that are no signals of as many pulses.
func checkNotFar(t *testing.T, a string, b string) {
	t.Helper()
	checkNumber(t, fmt.Sprintf("SignalFar(%.90q, %.90q)", a, b), impl.SignalFar(a, b), -1)
	checkNumber(t, fmt.Sprintf("SignalFar(%.90q, %.90q)", b, a), impl.SignalFar(b, a), -1)
}

// checkNoVote checks in each order what is said of three texts that are no signals of as many pulses.
func checkNoVote(t *testing.T, a string, b string, c string) {
	t.Helper()
	for _, row := range plansOf(3) {
		s := []string{a, b, c}
		x, y, z := s[row[0]], s[row[1]], s[row[2]]
		voted, ok := impl.SignalVote(x, y, z)
		checkNoText(t, fmt.Sprintf("SignalVote(%.90q, %.90q, %.90q)", x, y, z), voted, ok)
	}
}

// checkVote checks the vote of three signals in each order.
func checkVote(t *testing.T, a string, b string, c string, want string) {
	t.Helper()
	for _, row := range plansOf(3) {
		s := []string{a, b, c}
		x, y, z := s[row[0]], s[row[1]], s[row[2]]
		voted, ok := impl.SignalVote(x, y, z)
		checkTextOf(t, fmt.Sprintf("SignalVote(%q, %q, %q)", x, y, z), voted, ok, want)
	}
}

// mustTurnPulses returns SignalBack of a signal.
func mustTurnPulses(t *testing.T, signal string) string {
	t.Helper()
	back, ok := impl.SignalBack(signal)
	checkHolds(t, fmt.Sprintf("SignalBack(%q)", signal), ok, true)
	return back
}

// mustDrift returns SignalDrift of a signal.
func mustDrift(t *testing.T, signal string) []int {
	t.Helper()
	drifts, ok := impl.SignalDrift(signal)
	checkHolds(t, fmt.Sprintf("SignalDrift(%q)", signal), ok && len(drifts) == len(signal), true)
	return drifts
}

func TestSignalConstants(t *testing.T) {
	checkNumber(t, "PulsesMax", impl.PulsesMax, 80)
	checkNumber(t, "TextMax", impl.TextMax, 12)
}

// TestPromises82To92Empty checks the empty message and the empty signal, of which no error, drift or vote can be told.
func TestPromises82To92Empty(t *testing.T) {
	checkText(t, "SignalCode of no letter", impl.SignalCode(""), "")
	signal, ok := impl.SignalOf("")
	checkTextOf(t, "SignalOf of no letters", signal, ok, "")
	text, ok := impl.SignalRead("")
	checkTextOf(t, "SignalRead of no pulses", text, ok, "")
	checkHolds(t, "SignalValid of no pulses", impl.SignalValid(""), true)
	drifts, ok := impl.SignalDrift("")
	checkList(t, "SignalDrift of no pulses", drifts, ok, nil)
	checkNumber(t, "SignalWide of no pulses", impl.SignalWide(""), 0)
	back, ok := impl.SignalBack("")
	checkTextOf(t, "SignalBack of no pulses", back, ok, "")
	checkNumber(t, "SignalFar of no pulses", impl.SignalFar("", ""), 0)
	messages, ok := impl.SignalErrors("")
	checkTexts(t, "SignalErrors of no pulses", messages, ok, nil)
	level, ok := impl.SignalLevel("")
	checkTextOf(t, "SignalLevel of no pulses", level, ok, "")
	checkVote(t, "", "", "", "")
	for _, pulse := range []string{"-", "+", "0"} {
		checkNotFar(t, "", pulse)
		checkNoVote(t, "", "", pulse)
		checkNoVote(t, "", pulse, pulse)
	}
}

func TestPromises82To92NoSignal(t *testing.T) {
	for _, signal := range badSignals() {
		checkNoSignal(t, signal)
	}
}

func TestPromise82SignalCode(t *testing.T) {
	lengths := map[int]int{}
	for k := range letters {
		letter := letters[k : k+1]
		call := fmt.Sprintf("SignalCode(%q)", letter)
		got := impl.SignalCode(letter)
		checkText(t, call, got, codeList()[k])
		checkText(t, call, got, strings.NewReplacer("0", "-", "1", "+").Replace(strconv.FormatInt(int64(k+2), 2)[1:]))
		lengths[len(got)]++
		checkNumber(t, "the pulses 0 of "+call, strings.Count(got, "0"), 0)
		read, ok := impl.SignalRead(got)
		checkTextOf(t, "SignalRead of "+call, read, ok, letter)
		back := mustTurnPulses(t, got)
		if other, ok := impl.SignalRead(back); ok && (other == letter || impl.SignalCode(other) != back) {
			t.Fatalf("SignalBack of %s is read as %q", call, other)
		}
	}
	for pulses, want := range []int{0, 2, 4, 8, 12, 0} {
		checkNumber(t, fmt.Sprintf("the number of codes of %d pulses", pulses), lengths[pulses], want)
	}
}

func TestPromise82SignalCodeInvalid(t *testing.T) {
	none := []string{"", "aa", "ab", "az", "zz", "abc", "a ", " a", "a\n", "z\x00", "\x00a", letters, "-", "+", "0", "--", "+-++", "A", "Z", "AA", "`", "{", "@", "[", "1", "9", "\u00e9", "\u00e4", "\u0430", "\uff41", "a\u0301", "\u212a", "\xe1", "\x81", strings.Repeat("a", 257), strings.Repeat("q", 100000)}
	for _, text := range append(none, badMessages()...) {
		checkText(t, fmt.Sprintf("SignalCode(%.90q)", text), impl.SignalCode(text), "")
	}
	for _, text := range sampleMessages() {
		if len(text) != 1 {
			checkText(t, fmt.Sprintf("SignalCode(%q)", text), impl.SignalCode(text), "")
		}
	}
}

func TestPromise83SignalOf(t *testing.T) {
	for _, text := range sampleMessages() {
		call := fmt.Sprintf("SignalOf(%q)", text)
		got, ok := impl.SignalOf(text)
		checkTextOf(t, call, got, ok, wantSignal(text))
		read, ok := impl.SignalRead(got)
		checkTextOf(t, "SignalRead of "+call, read, ok, text)
		checkNumber(t, "the pulses 0 of "+call, strings.Count(got, "0"), max(len(text)-1, 0))
		for size := 1; size < len(text); size++ {
			first, _ := impl.SignalOf(text[:size])
			others, _ := impl.SignalOf(text[size:])
			checkText(t, "the signals of both parts of "+call, first+"0"+others, got)
		}
	}
}

func TestPromise83SignalOfEdges(t *testing.T) {
	for _, c := range []struct {
		text string
		want string
	}{
		{"", ""}, {"a", "-"}, {"b", "+"}, {"c", "--"}, {"f", "++"}, {"g", "---"}, {"n", "+++"}, {"o", "----"}, {"z", "+-++"}, {"aa", "-0-"}, {"ab", "-0+"}, {"ba", "+0-"}, {"abc", "-0+0--"}, {"zaz", "+-++0-0+-++"}, {"ship", "-+--0--+0-+-0---+"},
		{"abcdefghijkl", "-0+0--0-+0+-0++0---0--+0-+-0-++0+--0+-+"}, {"opqrstuvwxyz", "----0---+0--+-0--++0-+--0-+-+0-++-0-+++0+---0+--+0+-+-0+-++"},
		{strings.Repeat("a", 12), "-" + strings.Repeat("0-", 11)}, {strings.Repeat("z", 12), "+-++" + strings.Repeat("0+-++", 11)}, {strings.Repeat("b", 11) + "c", strings.Repeat("+0", 11) + "--"},
	} {
		got, ok := impl.SignalOf(c.text)
		checkTextOf(t, fmt.Sprintf("SignalOf(%q)", c.text), got, ok, c.want)
	}
}

func TestPromise83SignalOfInvalid(t *testing.T) {
	for _, text := range badMessages() {
		got, ok := impl.SignalOf(text)
		checkNoText(t, fmt.Sprintf("SignalOf(%.90q)", text), got, ok)
	}
}

// TestPromise83SignalOfLongest checks that there are no messages whose signal would have PulsesMax pulses or more.
func TestPromise83SignalOfLongest(t *testing.T) {
	longest := 0
	for k := range letters {
		text := strings.Repeat(letters[k:k+1], 12)
		got, ok := impl.SignalOf(text)
		checkTextOf(t, fmt.Sprintf("SignalOf(%q)", text), got, ok, wantSignal(text))
		longest = max(longest, len(got))
	}
	checkNumber(t, "the pulses of the longest signal of a message", longest, 59)
}

func TestPromise84SignalRead(t *testing.T) {
	readable, not := 0, 0
	for _, signal := range sampleSignals() {
		call := fmt.Sprintf("SignalRead(%q)", signal)
		got, ok := impl.SignalRead(signal)
		if want, is := wantRead(signal); is {
			readable++
			checkTextOf(t, call, got, ok, want)
			sent, ok := impl.SignalOf(got)
			checkTextOf(t, "SignalOf of "+call, sent, ok, signal)
		} else {
			not++
			checkNoText(t, call, got, ok)
		}
		for _, wrong := range []string{signal + "0", "0" + signal, signal + "00-", signal + "0-----", signal + "0+++-"} {
			got, ok := impl.SignalRead(wrong)
			checkNoText(t, fmt.Sprintf("SignalRead(%q)", wrong), got, ok)
		}
	}
	if readable < 300 || not < 800 {
		t.Fatalf("%d signals can be read, %d can not", readable, not)
	}
}

// TestPromise84SignalReadAll checks all signals of a few pulses against all messages.
func TestPromise84SignalReadAll(t *testing.T) {
	for pulses := range 9 {
		messages := messagesOf(pulses)
		for _, signal := range signalsOf(pulses) {
			call := fmt.Sprintf("SignalRead(%q)", signal)
			got, ok := impl.SignalRead(signal)
			if want, is := messages[signal]; is {
				checkTextOf(t, call, got, ok, want)
			} else {
				checkNoText(t, call, got, ok)
			}
		}
	}
}

func TestPromise84SignalReadEdges(t *testing.T) {
	for _, c := range []struct {
		signal string
		want   string
		ok     bool
	}{
		{"", "", true}, {"-", "a", true}, {"+", "b", true}, {"0", "", false}, {"00", "", false}, {"0-", "", false}, {"-0", "", false}, {"0-0", "", false}, {"-00-", "", false}, {"-0-", "aa", true}, {"-0+0--", "abc", true}, {"-0+0--0", "", false}, {"0-0+0--", "", false}, {"-0+00--", "", false},
		{"+-++", "z", true}, {"+-+-", "y", true}, {"++--", "", false}, {"++-+", "", false}, {"+++-", "", false}, {"++++", "", false}, {"-0++--", "", false}, {"++--0-", "", false}, {"-0++++0-", "", false}, {"-----", "", false}, {"+++++", "", false}, {"+-++-", "", false}, {"+-+++", "", false}, {"--+-+", "", false}, {"-0-----", "", false}, {"-----0-", "", false}, {"----0+-++", "oz", true}, {"----+-++", "", false},
		{strings.Repeat("-0", 10) + "-", strings.Repeat("a", 11), true}, {strings.Repeat("-0", 11) + "-", strings.Repeat("a", 12), true}, {strings.Repeat("-0", 12) + "-", "", false}, {strings.Repeat("-0", 13) + "-", "", false}, {strings.Repeat("+0", 39) + "+", "", false}, {strings.Repeat("+-++0", 11) + "+-++", strings.Repeat("z", 12), true}, {strings.Repeat("+-++0", 12) + "+-++", "", false}, {strings.Repeat("+-++0", 11) + "++--", "", false}, {strings.Repeat("+-++0", 11) + "+-++-", "", false}, {strings.Repeat("+-++0", 11) + "+-++0", "", false},
		{strings.Repeat("-", 80), "", false}, {strings.Repeat("0", 80), "", false}, {strings.Repeat("+-++0", 16), "", false},
	} {
		call := fmt.Sprintf("SignalRead(%q)", c.signal)
		got, ok := impl.SignalRead(c.signal)
		if c.ok {
			checkTextOf(t, call, got, ok, c.want)
		} else {
			checkNoText(t, call, got, ok)
		}
	}
}

func TestPromise85SignalValid(t *testing.T) {
	for _, signal := range sampleSignals() {
		checkHolds(t, fmt.Sprintf("SignalValid(%q)", signal), impl.SignalValid(signal), true)
		for pulses := range len(signal) {
			checkHolds(t, fmt.Sprintf("SignalValid(%q)", signal[:pulses]), impl.SignalValid(signal[:pulses]), true)
		}
		back := mustTurnPulses(t, signal)
		checkHolds(t, fmt.Sprintf("SignalValid(%q)", back), impl.SignalValid(back), true)
		for _, behind := range []string{"a", "z", "A", " ", "1", "\n", "\x00", "\xff", "\u2212", ","} {
			checkHolds(t, fmt.Sprintf("SignalValid(%q)", signal+behind), impl.SignalValid(signal+behind), false)
		}
	}
}

func TestPromise85SignalValidEdges(t *testing.T) {
	for many := range 200 {
		for _, pulse := range []string{"-", "+", "0", "-+", "+0", "0-", "-+0"} {
			signal := strings.Repeat(pulse, many)
			checkHolds(t, fmt.Sprintf("SignalValid(%q)", signal), impl.SignalValid(signal), len(signal) <= 80)
		}
	}
	for letter := range 256 {
		one := string([]byte{byte(letter)})
		for _, text := range []string{one, "-" + one, one + "+", "0" + one + "0", strings.Repeat("-", 79) + one, one + strings.Repeat("0", 79)} {
			checkHolds(t, fmt.Sprintf("SignalValid(%q)", text), impl.SignalValid(text), one == "-" || one == "+" || one == "0")
		}
	}
}

func TestPromise86SignalDrift(t *testing.T) {
	for _, signal := range sampleSignals() {
		call := fmt.Sprintf("SignalDrift(%q)", signal)
		got, ok := impl.SignalDrift(signal)
		checkList(t, call, got, ok, driftsOf(signal))
		checkList(t, "of SignalBack "+call, mustDrift(t, mustTurnPulses(t, signal)), true, opposite(got))
		ahead := 0
		for place, drift := range got {
			steps := map[byte]int{'-': -1, '+': 1, '0': 0}
			checkNumber(t, fmt.Sprintf("the step %d of %s", place, call), drift-ahead, steps[signal[place]])
			ahead = drift
		}
	}
}

func TestPromises86And87Edges(t *testing.T) {
	for _, c := range []struct {
		signal string
		drifts []int
		wide   int
	}{
		{"", nil, 0}, {"0", []int{0}, 0}, {"000", []int{0, 0, 0}, 0}, {"+", []int{1}, 1}, {"-", []int{-1}, 1}, {"+++", []int{1, 2, 3}, 3}, {"---", []int{-1, -2, -3}, 3}, {"+-", []int{1, 0}, 1}, {"-+", []int{-1, 0}, 1}, {"0-", []int{0, -1}, 1}, {"+0", []int{1, 1}, 1}, {"-0+", []int{-1, -1, 0}, 1}, {"-0+0--", []int{-1, -1, 0, 0, -1, -2}, 2},
		// Drifts that fall below 0 and rise again, or rise and fall below 0.
		{"-++", []int{-1, 0, 1}, 2}, {"+--", []int{1, 0, -1}, 2}, {"--+++", []int{-1, -2, -1, 0, 1}, 3}, {"--++++", []int{-1, -2, -1, 0, 1, 2}, 4}, {"+++----", []int{1, 2, 3, 2, 1, 0, -1}, 4}, {"-+-+-+", []int{-1, 0, -1, 0, -1, 0}, 1}, {"--+--+", []int{-1, -2, -1, -2, -3, -2}, 3}, {"++-++-", []int{1, 2, 1, 2, 3, 2}, 3}, {"--0++0+", []int{-1, -2, -2, -1, 0, 0, 1}, 3},
	} {
		got, ok := impl.SignalDrift(c.signal)
		checkList(t, fmt.Sprintf("SignalDrift(%q)", c.signal), got, ok, c.drifts)
		checkNumber(t, fmt.Sprintf("SignalWide(%q)", c.signal), impl.SignalWide(c.signal), c.wide)
	}
	for _, c := range []struct {
		signal string
		last   int
		wide   int
	}{
		{strings.Repeat("+", 80), 80, 80}, {strings.Repeat("-", 80), -80, 80}, {strings.Repeat("0", 80), 0, 0}, {strings.Repeat("+-", 40), 0, 1}, {strings.Repeat("-", 40) + strings.Repeat("+", 40), 0, 40}, {strings.Repeat("-", 20) + strings.Repeat("+", 40) + strings.Repeat("-", 20), 0, 40}, {strings.Repeat("-", 26) + strings.Repeat("+", 54), 28, 54}, {strings.Repeat("0", 79) + "-", -1, 1}, {"+" + strings.Repeat("0", 79), 1, 1},
	} {
		drifts := mustDrift(t, c.signal)
		checkNumber(t, fmt.Sprintf("the drift at the end of %q", c.signal), drifts[79], c.last)
		checkNumber(t, fmt.Sprintf("SignalWide(%q)", c.signal), impl.SignalWide(c.signal), c.wide)
	}
}

func TestPromise87SignalWide(t *testing.T) {
	for _, signal := range sampleSignals() {
		call := fmt.Sprintf("SignalWide(%q)", signal)
		got := impl.SignalWide(signal)
		checkNumber(t, call, got, wantWide(signal))
		checkNumber(t, "of SignalBack "+call, impl.SignalWide(mustTurnPulses(t, signal)), got)
		if got > notZero(signal) {
			t.Fatalf("%s returned %d", call, got)
		}
		for _, pulse := range []string{"-", "+", "0"} {
			longer := impl.SignalWide(signal + pulse)
			if len(signal) == 80 {
				checkNumber(t, "with a pulse too many "+call, longer, -1)
			} else if longer < got || longer > got+1 {
				t.Fatalf("%s returned %d, with %s behind %d", call, got, pulse, longer)
			}
		}
	}
}

func TestPromise88SignalBack(t *testing.T) {
	for _, signal := range sampleSignals() {
		call := fmt.Sprintf("SignalBack(%q)", signal)
		got, ok := impl.SignalBack(signal)
		want := strings.Map(func(pulse rune) rune { return map[rune]rune{'-': '+', '+': '-', '0': '0'}[pulse] }, signal)
		checkTextOf(t, call, got, ok, want)
		again, ok := impl.SignalBack(got)
		checkTextOf(t, "SignalBack of "+call, again, ok, signal)
		checkNumber(t, "SignalFar of "+call, impl.SignalFar(signal, got), notZero(signal))
	}
}

func TestPromise88SignalBackEdges(t *testing.T) {
	for _, c := range []struct {
		signal string
		want   string
	}{
		{"", ""}, {"-", "+"}, {"+", "-"}, {"0", "0"}, {"-+0", "+-0"}, {"00", "00"}, {"+-++", "-+--"}, {"-0+0--", "+0-0++"}, {strings.Repeat("-", 80), strings.Repeat("+", 80)}, {strings.Repeat("0", 80), strings.Repeat("0", 80)}, {strings.Repeat("+-", 40), strings.Repeat("-+", 40)},
	} {
		got, ok := impl.SignalBack(c.signal)
		checkTextOf(t, fmt.Sprintf("SignalBack(%q)", c.signal), got, ok, c.want)
	}
}

// checkFar checks SignalFar of two signals, and with each pulse of the first one replaced.
func checkFar(t *testing.T, a string, b string) {
	t.Helper()
	call := fmt.Sprintf("SignalFar(%q, %q)", a, b)
	got := impl.SignalFar(a, b)
	checkNumber(t, call, got, wantFar(a, b))
	checkNumber(t, "exchanged "+call, impl.SignalFar(b, a), got)
	checkNumber(t, "of SignalBack "+call, impl.SignalFar(mustTurnPulses(t, a), mustTurnPulses(t, b)), got)
	checkHolds(t, "that 0 is for equal ones only "+call, got == 0, a == b)
	for _, other := range oneError(a) {
		if far := impl.SignalFar(other, b); far < got-1 || far > got+1 {
			t.Fatalf("%s returned %d, of %q %d", call, got, other, far)
		}
	}
}

func TestPromise89SignalFar(t *testing.T) {
	for pulses := range 5 {
		for _, a := range signalsOf(pulses) {
			for _, b := range signalsOf(pulses) {
				checkFar(t, a, b)
			}
		}
	}
	random := newRandom()
	for _, signal := range longSignals() {
		checkFar(t, signal, signal)
		checkFar(t, signal, randomSignal(random, len(signal), 3))
		if len(signal) > 0 {
			checkFar(t, signal, replaced(signal, 0, "0"))
			checkFar(t, signal, replaced(signal, len(signal)-1, "+"))
		}
	}
}

func TestPromise89SignalFarEdges(t *testing.T) {
	for _, c := range []struct {
		a, b string
		want int
	}{
		{"", "", 0}, {"-", "-", 0}, {"-", "+", 1}, {"-", "0", 1}, {"0", "0", 0}, {"-+0", "-+0", 0}, {"-+0", "+0-", 3}, {"-+0", "-0+", 2}, {"--+", "--0", 1}, {"+--", "0--", 1}, {"+-++", "-+--", 4},
		{strings.Repeat("-", 80), strings.Repeat("-", 80), 0}, {strings.Repeat("-", 80), strings.Repeat("+", 80), 80}, {strings.Repeat("0", 80), strings.Repeat("+", 80), 80}, {strings.Repeat("-", 80), strings.Repeat("-", 79) + "0", 1}, {strings.Repeat("-", 80), "+" + strings.Repeat("-", 79), 1}, {strings.Repeat("-+", 40), strings.Repeat("+-", 40), 80}, {strings.Repeat("-0", 40), strings.Repeat("-+", 40), 40},
	} {
		checkNumber(t, fmt.Sprintf("SignalFar(%q, %q)", c.a, c.b), impl.SignalFar(c.a, c.b), c.want)
	}
}

// TestPromises89And92OtherLength checks signals of different numbers of pulses.
func TestPromises89And92OtherLength(t *testing.T) {
	signals := append(signalsUpTo(3), strings.Repeat("-", 40), strings.Repeat("-", 79), strings.Repeat("+", 79), strings.Repeat("-", 80), strings.Repeat("+0", 40))
	for _, a := range signals {
		for _, b := range signals {
			if len(a) != len(b) {
				checkNotFar(t, a, b)
				checkNoVote(t, a, a, b)
				checkNoVote(t, a, b, "-+0-")
			}
		}
	}
}

// checkErrors checks SignalErrors of a signal against messages, by their signals, and returns how many there are.
func checkErrors(t *testing.T, signal string, messages map[string]string) int {
	t.Helper()
	call := fmt.Sprintf("SignalErrors(%q)", signal)
	got, ok := impl.SignalErrors(signal)
	checkTexts(t, call, got, ok, wantErrors(signal, messages))
	for _, text := range got {
		sent, ok := impl.SignalOf(text)
		if !ok || impl.SignalFar(signal, sent) != 1 {
			t.Fatalf("%s returned %q with the signal %q", call, text, sent)
		}
	}
	return len(got)
}

// TestPromise90SignalErrorsAll checks all signals of a few pulses against all messages of as many.
func TestPromise90SignalErrorsAll(t *testing.T) {
	for pulses := range 7 {
		messages := messagesOf(pulses)
		for _, signal := range signalsOf(pulses) {
			checkErrors(t, signal, messages)
		}
	}
}

func TestPromise90SignalErrors(t *testing.T) {
	none, one, several := 0, 0, 0
	for _, signal := range longSignals() {
		switch checkErrors(t, signal, readableNear(signal)) {
		case 0:
			none++
		case 1:
			one++
		default:
			several++
		}
	}
	if none < 50 || one < 5 || several < 50 {
		t.Fatalf("%d signals have no message, %d have one, %d have several", none, one, several)
	}
}

// TestPromise90SignalErrorsOfMessages checks that each message comes out of its signal with any one error, but neither out of this signal itself nor out of one with two errors.
func TestPromise90SignalErrorsOfMessages(t *testing.T) {
	random := newRandom()
	for _, text := range sampleMessages() {
		sent := wantSignal(text)
		got, _ := impl.SignalErrors(sent)
		checkHolds(t, fmt.Sprintf("that %q is in SignalErrors(%q)", text, sent), slices.Contains(got, text), false)
		for _, wrong := range oneError(sent) {
			got, ok := impl.SignalErrors(wrong)
			checkHolds(t, fmt.Sprintf("that %q is in SignalErrors(%q)", text, wrong), ok && slices.Contains(got, text), true)
			place := random.Intn(len(wrong))
			twice := replaced(wrong, place, "-+0"[random.Intn(3):][:1])
			got, ok = impl.SignalErrors(twice)
			checkHolds(t, fmt.Sprintf("that %q is in SignalErrors(%q)", text, twice), ok && slices.Contains(got, text), wantFar(sent, twice) == 1)
		}
	}
}

func TestPromise90SignalErrorsEdges(t *testing.T) {
	for _, c := range []struct {
		signal string
		want   []string
	}{
		{"", nil}, {"-", []string{"b"}}, {"+", []string{"a"}}, {"0", []string{"a", "b"}}, {"--", []string{"e", "d"}}, {"-+", []string{"f", "c"}}, {"0-", []string{"c", "e"}}, {"-0", []string{"c", "d"}}, {"00", nil},
		// Errors that make a 0 of a pulse, and a pulse of a 0, at the first and at the last place.
		{"---", []string{"k", "i", "aa", "h"}}, {"+++", []string{"j", "l", "bb", "m"}}, {"-0-", []string{"ba", "g", "i", "ab"}}, {"+0+", []string{"ab", "l", "n", "ba"}}, {"0--", []string{"g", "k"}}, {"--0", []string{"g", "h"}}, {"0-0", nil}, {"-00", []string{"aa", "ab"}}, {"00-", []string{"aa", "ba"}}, {"000", nil}, {"0+0", nil}, {"-0+0", []string{"ae", "af"}}, {"0-0+", []string{"cb", "eb"}}, {"-00+", []string{"cb", "db", "ad", "af"}}, {"-0-0-", []string{"baa", "ga", "ia", "aba", "ag", "ai", "aab"}},
		// Groups that are no letter's code but for an error.
		{"++--", []string{"s", "w", "bc", "fa"}}, {"++++", []string{"v", "z", "bf", "fb"}}, {"+-++", []string{"r", "bf", "x", "eb", "y"}}, {"-----", []string{"ag", "cc", "ga"}}, {"+++++", []string{"bn", "ff", "nb"}}, {"------", []string{"ao", "cg", "gc", "oa"}},
		{"---------", []string{"oo"}}, {"+++++++++", nil}, {"----------", nil}, {"0000", nil}, {strings.Repeat("-", 80), nil}, {strings.Repeat("+", 80), nil}, {strings.Repeat("0", 80), nil}, {strings.Repeat("+-++0", 16), nil}, {strings.Repeat("-0", 39) + "-", nil},
	} {
		got, ok := impl.SignalErrors(c.signal)
		checkTexts(t, fmt.Sprintf("SignalErrors(%q)", c.signal), got, ok, c.want)
	}
}

// TestPromise90SignalErrorsTextMax checks errors that make messages of TextMax letters, and those that would make one more.
func TestPromise90SignalErrorsTextMax(t *testing.T) {
	twelve := strings.Repeat("-0", 11) + "-"
	want := []string{}
	for k := range 12 {
		want = append(want, strings.Repeat("a", k)+"b"+strings.Repeat("a", 11-k))
		if k < 11 {
			want = append(want, strings.Repeat("a", k)+"g"+strings.Repeat("a", 10-k), strings.Repeat("a", k)+"i"+strings.Repeat("a", 10-k))
		}
	}
	got, ok := impl.SignalErrors(twelve)
	checkTexts(t, "SignalErrors of 12 letters", got, ok, want)
	// Of 13 letters, two must be joined.
	joined := []string{}
	for k := range 12 {
		joined = append(joined, strings.Repeat("a", k)+"g"+strings.Repeat("a", 11-k), strings.Repeat("a", k)+"i"+strings.Repeat("a", 11-k))
	}
	got, ok = impl.SignalErrors(twelve + "0-")
	checkTexts(t, "SignalErrors of 13 letters", got, ok, joined)
	got, ok = impl.SignalErrors(twelve + "0-0-")
	checkTexts(t, "SignalErrors of 14 letters", got, ok, nil)
	// The longest code cannot be parted in a message of 12 letters.
	longest := strings.Repeat("----0", 11) + "----"
	got, ok = impl.SignalErrors(longest)
	checkHolds(t, "SignalErrors of 12 letters of 4 pulses", ok && len(got) == 48, true)
	for _, text := range got {
		checkNumber(t, fmt.Sprintf("the letters of %q", text), len(text), 12)
	}
}

func TestPromise91SignalLevel(t *testing.T) {
	level, longer, none := 0, 0, 0
	for _, signal := range sampleSignals() {
		call := fmt.Sprintf("SignalLevel(%q)", signal)
		got, ok := impl.SignalLevel(signal)
		drift := driftOf(signal)
		if drift == 0 {
			level++
			checkTextOf(t, call, got, ok, signal)
			continue
		}
		if len(signal)+1+max(drift, -drift) > 80 {
			none++
			checkNoText(t, call, got, ok)
			continue
		}
		longer++
		pulse := "-"
		if drift < 0 {
			pulse = "+"
		}
		checkTextOf(t, call, got, ok, signal+"0"+strings.Repeat(pulse, max(drift, -drift)))
		drifts := mustDrift(t, got)
		checkNumber(t, "the drift at the end of "+call, drifts[len(drifts)-1], 0)
		checkHolds(t, "that it begins with the signal "+call, strings.HasPrefix(got, signal), true)
		again, ok := impl.SignalLevel(got)
		checkTextOf(t, "SignalLevel of "+call, again, ok, got)
	}
	if level < 100 || longer < 100 || none < 30 {
		t.Fatalf("%d signals are level, %d can be made so, %d not", level, longer, none)
	}
}

func TestPromise91SignalLevelEdges(t *testing.T) {
	for _, c := range []struct {
		signal string
		behind string
		ok     bool
	}{
		{"", "", true}, {"0", "", true}, {"00", "", true}, {"-+", "", true}, {"+-", "", true}, {"+0-", "", true}, {"-", "0+", true}, {"+", "0-", true}, {"--", "0++", true}, {"++", "0--", true}, {"++-", "0-", true}, {"--+", "0+", true}, {"0-", "0+", true}, {"+0", "0-", true}, {"-00", "0+", true}, {"+0-0+", "0-", true}, {"+++++", "0-----", true},
		// Level already, with PulsesMax pulses and less.
		{strings.Repeat("0", 80), "", true}, {strings.Repeat("+-", 40), "", true}, {strings.Repeat("-", 40) + strings.Repeat("+", 40), "", true}, {strings.Repeat("+-", 39) + "0", "", true},
		// Level with exactly PulsesMax pulses, with one less, and with one more.
		{strings.Repeat("+", 39), "0" + strings.Repeat("-", 39), true}, {strings.Repeat("-", 39) + "0", "0" + strings.Repeat("+", 39), true}, {strings.Repeat("+", 39) + "0", "0" + strings.Repeat("-", 39), true}, {strings.Repeat("+", 39) + "00", "", false}, {"00" + strings.Repeat("-", 39), "", false}, {strings.Repeat("+", 40), "", false}, {strings.Repeat("-", 40), "", false},
		{strings.Repeat("0", 76) + "+", "0-", true}, {strings.Repeat("0", 77) + "+", "0-", true}, {strings.Repeat("0", 78) + "+", "", false}, {strings.Repeat("0", 79) + "-", "", false}, {strings.Repeat("0", 74) + "--", "0++", true}, {strings.Repeat("0", 75) + "--", "0++", true}, {strings.Repeat("0", 76) + "--", "", false}, {"0" + strings.Repeat("+-", 38) + "+", "0-", true}, {strings.Repeat("+-", 39) + "+", "", false}, {strings.Repeat("-+", 39) + "-0", "", false},
		{strings.Repeat("-", 80), "", false}, {strings.Repeat("+", 80), "", false}, {strings.Repeat("+", 79), "", false},
	} {
		call := fmt.Sprintf("SignalLevel(%q)", c.signal)
		got, ok := impl.SignalLevel(c.signal)
		if c.ok {
			checkTextOf(t, call, got, ok, c.signal+c.behind)
		} else {
			checkNoText(t, call, got, ok)
		}
	}
}

func TestPromise92SignalVoteAll(t *testing.T) {
	for pulses := range 4 {
		signals := signalsOf(pulses)
		for _, a := range signals {
			for _, b := range signals {
				for _, c := range signals {
					voted, ok := impl.SignalVote(a, b, c)
					checkTextOf(t, fmt.Sprintf("SignalVote(%q, %q, %q)", a, b, c), voted, ok, wantVote(a, b, c))
				}
			}
		}
	}
}

func TestPromise92SignalVote(t *testing.T) {
	random := newRandom()
	for _, a := range longSignals() {
		b, c := randomSignal(random, len(a), 3), randomSignal(random, len(a), 6)
		checkVote(t, a, a, a, a)
		checkVote(t, a, a, b, a)
		checkVote(t, b, b, c, b)
		checkVote(t, a, b, c, wantVote(a, b, c))
		voted, ok := impl.SignalVote(a, b, c)
		checkHolds(t, "SignalVote", ok && len(voted) == len(a), true)
		for place := range len(voted) {
			pulse := voted[place]
			if pulse == '0' {
				continue
			}
			if all := string([]byte{a[place], b[place], c[place]}); strings.Count(all, string(pulse)) < 2 {
				t.Fatalf("SignalVote(%q, %q, %q) returned %q", a, b, c, voted)
			}
		}
	}
}

// TestPromise92SignalVoteErrors checks that a vote corrects one error, and several ones at different places.
func TestPromise92SignalVoteErrors(t *testing.T) {
	for _, text := range edgeMessages() {
		sent := wantSignal(text)
		for _, wrong := range oneError(sent) {
			checkVote(t, sent, sent, wrong, sent)
			place := errorOf(sent, wrong)[0]
			for _, pulse := range []string{"-", "+", "0"} {
				if place > 0 {
					checkVote(t, sent, wrong, replaced(sent, 0, pulse), sent)
				}
				if last := len(sent) - 1; place < last {
					checkVote(t, sent, wrong, replaced(sent, last, pulse), sent)
				}
			}
		}
	}
}

func TestPromise92SignalVoteEdges(t *testing.T) {
	for _, c := range []struct {
		a, b, c, want string
	}{
		{"", "", "", ""}, {"-", "-", "-", "-"}, {"0", "0", "0", "0"}, {"-", "-", "+", "-"}, {"-", "-", "0", "-"}, {"+", "+", "0", "+"}, {"0", "0", "+", "0"}, {"0", "0", "-", "0"}, {"-", "+", "0", "0"}, {"-+0", "-++", "0--", "-+0"}, {"-+0", "+0-", "0-+", "000"}, {"--", "-+", "+0", "-0"}, {"--", "+-", "0+", "0-"}, {"---", "---", "+0+", "---"}, {"-0+0--", "-0+0-+", "00+0--", "-0+0--"},
		{strings.Repeat("-", 80), strings.Repeat("+", 80), strings.Repeat("0", 80), strings.Repeat("0", 80)}, {strings.Repeat("+", 80), strings.Repeat("+", 80), strings.Repeat("-", 80), strings.Repeat("+", 80)}, {strings.Repeat("-+", 40), strings.Repeat("+-", 40), strings.Repeat("-", 80), strings.Repeat("-", 80)},
	} {
		checkVote(t, c.a, c.b, c.c, c.want)
	}
}

func TestPromise93SignalLetters(t *testing.T) {
	ahead := 1
	for n := 1; n <= 16; n++ {
		call := fmt.Sprintf("SignalLetters(%d)", n)
		got := impl.SignalLetters(n)
		checkNumber(t, call, got, wantLetters(n))
		if got < ahead {
			t.Fatalf("%s returned %d, for one pulse less it is %d", call, got, ahead)
		}
		ahead = got
		if n > 9 {
			continue
		}
		readable := 0
		for _, signal := range signalsOf(n) {
			if _, ok := impl.SignalRead(signal); ok {
				readable++
			}
		}
		checkNumber(t, call, got, readable)
		checkNumber(t, call, got, len(messagesOf(n)))
	}
}

func TestPromise93SignalLettersEdges(t *testing.T) {
	for n, want := range []int{-1, 2, 4, 12, 28, 56, 160, 368, 912, 2160, 5248, 12832, 30848, 74880, 180928, 438784, 1062144, -1, -1} {
		checkNumber(t, fmt.Sprintf("SignalLetters(%d)", n), impl.SignalLetters(n), want)
	}
	for _, n := range append(farNumbers(), -80, -16, -3, -2, -1, 0, 17, 18, 19, 23, 59, 60, 80, 81, 256, 257, 272, 1<<32, 1<<32+1, -1<<32, -1<<32+16) {
		checkNumber(t, fmt.Sprintf("SignalLetters(%d)", n), impl.SignalLetters(n), -1)
	}
}

// TestSignalMemory changes what SignalDrift and SignalErrors return, up to the capacity, and checks that other results stay.
func TestSignalMemory(t *testing.T) {
	for _, signal := range []string{"-", "+", "0", "---", "-0+0--", strings.Repeat("-0", 11) + "-", strings.Repeat("+-", 40)} {
		first, second := mustDrift(t, signal), mustDrift(t, signal)
		first = first[:cap(first)]
		for i := range first {
			first[i] = -7
		}
		checkList(t, "SignalDrift", second, true, driftsOf(signal))
		checkList(t, "SignalDrift again", mustDrift(t, signal), true, driftsOf(signal))
		want := wantErrors(signal, readableNear(signal))
		messages, _ := impl.SignalErrors(signal)
		others, ok := impl.SignalErrors(signal)
		messages = messages[:cap(messages)]
		for i := range messages {
			messages[i] = "changed"
		}
		checkTexts(t, "SignalErrors", others, ok, want)
		others, ok = impl.SignalErrors(signal)
		checkTexts(t, "SignalErrors again", others, ok, want)
	}
}
