package tests

import (
	"fmt"
	"math"
	"regexp"
	"slices"
	"strings"
	"sync"
	"testing"

	"loop.example/g00245/impl"
)

// eventLines are what a line of each Kind looks like, as a pattern; the parts are named by what they tell.
func eventLines() map[int]*regexp.Regexp {
	place, number, text := `([0-9]|[12][0-9]|30)`, `(0|[1-9][0-9]{0,8}|1000000000)`, `([!-~]{1,60})`
	id := ` +(?P<id>` + place + `)`
	n := ` +(?P<n>` + number + `)`
	lines := map[int]*regexp.Regexp{}
	for kind, line := range []string{
		1: `ask` + id + ` +(?P<text>` + text + `)`,
		2: `part` + id + ` +(?P<text>` + text + `)`,
		3: `close` + id + n,
		4: `break` + id,
		5: `pass` + n,
		6: `leave` + id,
		7: `fall(?P<left>( +` + number + `){0,4})`,
	} {
		if kind > 0 {
			lines[kind] = regexp.MustCompile(`^ *` + line + ` *$`)
		}
	}
	return lines
}

var (
	eventPatterns   = eventLines()
	partsPattern    = regexp.MustCompile(`^ *([!-~]+( +[!-~]+){0,9})? *$`)
	passedByPattern = regexp.MustCompile(`^ *(#.*)?$`)
)

func numberByRule(text string) int {
	n := 0
	for i := range len(text) {
		n = n*10 + int(text[i]) - 48
	}
	return n
}

func eventByRule(line string) (impl.Event, bool) {
	for kind, pattern := range eventPatterns {
		found := pattern.FindStringSubmatch(line)
		if found == nil {
			continue
		}
		e := impl.Event{Kind: kind}
		for i, name := range pattern.SubexpNames() {
			switch name {
			case "id":
				e.Id = numberByRule(found[i])
			case "n":
				e.N = numberByRule(found[i])
			case "text":
				e.Text = found[i]
			case "left":
				for _, part := range strings.Fields(found[i]) {
					e.Left = append(e.Left, numberByRule(part))
				}
			}
		}
		return e, true
	}
	return impl.Event{}, false
}

func linesByRule(text string) []string {
	var lines []string
	from := 0
	for i := range len(text) {
		if text[i] == 10 {
			lines = append(lines, text[from:i])
			from = i + 1
		}
	}
	if from < len(text) {
		lines = append(lines, text[from:])
	}
	return lines
}

// scriptByRule is the document's text of ReadScript.
func scriptByRule(text string) ([]impl.Event, int) {
	lines := linesByRule(text)
	if len(text) > 3000 || len(lines) > 90 {
		return nil, -1
	}
	var events []impl.Event
	for i, line := range lines {
		if len(line) > 600 || !partsPattern.MatchString(line) {
			return nil, i + 1
		}
		if passedByPattern.MatchString(line) {
			continue
		}
		e, ok := eventByRule(line)
		if !ok || len(events) > 69 {
			return nil, i + 1
		}
		events = append(events, e)
	}
	return events, 0
}

func showByRule(p impl.Proxy) string {
	out := ""
	for _, c := range p.Clients {
		state := map[int]string{1: "waits", 2: "done", 3: "failed"}[c.State]
		out += fmt.Sprintf("%d %s %d %s\n", max(0, c.Id), state, max(0, c.Age), c.Got)
	}
	return out
}

// shownByRule is what a console tells of a life that came to this.
func shownByRule(w impl.World) string {
	out := ""
	for i, code := range w.Codes {
		out += fmt.Sprintf("%d", code)
		if i < len(w.Codes)-1 {
			out += " "
		} else {
			out += "\n"
		}
	}
	out += showByRule(w.Proxy)
	out += fmt.Sprintf("hits %d kept", w.Proxy.Hits)
	for _, e := range w.Proxy.Entries {
		out += " " + e.Key
	}
	return out + "\n"
}

func consoleByRule(text string) string {
	events, fault := scriptByRule(text)
	if fault != 0 {
		return fmt.Sprintf("fault %d\n", fault)
	}
	w, _ := worldByRule(events)
	return shownByRule(w)
}

func wantReadScript(t *testing.T, what, text string, want []impl.Event, wantFault int) {
	t.Helper()
	got, fault := impl.ReadScript(text)
	if fault != wantFault || !slices.EqualFunc(got, want, sameEvent) {
		t.Fatalf("%s: %.300q\nReadScript answers %d, %d events\n  %s\nwant %d, %d events\n  %s", what, text, fault, len(got), toldEvents(got), wantFault, len(want), toldEvents(want))
	}
}

func wantConsole(t *testing.T, what, text, want string) {
	t.Helper()
	if got := impl.Console(text); got != want {
		t.Fatalf("%s: Console of %.300q\n%q\nwant\n%q", what, text, got, want)
	}
}

// wantScriptByRule holds both calls against the document's text, and the console against the life that was told and its clients.
func wantScriptByRule(t *testing.T, what, text string) int {
	t.Helper()
	events, fault := scriptByRule(text)
	wantReadScript(t, what, text, events, fault)
	if fault != 0 {
		wantConsole(t, what, text, fmt.Sprintf("fault %d\n", fault))
		return fault
	}
	wantConsole(t, what, text, consoleByRule(text))
	w, ok := impl.RunLife(events)
	if told := impl.Console(text); !ok || !strings.HasSuffix(told, impl.ShowClients(w.Proxy)+keptByRule(w.Proxy)) {
		t.Fatalf("%s: Console of %.300q\n%q\nhas other clients than\n%q", what, text, told, impl.ShowClients(w.Proxy))
	}
	return 0
}

func keptByRule(p impl.Proxy) string {
	return shownByRule(impl.World{Proxy: impl.Proxy{Hits: p.Hits, Entries: p.Entries}})
}

// wantScript is of a script without a fault, told in events one by one.
func wantScript(t *testing.T, what, text string, want ...impl.Event) {
	t.Helper()
	wantReadScript(t, what, text, want, 0)
	wantScriptByRule(t, what, text)
}

func wantFault(t *testing.T, what, text string, want int) {
	t.Helper()
	wantReadScript(t, what, text, nil, want)
	wantScriptByRule(t, what, text)
}

// wantLineFault has the line as the first one, as a later one, and with others that have faults behind it.
func wantLineFault(t *testing.T, what, line string) {
	t.Helper()
	wantFault(t, what, line, 1)
	wantFault(t, what, line+"\n", 1)
	wantFault(t, what, "ask 1 /a\n"+line+"\n", 2)
	wantFault(t, what, "\n# x\n"+line, 3)
	wantFault(t, what, "pass 1\n\n"+line+"\nask 1 /a\nno word\n", 3)
	wantFault(t, what, "pass 1\nno word\n"+line+"\n", 2)
}

// lineOfEvent writes an event as a line; just what a line of its Kind tells is told.
func lineOfEvent(e impl.Event) string {
	switch e.Kind {
	case 1:
		return fmt.Sprintf("ask %d %s", e.Id, e.Text)
	case 2:
		return fmt.Sprintf("part %d %s", e.Id, e.Text)
	case 3:
		return fmt.Sprintf("close %d %d", e.Id, e.N)
	case 4:
		return fmt.Sprintf("break %d", e.Id)
	case 5:
		return fmt.Sprintf("pass %d", e.N)
	case 6:
		return fmt.Sprintf("leave %d", e.Id)
	}
	line := "fall"
	for _, n := range e.Left {
		line += fmt.Sprintf(" %d", n)
	}
	return line
}

func linesOfEvents(events []impl.Event) []string {
	var lines []string
	for _, e := range events {
		lines = append(lines, lineOfEvent(e))
	}
	return lines
}

func scriptOf(lines ...string) string {
	out := ""
	for _, line := range lines {
		out += line + "\n"
	}
	return out
}

// passedLines change nothing, wherever they stand.
func passedLines() []string {
	return []string{
		"", " ", "     ", "#", "# a", "#a", " #", "   # what comes next", "##", "#ask 1 /a", "# ask 1 /a", "#10 2 3 4 5 6 7 8 9 10", "# 2 3 4 5 6 7 8 9 10",
		"#!\"$%&'()*+,-./~", strings.Repeat(" ", 600), strings.Repeat("#", 600), "#" + letters(599), strings.Repeat(" ", 599) + "#",
	}
}

func TestConsoleConstants(t *testing.T) {
	if impl.MaxScript != 3000 || impl.MaxLines != 90 {
		t.Errorf("MaxScript %d, MaxLines %d", impl.MaxScript, impl.MaxLines)
	}
}

func TestScriptsKnown(t *testing.T) {
	wantScript(t, "nothing", "")
	wantScript(t, "each word", "ask 1 /a\npart 2 hi\nclose 3 9\nbreak 4\npass 5\nleave 6\nfall 7 8\n",
		askEvent(1, "/a"), partEvent(2, "hi"), closeEvent(3, 9), breakEvent(4), passEvent(5), leaveEvent(6), fallEvent(7, 8))
	wantScript(t, "no end of the last line", "ask 1 /a\nfall", askEvent(1, "/a"), fallEvent())
	wantScript(t, "many blanks", "  ask   1  /a   \n fall  7    8 \n   break 0", askEvent(1, "/a"), fallEvent(7, 8), breakEvent(0))
	wantScript(t, "the least", "ask 0 a\npart 0 b\nclose 0 0\nbreak 0\npass 0\nleave 0\nfall 0\n",
		askEvent(0, "a"), partEvent(0, "b"), closeEvent(0, 0), breakEvent(0), passEvent(0), leaveEvent(0), fallEvent(0))
	most := 1000000000
	wantScript(t, "the most", "ask 30 "+letters(60)+"\npart 30 "+letters(60)+"\nclose 30 1000000000\nbreak 30\npass 1000000000\nleave 30\nfall 1000000000 1000000000 1000000000 1000000000",
		askEvent(30, letters(60)), partEvent(30, letters(60)), closeEvent(30, most), breakEvent(30), passEvent(most), leaveEvent(30), fallEvent(most, most, most, most))
	wantScript(t, "texts that look like something else", "ask 1 #\npart 0 #hi\nask 2 ask\nask 3 5\npart 1 -1\npart 1 \"~!\n",
		askEvent(1, "#"), partEvent(0, "#hi"), askEvent(2, "ask"), askEvent(3, "5"), partEvent(1, "-1"), partEvent(1, "\"~!"))
	wantScript(t, "the document's words", "# a\nask 1 /a\npart 0 hi\n\nclose 0 9\nask 2 /a\n",
		askEvent(1, "/a"), partEvent(0, "hi"), closeEvent(0, 9), askEvent(2, "/a"))
}

// Each word alone, and 70 times, with and without the end of the last line.
func TestScriptsOfOneWord(t *testing.T) {
	for _, e := range []impl.Event{askEvent(1, "/a"), partEvent(0, "hi"), closeEvent(0, 9), breakEvent(0), passEvent(3), leaveEvent(1), fallEvent(), fallEvent(1), fallEvent(1, 2), fallEvent(1, 2, 3), fallEvent(1, 2, 3, 4)} {
		for _, count := range []int{1, 2, 69, 70} {
			text := strings.Repeat(lineOfEvent(e)+"\n", count)
			wantScript(t, "one word", text, slices.Repeat([]impl.Event{e}, count)...)
			wantScript(t, "one word", text[:len(text)-1], slices.Repeat([]impl.Event{e}, count)...)
		}
	}
}

// Numbers, texts and words of each byte that a line may have.
func TestScriptsOfEachByte(t *testing.T) {
	for b := 33; b < 127; b++ {
		sign := string([]byte{byte(b)})
		wantScript(t, "a text of this byte", "ask 1 "+sign+"\npart 0 a"+sign+"z\n", askEvent(1, sign), partEvent(0, "a"+sign+"z"))
		wantScriptByRule(t, "a number of this byte", "pass "+sign)
		wantScriptByRule(t, "a number with this byte", "fall 1"+sign)
		wantScriptByRule(t, "a word with this byte", sign+"ask 1 /a")
		wantScriptByRule(t, "a word with this byte", "leave"+sign+"1")
		wantScriptByRule(t, "a word of this byte", "pass 1\n"+sign+"\n")
	}
}

func TestLinesThatArePassedOver(t *testing.T) {
	lines := linesOfEvents(everyKindOfEvent())
	for _, passed := range passedLines() {
		for _, count := range []int{1, 2, 4} {
			many := slices.Repeat([]string{passed}, count)
			wantScript(t, "nothing else", scriptOf(many...))
			wantScript(t, "nothing else", strings.TrimSuffix(scriptOf(many...), "\n"))
			for place := range len(lines) + 1 {
				text := scriptOf(slices.Insert(slices.Clone(lines), place, many...)...)
				wantScript(t, "passed over", text, everyKindOfEvent()...)
				wantConsole(t, "passed over", text, impl.Console(scriptOf(lines...)))
				wantScript(t, "passed over, without an end", strings.TrimSuffix(text, "\n"), everyKindOfEvent()...)
			}
		}
	}
	for _, passed := range passedLines() {
		if len(passed) < 33 {
			wantScript(t, "90 lines of nothing else", strings.Repeat(passed+"\n", 90))
		}
	}
	// All of the short ones, between any two.
	var text string
	for _, line := range lines {
		for _, passed := range passedLines() {
			if len(passed) < 24 && len(linesByRule(text)) < 80 {
				text += passed + "\n"
			}
		}
		text += line + "\n"
	}
	wantScript(t, "many between", text, everyKindOfEvent()...)
}

// What is passed over counts as a line, as faults are told by it.
func TestFaultsBehindPassedLines(t *testing.T) {
	for _, passed := range passedLines() {
		for _, count := range []int{1, 3, 4} {
			many := scriptOf(slices.Repeat([]string{passed}, count)...)
			wantFault(t, "behind passed lines", many+"no", count+1)
			wantFault(t, "behind passed lines", "fall\n"+many+"pass 01\nno", count+2)
		}
	}
	wantFault(t, "in the last line", strings.Repeat("\n", 89)+"no", 90)
	wantFault(t, "in the last line", strings.Repeat("\n", 89)+"no\n", 90)
}

func TestTooManyAndTooFewParts(t *testing.T) {
	for _, line := range []string{
		"ask", "ask 1", "ask /a", "ask 1 /a 5", "ask 1 /a /b", "ask 1 2 /a", "ask 1 /a #", "ask 1 /a 1 2 3 4 5 6 7",
		"part", "part 0", "part hi", "part 0 hi ho", "part 0 hi 5", "part 0 0 hi", "part 0 hi # more",
		"close", "close 0", "close 0 9 9", "close 0 9 hi", "close 0 0 0 0", "close 0 9 #",
		"break", "break 0 0", "break 0 hi", "break 0 #",
		"pass", "pass 3 3", "pass 3 hi", "pass 3 #",
		"leave", "leave 1 1", "leave 1 hi", "leave 1 #",
		"fall 1 2 3 4 5", "fall 0 0 0 0 0", "fall 1 2 3 4 5 6", "fall 1 2 3 4 5 6 7 8 9", "fall 1 2 3 4 hi", "fall 1 2 3 4 #",
	} {
		wantLineFault(t, "parts", line)
		wantLineFault(t, "parts and blanks", "  "+strings.ReplaceAll(line, " ", "   ")+"  ")
	}
	for count := range 10 {
		line, left := "fall"+strings.Repeat(" 7", count), slices.Repeat([]int{7}, count)
		if count < 5 {
			wantScript(t, "falls", line, fallEvent(left...))
			wantScript(t, "falls", line+"\n"+line+" \n", fallEvent(left...), fallEvent(left...))
		} else {
			wantLineFault(t, "falls", line)
		}
	}
	wantScript(t, "what is left, in order", "fall 9 0 1000000000 4", fallEvent(9, 0, 1000000000, 4))
}

func TestWordsThatAreNone(t *testing.T) {
	tails := []string{"", " 1", " 1 2", " 1 /a", " 0 hi", " 1 2 3 4", " 1 2 3 4 5"}
	for _, word := range []string{
		"a", "as", "asks", "asK", "Ask", "ASK", "aask", "par", "parts", "Part", "clos", "closed", "Close", "brea", "breaks", "BREAK", "pas", "past", "Pass", "leav", "leaves", "Leave", "fal", "falls", "Fall", "FALL",
		"0", "1", "7", "-1", "ask,", "ask#", "a#", "-", "!", "~", "\"ask\"", "ask1", "fall1", "pass3", "ask/a", "fault", "hits", "kept", "drop", letters(60), letters(590),
	} {
		for _, tail := range tails {
			wantLineFault(t, "a word that is none", word+tail)
		}
	}
	for _, line := range []string{"1 ask /a", "/a 1 ask", "ask/a 1", "0 fall", "ask 1/a", "ask1 /a"} {
		wantLineFault(t, "not in order", line)
	}
	for _, word := range []string{"ask", "part", "close", "break", "pass", "leave", "fall"} {
		for at := range len(word) {
			for b := 33; b < 127; b++ {
				turned := withByteAt(word, at, byte(b))
				for _, tail := range tails[1:4] {
					wantScriptByRule(t, "a word with one byte turned", turned+tail)
				}
			}
		}
	}
}

// linesWithANumber have a hole for one; places are those that end at 30.
func linesWithANumber() (places, numbers []string) {
	return []string{"ask _ /a", "ask _ 5", "part _ hi", "close _ 9", "break _", "leave _"},
		[]string{"close 0 _", "close 30 _", "pass _", "fall _", "fall _ 1", "fall 1 _", "fall _ 2 3 4", "fall 1 2 _ 4", "fall 1 2 3 _"}
}

func TestNumbersOfScripts(t *testing.T) {
	wrong := []string{
		"1000000001", "1000000009", "1000000010", "1999999999", "9999999999", "10000000000", "00", "01", "000", "007", "01000000000", "00000000000000000001",
		"+1", "-1", "-0", "+0", "--1", "1-", "1+", "1.", "1.0", ".1", "1e3", "0x1", "1_0", "1,0", "a", "1a", "a1", "0a", "#", "#1", "1#", "/a", "hi", "one", "!", "~", "/", ":", "1/", "1:",
		"4294967296", "4294967297", "9223372036854775807", "9223372036854775808", "18446744073709551616", "18446744073709551617", "340282366920938463463374607431768211457",
		strings.Repeat("9", 500), strings.Repeat("0", 500), strings.Repeat("0", 500) + "1", "1" + strings.Repeat("0", 500), strings.Repeat("1", 580),
	}
	places, numbers := linesWithANumber()
	for _, line := range slices.Concat(places, numbers) {
		for _, n := range wrong {
			wantLineFault(t, "a number that is none", strings.Replace(line, "_", n, 1))
		}
	}
	for n := range 31 {
		for _, line := range slices.Concat(places, numbers) {
			wantScriptByRule(t, "a number", strings.Replace(line, "_", fmt.Sprint(n), 1))
			if events, fault := impl.ReadScript(strings.Replace(line, "_", fmt.Sprint(n), 1)); len(events) != 1 || fault != 0 {
				t.Fatalf("%d in %q is a fault", n, line)
			}
		}
	}
	for _, n := range []string{"31", "32", "60", "99", "256", "999999999", "1000000000"} {
		for _, line := range places {
			wantLineFault(t, "a place beyond 30", strings.Replace(line, "_", n, 1))
		}
		for _, line := range numbers {
			wantScriptByRule(t, "a great number", strings.Replace(line, "_", n, 1))
			if events, fault := impl.ReadScript(strings.Replace(line, "_", n, 1)); len(events) != 1 || fault != 0 {
				t.Fatalf("%s in %q is a fault", n, line)
			}
		}
	}
	wantScript(t, "each number in its place", "close 7 1000000000\npass 1000000000\nfall 1000000000 0 31 999999999\n",
		closeEvent(7, 1000000000), passEvent(1000000000), fallEvent(1000000000, 0, 31, 999999999))
	wantScript(t, "a life beyond its limit is taken modulo", "ask 1 /a\nclose 0 1000009\n", askEvent(1, "/a"), closeEvent(0, 1000009))
}

func TestTextsOfScripts(t *testing.T) {
	for size := 1; size < 70; size++ {
		for _, word := range []string{"ask", "part"} {
			line := word + " 3 " + letters(size)
			if size > 60 {
				wantLineFault(t, "a text that is too long", line)
				continue
			}
			wantScript(t, "a text", line, impl.Event{Kind: map[string]int{"ask": 1, "part": 2}[word], Id: 3, Text: letters(size)})
		}
	}
	for _, size := range []int{256, 300, 400, 590} {
		wantLineFault(t, "a text that is too long", "ask 3 "+letters(size))
		wantLineFault(t, "a text that is too long", "part 3 "+letters(size))
	}
}

// A line that PartsOf refuses is a fault, also where it would be passed over otherwise.
func TestLinesThatPartsOfRefuses(t *testing.T) {
	for _, line := range []string{"ask 1 /a", "fall", "#", "# a", "  ", ""} {
		for b := range 256 {
			if b > 31 && b < 127 || b == 10 {
				continue
			}
			sign := string([]byte{byte(b)})
			wantLineFault(t, "a byte that no line has", line+sign)
			wantLineFault(t, "a byte that no line has", sign+line)
			wantLineFault(t, "a byte that no line has", line+" "+sign+" 1")
		}
	}
	for _, line := range []string{
		"#" + letters(600), strings.Repeat("#", 601), strings.Repeat(" ", 601), "fall" + strings.Repeat(" ", 597), strings.Repeat(" ", 593) + "ask 1 /a", letters(601), "# " + letters(900), strings.Repeat(" ", 1500),
		"# 2 3 4 5 6 7 8 9 10 11", "#1 2 3 4 5 6 7 8 9 10 11", "fall 1 2 3 4 5 6 7 8 9 10", "ask 1 /a 4 5 6 7 8 9 10 11", "1 2 3 4 5 6 7 8 9 10 11 12", "# é", "ask 1 é", "#\tx", "ask\t1\t/a", "fall\r", "#\r", "\r", "\x00",
	} {
		wantLineFault(t, "a line that PartsOf refuses", line)
	}
	wantScript(t, "600 bytes", strings.Repeat(" ", 592)+"ask 1 /a", askEvent(1, "/a"))
	wantScript(t, "600 bytes", "fall"+strings.Repeat(" ", 596)+"\nfall", fallEvent(), fallEvent())
}

// The first line that has a fault is told, of whatever kind it is and whatever come behind.
func TestSeveralFaults(t *testing.T) {
	faults := []string{"no", "ask 1", "ask 31 /a", "pass 01", "fall 1 2 3 4 5", "# 2 3 4 5 6 7 8 9 10 11", "\x00", "ask 1 " + letters(61), letters(601), "leave 1 1"}
	for i, first := range faults {
		for _, second := range faults {
			if first == second {
				continue
			}
			wantFault(t, "two faults", first+"\n"+second, 1)
			wantFault(t, "two faults", "# a\nask 1 /a\n"+first+"\n\n"+second+"\n", 3)
			wantFault(t, "two faults", "fall\n"+second+"\nfall\n"+first+"\n", 2)
		}
		text := scriptOf(slices.Concat([]string{"fall", ""}, faults[i:i+1], faults[:3], []string{"fall"})...)
		wantFault(t, "many faults", text, 3)
	}
}

func TestHowManyEventsAScriptMayHave(t *testing.T) {
	passes := slices.Repeat([]impl.Event{passEvent(3)}, 70)
	seventy := strings.Repeat("pass 3\n", 70)
	wantScript(t, "70 events", seventy, passes...)
	wantFault(t, "71 events", seventy+"pass 3\n", 71)
	wantFault(t, "71 events", seventy+"pass 3", 71)
	wantFault(t, "72 events", seventy+"pass 3\npass 3\n", 71)
	wantFault(t, "90 events", seventy+strings.Repeat("pass 3\n", 20), 71)
	for _, passed := range passedLines() {
		if len(passed) > 100 {
			continue
		}
		wantScript(t, "70 events and passed lines", seventy+passed+"\n\n"+passed, passes...)
		wantFault(t, "71 events and passed lines", seventy+passed+"\n\npass 3\n"+passed, 73)
		wantFault(t, "71 events and passed lines", passed+"\n"+seventy+"pass 3\n", 72)
		wantFault(t, "71 events and passed lines", seventy[:7*35]+passed+"\n#\n"+seventy[7*35:]+passed+"\npass 3", 74)
	}
	wantFault(t, "70 events and a fault behind", seventy+"no\n", 71)
	wantFault(t, "70 events and a fault behind", seventy+"#\nask 31 /a\n", 72)
	wantFault(t, "71 events and a fault ahead", "pass 3\n#\nno\n"+seventy, 3)
	wantFault(t, "71 events and a fault behind", seventy+"pass 3\nno\n", 71)
	wantFault(t, "71 events and a line that is refused behind", seventy+"fall\n\x00\n", 71)
	for _, e := range everyKindOfEvent() {
		wantFault(t, "another one beyond 70", seventy+lineOfEvent(e), 71)
	}
	wantFault(t, "the 20 lines behind 70 events", seventy+strings.Repeat("\n", 19)+"fall", 90)
	wantScript(t, "the 20 lines behind 70 events", seventy+strings.Repeat("\n", 20), passes...)
}

// scriptOfSize is of so many bytes, its events are a few; it ends with the byte 10 or goes without.
func scriptOfSize(size int, ended bool) string {
	text := "ask 1 /a\npart 0 hi\nclose 0 9\n"
	end := ""
	if ended {
		end = "\n"
	}
	for size-len(text)-len(end) > 600 {
		text += "#" + letters(598) + "\n"
	}
	return text + "#" + strings.Repeat(" ", size-len(text)-len(end)-1) + end
}

func TestHowLongAScriptMayBe(t *testing.T) {
	events := []impl.Event{askEvent(1, "/a"), partEvent(0, "hi"), closeEvent(0, 9)}
	for _, ended := range []bool{true, false} {
		for _, size := range []int{2998, 2999, 3000} {
			text := scriptOfSize(size, ended)
			if len(text) != size || strings.HasSuffix(text, "\n") != ended {
				t.Fatalf("%d bytes, want %d", len(text), size)
			}
			wantScript(t, "MaxScript", text, events...)
		}
		for _, size := range []int{3001, 3002, 3256, 5000, 65536 + 10} {
			wantFault(t, "beyond MaxScript", scriptOfSize(size, ended), -1)
		}
	}
	wantFault(t, "one line of MaxScript bytes", letters(3000), 1)
	wantFault(t, "one line of more", letters(3001), -1)
	wantFault(t, "a very long one", strings.Repeat("pass 3\n", 1<<18), -1)
	full := strings.Repeat("# "+letters(30)+"\n", 90)
	wantScript(t, "90 lines of 33", full)
	wantScript(t, "90 lines and 3000 bytes", strings.Replace(full, "z", letters(31), 1))
	wantFault(t, "90 lines and 3001 bytes", strings.Replace(full, "z", letters(32), 1), -1)
}

func TestHowManyLinesAScriptMayHave(t *testing.T) {
	for _, line := range []string{"", " ", "#", "# a"} {
		ninety := strings.Repeat(line+"\n", 90)
		wantScript(t, "89 lines", ninety[len(line)+1:])
		wantScript(t, "90 lines", ninety)
		wantScript(t, "90 lines", ninety[len(line)+1:]+"#")
		wantScript(t, "90 lines with an event", ninety[len(line)+1:]+"fall", fallEvent())
		wantScript(t, "90 lines with an event", "fall\n"+ninety[len(line)+1:], fallEvent())
		wantFault(t, "91 lines", ninety+"#", -1)
		wantFault(t, "91 lines", ninety+" ", -1)
		wantFault(t, "91 lines", ninety+"#\n", -1)
		wantFault(t, "91 lines", ninety+"\n", -1)
		wantFault(t, "91 lines with an event", ninety+"fall", -1)
		wantFault(t, "91 lines with an event", "fall\n"+ninety, -1)
	}
	for _, count := range []int{91, 92, 180, 256, 346, 2999, 3000} {
		wantFault(t, "lines of nothing", strings.Repeat("\n", count), -1)
	}
	for count := range 91 {
		wantScript(t, "lines of nothing", strings.Repeat("\n", count))
	}
}

// What is too long is told ahead of all faults in lines.
func TestTooLongWithAFault(t *testing.T) {
	for _, line := range []string{"no", "ask 31 /a", "pass 01", "\x00", letters(601), "fall 1 2 3 4 5", "# 2 3 4 5 6 7 8 9 10 11"} {
		for _, text := range []string{line + strings.Repeat("\n", 91), strings.Repeat("\n", 90) + line, strings.Repeat("\n", 45) + line + strings.Repeat("\n", 46)} {
			wantFault(t, "too many lines and a fault", text, -1)
		}
		for _, text := range []string{line + "\n" + scriptOfSize(3000, true), scriptOfSize(3000, true) + line, scriptOfSize(2000, true) + line + "\n" + scriptOfSize(1000, false)} {
			wantFault(t, "too many bytes and a fault", text, -1)
		}
		wantFault(t, "a fault in the first of 90 lines", line+strings.Repeat("\n", 90), 1)
		wantFault(t, "a fault in the last of 90 lines", strings.Repeat("\n", 89)+line, 90)
		wantFault(t, "a fault in the first line of 3000 bytes", line+"\n"+scriptOfSize(2999-len(line), true), 1)
	}
	wantFault(t, "71 events in too many lines", strings.Repeat("pass 3\n", 91), -1)
}

func wantShown(t *testing.T, what string, p impl.Proxy, want string) {
	t.Helper()
	if got := impl.ShowClients(p); got != want {
		t.Errorf("%s: %q; want %q", what, got, want)
	}
}

func TestShowClientsKnown(t *testing.T) {
	wantShown(t, "no client", impl.Proxy{}, "")
	wantShown(t, "no client", impl.ProxyNew(), "")
	wantShown(t, "others, but no client", impl.Proxy{Now: 5, Entries: []impl.Entry{entry("a", 1, 2, "b")}, Fetches: []impl.Fetch{begun("a", "x")}, Hits: 3}, "")
	p := impl.ProxyNew()
	p.Clients = []impl.Client{client(1, "/a", 1, 1, ""), client(3, "/b", 2, 1, "so far"), client(4, "/c", 3, 2, "all"), answered(5, "/d", 7, "kept", 12), client(9, "/e", 4, 3, "")}
	wantShown(t, "one of each", p, "1 waits 0 \n3 waits 0 so far\n4 done 0 all\n5 done 12 kept\n9 failed 0 \n")
	p.Clients = []impl.Client{{Id: -1, State: 1, Age: -1, Got: "x"}, {Id: math.MinInt, State: 2, Age: math.MinInt}, {Id: math.MaxInt, State: 3, Age: math.MaxInt, Got: " y "}, {Id: 0, State: 2, Age: 0}, {Id: -9, State: 1, Age: 7}, {Id: 7, State: 1, Age: -9}}
	wantShown(t, "numbers at their limits", p, "0 waits 0 x\n0 done 0 \n9223372036854775807 failed 9223372036854775807  y \n0 done 0 \n0 waits 7 \n7 waits 0 \n")
	p.Clients = []impl.Client{{Id: 1000000000, State: 2, Age: 999999999, Got: "a\nb\n"}, {Id: 1000000001, State: 2, Age: 1000000001, Got: everyByte()}, {Id: 2, State: 3, Age: 1, Got: letters(20001)}}
	wantShown(t, "texts of any bytes", p, "1000000000 done 999999999 a\nb\n\n1000000001 done 1000000001 "+everyByte()+"\n2 failed 1 "+letters(20001)+"\n")
	p.Clients = []impl.Client{{Id: 9, State: 2, Got: "in"}, {Id: 1, State: 2, Got: "their"}, {Id: 9, State: 2, Got: "order"}}
	wantShown(t, "as they stand", p, "9 done 0 in\n1 done 0 their\n9 done 0 order\n")
	p.Clients = slices.Repeat(p.Clients, 100)
	wantShown(t, "very many", p, strings.Repeat("9 done 0 in\n1 done 0 their\n9 done 0 order\n", 100))
}

// A State that is none of the three has no word.
func TestShowClientsOfOtherStates(t *testing.T) {
	for _, state := range []int{math.MinInt, -3, -1, 0, 4, 5, 257, 258, 259, math.MaxInt} {
		wantShown(t, "no state", impl.Proxy{Clients: []impl.Client{{Id: 4, State: state, Age: 2, Got: "hi"}}}, "4  2 hi\n")
	}
}

// What is told of a client hangs on nothing else of the proxy, nor of the client.
func TestShowClientsByRule(t *testing.T) {
	for _, p := range append(rightProxies(), wrongProxies()...) {
		wantShown(t, "a proxy", p, showByRule(p))
		wantShown(t, "its clients alone", impl.Proxy{Clients: p.Clients}, showByRule(p))
		bare := cloneProxy(p)
		for i := range bare.Clients {
			bare.Clients[i].Key, bare.Clients[i].Fetch, bare.Clients[i].From = "", -5, math.MinInt
		}
		wantShown(t, "what is told of them alone", bare, showByRule(p))
	}
	for seed := range uint32(500) {
		p := drawnProxy(drawn(120, seed*89+7))
		wantShown(t, "drawn", p, showByRule(p))
	}
	for _, id := range []int{math.MinInt, -1, 0, 1, 9, 10, math.MaxInt} {
		for _, age := range []int{math.MinInt, -1, 0, 1, 9, 10, math.MaxInt} {
			for state := -1; state < 6; state++ {
				p := impl.Proxy{Clients: []impl.Client{{Id: id, State: state, Age: age, Got: drawn(5, uint32(state))}, {Id: age, State: 1, Age: id}}}
				wantShown(t, "numbers", p, showByRule(p))
			}
		}
	}
}

func TestConsoleKnown(t *testing.T) {
	for _, c := range []struct{ what, text, want string }{
		{"nothing", "", "hits 0 kept\n"},
		{"no event", "# a\n\n", "hits 0 kept\n"},
		{"one event", "pass 3", "0\nhits 0 kept\n"},
		{"one that is refused", "leave 1", "1\nhits 0 kept\n"},
		{"two events", "pass 3\nbreak 0\n", "0 1\nhits 0 kept\n"},
		{"one who waits", "ask 1 /a\n", "0\n1 waits 0 \nhits 0 kept\n"},
		{"two who wait", "ask 2 /a\nask 1 /a\npart 0 hi\n", "0 0 0\n1 waits 0 hi\n2 waits 0 hi\nhits 0 kept\n"},
		{"one who failed", "ask 1 /a\npart 0 hi\nbreak 0\n", "0 0 0\n1 failed 0 hi\nhits 0 kept\n"},
		{"one who is done", "ask 1 /a\npart 0 hi\nclose 0 0\n", "0 0 0\n1 done 0 hi\nhits 0 kept\n"},
		{"one entry", "ask 1 /a\npart 0 hi\nclose 0 9\n", "0 0 0\n1 done 0 hi\nhits 0 kept /a\n"},
		{"the document's words", "# a\nask 1 /a\npart 0 hi\n\nclose 0 9\nask 2 /a\n", "0 0 0 0\n1 done 0 hi\n2 done 0 hi\nhits 1 kept /a\n"},
		{"an age", "ask 1 /a\npart 0 hi\nclose 0 9\npass 8\nask 2 /a\nask 3 /a\nleave 1\n", "0 0 0 0 0 0 0\n2 done 8 hi\n3 done 8 hi\nhits 2 kept /a\n"},
		{"what is fresh no more is there till it is asked for", "ask 1 /a\nclose 0 2\npass 5\n", "0 0 0\n1 done 0 \nhits 0 kept /a\n"},
		{"what is fresh no more goes when it is asked for", "ask 1 /a\nclose 0 2\npass 5\nask 2 /a\n", "0 0 0 0\n1 done 0 \n2 waits 0 \nhits 0 kept\n"},
		{"all who are there left", "ask 1 /a\nclose 0 9\nleave 1\n", "0 0 0\nhits 0 kept /a\n"},
		{"the power goes", "ask 1 /a\npart 0 hi\nclose 0 9\nask 2 /a\nfall 5\nask 3 /a\n", "0 0 0 0 0 0\n3 done 0 hi\nhits 1 kept /a\n"},
		{"two entries, in their order", "ask 1 b\nask 2 a\nclose 0 9\nclose 1 9\n", "0 0 0 0\n1 done 0 \n2 done 0 \nhits 0 kept a b\n"},
		{"codes", "ask 0 /a\nask 1 " + letters(31) + "\nask 9 " + letters(30) + "\nask 9 /a\npart 1 hi\nclose 0 999999\nclose 0 1000000\nleave 2\nfall 1 2 3 4\n", "1 1 0 1 1 0 1 1 0\nhits 0 kept " + letters(30) + "\n"},
		{"a fault in the first line", "no", "fault 1\n"},
		{"a fault in a later line", "ask 1 /a\n#\nask 1\n", "fault 3\n"},
		{"a fault behind 70 events", strings.Repeat("pass 3\n", 71), "fault 71\n"},
		{"a fault in the last line", strings.Repeat("\n", 89) + "!", "fault 90\n"},
		{"too many lines", strings.Repeat("\n", 91), "fault -1\n"},
		{"too many bytes", letters(3001), "fault -1\n"},
	} {
		wantConsole(t, c.what, c.text, c.want)
		wantConsole(t, c.what+", by the rule", c.text, consoleByRule(c.text))
	}
	many := storedOnes(entry("a", 1, 50, "A"), entry("b", 1, 50, "B"), entry("c", 1, 50, "C"), entry("d", 1, 50, "D"), entry("e", 1, 50, "E"), entry("f", 1, 50, "F"))
	codes := strings.TrimSuffix(strings.Repeat("0 ", 24), " ") + "\n"
	wantConsole(t, "as many entries as there may be", scriptOf(linesOfEvents(many)...), codes+"hits 0 kept a b c d e f\n")
	var fetches []string
	for i := range 21 {
		fetches = append(fetches, fmt.Sprintf("ask 3 key%d", i), "leave 3")
	}
	wantConsole(t, "no room for another fetch", scriptOf(fetches...), strings.Repeat("0 0 ", 20)+"2 1\nhits 0 kept\n")
	hits := "ask 1 a\nclose 0 999\n" + strings.Repeat("leave 1\nask 1 a\n", 34)
	wantConsole(t, "many hits", hits, strings.TrimSuffix(strings.Repeat("0 ", 70), " ")+"\n1 done 0 \nhits 34 kept a\n")
	wantConsole(t, "a great age", "ask 1 a\nclose 0 999999\n"+strings.Repeat("pass 999\n", 67)+"ask 2 a\n", strings.TrimSuffix(strings.Repeat("0 ", 70), " ")+"\n1 done 0 \n2 done 66933 \nhits 1 kept a\n")
}

// shortLines are right ones, ones that are passed over, and ones with faults of each kind.
func shortLines() []string {
	return append(linesOfEvents(everyKindOfEvent()),
		"", " ", "#", "# ask 1 /a", "ask 2 /a", "ask 1 /b", "close 0 0", "close 1 9", "fall", "fall 1 2 3 4", " pass  1 ", "leave 30",
		"no", "ask 1", "ask 1 /a 5", "close 0", "pass 01", "pass 1000000001", "break 31", "leave -1", "fall 1 2 3 4 5", "fall x", "ask 1 "+letters(61), "# 2 3 4 5 6 7 8 9 10 11", "\t", "#\x7f",
	)
}

func TestEveryTwoAndThreeLines(t *testing.T) {
	lines := shortLines()
	for _, first := range lines {
		for _, second := range lines {
			wantScriptByRule(t, "two lines", first+"\n"+second)
			wantScriptByRule(t, "two lines", first+"\n"+second+"\n")
		}
	}
	var few []string
	for i, line := range lines {
		if i%2 == 0 {
			few = append(few, line)
		}
	}
	for _, turn := range everyTurns(3, len(few)) {
		wantScriptByRule(t, "three lines", scriptOf(few[turn[0]], few[turn[1]], few[turn[2]]))
	}
}

// drawnLine is of parts that are drawn, most often those of an event, some with a part turned.
func drawnLine(draws string) string {
	words := []string{"ask", "part", "close", "break", "pass", "leave", "fall", "fall", "ask", "close"}
	numbers := []string{"0", "1", "2", "3", "9", "10", "30", "31", "01", "1000000000", "1000000001", "-1", "x"}
	texts := []string{"/a", "/b", "c", "#", "hi", letters(30), letters(60), letters(61), "0", "~"}
	pick := func(i, right int, list []string) string {
		if draws[i]%64 == 0 {
			return list[int(draws[i+1])%len(list)]
		}
		return list[int(draws[i+1])%right]
	}
	word := pick(0, len(words), words)
	parts := []string{word}
	switch word {
	case "ask", "part":
		parts = append(parts, pick(2, 5, numbers), pick(4, 7, texts))
	case "close":
		parts = append(parts, pick(2, 3, numbers), pick(4, 7, numbers))
	case "fall":
		for i := range int(draws[6]) % 4 {
			parts = append(parts, pick(2+i, 8, numbers))
		}
	default:
		parts = append(parts, pick(2, 7, numbers))
	}
	switch draws[8] {
	case 0, 1:
		parts = append(parts, "1")
	case 2, 3:
		parts = parts[:len(parts)-1]
	case 4:
		parts[0] = strings.ToUpper(word)
	case 5:
		parts = append(parts, "\x00")
	case 6, 7, 8, 9, 10, 11, 12, 13, 14, 15:
		parts = slices.Insert(parts, 0, "#")
	case 16, 17, 18, 19, 20, 21, 22, 23:
		parts = nil
	}
	return strings.Repeat(" ", int(draws[7])%5/4) + strings.Join(parts, " "+strings.Repeat(" ", int(draws[7])/5%6/5))
}

func TestDrawnScripts(t *testing.T) {
	right, faults := 0, map[int]int{}
	for seed := range uint32(4000) {
		count := []int{3, 10, 30, 60, 80, 95}[seed%6]
		draws := drawn(10*count, seed*97+5)
		text := ""
		for i := range count {
			text += drawnLine(draws[10*i:10*i+10]) + "\n"
		}
		if seed%3 == 0 {
			text = strings.TrimSuffix(text, "\n")
		}
		fault := wantScriptByRule(t, "drawn", text)
		if fault == 0 {
			right++
		}
		faults[min(fault, 11)]++
	}
	if right < 300 || faults[-1] < 100 || faults[11] < 100 {
		t.Errorf("%d right, faults in lines %v: the draws tell too little", right, faults)
	}
}

// Texts of whatever bytes.
func TestDrawnBytes(t *testing.T) {
	signs := "\n\n\n  ##019-ask part close break pass leave fall\x00\x7f\xff\r\t"
	for seed := range uint32(3000) {
		size := int(seed) % 60
		bytes := []byte(drawn(size, seed*101+9))
		wantScriptByRule(t, "any bytes", string(bytes))
		for i, b := range bytes {
			bytes[i] = signs[int(b)%len(signs)]
		}
		wantScriptByRule(t, "few bytes", string(bytes))
	}
	line := "ask 1 /a\n# x\nclose 0 9\nfall 1 2\n"
	for at := range len(line) {
		for b := range 256 {
			wantScriptByRule(t, "one byte turned", withByteAt(line, at, byte(b)))
		}
		wantScriptByRule(t, "cut", line[:at])
		wantScriptByRule(t, "one byte less", line[:at]+line[at+1:])
		wantScriptByRule(t, "a line more", line[:at]+"\n"+line[at:])
		wantScriptByRule(t, "a blank more", line[:at]+" "+line[at:])
	}
}

// tellable is an event that a line can tell, with as much of another one as there can be.
func tellable(e impl.Event) impl.Event {
	told := impl.Event{Kind: e.Kind}
	if e.Kind != 5 && e.Kind != 7 {
		told.Id = e.Id
	}
	if e.Kind < 3 {
		text := []byte("x" + e.Text[:min(len(e.Text), 30)])
		if e.Kind == 1 && e.Text != "" {
			text = text[1:]
		}
		for i, b := range text {
			text[i] = 33 + b%94
		}
		told.Text = string(text)
	}
	if e.Kind == 3 || e.Kind == 5 {
		told.N = min(e.N, impl.MaxNumber)
	}
	if e.Kind == 7 {
		for _, n := range e.Left {
			told.Left = append(told.Left, max(n, 0))
		}
	}
	return told
}

func drawnTellable(seed uint32, size int) []impl.Event {
	draws := drawn(3*size, seed)
	lives := [][]int{{0, 1, 2, 5, 1000000}, {5, 20, 1000003}, {900, 999999, 1999999}}[seed%3]
	l := newLifeByRule()
	var events []impl.Event
	for i := 0; i < len(draws); i += 3 {
		e := tellable(drawnEvent(draws[i:i+3], l.world.Proxy, []int{12, 4, 8}[seed/3%3], lives))
		l.happens(e)
		events = append(events, e)
	}
	return events
}

// withPassedLines has drawn lines that are passed over between the lines, as many as there is room for.
func withPassedLines(lines []string, seed uint32) []string {
	var passed []string
	for _, line := range passedLines() {
		if len(line) < 24 {
			passed = append(passed, line)
		}
	}
	for _, draw := range []byte(drawn(90-len(lines), seed)) {
		longer := slices.Insert(slices.Clone(lines), int(draw)%(len(lines)+1), passed[int(draw)/7%len(passed)])
		if len(scriptOf(longer...)) <= 3000 {
			lines = longer
		}
	}
	return lines
}

// Promise 19: a script tells what its events do; lines that are passed over change nothing.
func TestScriptsTellWhatTheirEventsDo(t *testing.T) {
	codes, shown, kept := map[int]int{}, map[string]int{}, 0
	for seed := range uint32(400) {
		events := drawnTellable(seed*103+seed%8, []int{70, 70, 69, 40, 12, 3, 0}[seed%7])
		lines := linesOfEvents(events)
		for len(scriptOf(lines...)) > 3000 {
			lines, events = lines[1:], events[1:]
		}
		w, ok := impl.RunLife(events)
		want, _ := worldByRule(events)
		if !ok || !sameWorld(w, want) {
			t.Fatalf("%s\n%v %s", toldEvents(events), ok, toldWorld(w))
		}
		text := scriptOf(lines...)
		wantReadScript(t, "drawn life", text, events, 0)
		wantConsole(t, "drawn life", text, shownByRule(want))
		for more := range uint32(3) {
			passed := scriptOf(withPassedLines(lines, seed*7+more)...)
			wantReadScript(t, "drawn life with passed lines", passed, events, 0)
			wantConsole(t, "drawn life with passed lines", passed, shownByRule(want))
			wantConsole(t, "drawn life with passed lines", strings.TrimSuffix(passed, "\n"), shownByRule(want))
		}
		for _, code := range w.Codes {
			codes[code]++
		}
		for _, c := range w.Proxy.Clients {
			shown[map[int]string{1: "waits", 2: "done", 3: "failed"}[c.State]]++
		}
		kept += len(w.Proxy.Entries)
	}
	if codes[0] < 1000 || codes[1] < 1000 || shown["waits"] < 40 || shown["done"] < 40 || shown["failed"] < 10 || kept < 200 {
		t.Errorf("codes %v, clients %v, %d entries: the draws tell too little", codes, shown, kept)
	}
}

// A fault among the lines of a life is told at its place, wherever that is.
func TestFaultsAnywhere(t *testing.T) {
	for seed := range uint32(40) {
		lines := linesOfEvents(drawnTellable(seed*107+1, 20))
		for place := range len(lines) + 1 {
			for _, wrong := range []string{"no", "ask 1", "fall 1 2 3 4 5", "close 0 1000000001", "leave 31", "#\x00"} {
				wantFault(t, "a fault in a life", scriptOf(slices.Insert(slices.Clone(lines), place, wrong)...), place+1)
			}
		}
	}
}

// scriptsToTry are of all that a script can have.
func scriptsToTry() []string {
	list := []string{
		"", "\n", "# a\n", "pass 3", "ask 1 /a\npart 0 hi\nclose 0 9\nask 2 /a\npart 0 hi\nask 3 hi\nask 4 /a\n", "ask 1 " + letters(60) + "\npart 1 " + letters(60) + "\npart 2 " + letters(60), "fall\nfall 1\nfall 1 2\nfall 1 2 3 4\nfall 4 3 2 1\n",
		"no", "ask 1 /a\npart 0 hi\nno\n", strings.Repeat("pass 3\n", 71), strings.Repeat("\n", 91), letters(3001), scriptOf(linesOfEvents(everyKindOfEvent())...),
	}
	for seed := range uint32(12) {
		list = append(list, scriptOf(linesOfEvents(drawnTellable(seed*109+3, 50))...))
	}
	return list
}

func TestScriptsChangeNothing(t *testing.T) {
	for _, script := range scriptsToTry() {
		given := ownText(script)
		events, fault := impl.ReadScript(given)
		again, _ := impl.ReadScript(given)
		told, toldAgain := impl.Console(given), impl.Console(given)
		if given != script || told != toldAgain {
			t.Fatalf("%q is changed, or the second answer is another one", script)
		}
		texts := textsOfEvents(events)
		wantApart(t, "ReadScript", texts, append(textsOfEvents(again), given))
		wantApart(t, "Console", []string{told}, []string{given, toldAgain})
		for i, text := range texts {
			wantApart(t, "ReadScript", []string{text}, texts[i+1:])
		}
		want, wantedFault := scriptByRule(script)
		for i, e := range events {
			for j := range e.Left[:cap(e.Left)] {
				e.Left[:cap(e.Left)][j] = -99
			}
			events[i] = impl.Event{Kind: -97}
			if !slices.EqualFunc(events[i+1:], want[i+1:], sameEvent) {
				t.Fatalf("%q: the event %d is spoilt, and so is another: %s", script, i, toldEvents(events))
			}
		}
		for i := range events[:cap(events)] {
			events[:cap(events)][i] = impl.Event{Kind: -97, Text: "spoilt"}
		}
		third, thirdFault := impl.ReadScript(given)
		if !slices.EqualFunc(again, want, sameEvent) || !slices.EqualFunc(third, want, sameEvent) || fault != wantedFault || thirdFault != fault {
			t.Fatalf("%q: an answer is spoilt, and so is another one: %s", script, toldEvents(again))
		}
	}
}

func TestShowClientsChangesNothing(t *testing.T) {
	odd := impl.Proxy{Clients: []impl.Client{{Id: 5, State: 2, Age: -3, Got: "x"}, {Id: -2, State: 9, Age: math.MinInt}, {Id: 1, State: 0, Age: 4, Got: " y\n"}}}
	for _, p := range append(someProxies(), odd) {
		given, untouched := roomyProxy(p), roomyProxy(p)
		told, again := impl.ShowClients(given.proxy), impl.ShowClients(given.proxy)
		if !given.same(untouched) || told != again {
			t.Fatalf("what was handed in is changed, or the second answer is another one: %s", toldProxy(given.proxy))
		}
		wantApart(t, "ShowClients", []string{told}, append(textsOfProxy(given.proxy), again))
		spoilProxy(given.proxy)
		if told != showByRule(p) {
			t.Fatalf("what was handed in is spoilt, and so is the answer: %q", told)
		}
	}
}

// Many scripts may be told at the same time: each tells what it tells alone.
func TestConsolesAtOnce(t *testing.T) {
	scripts := scriptsToTry()
	p := busyProxy()
	faults := make([]string, len(scripts))
	var all sync.WaitGroup
	for i, script := range scripts {
		all.Go(func() {
			want := consoleByRule(script)
			events, fault := scriptByRule(script)
			for range 20 {
				if got := impl.Console(script); got != want {
					faults[i] = got
				}
				if got, gotFault := impl.ReadScript(script); gotFault != fault || !slices.EqualFunc(got, events, sameEvent) {
					faults[i] = toldEvents(got)
				}
				if got := impl.ShowClients(p); got != showByRule(p) {
					faults[i] = got
				}
			}
		})
	}
	all.Wait()
	for i, fault := range faults {
		if fault != "" {
			t.Errorf("the script %d at the same time as others: %s", i, fault)
		}
	}
}
