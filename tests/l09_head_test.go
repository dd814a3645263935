package tests

import (
	"regexp"
	"slices"
	"strings"
	"testing"
	"unsafe"

	"loop.example/g00245/impl"
)

// fields has fields told as name and value, one behind the other.
func fields(texts ...string) []impl.Field {
	var list []impl.Field
	for i := 0; i < len(texts); i += 2 {
		list = append(list, impl.Field{Name: texts[i], Value: texts[i+1]})
	}
	return list
}

func head(line string, texts ...string) impl.Head {
	return impl.Head{Line: line, Fields: fields(texts...)}
}

func sameHead(a, b impl.Head) bool {
	return a.Line == b.Line && slices.Equal(a.Fields, b.Fields)
}

func cloneHead(h impl.Head) impl.Head {
	return impl.Head{Line: h.Line, Fields: slices.Clone(h.Fields)}
}

// lines has each text with a line's end behind it.
func lines(texts ...string) string {
	all := ""
	for _, text := range texts {
		all += text + "\r\n"
	}
	return all
}

func writtenByRule(h impl.Head) string {
	all := []string{h.Line}
	for _, f := range h.Fields {
		all = append(all, f.Name+": "+f.Value)
	}
	return lines(append(all, "")...)
}

// The rules of chapter 9 as patterns over bytes; oneRune makes a rune of each byte, so that they count bytes.
const (
	linePattern  = `[ -~]{1,80}`
	valuePattern = `(?:[!-~](?:[ -~]{0,58}[!-~])?)?`
	fieldPattern = `([A-Za-z-]{1,20}): *(` + valuePattern + `) *\r\n`
)

var (
	smallName   = regexp.MustCompile(`\A[a-z-]{1,20}\z`)
	wholeValue  = regexp.MustCompile(`\A` + valuePattern + `\z`)
	wholeLine   = regexp.MustCompile(`\A` + linePattern + `\z`)
	oneField    = regexp.MustCompile(fieldPattern)
	wholeHead   = regexp.MustCompile(`\A(` + linePattern + `)\r\n((?:` + fieldPattern + `){0,8})\r\n`)
	headBegins  = regexp.MustCompile(`\A` + linePattern + `\r\n(?:` + fieldPattern + `){0,8}[^\r\n]*\r?\z`)
	firstBegins = regexp.MustCompile(`\A[^\x00-\x1f]{0,80}\r?\z`)
	getLine     = regexp.MustCompile(`\AGET (/[!-~]{0,19}) HTTP/1\.1\z`)
	statusLine  = regexp.MustCompile(`(?s)\AHTTP/1\.1 ([1-5])([0-9])([0-9]) .*\z`)
)

func oneRune(text string) string {
	var runes []rune
	for i := range len(text) {
		runes = append(runes, rune(text[i]))
	}
	return string(runes)
}

func fieldOkByRule(f impl.Field) bool {
	return smallName.MatchString(oneRune(f.Name)) && wholeValue.MatchString(oneRune(f.Value))
}

func headOkByRule(h impl.Head) bool {
	for _, f := range h.Fields {
		if !fieldOkByRule(f) {
			return false
		}
	}
	return wholeLine.MatchString(oneRune(h.Line)) && len(h.Fields) < 9 && len(writtenByRule(h)) < 301
}

// readByRule takes a text by the patterns alone: a whole head, or a beginning of one, or none.
func readByRule(text string) (impl.Head, int, int) {
	seen := oneRune(text)
	if parts := wholeHead.FindStringSubmatch(seen); parts != nil {
		h := impl.Head{Line: parts[1]}
		for _, field := range oneField.FindAllStringSubmatch(parts[2], -1) {
			h.Fields = append(h.Fields, impl.Field{Name: strings.ToLower(field[1]), Value: field[2]})
		}
		if len(writtenByRule(h)) > 300 {
			return impl.Head{}, 0, 2
		}
		return h, len(parts[0]), 0
	}
	if len(text) <= 300 && (firstBegins.MatchString(seen) || headBegins.MatchString(seen)) {
		return impl.Head{}, 0, 1
	}
	return impl.Head{}, 0, 2
}

func wantRead(t *testing.T, text string, want impl.Head, size, code int) {
	t.Helper()
	h, n, no := impl.ReadHead(text)
	if !sameHead(h, want) || n != size || no != code {
		t.Errorf("ReadHead of %q: %q, %d, %d; want %q, %d, %d", text, h, n, no, want, size, code)
	}
}

func wantMoreOf(t *testing.T, text string) {
	t.Helper()
	wantRead(t, text, impl.Head{}, 0, 1)
}

func wantBad(t *testing.T, text string) {
	t.Helper()
	wantRead(t, text, impl.Head{}, 0, 2)
}

func wantByPatterns(t *testing.T, text string) int {
	t.Helper()
	want, size, code := readByRule(text)
	wantRead(t, text, want, size, code)
	return code
}

func wantField(t *testing.T, f impl.Field, want bool) {
	t.Helper()
	if impl.FieldOk(f) != want {
		t.Errorf("FieldOk of %q: %v", f, !want)
	}
	h := impl.Head{Line: "a", Fields: []impl.Field{f}}
	if text, ok := impl.HeadText(h); impl.HeadOk(h) != want || ok != want || !want && text != "" {
		t.Errorf("a head with the field %q: %v, %q, %v", f, impl.HeadOk(h), text, ok)
	}
}

// wantWritten asks for a right head's text, and reads it back, with other bytes behind it, too.
func wantWritten(t *testing.T, h impl.Head, want string) {
	t.Helper()
	text, ok := impl.HeadText(h)
	if !impl.HeadOk(h) || !ok || text != want {
		t.Errorf("%q: %v, %q, %v; want %q", h, impl.HeadOk(h), text, ok, want)
	}
	for _, behind := range []string{"", "x", "\r", "\n", "\r\n", "\r\n\r\n", "\x00\xff", "b: c\r\n\r\n", want, strings.Repeat("z", 400)} {
		wantRead(t, want+behind, h, len(want), 0)
	}
}

func wantNotRight(t *testing.T, h impl.Head) {
	t.Helper()
	if text, ok := impl.HeadText(h); impl.HeadOk(h) || ok || text != "" {
		t.Errorf("%q: %v, %q, %v", h, impl.HeadOk(h), text, ok)
	}
}

func manyFields(count int) []impl.Field {
	var list []impl.Field
	for i := range count {
		list = append(list, impl.Field{Name: "n-" + string(rune('a'+i)), Value: "v " + string(rune('0'+i))})
	}
	return list
}

// headOfSize is one whose text has so many bytes, of 92 to 300 or some more.
func headOfSize(size int) impl.Head {
	h := head(strings.Repeat("l", 60), "a", "", "bb", "", "c-c", "", "d", "")
	for i := range h.Fields {
		value := min(max(size-len(writtenByRule(h)), 0), 60)
		h.Fields[i].Value = strings.Repeat("v", value)
	}
	return h
}

func rightHeads() []impl.Head {
	list := []impl.Head{
		head("a"), head(" "), head("~"), head(" a  b "), head(":"), head("a: b"), head("GET /a HTTP/1.1"), head("HTTP/1.1 200 ok"),
		head(strings.Repeat("l", 80)), head("GET /a HTTP/1.1", "host", "b"), head("a", "b", ""), head("a", "-", "-"),
		head("a", "host", "b", "host", "c", "x", "", "host", "b"), head("a", "b", "c: d:", "e", ":", "f", "::"),
		head("a", strings.Repeat("n", 20), strings.Repeat("v", 60)), head("a", "b", "c  d   e"), head("a", "b", "!", "c", "~"),
		{Line: "a", Fields: manyFields(1)}, {Line: "a", Fields: manyFields(7)}, {Line: "a", Fields: manyFields(8)},
	}
	for _, size := range []int{120, 298, 299, 300} {
		list = append(list, headOfSize(size))
	}
	return list
}

func wrongHeads() []impl.Head {
	list := []impl.Head{
		{}, {Fields: fields("a", "b")}, head(strings.Repeat("l", 81)), head(strings.Repeat("l", 1000)), head("a\r"), head("\n"), head("a\r\nb"),
		head("\x1f"), head("\x7f"), head("a\x00"), head("\xffa"), head("\u00e9"), headOfSize(301), headOfSize(302), headOfSize(320),
		{Line: "a", Fields: manyFields(9)}, {Line: "a", Fields: manyFields(10)}, {Line: "a", Fields: make([]impl.Field, 1000)},
	}
	faults := fields("", "b", "B", "b", "a b", "b", "a:", "b", "a", " b", "a", "b ", "a", " ", "a", "b\r", "a", "\nb", "a", "b\x7f", "a_", "b",
		strings.Repeat("n", 21), "b", "a", strings.Repeat("v", 61), "", "", "a", "b\tc", "\u212a", "b")
	for _, fault := range faults {
		for size := 1; size <= 8; size++ {
			for place := range size {
				h := impl.Head{Line: "a", Fields: manyFields(size)}
				h.Fields[place] = fault
				list = append(list, h)
			}
		}
	}
	return list
}

func TestHeadNumbers(t *testing.T) {
	if impl.HeadMore != 1 || impl.HeadBad != 2 || impl.MaxHead != 300 || impl.MaxFields != 8 {
		t.Errorf("%d, %d, %d, %d", impl.HeadMore, impl.HeadBad, impl.MaxHead, impl.MaxFields)
	}
}

func TestFieldNames(t *testing.T) {
	for size, want := range map[int]bool{0: false, 1: true, 2: true, 19: true, 20: true, 21: false, 22: false, 200: false} {
		for _, letter := range []string{"a", "m", "z", "-"} {
			wantField(t, impl.Field{Name: strings.Repeat(letter, size), Value: "v"}, want)
		}
	}
	for i := range 256 {
		one := string([]byte{byte(i)})
		want := i == '-' || i >= 'a' && i <= 'z'
		for _, name := range []string{one, one + "b", "a" + one, "a" + one + "b", strings.Repeat("n", 19) + one} {
			wantField(t, impl.Field{Name: name, Value: "v"}, want)
		}
	}
}

func TestFieldValues(t *testing.T) {
	for size, want := range map[int]bool{0: true, 1: true, 2: true, 59: true, 60: true, 61: false, 62: false, 200: false} {
		for _, letter := range []string{"a", "!", "~", "Z", ":"} {
			wantField(t, impl.Field{Name: "n", Value: strings.Repeat(letter, size)}, want)
		}
	}
	for i := range 256 {
		one := string([]byte{byte(i)})
		within := i >= 32 && i <= 126
		wantField(t, impl.Field{Name: "n", Value: "a" + one + "b"}, within)
		wantField(t, impl.Field{Name: "n", Value: "a" + one + one + "b"}, within)
		for _, value := range []string{one, one + "b", "a" + one, one + one, strings.Repeat("v", 59) + one, one + strings.Repeat("v", 59)} {
			wantField(t, impl.Field{Name: "n", Value: value}, within && i != 32)
		}
	}
	for size := 1; size <= 62; size++ {
		wantField(t, impl.Field{Name: "n", Value: strings.Repeat(" ", size)}, false)
	}
	wantField(t, impl.Field{Name: "n", Value: "a" + strings.Repeat(" ", 58) + "b"}, true)
	wantField(t, impl.Field{Name: "n", Value: "a" + strings.Repeat(" ", 59) + "b"}, false)
}

func TestHeadLines(t *testing.T) {
	for _, size := range []int{1, 2, 79, 80} {
		line := strings.Repeat("l", size)
		wantWritten(t, head(line), lines(line, ""))
		wantWritten(t, head(line, "a", "b"), lines(line, "a: b", ""))
	}
	for _, size := range []int{0, 81, 82, 300, 1000} {
		line := strings.Repeat("l", size)
		wantNotRight(t, head(line))
		wantNotRight(t, head(line, "a", "b"))
		wantBad(t, lines(line, ""))
		wantBad(t, lines(line, "a: b", ""))
		wantBad(t, lines(line))
		wantBad(t, lines(line, "a: b"))
	}
	for i := range 256 {
		one := string([]byte{byte(i)})
		for _, line := range []string{one, one + "b", "a" + one, "a" + one + "b", strings.Repeat("l", 79) + one} {
			if i >= 32 && i <= 126 {
				wantWritten(t, head(line), lines(line, ""))
				wantMoreOf(t, lines(line))
			} else {
				wantNotRight(t, head(line))
				wantBad(t, lines(line, ""))
				wantBad(t, lines(line))
			}
		}
	}
}

func TestHeadText(t *testing.T) {
	wantWritten(t, head("GET / HTTP/1.1"), "GET / HTTP/1.1\r\n\r\n")
	wantWritten(t, head("HTTP/1.1 200 ok", "host", "b"), "HTTP/1.1 200 ok\r\nhost: b\r\n\r\n")
	wantWritten(t, head("a", "b", ""), "a\r\nb: \r\n\r\n")
	wantWritten(t, head("a", "x", "1", "b", "2", "x", "3 : 4"), "a\r\nx: 1\r\nb: 2\r\nx: 3 : 4\r\n\r\n")
	for _, h := range rightHeads() {
		wantWritten(t, h, writtenByRule(h))
	}
	for _, h := range wrongHeads() {
		wantNotRight(t, h)
	}
}

func TestManyFields(t *testing.T) {
	for count := range 13 {
		h := impl.Head{Line: "a", Fields: manyFields(count)}
		text := writtenByRule(h)
		if count <= 8 {
			wantWritten(t, h, text)
			wantMoreOf(t, text[:len(text)-2])
			wantMoreOf(t, text[:len(text)-1])
			continue
		}
		wantNotRight(t, h)
		wantBad(t, text)
		wantBad(t, text[:len(text)-2])
		wantBad(t, text[:len(text)-1])
	}
	// A ninth line that has not ended is none yet.
	eight := writtenByRule(impl.Head{Line: "a", Fields: manyFields(8)})
	eight = eight[:len(eight)-2]
	for _, ninth := range []string{"n", "n:", "n: v", "n: v\r", "?", "\x00", "\r"} {
		wantMoreOf(t, eight+ninth)
	}
	wantBad(t, eight+"n: v\r\n")
	wantBad(t, eight+"n: v\r\n\r\n")
}

func TestHeadSizes(t *testing.T) {
	for size := 92; size <= 310; size++ {
		h := headOfSize(size)
		text := writtenByRule(h)
		if len(text) != size {
			t.Fatalf("a head of %d bytes, not of %d", len(text), size)
		}
		if size <= 300 {
			wantWritten(t, h, text)
		} else {
			wantNotRight(t, h)
			wantBad(t, text)
			wantBad(t, text+"x")
		}
	}
}

// Each limit of MaxHead is of a text: of the one that would be written when the head is whole, of the one that is read when it is not.
func TestHeadSizeOfBlanks(t *testing.T) {
	tight := func(h impl.Head) string { return strings.ReplaceAll(writtenByRule(h), ": ", ":") }
	for _, size := range []int{298, 299, 300} {
		h := headOfSize(size)
		wantRead(t, tight(h), h, size-4, 0)
		wide := strings.ReplaceAll(writtenByRule(h), ": ", ":    ")
		wantRead(t, wide, h, size+12, 0)
		wantMoreOf(t, wide[:300])
		wantBad(t, wide[:301])
	}
	for _, size := range []int{301, 302, 304} {
		text := tight(headOfSize(size))
		wantBad(t, text)
		wantMoreOf(t, text[:len(text)-2])
	}
	for _, blanks := range []int{100, 280, 290, 300, 1000, 100000} {
		text := lines("a", "b:"+strings.Repeat(" ", blanks)+"c"+strings.Repeat(" ", blanks), "")
		wantRead(t, text, head("a", "b", "c"), len(text), 0)
	}
}

func TestLongWithoutAnEnd(t *testing.T) {
	for _, size := range []int{299, 300, 301, 302, 1000} {
		text := lines("a", "b: "+strings.Repeat("v", 60), "c: "+strings.Repeat("v", 60), "d: "+strings.Repeat("v", 60))
		for _, letter := range []string{"x", " ", ":", "\x00", "\xff"} {
			long := text + strings.Repeat(letter, size-len(text))
			if size <= 300 {
				wantMoreOf(t, long)
				wantMoreOf(t, long[:size-1]+"\r")
			} else {
				wantBad(t, long)
				wantBad(t, long[:size-1]+"\r")
			}
		}
		// All lines have ended, but no empty one is there.
		rest := size - len(text) - len("e: \r\n")
		whole := text + lines("e: "+strings.Repeat(" ", rest))
		if size <= 300 {
			wantMoreOf(t, whole)
		} else {
			wantBad(t, whole)
		}
		first := strings.Repeat("l", size)
		wantBad(t, first)
		wantBad(t, "\r\n"+first)
	}
}

func TestReadHead(t *testing.T) {
	wantRead(t, "GET /a HTTP/1.1\r\nHost:  b \r\n\r\nxx", head("GET /a HTTP/1.1", "host", "b"), 30, 0)
	wantRead(t, "a\r\n\r\n", head("a"), 5, 0)
	wantRead(t, "a\r\n\r\n\r\n", head("a"), 5, 0)
	wantRead(t, "a\r\n\r\nb: c\r\n\r\n", head("a"), 5, 0)
	wantRead(t, " A b \r\nC:D\r\n\r\n", head(" A b ", "c", "D"), 14, 0)
	wantRead(t, "a\r\nB-c:d e\r\nB-C:\r\n\r\n", head("a", "b-c", "d e", "b-c", ""), 20, 0)
	wantRead(t, "a\r\nb:c:d\r\ne::\r\n\r\n", head("a", "b", "c:d", "e", ":"), 17, 0)
	for _, wrong := range []string{"a b", "b", ":", ":b", " :b", ": b", "b :c", " b:c", "b", "?", "b;c", "b_:c", "b\t:c", "b:\tc", "b:c\t", "b:c\td", "1:c", "b:\x7f", "b:\xe9", "\xe9:b"} {
		wantBad(t, lines("a", wrong, ""))
		wantBad(t, lines("a", wrong))
		wantBad(t, lines("a", "x: y", wrong))
		wantBad(t, lines("a", wrong, "x: y", ""))
		wantBad(t, lines("a", "x: y", wrong, ""))
		wantBad(t, lines("a", wrong)+"b: ")
		wantMoreOf(t, "a\r\n"+wrong)
	}
	wantBad(t, "a\n\n")
	wantBad(t, "a\r\r")
	wantBad(t, "a\n\r\n\r")
}

func TestBlanksAboutAValue(t *testing.T) {
	counts := []int{0, 1, 2, 3, 7, 30}
	for _, ahead := range counts {
		for _, behind := range counts {
			for _, value := range []string{"", "b", "b c", "b   c", ":", strings.Repeat("v", 60)} {
				line := "n:" + strings.Repeat(" ", ahead) + value + strings.Repeat(" ", behind)
				text := lines("a", line, "x: y", "")
				wantRead(t, text+"z", head("a", "n", value, "x", "y"), len(text), 0)
			}
			long := "n:" + strings.Repeat(" ", ahead) + strings.Repeat("v", 61) + strings.Repeat(" ", behind)
			wantBad(t, lines("a", long, ""))
		}
	}
}

func TestGreatLetters(t *testing.T) {
	wantRead(t, lines("GET", "HOST: B", "hOsT: c", "Z-A-z: Q", ""), head("GET", "host", "B", "host", "c", "z-a-z", "Q"), 35, 0)
	for i := range 256 {
		one := string([]byte{byte(i)})
		small := one
		if i >= 'A' && i <= 'Z' {
			small = string([]byte{byte(i + 32)})
		}
		right := small == "-" || small >= "a" && small <= "z"
		for _, name := range []string{one, "a" + one, one + "B", "A" + one + "b", strings.Repeat("N", 19) + one} {
			text := lines("l", name+": V", "")
			switch {
			case right:
				wantRead(t, text, head("l", strings.ToLower(name), "V"), len(text), 0)
				wantField(t, impl.Field{Name: name, Value: "V"}, name == strings.ToLower(name))
			case i == ':':
				wantByPatterns(t, text)
			default:
				wantBad(t, text)
			}
		}
	}
	// By runes these would become small letters.
	for _, name := range []string{"\u212a", "\u0130", "a\u212ab", "\u017f"} {
		wantBad(t, lines("l", name+": v", ""))
		wantBad(t, lines("l", name+": v"))
	}
	for size, right := range map[int]bool{0: false, 1: true, 20: true, 21: false} {
		text := lines("l", strings.Repeat("Q", size)+":v", "")
		if right {
			wantRead(t, text, head("l", strings.Repeat("q", size), "v"), len(text), 0)
		} else {
			wantBad(t, text)
		}
	}
}

func TestCutHeads(t *testing.T) {
	var texts []string
	for _, h := range rightHeads() {
		texts = append(texts, writtenByRule(h), strings.ReplaceAll(writtenByRule(h), ": ", ":"))
	}
	texts = append(texts, lines("a", "HOST:   b  c   ", "x:", "Y:   ", ""))
	for _, text := range texts {
		if len(text) > 300 {
			t.Fatalf("%q is too long", text)
		}
		_, size, code := impl.ReadHead(text)
		if code != 0 || size != len(text) {
			t.Fatalf("%q: %d, %d", text, size, code)
		}
		for cut := range size {
			wantMoreOf(t, text[:cut])
		}
	}
}

func TestFirstLineWithoutAnEnd(t *testing.T) {
	wantMoreOf(t, "")
	wantMoreOf(t, "\r")
	for _, text := range []string{"\r\n", "\r\n\r", "\r\n\r\n", "\r\na", "\r\na: b\r\n", "\r\na: b\r\n\r\n", "\n", "\n\r\n", "\r\r", "\r\r\n", "\rx"} {
		wantBad(t, text)
	}
	for size := range 120 {
		line := strings.Repeat("l", size)
		if size <= 80 {
			wantMoreOf(t, line)
			wantMoreOf(t, line+"\r")
		} else {
			wantBad(t, line)
			wantBad(t, line+"\r")
		}
		wantBad(t, line+"\rx")
		wantBad(t, line+"\r\r")
		wantBad(t, line+"\n")
		wantBad(t, line+"\nx")
		wantBad(t, line+"\r\n\n\n")
	}
	for i := range 256 {
		one := string([]byte{byte(i)})
		if i >= 32 {
			for _, text := range []string{one, "a" + one, one + "a", "a" + one + "a\r", strings.Repeat(one, 80), strings.Repeat(one, 80) + "\r"} {
				wantMoreOf(t, text)
			}
			wantBad(t, strings.Repeat(one, 81))
			continue
		}
		for _, text := range []string{one + "a", "a" + one + "a", one + one, one + "\r", "a" + one + "\r"} {
			wantBad(t, text)
		}
		if i != 13 {
			wantBad(t, one)
			wantBad(t, "a"+one)
		}
	}
}

func TestLaterLineWithoutAnEnd(t *testing.T) {
	for _, ahead := range []string{lines("a"), lines("a", "b: c"), lines("a", "b: c", "D:")} {
		wantMoreOf(t, ahead)
		wantMoreOf(t, ahead+"\r")
		for i := range 256 {
			one := string([]byte{byte(i)})
			if i == 10 || i == 13 {
				continue
			}
			for _, line := range []string{one, "x" + one, one + "x", "x:" + one, one + one, strings.Repeat(one, 200)} {
				wantMoreOf(t, ahead+line)
				wantMoreOf(t, ahead+line+"\r")
			}
		}
	}
	wantMoreOf(t, lines("a")+strings.Repeat("n", 21)+": v")
	wantMoreOf(t, lines("a")+"n: "+strings.Repeat("v", 100))
}

// A 10 without 13 ahead, or a 13 with another byte behind it, is no part of a line, whether that ends or not.
func TestHalvesOfAnEnd(t *testing.T) {
	for _, ahead := range []string{"", lines("a"), lines("a", "b: c")} {
		for _, line := range []string{"", "x", "x:", "x: y", "x: y "} {
			if ahead+line != "" {
				wantMoreOf(t, ahead+line)
			}
			wantMoreOf(t, ahead+line+"\r")
			for _, half := range []string{"\n", "\rx", "\r ", "\r\r", "\r\x00", "\r\xff", "\r:", "\n\n", "\n\r", "x\n"} {
				for _, behind := range []string{"", "y", "y\r", "y\r\n", "\r\n", "y\r\n\r\n", "\r\n\r\n", "x: y\r\n\r\n"} {
					if half == "\r\r" && strings.HasPrefix(behind, "\r") {
						continue
					}
					wantBad(t, ahead+line+half+behind)
				}
			}
		}
	}
	wantBad(t, "a\r\n\n")
	wantBad(t, "a\r\n\rx")
	wantBad(t, "a\r\n\r\r\n")
	wantBad(t, "a\r\nb: c\n")
	wantBad(t, "a\r\nb: c\rd")
	wantBad(t, "a\r\nb: c\r\r\n\r\n")
	wantBad(t, "a\r\nb: c\n\r\n\r\n")
	// Behind the empty line they are not the head's.
	wantRead(t, "a\r\n\r\n\n\r\n\rx", head("a"), 5, 0)
}

func TestFieldOf(t *testing.T) {
	h := head("a", "host", "b", "x", "", "host", "c", "Host", "d", "", "e", "y z", " f ")
	for name, want := range map[string]string{"host": "b", "x": "", "Host": "d", "": "e", "y z": " f "} {
		if value, ok := impl.FieldOf(h, name); value != want || !ok {
			t.Errorf("FieldOf %q: %q, %v", name, value, ok)
		}
	}
	for _, name := range []string{"HOST", "hos", "hostt", "X", "b", "a", " x", "x ", "y", "\x00"} {
		if value, ok := impl.FieldOf(h, name); value != "" || ok {
			t.Errorf("FieldOf %q: %q, %v", name, value, ok)
		}
	}
	for _, none := range []impl.Head{{}, {Line: "host"}, {Fields: []impl.Field{}}} {
		if value, ok := impl.FieldOf(none, "host"); value != "" || ok {
			t.Errorf("%q: %q, %v", none, value, ok)
		}
	}
	long := impl.Head{Fields: slices.Concat(make([]impl.Field, 50), fields("host", strings.Repeat("v", 90), "host", "b"))}
	if value, ok := impl.FieldOf(long, "host"); value != strings.Repeat("v", 90) || !ok {
		t.Errorf("of many: %q, %v", value, ok)
	}
}

// asked gives the line to heads whose fields are none, right, and not right: it alone is looked at.
func asked(line string) []impl.Head {
	return []impl.Head{head(line), head(line, "a", "b"), head(line, "", "\n"), {Line: line, Fields: manyFields(12)}}
}

func wantTarget(t *testing.T, line, want string, wantOk bool) {
	t.Helper()
	for _, h := range asked(line) {
		if target, ok := impl.TargetOf(h); target != want || ok != wantOk {
			t.Errorf("TargetOf %q: %q, %v; want %q, %v", line, target, ok, want, wantOk)
		}
	}
}

func TestTargetOf(t *testing.T) {
	for size := 1; size <= 30; size++ {
		for _, letter := range []string{"a", "/", "!", "~"} {
			target := "/" + strings.Repeat(letter, size-1)
			if size <= 20 {
				wantTarget(t, "GET "+target+" HTTP/1.1", target, true)
			} else {
				wantTarget(t, "GET "+target+" HTTP/1.1", "", false)
			}
		}
		wantTarget(t, "GET "+strings.Repeat("a", size)+" HTTP/1.1", "", false)
	}
	for i := range 256 {
		one := string([]byte{byte(i)})
		for _, target := range []string{"/" + one, "/a" + one + "b", "/" + strings.Repeat("a", 18) + one} {
			if i >= 33 && i <= 126 {
				wantTarget(t, "GET "+target+" HTTP/1.1", target, true)
			} else {
				wantTarget(t, "GET "+target+" HTTP/1.1", "", false)
			}
		}
		if i != '/' {
			wantTarget(t, "GET "+one+" HTTP/1.1", "", false)
			wantTarget(t, "GET "+one+"/a HTTP/1.1", "", false)
			wantTarget(t, "GET "+one+"a HTTP/1.1", "", false)
		}
	}
	line := "GET / HTTP/1.1"
	wantTarget(t, line, "/", true)
	for cut := range len(line) {
		wantTarget(t, line[:cut], "", false)
		wantTarget(t, line[cut+1:], "", false)
		wantTarget(t, line[:cut]+line[cut+1:], "", false)
		wantTarget(t, line[:cut]+" "+line[cut:], "", false)
	}
	for _, wrong := range []string{
		line + " ", " " + line, line + "\r\n", line + "x", "x" + line, "get / HTTP/1.1", "GET / http/1.1", "GET / HTTP/1.0", "GET / HTTP/1.2", "GET / HTTP/2", "GET  HTTP/1.1", "GET HTTP/1.1",
		"HEAD / HTTP/1.1", "POST /a HTTP/1.1", "GET /a /b HTTP/1.1", "GET /a  HTTP/1.1", "GET  /a HTTP/1.1", "GET\t/a HTTP/1.1", "GET /a\tHTTP/1.1", "GET /a", "GET ", " HTTP/1.1", "", "HTTP/1.1 200 ok", "GET /a HTTP/1.1 HTTP/1.1",
	} {
		wantTarget(t, wrong, "", false)
	}
}

// wantStatusIf wants the number where it holds, and none else.
func wantStatusIf(t *testing.T, line string, holds bool, number int) {
	t.Helper()
	if holds {
		wantStatus(t, line, number, true)
	} else {
		wantStatus(t, line, 0, false)
	}
}

func wantStatus(t *testing.T, line string, want int, wantOk bool) {
	t.Helper()
	for _, h := range asked(line) {
		if status, ok := impl.StatusOf(h); status != want || ok != wantOk {
			t.Errorf("StatusOf %q: %d, %v; want %d, %v", line, status, ok, want, wantOk)
		}
	}
}

func TestStatusOf(t *testing.T) {
	for n := range 1000 {
		figures := string([]byte{'0' + byte(n/100), '0' + byte(n/10%10), '0' + byte(n%10)})
		line := "HTTP/1.1 " + figures
		for _, behind := range []string{" ", " ok", "  ", " 200 ", " \x00\xff\r\n", " " + strings.Repeat("x", 100)} {
			wantStatusIf(t, line+behind, n >= 100 && n <= 599, n)
		}
		for _, behind := range []string{"", "0", "0 ", "x", "x ", "\r", "\t", "-", ".5 "} {
			wantStatus(t, line+behind, 0, false)
		}
	}
	for i := range 256 {
		one := string([]byte{byte(i)})
		figure := i - '0'
		wantStatusIf(t, "HTTP/1.1 2"+one+"3 ok", figure >= 0 && figure <= 9, 203+figure*10)
		wantStatusIf(t, "HTTP/1.1 22"+one+" ok", figure >= 0 && figure <= 9, 220+figure)
		wantStatusIf(t, "HTTP/1.1 "+one+"23 ok", figure >= 1 && figure <= 5, 23+figure*100)
		wantStatusIf(t, "HTTP/1.1 223"+one, i == 32, 223)
	}
	line := "HTTP/1.1 200 "
	for cut := range len(line) {
		wantStatus(t, line[:cut], 0, false)
		wantStatus(t, line[cut+1:], 0, false)
		wantStatus(t, line[:cut]+line[cut+1:], 0, false)
		wantStatusIf(t, line[:cut]+" "+line[cut:], cut == 12, 200)
	}
	for _, wrong := range []string{"", "200", "200 ok", "http/1.1 200 ok", "HTTP/1.0 200 ok", "HTTP/1.2 200 ok", "HTTP/1.1  200 ok", "HTTP/1.1 +20 ok", "HTTP/1.1 -20 ok", "HTTP/1.1 20 ok", "HTTP/1.1 2 ok", "HTTP/1.1 2000 ok", "x" + line, " " + line, "GET /a HTTP/1.1", "HTTP/1.1 \xd9\xa2\xd9\xa2 ok"} {
		wantStatus(t, wrong, 0, false)
	}
}

// drawnHead is right or nearly so, made of pieces at the edges.
func drawnHead(draws string) impl.Head {
	names := []string{"a", "host", "-", strings.Repeat("n", 20), "b-c", "a", "", "B", strings.Repeat("n", 21), "a b"}
	values := []string{"", "v", "v w", ":", strings.Repeat("v", 60), "!", "~", "a  b", " v", "v ", strings.Repeat("v", 61), "\x7f", "\r"}
	starts := []string{"a", "GET / HTTP/1.1", strings.Repeat("l", 80), " ", "~", strings.Repeat("l", 40), "a: b", "", strings.Repeat("l", 81), "\x1f"}
	pick := func(list []string, right int, at int) string {
		if draws[at]%24 != 0 {
			return list[int(draws[at+1])%right]
		}
		return list[int(draws[at+1])%len(list)]
	}
	h := impl.Head{Line: pick(starts, 7, 0)}
	for i := range int(draws[2]) % 10 {
		h.Fields = append(h.Fields, impl.Field{Name: pick(names, 6, 3+4*i), Value: pick(values, 8, 5+4*i)})
	}
	return h
}

func TestDrawnHeads(t *testing.T) {
	right := 0
	for seed := range uint32(6000) {
		h := drawnHead(drawn(50, seed*97+5))
		want := headOkByRule(h)
		text, ok := impl.HeadText(h)
		if impl.HeadOk(h) != want || ok != want || want && text != writtenByRule(h) || !want && text != "" {
			t.Fatalf("%q: %v, %q, %v", h, impl.HeadOk(h), text, ok)
		}
		for _, f := range h.Fields {
			if impl.FieldOk(f) != fieldOkByRule(f) {
				t.Fatalf("FieldOk of %q: %v", f, impl.FieldOk(f))
			}
		}
		if want {
			right++
			wantRead(t, text+"rest", h, len(text), 0)
			cut := int(seed) % len(text)
			wantMoreOf(t, text[:cut])
		}
	}
	if right < 1500 || right > 5500 {
		t.Errorf("%d of 6000 are right: the draws tell too little", right)
	}
}

// drawnWire puts pieces together that begin, go on and end lines.
func drawnWire(draws string) string {
	pieces := []string{
		"\r\n", "\r\n", "\r\n", "\r\n\r\n", "a: b\r\n", "A:B\r\n", "x-Y:  z  \r\n", "b:\r\n", "a", ":", " ", "Q", "~",
		"\r", "\n", "\x1f", "\x7f", "\xff", "GET / HTTP/1.1", "GET /a HTTP/1.1\r\n", strings.Repeat("n", 20), strings.Repeat("v", 59), strings.Repeat(" ", 30), "a: b\r\nc: d\r\n",
	}
	text := ""
	if draws[0]%4 != 0 {
		text = "l\r\n"
	}
	for i := range int(draws[1]) % 12 {
		text += pieces[int(draws[2+i])%len(pieces)]
	}
	return text
}

func TestDrawnWires(t *testing.T) {
	var codes [3]int
	for seed := range uint32(40000) {
		codes[wantByPatterns(t, drawnWire(drawn(16, seed*61+3)))]++
	}
	for code, count := range codes {
		if count < 2000 {
			t.Errorf("code %d came %d times: the draws tell too little", code, count)
		}
	}
}

// Every text of few bytes, of those that matter, behind beginnings of every kind.
func TestEveryShortWire(t *testing.T) {
	letters := []string{"\r", "\n", ":", " ", "a", "Z", "\x00", "\x7f"}
	texts := []string{""}
	for range 5 {
		var longer []string
		for _, text := range texts {
			for _, letter := range letters {
				longer = append(longer, text+letter)
			}
		}
		texts = longer
		for _, text := range texts {
			for _, ahead := range []string{"", "l\r\n", "l\r\nb:", "l\r\nb: c\r\n"} {
				wantByPatterns(t, ahead+text)
			}
		}
	}
}

// Each byte of a head's text is every other byte once, is left out, and is doubled.
func TestTurnedBytes(t *testing.T) {
	for _, text := range []string{lines("GET /a HTTP/1.1", "Host: b c", "x:", "-y-:  z ", ""), lines("~", "a: b", "")} {
		for at := range len(text) {
			for i := range 256 {
				wantByPatterns(t, text[:at]+string([]byte{byte(i)})+text[at+1:])
			}
			wantByPatterns(t, text[:at]+text[at+1:])
			wantByPatterns(t, text[:at]+text[at:at+1]+text[at:])
		}
	}
}

// Lines of `GET` and `HTTP` with each byte turned are told as the patterns tell them.
func TestTurnedLines(t *testing.T) {
	for _, line := range []string{"GET /a HTTP/1.1", "GET /" + strings.Repeat("b", 19) + " HTTP/1.1", "HTTP/1.1 200 ok", "HTTP/1.1 599 "} {
		for at := range len(line) {
			for i := range 256 {
				turned := line[:at] + string([]byte{byte(i)}) + line[at+1:]
				target, number := "", 0
				get, status := getLine.FindStringSubmatch(oneRune(turned)), statusLine.FindStringSubmatch(oneRune(turned))
				if get != nil {
					target = get[1]
				}
				if status != nil {
					number = 100*int(status[1][0]-'0') + 10*int(status[2][0]-'0') + int(status[3][0]-'0')
				}
				wantTarget(t, turned, target, get != nil)
				wantStatus(t, turned, number, status != nil)
			}
		}
	}
}

// ownText is a text in memory that nothing else has.
func ownText(text string) string {
	return string(append([]byte{}, text...))
}

func overlap(a, b string) bool {
	if a == "" || b == "" {
		return false
	}
	from, other := uintptr(unsafe.Pointer(unsafe.StringData(a))), uintptr(unsafe.Pointer(unsafe.StringData(b)))
	return from < other+uintptr(len(b)) && other < from+uintptr(len(a))
}

// textsOf are all texts of a head.
func textsOf(h impl.Head) []string {
	texts := []string{h.Line}
	for _, f := range h.Fields {
		texts = append(texts, f.Name, f.Value)
	}
	return texts
}

func wantApart(t *testing.T, what string, answered, given []string) {
	t.Helper()
	for _, a := range answered {
		for _, b := range given {
			if overlap(a, b) {
				t.Errorf("%s: %q shares memory with %q", what, a, b)
			}
		}
	}
}

func TestReadHeadSharesNothing(t *testing.T) {
	for _, h := range rightHeads() {
		text := ownText(writtenByRule(h) + "rest")
		read, _, _ := impl.ReadHead(text)
		wantApart(t, "ReadHead", textsOf(read), []string{text})
		again, _, _ := impl.ReadHead(text)
		for i := range read.Fields {
			read.Fields[i] = impl.Field{Name: "spoilt", Value: "spoilt"}
		}
		if !sameHead(again, h) {
			t.Errorf("%q: two answers share memory", h)
		}
	}
}

func TestHeadsShareNothing(t *testing.T) {
	for _, h := range slices.Concat(rightHeads(), wrongHeads(), []impl.Head{head("GET /abc HTTP/1.1", "host", "b")}) {
		room := append(slices.Clone(h.Fields), fields("room", "room", "more", "room")...)
		whole := slices.Clone(room)
		given := impl.Head{Line: ownText(h.Line), Fields: room[:len(h.Fields)]}
		ahead := cloneHead(given)
		text, _ := impl.HeadText(given)
		target, _ := impl.TargetOf(given)
		answered := []string{text, target}
		impl.HeadOk(given)
		impl.StatusOf(given)
		for _, f := range given.Fields {
			impl.FieldOk(f)
			value, _ := impl.FieldOf(given, f.Name)
			answered = append(answered, value)
		}
		wantApart(t, "what is answered", answered, textsOf(given))
		if !sameHead(given, ahead) || !slices.Equal(room, whole) {
			t.Errorf("%q is changed: %q", ahead, room)
		}
	}
}
