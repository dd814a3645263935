package tests

import (
	"regexp"
	"slices"
	"strconv"
	"strings"
	"testing"

	"loop.example/g00245/impl"
)

const (
	chunkEnd       = "0\r\n\r\n"
	chunkFigureSet = "0123456789abcdefABCDEF"
)

// chunk is a part as it goes over the wire, with its length told in these figures.
func chunk(figures, part string) string {
	return figures + "\r\n" + part + "\r\n"
}

// chunks puts parts of any length (up to 255 bytes) together, without the end.
func chunks(parts ...string) string {
	text := ""
	for _, part := range parts {
		text += chunk(strconv.FormatInt(int64(len(part)), 16), part)
	}
	return text
}

func letters(size int) string {
	return strings.Repeat("z", size)
}

// bodyIn cuts a text of so many bytes into parts of at most most bytes.
func bodyIn(size, most int) []string {
	var parts []string
	for ; size > 0; size -= most {
		parts = append(parts, letters(min(size, most)))
	}
	return parts
}

// lengthLines are all lines that tell a length, and what they tell.
var lengthLines = everyLengthLine()

func everyLengthLine() map[string]int {
	list := map[string]int{}
	figures := strings.Split(chunkFigureSet, "")
	for _, told := range slices.Concat(figures, pairsOfTexts(figures)) {
		size, _ := strconv.ParseUint(told, 16, 8)
		list[told+"\r\n"] = int(size)
	}
	return list
}

func pairsOfTexts(texts []string) []string {
	var list []string
	for _, first := range texts {
		for _, second := range texts {
			list = append(list, first+second)
		}
	}
	return list
}

// chunksByRule holds a text against all right ones: it begins with one, it is a beginning of one, or neither.
func chunksByRule(text string) (string, int, int) {
	return chunksWithin(text, 400)
}

// chunksWithin is of right texts whose parts have no more bytes together than there is room.
func chunksWithin(text string, room int) (string, int, int) {
	for line, size := range lengthLines {
		switch {
		case size > room:
		case strings.HasPrefix(text, line):
			return partWithin(text, len(line), size, room)
		case strings.HasPrefix(line, text):
			return "", 0, 1
		}
	}
	return "", 0, 2
}

// partWithin is of a part that begins at a place of the text, and of what comes behind it.
func partWithin(text string, at, size, room int) (string, int, int) {
	end := at + size
	switch {
	case len(text) <= end || text[end:] == "\r":
		return "", 0, 1
	case !strings.HasPrefix(text[end:], "\r\n"):
		return "", 0, 2
	case size == 0:
		return "", end + 2, 0
	}
	body, taken, code := chunksWithin(text[end+2:], room-size)
	if code != 0 {
		return "", 0, code
	}
	return text[at:end] + body, end + 2 + taken, 0
}

func wantChunks(t *testing.T, text, want string, size, code int) {
	t.Helper()
	body, taken, no := impl.ReadChunks(text)
	if body != want || taken != size || no != code {
		t.Errorf("ReadChunks of %q: %q, %d, %d; want %q, %d, %d", text, body, taken, no, want, size, code)
	}
}

func wantWholeChunks(t *testing.T, text, want string) {
	t.Helper()
	wantChunks(t, text, want, len(text), 0)
	for _, behind := range behinds() {
		wantChunks(t, text+behind, want, len(text), 0)
	}
}

func wantMoreChunks(t *testing.T, texts ...string) {
	t.Helper()
	for _, text := range texts {
		wantChunks(t, text, "", 0, 1)
	}
}

func wantBadChunks(t *testing.T, texts ...string) {
	t.Helper()
	for _, text := range texts {
		wantChunks(t, text, "", 0, 2)
	}
}

func wantChunksByRule(t *testing.T, text string) int {
	t.Helper()
	body, taken, code := chunksByRule(text)
	wantChunks(t, text, body, taken, code)
	return code
}

func behinds() []string {
	return []string{"\r", "\n", "\r\n", "\r\n\r\n", "0", chunkEnd, chunk("2", "ab") + chunkEnd, "x", "\x00\xff", letters(500)}
}

// wantChunkText asks for the text of right parts, reads it back with whatever behind it, and wants more of every beginning of it.
func wantChunkText(t *testing.T, parts []string, want string) {
	t.Helper()
	text, ok := impl.ChunkText(parts)
	if text != want || !ok {
		t.Errorf("ChunkText of %q: %q, %v; want %q", parts, text, ok, want)
	}
	body := strings.Join(parts, "")
	if len(body) > 400 {
		wantBadChunks(t, want, want+"x")
		return
	}
	wantWholeChunks(t, want, body)
	for cut := range len(want) {
		wantMoreChunks(t, want[:cut])
	}
}

func wantNoChunkText(t *testing.T, parts ...string) {
	t.Helper()
	if text, ok := impl.ChunkText(parts); text != "" || ok {
		t.Errorf("ChunkText of %q: %q, %v", parts, text, ok)
	}
}

// partLists are right ones: of no part up to ten, and of whatever bytes.
func partLists() [][]string {
	list := [][]string{
		nil, {}, {"a"}, {"ab", "0123456789"}, {"\r\n"}, {"\r", "\n"}, {"\n\r"}, {"0"}, {"0\r\n\r\n"}, {"0\r\n", "\r\n"}, {"2\r\nab\r\n0\r\n\r\n", "2"},
		{"0", "0", "0"}, {"\x00", "\x00\x00"}, {" ", "  "}, {"\x7f\x80\xff", "\u00e9"}, {"f", "ff", "FFF"}, {"a\r\n1", "\r", "\r\n"},
		strings.Split("abcdefghij", ""), {letters(99), letters(98), letters(99), letters(99)}, {letters(99), letters(99), letters(99), letters(99), "abcd"},
	}
	for at := 0; at < 256; at += 64 {
		list = append(list, []string{everyByte()[at : at+64], everyByte()[at : at+1]})
	}
	for count := 1; count <= 10; count++ {
		var parts []string
		for i := range count {
			parts = append(parts, drawn(1+7*i, uint32(count*10+i)))
		}
		list = append(list, parts)
	}
	return list
}

func TestBodyNumbers(t *testing.T) {
	if impl.BodyMore != 1 || impl.BodyBad != 2 || impl.MaxBody != 400 {
		t.Errorf("%d, %d, %d", impl.BodyMore, impl.BodyBad, impl.MaxBody)
	}
}

func TestChunkText(t *testing.T) {
	wantChunkText(t, nil, "0\r\n\r\n")
	wantChunkText(t, []string{}, "0\r\n\r\n")
	wantChunkText(t, []string{"a"}, "1\r\na\r\n0\r\n\r\n")
	wantChunkText(t, []string{"ab", "0123456789"}, "2\r\nab\r\na\r\n0123456789\r\n0\r\n\r\n")
	wantChunkText(t, []string{"\r\n", "0"}, "2\r\n\r\n\r\n1\r\n0\r\n0\r\n\r\n")
	for _, parts := range partLists() {
		wantChunkText(t, parts, chunks(parts...)+chunkEnd)
	}
}

func TestChunkLengths(t *testing.T) {
	for size, figures := range map[int]string{1: "1", 9: "9", 10: "a", 15: "f", 16: "10", 17: "11", 26: "1a", 98: "62", 99: "63"} {
		wantChunkText(t, []string{letters(size)}, figures+"\r\n"+letters(size)+"\r\n0\r\n\r\n")
	}
	for size := 1; size <= 99; size++ {
		part := drawn(size, uint32(size))
		wantChunkText(t, []string{part}, chunks(part)+chunkEnd)
		wantChunkText(t, []string{"a", part, "b"}, chunks("a", part, "b")+chunkEnd)
	}
	for _, size := range []int{100, 101, 127, 128, 255, 256, 257, 400, 1000, 65537} {
		wantNoChunkText(t, letters(size))
		wantNoChunkText(t, "a", letters(size))
		wantNoChunkText(t, letters(size), "a")
		wantNoChunkText(t, "a", letters(size), "b")
	}
}

func TestHowManyChunks(t *testing.T) {
	for count := range 30 {
		for _, part := range []string{"a", "0", "\r\n", letters(39), letters(40), letters(41), letters(99)} {
			parts := slices.Repeat([]string{part}, count)
			if count <= 10 {
				wantChunkText(t, parts, chunks(parts...)+chunkEnd)
			} else {
				wantNoChunkText(t, parts...)
			}
		}
	}
	wantNoChunkText(t, slices.Repeat([]string{"a"}, 10000)...)
}

func TestEmptyParts(t *testing.T) {
	wantNoChunkText(t, "")
	wantNoChunkText(t, "", "")
	for count := 1; count <= 11; count++ {
		for at := range count {
			parts := slices.Repeat([]string{"a"}, count)
			parts[at] = ""
			wantNoChunkText(t, parts...)
		}
	}
	for _, parts := range partLists() {
		wantNoChunkText(t, slices.Concat([]string{""}, parts)...)
		wantNoChunkText(t, slices.Concat(parts, []string{""})...)
		wantNoChunkText(t, slices.Concat(parts, []string{""}, parts)...)
	}
}

// The first length of 0 is the end of all, and its empty line is wanted: no part comes behind it.
func TestEmptyPartsAreTheEnd(t *testing.T) {
	for _, nought := range []string{"0", "00"} {
		for _, ahead := range [][]string{nil, {"a"}, {"ab", letters(99)}, {"0"}, {"\r\n"}} {
			begun, body := chunks(ahead...), strings.Join(ahead, "")
			wantWholeChunks(t, begun+nought+"\r\n\r\n", body)
			wantWholeChunks(t, begun+chunk(nought, ""), body)
			wantMoreChunks(t, begun, begun+nought[:1], begun+nought, begun+nought+"\r", begun+nought+"\r\n", begun+nought+"\r\n\r")
			for _, behind := range []string{"2\r\nab\r\n0\r\n\r\n", "0\r\n\r\n", "00\r\n\r\n", "\r\r\n", "\n", "\r0", "a", " \r\n", "x: y\r\n\r\n", "\x00", "\xff"} {
				wantBadChunks(t, begun+nought+"\r\n"+behind)
				wantChunks(t, begun+nought+"\r\n\r\n"+behind, body, len(begun)+len(nought)+4, 0)
			}
			wantBadChunks(t, begun+nought+"\n\n", begun+nought+"\r\r", begun+nought+" \r\n\r\n", begun+nought+"x", begun+nought+"\n\r\n\r\n")
		}
	}
	wantBadChunks(t, "000", "000\r\n\r\n", "0x", "0x0\r\n\r\n", "0 ", "0;", "-0\r\n\r\n", "+0\r\n\r\n", " 0\r\n\r\n")
}

// Of a text without a length nothing is there yet, or nothing right.
func TestNoLength(t *testing.T) {
	wantMoreChunks(t, "")
	wantMoreChunks(t, chunks("a"))
	for _, ahead := range []string{"", chunks("a"), chunks("ab", letters(99))} {
		wantBadChunks(t, ahead+"\r", ahead+"\r\n", ahead+"\r\n\r\n", ahead+"\n", ahead+"\r\nab\r\n"+chunkEnd)
	}
}

func TestLengthFigures(t *testing.T) {
	for size := range 256 {
		part := drawn(size, uint32(size)+3)
		figures := strconv.FormatInt(int64(size), 16)
		for _, told := range []string{figures, strings.Repeat("0", 2-len(figures)) + figures, strings.ToUpper(figures)} {
			for _, mixed := range []string{told, strings.ToUpper(told[:1]) + told[1:]} {
				text := chunk(mixed, part)
				if size > 0 {
					text += chunkEnd
				}
				wantWholeChunks(t, text, part)
				wantChunks(t, chunks("ab")+text, "ab"+part, len(chunks("ab"))+len(text), 0)
				wantMoreChunks(t, mixed, mixed+"\r", mixed+"\r\n", mixed[:1])
				for cut := range len(text) {
					wantMoreChunks(t, text[:cut])
				}
			}
		}
		for _, told := range []string{"0" + strings.Repeat("0", 2-len(figures)) + figures, figures + "00", "000" + figures} {
			if len(told) > 2 {
				wantBadChunks(t, told, told+"\r", told+"\r\n", chunk(told, part), chunk(told, part)+chunkEnd)
			}
		}
	}
	for _, told := range []string{"100", "001", "fff", "FFF", "1000", strings.Repeat("1", 400)} {
		wantBadChunks(t, told, told+"\r", told+"\r\n", chunk(told, letters(256))+chunkEnd, chunks("a")+told, chunks("a")+told+"\r\n")
	}
}

// Each byte stands where a figure could: just 0-9, a-f and A-F are figures.
func TestWrongFigures(t *testing.T) {
	for i, one := range everyOneByte() {
		right := strings.Contains(chunkFigureSet, one)
		for _, ahead := range []string{"", chunks("a"), chunks("\r\n", letters(16))} {
			for _, told := range []string{one, "1" + one, one + "1"} {
				body, _, _ := chunksByRule(ahead + chunkEnd)
				size, err := strconv.ParseUint(told, 16, 0)
				switch {
				case right && err == nil && size == 0:
					wantWholeChunks(t, ahead+chunk(told, ""), body)
				case right:
					wantWholeChunks(t, ahead+chunk(told, letters(int(size)))+chunkEnd, body+letters(int(size)))
					wantMoreChunks(t, ahead+told)
				case told[0] == '1' && i == '\r':
					wantMoreChunks(t, ahead+told)
					wantBadChunks(t, ahead+told+"\r\n")
				default:
					wantBadChunks(t, ahead+told, ahead+told+"\r", ahead+told+"\r\n", ahead+chunk(told, letters(1))+chunkEnd, ahead+chunk(told, letters(17))+chunkEnd)
				}
			}
		}
	}
	for _, told := range []string{"g", "G", "1g", "g1", " ", " 1", "1 ", "+1", "-1", "+", "-", "0x", "x1", "1_", "_1", "1;", "1;a=b", "\t1", "\u0661", "\uff11", "`", "@", "/", ":"} {
		wantBadChunks(t, told, told+"\r\n", chunk(told, "a")+chunkEnd, chunks("ab")+chunk(told, "a")+chunkEnd)
	}
}

// A line's end lacks its 13 or its 10, or has another byte, at each of the places where one is wanted.
func TestWrongLineEnds(t *testing.T) {
	pieces := []string{"2", "ab", "11", letters(17), "0", ""}
	for at := range pieces {
		begun := ""
		for _, piece := range pieces[:at] {
			begun += piece + "\r\n"
		}
		begun += pieces[at]
		behind := ""
		for _, piece := range pieces[at+1:] {
			behind += piece + "\r\n"
		}
		wantMoreChunks(t, begun, begun+"\r")
		wantWholeChunks(t, begun+"\r\n"+behind, "ab"+letters(17))
		for i, one := range everyOneByte() {
			if figures := at%2 == 0 && len(pieces[at]) < 2 && strings.Contains(chunkFigureSet, one); i != '\r' && !figures {
				wantBadChunks(t, begun+one, begun+one+"\n", begun+one+"\n"+behind, begun+one+"\r\n"+behind)
			}
			if i != '\n' {
				wantBadChunks(t, begun+"\r"+one, begun+"\r"+one+behind, begun+"\r"+one+"\n"+behind)
			}
		}
		if behind != "" {
			wantBadChunks(t, begun+"\n"+behind, begun+"\r"+behind)
		}
		wantBadChunks(t, begun+"\n", begun+"\n\r"+behind, begun+"\r\r\n"+behind)
	}
}

// A part that is longer or shorter than is told has its line's end elsewhere.
func TestPartsOfAnotherLength(t *testing.T) {
	for size := 2; size <= 99; size++ {
		figures := strconv.FormatInt(int64(size), 16)
		wantBadChunks(t, chunk(figures, letters(size+1))+chunkEnd, chunk(figures, letters(size-1))+chunkEnd, chunk(figures, letters(size+1)))
		wantBadChunks(t, figures+"\r\n"+letters(size)+chunkEnd, figures+"\r\n"+letters(size)+"z")
		wantMoreChunks(t, figures+"\r\n"+letters(size-1)+"\r", figures+"\r\n"+letters(size-2)+"\r\n", figures+"\r\n"+letters(size))
	}
	wantMoreChunks(t, chunk("a", "ab"), chunk("a", "ab")+"0\r\n", chunk("7", "ab")+"0\r\n", chunk("9", "ab")+chunkEnd)
	wantWholeChunks(t, "9\r\nab\r\n"+chunkEnd+"\r\n"+chunkEnd, "ab\r\n"+chunkEnd)
}

// No sentence limits parts that are read as those are that are written: they have up to 255 bytes, and are as many as come.
func TestMoreThanIsWritten(t *testing.T) {
	for _, size := range []int{100, 101, 127, 128, 200, 254, 255} {
		wantNoChunkText(t, letters(size))
		wantWholeChunks(t, chunks(letters(size))+chunkEnd, letters(size))
		wantMoreChunks(t, chunks(letters(size)))
	}
	for _, count := range []int{10, 11, 12, 100, 399, 400} {
		parts := slices.Repeat([]string{"a"}, count)
		wantWholeChunks(t, chunks(parts...)+chunkEnd, strings.Repeat("a", count))
		wantMoreChunks(t, chunks(parts...))
	}
	wantBadChunks(t, chunks(slices.Repeat([]string{"a"}, 401)...)+chunkEnd, chunks(slices.Repeat([]string{"a"}, 401)...))
	wantBadChunks(t, strings.Repeat(chunks("a"), 100000)+chunkEnd, strings.Repeat(chunks(letters(255)), 10000))
}

func TestLongestBody(t *testing.T) {
	for _, most := range []int{1, 7, 16, 39, 40, 41, 99, 200, 255} {
		for _, size := range []int{397, 398, 399, 400, 401, 402, 403, 500, 655, 1000} {
			parts := bodyIn(size, most)
			text := chunks(parts...) + chunkEnd
			if size <= 400 {
				wantWholeChunks(t, text, letters(size))
				continue
			}
			wantBadChunks(t, text, text+"x", text[:len(text)-1], text[:len(text)-len(chunkEnd)])
		}
	}
	// A part that is the first that is too many, with others behind it.
	wantBadChunks(t, chunks(letters(255), letters(146))+chunkEnd, chunks(letters(255), letters(146), "a")+chunkEnd, chunks(letters(255), letters(145), "a")+chunkEnd)
	wantWholeChunks(t, chunks(letters(255), letters(145))+chunkEnd, letters(400))
	wantWholeChunks(t, chunks("a", letters(255), letters(144))+chunkEnd, "a"+strings.Repeat("z", 399))
}

// What is too long is wrong from the figure on that tells so: nothing that comes could make it right.
func TestTooLongAndCut(t *testing.T) {
	begun := chunks(letters(255))
	wantMoreChunks(t, begun+"9", begun+"91", begun+"91\r", begun+"91\r\n", begun+"91\r\n"+letters(145), chunks(letters(255), letters(145))+"0")
	wantBadChunks(t, begun+"92", begun+"92\r", begun+"92\r\n", begun+"92\r\nz", begun+"92\r\n"+letters(145), begun+"92\r\n"+letters(146), begun+"ff", begun+"FF\r\n", begun+"ff\r\n"+letters(100))
	for room := range 20 {
		full := chunks(letters(255), letters(145-room))
		wantMoreChunks(t, full, full+"0", full+"00", full+"00\r", full+"0\r\n")
		for size := 1; size < 256; size++ {
			told := strconv.FormatInt(int64(size), 16)
			texts := []string{full + told, full + told + "\r", full + told + "\r\n", full + told + "\r\n" + letters(size), chunks(letters(255), letters(145-room), letters(size))}
			if size <= room {
				wantMoreChunks(t, texts...)
			} else {
				wantBadChunks(t, texts...)
			}
		}
	}
	for _, parts := range [][]string{{letters(255), letters(146)}, {letters(99), letters(99), letters(99), letters(99), "abcde"}, {letters(200), letters(200), "a", "b"}, {letters(255), letters(255)}} {
		text := chunks(parts...) + chunkEnd
		codes := ""
		for cut := range len(text) {
			codes += strconv.Itoa(wantChunksByRule(t, text[:cut]))
		}
		if strings.Trim(codes, "1") == "" || strings.Contains(codes, "21") {
			t.Errorf("of the beginnings of %q more is wanted where it can't come: %s", parts, codes)
		}
	}
}

func TestLongWires(t *testing.T) {
	for _, behind := range []string{"x", "\r\n", chunkEnd, chunks("a")} {
		long := strings.Repeat(behind, 200000)
		wantChunks(t, chunks("ab")+chunkEnd+long, "ab", 12, 0)
	}
	wantBadChunks(t, strings.Repeat("0", 1000000), strings.Repeat("\r\n", 100000), "1\r\n"+letters(1000000), letters(1000000))
}

// Each byte of a text is every other byte once, is left out, and is doubled.
func TestTurnedChunks(t *testing.T) {
	for _, text := range []string{chunkEnd, chunks("ab", "\r\n") + chunkEnd, chunk("0B", "0123456789\n") + chunk("1", "0") + chunkEnd + "x"} {
		for at := range len(text) {
			for _, one := range everyOneByte() {
				wantChunksByRule(t, text[:at]+one+text[at+1:])
			}
			wantChunksByRule(t, text[:at]+text[at+1:])
			wantChunksByRule(t, text[:at]+text[at:at+1]+text[at:])
		}
	}
}

// Every text of few pieces, of those that matter, alone, behind a part, and within one.
func TestEveryShortChunks(t *testing.T) {
	var codes [3]int
	texts := []string{""}
	for range 5 {
		var longer []string
		for _, text := range texts {
			for _, piece := range []string{"\r", "\n", "\r\n", "0", "1", "a", "G"} {
				longer = append(longer, text+piece)
			}
		}
		texts = longer
		for _, text := range texts {
			codes[wantChunksByRule(t, text)]++
			codes[wantChunksByRule(t, chunks("z")+text)]++
			codes[wantChunksByRule(t, "1\r\n"+text)]++
		}
	}
	for code, count := range codes {
		if count < 50 {
			t.Errorf("code %d came %d times", code, count)
		}
	}
}

// drawnChunks puts pieces together that begin, go on and end parts.
func drawnChunks(draws string) string {
	pieces := []string{
		chunk("1", "a"), chunk("02", "\r\n"), chunk("A", "0123456789"), chunk("10", letters(16)), chunk("0f", letters(15)), chunkEnd, "00\r\n\r\n",
		"\r\n", "\r", "\n", "0", "1", "2\r\n", "c", "0B\r\n", "ab", "z", " ", "-", "\xff", "\x00", "3\r\nxyz", "1\r\nz\r",
	}
	text := ""
	for i := range int(draws[0]) % 10 {
		right := len(pieces)
		if draws[1]%4 != 0 {
			right = 5
		}
		text += pieces[int(draws[2+i])%right]
	}
	if draws[1]%3 == 0 {
		text += chunkEnd
	}
	if cut := int(draws[12]); draws[1]%5 == 0 && cut < len(text) {
		text = text[:cut]
	}
	return text
}

func TestDrawnChunks(t *testing.T) {
	var codes [3]int
	for seed := range uint32(20000) {
		codes[wantChunksByRule(t, drawnChunks(drawn(16, seed*53+7)))]++
	}
	for code, count := range codes {
		if count < 3000 {
			t.Errorf("code %d came %d times: the draws tell too little", code, count)
		}
	}
}

// Bodies cut into parts at drawn places come back, and from every beginning nothing does.
func TestDrawnParts(t *testing.T) {
	right := 0
	for seed := range uint32(400) {
		draws := drawn(12, seed*31+11)
		var parts []string
		for i := range int(draws[0]) % 12 {
			parts = append(parts, drawn(int(draws[1+i])%104, seed+uint32(i)))
		}
		fits := len(parts) <= 10
		for _, part := range parts {
			fits = fits && part != "" && len(part) <= 99
		}
		if !fits {
			wantNoChunkText(t, parts...)
			continue
		}
		right++
		wantChunkText(t, parts, chunks(parts...)+chunkEnd)
	}
	if right < 100 || right > 380 {
		t.Errorf("%d of 400 are right: the draws tell too little", right)
	}
}

func wantBody(t *testing.T, h impl.Head, text, want string, size, code int) {
	t.Helper()
	body, taken, no := impl.BodyOf(h, text)
	if body != want || taken != size || no != code {
		t.Errorf("BodyOf %q and %q: %q, %d, %d; want %q, %d, %d", h, text, body, taken, no, want, size, code)
	}
}

// wireTexts are what may stand behind a head.
func wireTexts() []string {
	return []string{"", "a", "\r\n", chunkEnd, chunks("ab") + chunkEnd, chunks("ab") + chunkEnd + "rest", chunks("ab"), "5\r\nab", "x\r\n", letters(7), letters(400), letters(401), letters(1000), chunks(letters(255), letters(255)) + chunkEnd}
}

func wantNoBody(t *testing.T, h impl.Head) {
	t.Helper()
	for _, text := range wireTexts() {
		wantBody(t, h, text, "", 0, 0)
	}
}

// wantBadBody wants BodyBad, whatever comes behind the head.
func wantBadBody(t *testing.T, h impl.Head) {
	t.Helper()
	for _, text := range wireTexts() {
		wantBody(t, h, text, "", 0, 2)
	}
}

// wantSizedBody wants so many bytes of whatever comes behind the head.
func wantSizedBody(t *testing.T, h impl.Head, size int) {
	t.Helper()
	for _, text := range slices.Concat(wireTexts(), []string{drawn(size, 1), drawn(size+1, 2), drawn(max(size-1, 0), 3)}) {
		if size <= len(text) {
			wantBody(t, h, text, text[:size], size, 0)
		} else {
			wantBody(t, h, text, "", 0, 1)
		}
	}
}

func wantChunkedBody(t *testing.T, h impl.Head) {
	t.Helper()
	for _, text := range wireTexts() {
		body, taken, code := chunksByRule(text)
		wantBody(t, h, text, body, taken, code)
	}
}

func TestBodyOf(t *testing.T) {
	sized := head("x", "content-length", "3")
	wantBody(t, sized, "abcd", "abc", 3, 0)
	wantBody(t, sized, "abc", "abc", 3, 0)
	wantBody(t, sized, "ab", "", 0, 1)
	wantBody(t, sized, "", "", 0, 1)
	coded := head("x", "transfer-encoding", "chunked")
	wantBody(t, coded, "2\r\nab\r\n1\r\nc\r\n0\r\n\r\nrest", "abc", 18, 0)
	wantBody(t, coded, "2\r\nab\r\n1\r\nc\r\n0\r\n", "", 0, 1)
	wantBody(t, coded, "abc", "", 0, 2)
	wantBody(t, head("x"), "abc", "", 0, 0)
}

func TestBodyOfNeither(t *testing.T) {
	wantNoBody(t, impl.Head{})
	wantNoBody(t, head("x"))
	wantNoBody(t, head("x", "host", "b", "length", "3", "chunked", "transfer-encoding", "x", "content-length"))
	for _, h := range rightHeads() {
		wantNoBody(t, h)
	}
	for _, name := range []string{"Content-Length", "CONTENT-LENGTH", "content-lengt", "content-lengths", "content_length", " content-length", "content-length ", "contentlength", "", "Transfer-Encoding", "TRANSFER-ENCODING", "transfer-encodin", "transfer-encodings", "transfer_encoding", "transfer-encoding:"} {
		for _, value := range []string{"3", "chunked", "", "401"} {
			wantNoBody(t, head("x", name, value))
			wantSizedBody(t, head("x", name, value, "content-length", "3"), 3)
			wantChunkedBody(t, head("x", name, value, "transfer-encoding", "chunked"))
		}
	}
}

func TestSizedBodies(t *testing.T) {
	for size := range 1000 {
		for _, figures := range []string{strconv.Itoa(size), strconv.Itoa(size + 1000)[1:]} {
			h := head("HTTP/1.1 200 ok", "host", "b", "content-length", figures, "x", "y")
			if size > 400 {
				for _, have := range []int{0, 1, 400, 401, size - 1, size, size + 1, 2000} {
					wantBody(t, h, letters(have), "", 0, 2)
				}
				continue
			}
			text := drawn(size+2, uint32(size))
			wantBody(t, h, text, text[:size], size, 0)
			wantBody(t, h, text[:size+1], text[:size], size, 0)
			wantBody(t, h, text[:size], text[:size], size, 0)
			for _, have := range []int{0, 1, size / 2, size - 2, size - 1} {
				if have >= 0 && have < size {
					wantBody(t, h, text[:have], "", 0, 1)
				}
			}
		}
	}
	for _, size := range []int{0, 1, 9, 10, 99, 100, 399, 400} {
		wantSizedBody(t, head("x", "content-length", strconv.Itoa(size)), size)
	}
	wantBody(t, head("x", "content-length", "400"), letters(1000000), letters(400), 400, 0)
	wantBody(t, head("x", "content-length", "0"), "", "", 0, 0)
}

func TestLengthsOfNoughts(t *testing.T) {
	for figures, size := range map[string]int{"0": 0, "00": 0, "000": 0, "01": 1, "001": 1, "010": 10, "007": 7, "07": 7, "099": 99} {
		wantSizedBody(t, head("x", "content-length", figures), size)
	}
	for _, figures := range []string{"0000", "0001", "0003", "0400", "00000", "1000", "9999", "4000", "00000000000000000003", "18446744073709551619", "4294967299", strings.Repeat("3", 60), strings.Repeat("0", 5000) + "3"} {
		wantBadBody(t, head("x", "content-length", figures))
	}
}

func TestLengthsOfOthers(t *testing.T) {
	wantBadBody(t, head("x", "content-length", ""))
	for i, one := range everyOneByte() {
		figure := i >= '0' && i <= '9'
		for value, size := range map[string]int{one: i - '0', "1" + one: 10 + i - '0', one + "1": 10*(i-'0') + 1, "1" + one + "1": 101 + 10*(i-'0')} {
			if figure {
				wantSizedBody(t, head("x", "content-length", value), size)
			} else {
				wantBadBody(t, head("x", "content-length", value))
			}
		}
	}
	for _, value := range []string{"+3", "-3", "-0", " 3", "3 ", "3, 3", "3,3", "0x3", "3.", "3.0", "1e1", "1_0", "a", "ff", "chunked", "\u0663", "\uff13", "3\u0663", "\u00b3"} {
		wantBadBody(t, head("x", "content-length", value))
	}
}

// All such fields tell the same number, each in 1 to 3 figures.
func TestLengthsTwice(t *testing.T) {
	for _, values := range [][]string{{"7", "7"}, {"7", "7", "7"}, {"7", "07"}, {"007", "7"}, {"07", "007", "7"}} {
		for _, between := range [][]string{nil, {"host", "b"}} {
			h := head("x", between...)
			for _, value := range values {
				h.Fields = slices.Concat(h.Fields, fields("content-length", value), fields(between...))
			}
			wantSizedBody(t, h, 7)
		}
	}
	wantSizedBody(t, head("x", "content-length", "0", "content-length", "000"), 0)
	wantSizedBody(t, head("x", "content-length", "400", "content-length", "400"), 400)
	for _, other := range []string{"0", "6", "8", "70", "17", "007 ", "0007", "", "x", "-7", "+7", " 7", "401", "999", "7,7"} {
		for _, values := range [][]string{{"7", other}, {other, "7"}, {"7", "7", other}, {"7", other, "7"}, {other, "7", "7"}} {
			h := head("x", "host", "b")
			for _, value := range values {
				h.Fields = append(h.Fields, impl.Field{Name: "content-length", Value: value})
			}
			wantBadBody(t, h)
		}
	}
	wantBadBody(t, head("x", "content-length", "401", "content-length", "401"))
	wantBadBody(t, head("x", "content-length", "", "content-length", ""))
	wantBadBody(t, head("x", "content-length", "0", "content-length", "1"))
	wantBadBody(t, head("x", "content-length", "1", "content-length", "0"))
}

func TestCodedBodies(t *testing.T) {
	wantChunkedBody(t, head("x", "transfer-encoding", "chunked"))
	wantChunkedBody(t, head("x", "host", "b", "transfer-encoding", "chunked", "x", "y"))
	for _, parts := range partLists() {
		text := chunks(parts...) + chunkEnd
		body := strings.Join(parts, "")
		wantBody(t, head("x", "transfer-encoding", "chunked"), text+"rest", body, len(text), 0)
		for cut := range len(text) {
			wantBody(t, head("x", "transfer-encoding", "chunked"), text[:cut], "", 0, 1)
		}
	}
	for _, value := range []string{"", "Chunked", "CHUNKED", "chunkeD", "chunke", "hunked", "chunkedd", "chunked ", " chunked", "chunked,chunked", "gzip, chunked", "chunked, gzip", "gzip", "identity", "3", "\xe7hunked", "chunked\x00"} {
		wantBadBody(t, head("x", "transfer-encoding", value))
		wantBadBody(t, head("x", "host", "b", "transfer-encoding", value, "x", "y"))
	}
}

// Of several fields of this name the first counts (FieldOf): that all tell the same is wanted of lengths alone.
func TestCodingsTwice(t *testing.T) {
	wantChunkedBody(t, head("x", "transfer-encoding", "chunked", "transfer-encoding", "chunked"))
	for _, other := range []string{"", "gzip", "Chunked", "identity"} {
		wantChunkedBody(t, head("x", "transfer-encoding", "chunked", "transfer-encoding", other))
		wantBadBody(t, head("x", "transfer-encoding", other, "transfer-encoding", "chunked"))
		wantBadBody(t, head("x", "transfer-encoding", other, "transfer-encoding", other))
	}
}

func TestBothFields(t *testing.T) {
	for _, length := range []string{"0", "3", "003", "400", "401", "", "x", "0003"} {
		for _, coding := range []string{"chunked", "", "gzip", "Chunked"} {
			wantBadBody(t, head("x", "content-length", length, "transfer-encoding", coding))
			wantBadBody(t, head("x", "transfer-encoding", coding, "content-length", length))
			wantBadBody(t, head("x", "host", "b", "transfer-encoding", coding, "y", "z", "content-length", length, "v", "w"))
			wantBadBody(t, head("x", "content-length", length, "content-length", length, "transfer-encoding", coding))
			wantBadBody(t, head("x", "transfer-encoding", coding, "transfer-encoding", coding, "content-length", length))
		}
	}
}

// Heads that are not right are asked in the same way: no sentence wants them right.
func TestBodiesOfWrongHeads(t *testing.T) {
	for _, more := range [][]impl.Field{manyFields(12), fields("", "\n", "Q", "\x00", "x", letters(500)), make([]impl.Field, 1000)} {
		for _, line := range []string{"", "\r\n", letters(500), "x"} {
			h := impl.Head{Line: line, Fields: more}
			if impl.HeadOk(h) {
				t.Fatalf("%q is right", h)
			}
			wantNoBody(t, h)
			h.Fields = slices.Concat(more, fields("content-length", "7"))
			wantSizedBody(t, h, 7)
			h.Fields = slices.Concat(fields("content-length", "7"), more, fields("content-length", "8"))
			wantBadBody(t, h)
			h.Fields = slices.Concat(more, fields("transfer-encoding", "chunked"))
			wantChunkedBody(t, h)
			h.Fields = slices.Concat(fields("content-length", "7"), more, fields("transfer-encoding", "chunked"))
			wantBadBody(t, h)
		}
	}
}

var lengthValue = regexp.MustCompile(`\A[0-9]{1,3}\z`)

func valuesOf(h impl.Head, name string) []string {
	var values []string
	for _, f := range h.Fields {
		if f.Name == name {
			values = append(values, f.Value)
		}
	}
	return values
}

// lengthByRule is the one number that all values tell, each in right figures, or -1.
func lengthByRule(values []string) int {
	numbers := map[int]bool{}
	for _, value := range values {
		if !lengthValue.MatchString(value) {
			return -1
		}
		n, _ := strconv.Atoi(value)
		numbers[n] = true
	}
	for n := range numbers {
		if len(numbers) == 1 && n < 401 {
			return n
		}
	}
	return -1
}

func bodyByRule(h impl.Head, text string) (string, int, int) {
	lengths, codings := valuesOf(h, "content-length"), valuesOf(h, "transfer-encoding")
	switch size := lengthByRule(lengths); {
	case len(lengths) == 0 && len(codings) == 0:
		return "", 0, 0
	case len(lengths) == 0 && codings[0] == "chunked":
		return chunksByRule(text)
	case len(codings) > 0 || size < 0:
		return "", 0, 2
	case size > len(text):
		return "", 0, 1
	default:
		return text[:size], size, 0
	}
}

func TestDrawnBodies(t *testing.T) {
	pieces := [][]string{
		{"host", "b"}, {"x", "7"}, {"content-length", "7"}, {"content-length", "7"}, {"content-length", "007"}, {"content-length", "30"}, {"transfer-encoding", "chunked"}, {"transfer-encoding", "chunked"},
		{"Content-Length", "8"}, {"content-length", "8x"}, {"transfer-encoding", "gzip"}, {"content-length", "401"}, {"content-length", ""}, {"host", ""}, {"y", "chunked"}, {"z", ""},
	}
	var codes [3]int
	bodies := 0
	for seed := range uint32(6000) {
		draws := drawn(24, seed*37+1)
		h := head("x")
		for i := range int(draws[0]) % 4 {
			h.Fields = slices.Concat(h.Fields, fields(pieces[int(draws[1+i])%len(pieces)]...))
		}
		text := drawnChunks(draws[8:])
		body, taken, code := bodyByRule(h, text)
		wantBody(t, h, text, body, taken, code)
		codes[code]++
		if body != "" {
			bodies++
		}
	}
	if codes[0] < 500 || codes[1] < 200 || codes[2] < 500 || bodies < 200 {
		t.Errorf("the draws tell too little: %v, %d", codes, bodies)
	}
}

// answerByRule is what AnswerText would write if nothing were refused.
func answerByRule(h impl.Head, body string) string {
	h.Fields = slices.Concat(h.Fields, fields("content-length", strconv.Itoa(len(body))))
	return writtenByRule(h) + body
}

// wantAnswer asks for a text, reads it again by ReadHead and BodyOf, and wants more of every beginning of it.
func wantAnswer(t *testing.T, h impl.Head, body, want string) {
	t.Helper()
	text, ok := impl.AnswerText(h, body)
	if text != want || !ok {
		t.Errorf("AnswerText of %q and %q: %q, %v; want %q", h, body, text, ok, want)
		return
	}
	read, size, code := impl.ReadHead(text)
	whole := impl.Head{Line: h.Line, Fields: slices.Concat(h.Fields, fields("content-length", strconv.Itoa(len(body))))}
	if !sameHead(read, whole) || size != len(text)-len(body) || code != 0 {
		t.Errorf("%q is read as %q, %d, %d", text, read, size, code)
		return
	}
	for _, behind := range []string{"", "x", "\r\n", text} {
		wantBody(t, read, text[size:]+behind, body, len(body), 0)
	}
	for cut := size; cut < len(text); cut++ {
		wantBody(t, read, text[size:cut], "", 0, 1)
	}
}

func wantNoAnswer(t *testing.T, h impl.Head, body string) {
	t.Helper()
	if text, ok := impl.AnswerText(h, body); text != "" || ok {
		t.Errorf("AnswerText of %q and %q: %q, %v", h, body, text, ok)
	}
}

func TestAnswerText(t *testing.T) {
	wantAnswer(t, head("x"), "hi", "x\r\ncontent-length: 2\r\n\r\nhi")
	wantAnswer(t, head("x"), "", "x\r\ncontent-length: 0\r\n\r\n")
	wantAnswer(t, head("HTTP/1.1 200 ok", "host", "b", "x", ""), "\r\n\x00\xff", "HTTP/1.1 200 ok\r\nhost: b\r\nx: \r\ncontent-length: 4\r\n\r\n\r\n\x00\xff")
	for size := range 401 {
		body := drawn(size, uint32(size)+5)
		wantAnswer(t, head("x", "a", "b"), body, "x\r\na: b\r\ncontent-length: "+strconv.Itoa(size)+"\r\n\r\n"+body)
	}
	for _, size := range []int{401, 402, 500, 999, 1000, 100000} {
		wantNoAnswer(t, head("x"), letters(size))
		wantNoAnswer(t, head("x", "a", "b"), letters(size))
	}
	for _, body := range []string{chunkEnd, "content-length: 3\r\n\r\n", "x\r\n\r\n", everyByte()} {
		wantAnswer(t, head("x"), body, answerByRule(head("x"), body))
	}
}

func TestAnswerFields(t *testing.T) {
	for count := range 12 {
		h := impl.Head{Line: "x", Fields: manyFields(count)}
		for _, body := range []string{"", "abc", letters(400)} {
			if count <= 7 {
				wantAnswer(t, h, body, answerByRule(h, body))
			} else {
				wantNoAnswer(t, h, body)
			}
		}
	}
	// Such a field is there already, at any place, with whatever value.
	for _, name := range []string{"content-length", "transfer-encoding"} {
		for _, value := range []string{"", "0", "3", "chunked", "x"} {
			for count := range 7 {
				for at := range count + 1 {
					h := impl.Head{Line: "x", Fields: slices.Insert(manyFields(count), at, impl.Field{Name: name, Value: value})}
					if !impl.HeadOk(h) {
						t.Fatalf("%q is not right", h)
					}
					wantNoAnswer(t, h, "abc")
					wantNoAnswer(t, h, "")
				}
			}
		}
		wantNoAnswer(t, head("x", "content-length", "3", "transfer-encoding", "chunked"), "abc")
	}
	for _, name := range []string{"content-lengt", "content-lengths", "contentlength", "transfer-encodin", "transfer-encodings", "length", "chunked", "x-content-length"} {
		h := head("x", name, "3")
		wantAnswer(t, h, "abcd", answerByRule(h, "abcd"))
	}
	for _, name := range []string{"Content-Length", "CONTENT-LENGTH", "Transfer-Encoding", "content_length", ""} {
		wantNoAnswer(t, head("x", name, "3"), "abc")
	}
}

func TestAnswersOfHeads(t *testing.T) {
	right := 0
	for _, h := range slices.Concat(rightHeads(), wrongHeads()) {
		for _, body := range []string{"", "abc", letters(100)} {
			whole := h
			whole.Fields = slices.Concat(h.Fields, fields("content-length", strconv.Itoa(len(body))))
			if headOkByRule(whole) {
				wantAnswer(t, h, body, answerByRule(h, body))
				right++
			} else {
				wantNoAnswer(t, h, body)
			}
		}
	}
	if right < 50 {
		t.Errorf("%d are right alone", right)
	}
}

// The head is right with and without the new field, without it alone, or not at all.
func TestAnswerSizes(t *testing.T) {
	for size := 92; size <= 310; size++ {
		h := headOfSize(size)
		for _, body := range []string{"", letters(9), letters(10), letters(99), letters(100), letters(400)} {
			if size+len("content-length: \r\n")+len(strconv.Itoa(len(body))) <= 300 {
				wantAnswer(t, h, body, answerByRule(h, body))
			} else {
				wantNoAnswer(t, h, body)
			}
		}
	}
}

// roomyFields is the same head in memory of its own, with fields in the spare room behind it; and all of that room.
func roomyFields(h impl.Head) (impl.Head, []impl.Field) {
	var room []impl.Field
	for _, f := range slices.Concat(h.Fields, fields("content-length", "1", "transfer-encoding", "gzip")) {
		room = append(room, impl.Field{Name: ownText(f.Name), Value: ownText(f.Value)})
	}
	return impl.Head{Line: ownText(h.Line), Fields: room[:len(h.Fields)]}, room
}

func TestBodiesChangeNothing(t *testing.T) {
	heads := slices.Concat(rightHeads(), wrongHeads()[:40], []impl.Head{head("x", "content-length", "3"), head("x", "content-length", "3", "content-length", "003"), head("x", "transfer-encoding", "chunked"), head("x", "content-length", "3", "transfer-encoding", "chunked")})
	for _, h := range heads {
		for _, text := range wireTexts() {
			given, room := roomyFields(h)
			ahead := slices.Clone(room)
			wire := ownText(text)
			body, taken, code := impl.BodyOf(given, wire)
			answer, ok := impl.AnswerText(given, wire)
			if !sameHead(given, h) || !slices.Equal(room, ahead) || wire != text {
				t.Errorf("%q and %q are changed: %q, %q", h, text, room, wire)
			}
			wantApart(t, "BodyOf and AnswerText", []string{body, answer}, append(textsOf(given), wire))
			// What is answered hangs on what was handed in alone, not on the room behind it.
			wantBody(t, h, text, body, taken, code)
			if again, right := impl.AnswerText(h, text); again != answer || right != ok {
				t.Errorf("AnswerText of %q and %q: not the same answer twice", h, text)
			}
		}
	}
}

func TestChunksChangeNothing(t *testing.T) {
	for _, parts := range slices.Concat(partLists(), [][]string{{""}, {letters(100)}, {"a", "", "b"}, slices.Repeat([]string{"a"}, 11)}) {
		var room []string
		for _, part := range append(slices.Clone(parts), "room", "") {
			room = append(room, ownText(part))
		}
		ahead := slices.Clone(room)
		text, ok := impl.ChunkText(room[:len(parts)])
		if !slices.Equal(room, ahead) {
			t.Errorf("%q is changed: %q", ahead, room)
		}
		wantApart(t, "ChunkText", []string{text}, room)
		if again, right := impl.ChunkText(parts); again != text || right != ok {
			t.Errorf("ChunkText of %q: not the same answer twice", parts)
		}
	}
	for _, text := range wireTexts() {
		given := ownText(text)
		body, taken, code := impl.ReadChunks(given)
		if given != text {
			t.Errorf("%q is changed: %q", text, given)
		}
		wantApart(t, "ReadChunks", []string{body}, []string{given})
		wantChunks(t, text, body, taken, code)
	}
	// A whole part of which all of the body is made.
	for _, size := range []int{1, 2, 99, 255} {
		given := ownText(chunks(letters(size)) + chunkEnd)
		body, _, _ := impl.ReadChunks(given)
		wantApart(t, "ReadChunks", []string{body}, []string{given})
	}
}
