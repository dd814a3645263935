package tests

import (
	"slices"
	"strings"
	"testing"

	"loop.example/g00245/impl"
)

// lengthBytes tells a length in one, two or three bytes, as chapter 1 does for numbers of that size.
func lengthBytes(n int) string {
	switch {
	case n < 128:
		return string([]byte{byte(n)})
	case n < 128*128:
		return string([]byte{byte(n%128 + 128), byte(n / 128)})
	}
	return string([]byte{byte(n%128 + 128), byte(n/128%128 + 128), byte(n / 128 / 128)})
}

func sumBytes(text string) string {
	return sealedByBits(text)[len(text):]
}

// framed frames texts of any length, so that one beyond the limits has a right length and a right sum, too.
func framed(texts ...string) string {
	file := ""
	for _, text := range texts {
		file += lengthBytes(len(text)) + sumBytes(text) + text
	}
	return file
}

// unframedByRule tries every text at each place: the frame of one of them stands there, or none does.
func unframedByRule(file string) ([]string, int) {
	var records []string
	at := 0
	for {
		record, ok := recordByRule(file[at:])
		if !ok {
			return records, at
		}
		records = append(records, record)
		at += len(framed(record))
	}
}

func recordByRule(file string) (string, bool) {
	for size := 1; size <= impl.MaxRecord; size++ {
		head := lengthBytes(size)
		from := len(head) + 4
		if !strings.HasPrefix(file, head) || len(file) < from+size {
			continue
		}
		if text := file[from : from+size]; strings.HasPrefix(file, framed(text)) {
			return text, true
		}
	}
	return "", false
}

// recordTexts are short and long ones, on both sides of each step in the length's bytes, up to the longest.
func recordTexts() []string {
	texts := []string{
		"\x00", "\xff", "a", "one", "123456789", "\x00\x00\x00\x00", "\xff\xff\xff\xff", "\xff\xff\xff\xff\x00",
		everyByte(), framed("one"), framed("one", "two"), framed("one")[:5],
		strings.Repeat("\x00", impl.MaxRecord), strings.Repeat("\xff", impl.MaxRecord),
	}
	for i, size := range []int{2, 126, 127, 128, 129, 255, 256, 1000, 8191, 8192, impl.MaxRecord - 1, impl.MaxRecord} {
		texts = append(texts, drawn(size, uint32(40+i)))
	}
	return texts
}

// wantUnframed asks for these records, and for the place behind their frames.
func wantUnframed(t *testing.T, what, file string, want ...string) {
	t.Helper()
	got, end := impl.Unframe(file)
	if wantEnd := len(framed(want...)); !slices.Equal(got, want) || end != wantEnd {
		t.Errorf("%s (%d bytes): %d records up to %d; want %d up to %d", what, len(file), len(got), end, len(want), wantEnd)
	}
}

func TestFrameBytes(t *testing.T) {
	for _, c := range []struct {
		text, want string
	}{
		{"\x00", "\x01\x81\xa5\xc7\xdc\x00"},
		{"a", "\x01\x9f\x7e\x64\x96a"},
		{"abc", "\x03\xa7\xcd\x0a\x81abc"},
		{"123456789", "\x09\x78\xce\xaa\x89123456789"},
		{"\xff\xff\xff\xff", "\x04\x00\x00\x00\x00\xff\xff\xff\xff"},
	} {
		if got, ok := impl.Frame(c.text); !ok || got != c.want {
			t.Errorf("Frame(%q) = %q, %v; want %q, true", c.text, got, ok, c.want)
		}
	}
	for _, c := range []struct {
		size int
		head string
	}{
		{127, "\x7f"}, {128, "\x80\x01"}, {300, "\xac\x02"}, {impl.MaxRecord, "\xa8\x46"},
	} {
		text := drawn(c.size, 31)
		if got, ok := impl.Frame(text); !ok || got != c.head+sumBytes(text)+text {
			t.Errorf("Frame of %d bytes: %d bytes, which begin with %.6q, %v", c.size, len(got), got, ok)
		}
	}
}

func TestFrameRefused(t *testing.T) {
	for _, size := range []int{0, impl.MaxRecord + 1, impl.MaxRecord + 2, 16384, impl.MaxText, impl.MaxText + 1} {
		if got, ok := impl.Frame(drawn(size, 32)); ok || got != "" {
			t.Errorf("Frame of %d bytes: %d bytes, %v", size, len(got), ok)
		}
	}
}

func TestRecordsComeBack(t *testing.T) {
	for _, text := range recordTexts() {
		frame, ok := impl.Frame(text)
		if !ok || frame != framed(text) {
			t.Errorf("Frame of %d bytes: %d bytes, %v", len(text), len(frame), ok)
		}
		wantUnframed(t, "one frame", frame, text)
		wantUnframed(t, "another one ahead", framed("ahead")+frame, "ahead", text)
		wantUnframed(t, "two alike", frame+frame, text, text)
	}
	for b := range 256 {
		text := string([]byte{byte(b)})
		frame, ok := impl.Frame(text)
		if !ok {
			t.Errorf("Frame(%q) is refused", text)
		}
		wantUnframed(t, "a frame of one byte", frame, text)
	}
}

func TestSeveralRecordsComeBackInOrder(t *testing.T) {
	var short []string
	for _, text := range recordTexts() {
		if len(text) <= 1000 {
			short = append(short, text)
		}
	}
	for count := range len(short) + 1 {
		wantUnframed(t, "several", framed(short[:count]...), short[:count]...)
	}
	slices.Reverse(short)
	wantUnframed(t, "several the other way round", framed(short...), short...)
}

func TestUnframeOfTheLongestFiles(t *testing.T) {
	long := drawn(impl.MaxRecord, 33)
	for _, c := range []struct {
		rest int // beside two frames of MaxRecord bytes, their lengths and sums
		all  int
	}{
		{1981, impl.MaxText - 1}, {1982, impl.MaxText},
	} {
		records := []string{long, drawn(impl.MaxRecord, 34), drawn(c.rest, 35)}
		file := framed(records...)
		if len(file) != c.all {
			t.Fatalf("the file has %d bytes; want %d", len(file), c.all)
		}
		wantUnframed(t, "a file up to the limit", file, records...)
	}
	for _, rest := range []int{1983, 1984, impl.MaxRecord} {
		wantUnframed(t, "a file beyond the limit", framed(long, long, drawn(rest, 36)))
	}
	wantUnframed(t, "whole frames, and noughts up to the limit", filledUp(framed("one", "two"), impl.MaxText), "one", "two")
	wantUnframed(t, "whole frames, and noughts beyond the limit", filledUp(framed("one", "two"), impl.MaxText+1))
	wantUnframed(t, "one frame as long as a file may be, but a longer record", framed(drawn(impl.MaxText-7, 37)))
}

func filledUp(file string, size int) string {
	return file + strings.Repeat("\x00", size-len(file))
}

func TestUnframeOfAsManyAsCanBe(t *testing.T) {
	records := strings.Split(drawnLetters(impl.MaxText/6), "")
	file := framed(records...)
	wantUnframed(t, "frames of one byte", file, records...)
	wantUnframed(t, "frames of one byte, and the beginning of one more", file+framed("z")[:impl.MaxText-len(file)], records...)
	wantUnframed(t, "frames of one byte, one too many", file+framed("z"))
}

func drawnLetters(count int) string {
	out := []byte(drawn(count, 38))
	for i := range out {
		out[i] = 'a' + out[i]%26
	}
	return string(out)
}

func TestUnframeOfNothing(t *testing.T) {
	wantUnframed(t, "no bytes", "")
	for b := range 256 {
		for size := 1; size <= 6; size++ {
			wantUnframed(t, "bytes that are no frame", strings.Repeat(string([]byte{byte(b)}), size))
		}
	}
}

// checkCuts cuts the file at each of these places: just the frames that end ahead of a place, or at it, are left.
func checkCuts(t *testing.T, records []string, places []int) {
	t.Helper()
	file := framed(records...)
	for _, cut := range places {
		whole := 0
		for whole < len(records) && len(framed(records[:whole+1]...)) <= cut {
			whole++
		}
		wantUnframed(t, "a file that is cut", file[:cut], records[:whole]...)
	}
}

func upTo(last int) []int {
	var places []int
	for place := range last + 1 {
		places = append(places, place)
	}
	return places
}

func TestUnframeOfCutFiles(t *testing.T) {
	for _, records := range [][]string{
		{"a"},
		{"one"},
		{"one", "a", "three"},
		{"\x00", "\x00\x00", "\xff\xff\xff\xff", "\xff\xff\xff\xff"},
		{drawn(127, 51), drawn(128, 52), "x", drawn(300, 53), "y"},
		{framed("one"), framed("one", "two"), framed("one")},
	} {
		checkCuts(t, records, upTo(len(framed(records...))))
	}
}

func TestUnframeOfLongCutFiles(t *testing.T) {
	records := []string{drawn(impl.MaxRecord, 54), drawn(impl.MaxRecord, 55), drawn(1982, 56)}
	var places []int
	for _, end := range []int{0, 9006, 18012, impl.MaxText} {
		for place := max(0, end-8); place <= min(impl.MaxText, end+8); place++ {
			places = append(places, place)
		}
	}
	for place := 11; place < impl.MaxText; place += 997 {
		places = append(places, place)
	}
	checkCuts(t, records, places)
}

// Of a file in which one byte is turned, the records ahead of the frame it is in are left, and neither that one nor any behind it.
func TestUnframeOfTurnedByte(t *testing.T) {
	records := []string{"one", drawn(130, 57), "a", drawn(20, 58)}
	file := framed(records...)
	whole := 0
	for at := range len(file) {
		if at == len(framed(records[:whole+1]...)) {
			whole++
		}
		for b := range 256 {
			if byte(b) != file[at] {
				wantUnframed(t, "a file with another byte", withByteAt(file, at, byte(b)), records[:whole]...)
			}
		}
	}
}

func TestUnframeOfTurnedByteInLong(t *testing.T) {
	first, second := drawn(impl.MaxRecord, 59), drawn(impl.MaxRecord, 60)
	file := framed(first, second)
	size := len(framed(first))
	for at := 0; at < size; at += 1 + at/3 {
		for _, turn := range []byte{1, 128, 255} {
			wantUnframed(t, "a long one with another byte", withByteAt(file, at, file[at]^turn))
			wantUnframed(t, "one with another byte behind a long one", withByteAt(file, size+at, file[size+at]^turn), first)
		}
	}
}

func TestUnframeOfWrongLengths(t *testing.T) {
	long := drawn(impl.MaxText, 61)
	for what, wrong := range map[string]string{
		"a longer form of 0":                         "\x80\x00" + sumBytes(""),
		"a length of 0":                              "\x00" + sumBytes(""),
		"a length of 0, and a text":                  "\x00" + sumBytes("one") + "one",
		"a longer form of 3":                         "\x83\x00" + sumBytes("one") + "one",
		"a still longer form of 3":                   "\x83\x80\x00" + sumBytes("one") + "one",
		"a longer form of 200":                       "\xc8\x81\x00" + sumBytes(long[:200]) + long[:200],
		"a length above MaxRecord":                   framed(long[:impl.MaxRecord+1]),
		"a length of three bytes":                    framed(long[:16384]),
		"a length of MaxRecord, and one byte less":   framed(long[:impl.MaxRecord])[:9005],
		"a length of one more than there is":         "\x04" + sumBytes("one") + "one",
		"a length of one less than there is":         "\x02" + sumBytes("one") + "one",
		"a length of MaxNumber":                      "\x80\x94\xeb\xdc\x03" + sumBytes("one") + "one",
		"a length above MaxNumber":                   "\x81\x94\xeb\xdc\x03" + sumBytes("one") + "one",
		"a length that wraps round":                  strings.Repeat("\xff", 9) + "\x01" + sumBytes("one") + "one",
		"a length that wraps round to 3":             "\x83" + strings.Repeat("\x80", 9) + "\x02" + sumBytes("one") + "one",
		"a length without its last byte":             "\x83",
		"a length without an end":                    strings.Repeat("\x83", 40),
		"a length in figures":                        "3" + sumBytes("one") + "one",
		"a length the highest bits first":            "\x81\x48" + sumBytes(long[:200]) + long[:200],
		"a length alone":                             "\x03",
		"a length of the text and its sum":           "\x07" + sumBytes("one") + "one",
		"no length":                                  sumBytes("one") + "one",
		"a length and a sum":                         "\x03" + sumBytes("one"),
		"a sum the lowest byte first":                "\x03\x81\x0a\xcd\xa7abc",
		"a sum behind the text":                      "\x03abc\xa7\xcd\x0a\x81",
		"a sum of the length and the text":           "\x03" + sumBytes("\x03abc") + "abc",
		"a sum that begins at 0":                     "\x03\x09\x64\xd6\x91abc",
		"no sum":                                     "\x03abc",
		"a sealed text with its length":              "\x03" + sealedByBits("abc"),
		"a sum of another text":                      "\x03" + sumBytes("two") + "one",
		"a text with a blank ahead":                  " " + framed("one"),
		"a text without a frame":                     "one",
		"a nought":                                   "\x00",
		"a frame that lacks its first byte":          framed("one")[1:],
		"a length and a sum of 0, and a right frame": "\x00" + sumBytes("") + framed("one"),
	} {
		wantUnframed(t, what, wrong)
		wantUnframed(t, what+", behind whole ones", framed("first", "second")+wrong, "first", "second")
		wantUnframed(t, what+", ahead of a whole one", framed("first")+wrong+framed("behind"), "first")
	}
}

func checkByRule(t *testing.T, file string) {
	t.Helper()
	want, wantEnd := unframedByRule(file)
	if got, end := impl.Unframe(file); !slices.Equal(got, want) || end != wantEnd {
		t.Errorf("a file of %d bytes that begins with %.20q: %d records up to %d; by the rule %d up to %d", len(file), file, len(got), end, len(want), wantEnd)
	}
}

// Behind a record whose sum is 0 a nought changes nothing: with a length that is one more, the nought is, by the rule, the record's last byte.
func TestUnframeOfSumNought(t *testing.T) {
	ones := "\xff\xff\xff\xff"
	wantUnframed(t, "a sum of 0", "\x04\x00\x00\x00\x00"+ones+"\x00", ones)
	wantUnframed(t, "a sum of 0, and a nought more", "\x05\x00\x00\x00\x00"+ones+"\x00", ones+"\x00")
}

// A record's own bytes are passed over, also when they look like frames.
func TestRecordsWithinRecords(t *testing.T) {
	inner := framed("one", "two")
	outer := framed(inner, "three")
	wantUnframed(t, "frames in a frame", outer, inner, "three")
	wantUnframed(t, "what was in it", inner, "one", "two")
	wantUnframed(t, "frames in a frame that is torn", outer[:len(framed(inner))-1])
}

// drawnFile is some frames, of which a byte may be turned, cut out or put in, or behind which other bytes may stand.
func drawnFile(seed uint32) string {
	draw := drawn(24, seed)
	file := ""
	for i := range int(draw[0] % 6) {
		size := 1 + int(draw[1+i])%40
		if draw[10+i]%8 == 0 {
			size *= 9
		}
		file += framed(drawn(size, seed+uint32(i)))
	}
	at := int(draw[20])*256 + int(draw[21])
	switch {
	case draw[19]%5 == 0:
		return file + drawn(int(draw[20]%20), seed+9)
	case file == "":
		return draw[:draw[22]%24]
	}
	at %= len(file)
	switch draw[19] % 5 {
	case 1:
		return file[:at]
	case 2:
		return withByteAt(file, at, draw[22])
	case 3:
		return file[:at] + file[at+1:]
	}
	return file[:at] + draw[22:23] + file[at:]
}

func TestDrawnFiles(t *testing.T) {
	whole := 0
	for seed := range uint32(3000) {
		file := drawnFile(seed * 7919)
		checkByRule(t, file)
		records, end := impl.Unframe(file)
		if framed(records...) != file[:end] {
			t.Errorf("the records of file %d do not make its first %d bytes", seed, end)
		}
		whole += len(records)
	}
	if whole < 1000 {
		t.Errorf("just %d records in all files: they try too little", whole)
	}
}

// What is left when a file of frames loses its end is gone on with behind the whole ones.
func TestFramesAreAddedBehindTheWholeOnes(t *testing.T) {
	file := framed("one", "two", "three")
	for cut := range len(file) + 1 {
		records, end := impl.Unframe(file[:cut])
		wantUnframed(t, "a frame behind the whole ones", file[:end]+framed("new"), append(records, "new")...)
	}
}

func TestUnframeAnswersAlikeAndApart(t *testing.T) {
	file := framed("one", "two", "three")
	first, end := impl.Unframe(file)
	second, again := impl.Unframe(file)
	if len(first) != 3 || end != again || !slices.Equal(first, second) {
		t.Fatal("two calls do not answer alike")
	}
	first[0], first[2] = "other", "another"
	wantUnframed(t, "a file whose records were written over", file, "one", "two", "three")
	if !slices.Equal(second, []string{"one", "two", "three"}) {
		t.Error("two answers share memory")
	}
}
