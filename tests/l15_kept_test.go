package tests

import (
	"fmt"
	"maps"
	"math"
	"slices"
	"strings"
	"sync"
	"testing"

	"loop.example/g00245/impl"
)

func entry(key string, stored, life int, body string) impl.Entry {
	return impl.Entry{Key: key, Stored: stored, Life: life, Body: body}
}

func toldEntry(e impl.Entry) string {
	return fmt.Sprintf("%.40q stored %d life %d %d bytes %.20q", e.Key, e.Stored, e.Life, len(e.Body), e.Body)
}

func toldEntries(list []impl.Entry) string {
	var parts []string
	for _, e := range list {
		parts = append(parts, "{"+toldEntry(e)+"}")
	}
	return fmt.Sprintf("%d: %s", len(list), strings.Join(parts, " "))
}

func toldActs(list []impl.Act) string {
	var parts []string
	for _, a := range list {
		parts = append(parts, fmt.Sprintf("{%d %q %d bytes %.40q to %q}", a.Kind, a.Name, len(a.Text), a.Text, a.To))
	}
	return strings.Join(parts, " ")
}

// numberBytes is the document's rule of VarText, for any number that is not below 0.
func numberBytes(n int) string {
	if n > 127 {
		return string([]byte{byte(n%128 + 128)}) + numberBytes(n/128)
	}
	return string([]byte{byte(n)})
}

// entryBytes writes an entry as the document says, also one that is not right.
func entryBytes(e impl.Entry) string {
	return numberBytes(len(e.Key)) + e.Key + numberBytes(e.Stored) + numberBytes(e.Life) + e.Body
}

func entryOkByRule(e impl.Entry) bool {
	return 0 < len(e.Key) && len(e.Key) < 31 && -1 < e.Stored && e.Stored < 1000000001 && 0 < e.Life && e.Life < 1000000 && len(e.Body) < 401
}

// numberAt is the number of so many bytes, whatever they are.
func numberAt(bytes string) int {
	n := 0
	for i := len(bytes) - 1; i >= 0; i-- {
		n = n*128 + int(bytes[i])%128
	}
	return n
}

// readEntryByRule tries each way to cut a text: it is the EntryText of a right entry, or of none.
func readEntryByRule(text string) (impl.Entry, bool) {
	for size := 1; size <= 30; size++ {
		for stored := 1; stored <= 5; stored++ {
			for life := 1; life <= 3; life++ {
				at := 1 + size
				if at+stored+life > len(text) {
					continue
				}
				e := entry(text[1:at], numberAt(text[at:at+stored]), numberAt(text[at+stored:at+stored+life]), text[at+stored+life:])
				if entryOkByRule(e) && entryBytes(e) == text {
					return e, true
				}
			}
		}
	}
	return impl.Entry{}, false
}

func freshByRule(e impl.Entry, now int) bool {
	return entryOkByRule(e) && 0 <= now && now <= 1000000000 && e.Stored <= now && now <= e.Stored+e.Life-1
}

func framesOf(list ...impl.Entry) string {
	var texts []string
	for _, e := range list {
		texts = append(texts, entryBytes(e))
	}
	return framed(texts...)
}

// lastByRule has of each Key the last one, ascending by Key.
func lastByRule(list []impl.Entry) []impl.Entry {
	last := map[string]impl.Entry{}
	for _, e := range list {
		last[e.Key] = e
	}
	var found []impl.Entry
	for _, key := range slices.Sorted(maps.Keys(last)) {
		found = append(found, last[key])
	}
	return found
}

func findByRule(d impl.Disk) []impl.Entry {
	if !impl.DiskOk(d) {
		return nil
	}
	var whole []impl.Entry
	for _, file := range d.Files {
		if file.Name != "kept" {
			continue
		}
		records, _ := unframedByRule(file.Text)
		for _, record := range records {
			if e, ok := readEntryByRule(record); ok {
				whole = append(whole, e)
			}
		}
	}
	return lastByRule(whole)
}

func keepByRule(e impl.Entry) []impl.Act {
	return []impl.Act{add("kept", framesOf(e)), keep("kept")}
}

func anewByRule(d impl.Disk, list []impl.Entry) []impl.Act {
	acts := []impl.Act{add("new", framesOf(list...)), keep("new"), move("new", "kept")}
	if slices.ContainsFunc(d.Files, func(file impl.File) bool { return file.Name == "new" }) {
		return slices.Insert(acts, 0, drop("new"))
	}
	return acts
}

// keptFile is a disk with such a file alone, all of it kept.
func keptFile(text string) impl.Disk {
	return disk(impl.File{Name: "kept", Text: text, Kept: len(text)})
}

// keptDisk has entries kept by the acts of KeepActs, one behind the other.
func keptDisk(t *testing.T, list ...impl.Entry) impl.Disk {
	t.Helper()
	return keptOn(t, impl.Disk{}, list...)
}

func keptOn(t *testing.T, d impl.Disk, list ...impl.Entry) impl.Disk {
	t.Helper()
	for _, e := range list {
		acts, ok := impl.KeepActs(e)
		next, done := impl.DoActs(d, acts)
		if !ok || done != 2 {
			t.Fatalf("%s: KeepActs %v, %d done", toldEntry(e), ok, done)
		}
		d = next
	}
	return d
}

func wantFound(t *testing.T, what string, d impl.Disk, want ...impl.Entry) {
	t.Helper()
	if got := impl.FindKept(d); !slices.Equal(got, want) {
		t.Errorf("%s: FindKept of %s = %s; want %s", what, told(d), toldEntries(got), toldEntries(want))
	}
}

func wantWrittenEntry(t *testing.T, e impl.Entry, want string) {
	t.Helper()
	if got, ok := impl.EntryText(e); got != want || !ok {
		t.Errorf("EntryText of %s = %.60q, %v; want %.60q, true", toldEntry(e), got, ok, want)
	}
	if got, ok := impl.ReadEntry(want); got != e || !ok {
		t.Errorf("ReadEntry of %.60q = %s, %v; want %s, true", want, toldEntry(got), ok, toldEntry(e))
	}
}

func wantNoEntry(t *testing.T, what, text string) {
	t.Helper()
	if got, ok := impl.ReadEntry(text); ok || got != (impl.Entry{}) {
		t.Errorf("%s: ReadEntry of %.60q (%d bytes) = %s, %v; want nothing, false", what, text, len(text), toldEntry(got), ok)
	}
}

func wantReadByRule(t *testing.T, text string) bool {
	t.Helper()
	want, wantOk := readEntryByRule(text)
	if got, ok := impl.ReadEntry(text); got != want || ok != wantOk {
		t.Errorf("ReadEntry of %.60q (%d bytes) = %s, %v; by the rule %s, %v", text, len(text), toldEntry(got), ok, toldEntry(want), wantOk)
	}
	return wantOk
}

// wantRightEntry holds all that is said of one entry alone.
func wantRightEntry(t *testing.T, e impl.Entry) {
	t.Helper()
	if !impl.EntryOk(e) {
		t.Errorf("%s is right", toldEntry(e))
	}
	wantWrittenEntry(t, e, entryBytes(e))
	if acts, ok := impl.KeepActs(e); !slices.Equal(acts, keepByRule(e)) || !ok {
		t.Errorf("KeepActs of %s = %s, %v; want %s, true", toldEntry(e), toldActs(acts), ok, toldActs(keepByRule(e)))
	}
	wantAnew(t, impl.Disk{}, e)
}

func wantAnew(t *testing.T, d impl.Disk, list ...impl.Entry) []impl.Act {
	t.Helper()
	acts, ok := impl.AnewActs(d, list)
	if want := anewByRule(d, list); !slices.Equal(acts, want) || !ok {
		t.Errorf("AnewActs of %s with %s = %s, %v; want %s, true", told(d), toldEntries(list), toldActs(acts), ok, toldActs(want))
	}
	return acts
}

func wantNoAnew(t *testing.T, what string, d impl.Disk, list ...impl.Entry) {
	t.Helper()
	if acts, ok := impl.AnewActs(d, list); ok || len(acts) != 0 {
		t.Errorf("%s: AnewActs = %s, %v; want nothing, false", what, toldActs(acts), ok)
	}
}

func wantWrongEntry(t *testing.T, e impl.Entry) {
	t.Helper()
	if impl.EntryOk(e) {
		t.Errorf("%s is not right", toldEntry(e))
	}
	if text, ok := impl.EntryText(e); text != "" || ok {
		t.Errorf("EntryText of %s = %.60q, %v; want nothing, false", toldEntry(e), text, ok)
	}
	if acts, ok := impl.KeepActs(e); len(acts) != 0 || ok {
		t.Errorf("KeepActs of %s = %s, %v; want nothing, false", toldEntry(e), toldActs(acts), ok)
	}
	for _, now := range append(momentsOf(e), 0, 1, 5, impl.MaxNumber) {
		if impl.FreshAt(e, now) {
			t.Errorf("%s is not right, and fresh at %d", toldEntry(e), now)
		}
	}
	wantNoAnew(t, "one that is not right", impl.Disk{}, e)
}

// momentsOf are those about the beginning and the end of an entry's Life.
func momentsOf(e impl.Entry) []int {
	var list []int
	for _, n := range []int{e.Stored, e.Stored + e.Life} {
		list = append(list, n-2, n-1, n, n+1)
	}
	return list
}

// rightEntries are ordinary ones, and those that meet a limit exactly.
func rightEntries() []impl.Entry {
	list := []impl.Entry{
		entry("/a", 5, 9, "hi"),
		entry("k", 0, 1, ""),
		entry("\x00", 0, 1, "\x00"),
		entry("\xff", 127, 127, "\xff"),
		entry("/b c", 128, 128, "\x7f\x80\x81\xfe\xff"),
		entry("\u00e9\u4e16", 1, 2, "\u00e9\u4e16\U0001f600"),
		entry(letters(30), impl.MaxNumber, 999999, letters(400)),
		entry(drawn(30, 5), impl.MaxNumber, 999999, drawn(400, 6)),
		entry(drawn(29, 7), impl.MaxNumber-1, 999998, drawn(399, 8)),
		entry("/every", 300, 60, everyByte()),
		entry("\x01", 1, 1, "\x01\x01\x01"),
		entry("\x80\x80", 2, 3, "\x80\x80\x80"),
		entry("frame", 7, 8, framed("one", "two")),
		entry("entry", 7, 8, entryBytes(entry("k", 1, 2, "b"))),
	}
	for i, n := range []int{1, 126, 127, 128, 129, 16383, 16384, 16385, 2097151, 2097152, 268435455, 268435456, 999999999, 1000000000} {
		list = append(list, entry("stored", n, 3, drawn(i*20, uint32(n))), entry("life", 4, min(n, 999999), drawn(i*30, uint32(n))))
	}
	return list
}

func keyBreaks() []string {
	return []string{"", letters(31), drawn(31, 3), letters(32), letters(60), letters(128), letters(256 + 5), letters(65536 + 5), letters(impl.MaxText), letters(impl.MaxText + 1)}
}

func storedBreaks() []int {
	return []int{-1, -2, -impl.MaxNumber, math.MinInt, math.MinInt + 1, impl.MaxNumber + 1, impl.MaxNumber + 2, 1 << 32, 1<<32 + 5, math.MaxInt, math.MaxInt - 1}
}

func lifeBreaks() []int {
	return []int{0, -1, -9, math.MinInt, 1000000, 1000001, impl.MaxNumber, impl.MaxNumber + 1, 1 << 32, 1<<32 + 5, math.MaxInt}
}

func bodyBreaks() []string {
	return []string{letters(401), drawn(401, 4), letters(402), letters(512), letters(656), letters(65536), letters(impl.MaxText), letters(impl.MaxText + 1)}
}

// wrongEntries break the rule in one way each, but for the last ones.
func wrongEntries() []impl.Entry {
	var list []impl.Entry
	for _, e := range []impl.Entry{entry("/a", 5, 9, "hi"), entry(letters(30), impl.MaxNumber, 999999, letters(400)), entry("k", 0, 1, "")} {
		for _, key := range keyBreaks() {
			list = append(list, entry(key, e.Stored, e.Life, e.Body))
		}
		for _, n := range storedBreaks() {
			list = append(list, entry(e.Key, n, e.Life, e.Body))
		}
		for _, n := range lifeBreaks() {
			list = append(list, entry(e.Key, e.Stored, n, e.Body))
		}
		for _, body := range bodyBreaks() {
			list = append(list, entry(e.Key, e.Stored, e.Life, body))
		}
	}
	return append(list, impl.Entry{}, entry("", -1, 0, letters(401)), entry("", 0, 1, ""), entry("k", -1, 1000000, ""))
}

func TestKeptNames(t *testing.T) {
	if impl.NameKept != "kept" || impl.NameNew != "new" {
		t.Errorf("the names are %q and %q", impl.NameKept, impl.NameNew)
	}
}

func TestEntriesThatAreRight(t *testing.T) {
	for _, e := range rightEntries() {
		wantRightEntry(t, e)
	}
}

func TestEntriesThatAreNotRight(t *testing.T) {
	for _, e := range wrongEntries() {
		wantWrongEntry(t, e)
	}
}

// Each mix of what is within, at and beyond each limit.
func TestEntryLimits(t *testing.T) {
	for _, size := range []int{0, 1, 2, 29, 30, 31} {
		for _, stored := range []int{-1, 0, 1, impl.MaxNumber - 1, impl.MaxNumber, impl.MaxNumber + 1} {
			for _, life := range []int{-1, 0, 1, 2, 999998, 999999, 1000000} {
				for _, body := range []int{0, 1, impl.MaxBody - 1, impl.MaxBody, impl.MaxBody + 1} {
					e := entry(letters(size), stored, life, letters(body))
					if entryOkByRule(e) {
						wantRightEntry(t, e)
					} else {
						wantWrongEntry(t, e)
					}
				}
			}
		}
	}
}

func TestEntryTextKnown(t *testing.T) {
	wantWrittenEntry(t, entry("/a", 5, 9, "hi"), "\x02/a\x05\x09hi")
	wantWrittenEntry(t, entry("k", 0, 1, ""), "\x01k\x00\x01")
	wantWrittenEntry(t, entry("k", 127, 128, "x"), "\x01k\x7f\x80\x01x")
	wantWrittenEntry(t, entry("k", 128, 127, "x"), "\x01k\x80\x01\x7fx")
	wantWrittenEntry(t, entry("ab", 300, 999999, "\xff"), "\x02ab\xac\x02\xbf\x84\x3d\xff")
	wantWrittenEntry(t, entry("\xff\x00", 1000000000, 1, "\x00"), "\x02\xff\x00\x80\x94\xeb\xdc\x03\x01\x00")
	wantWrittenEntry(t, entry(letters(30), 1, 2, letters(400)), "\x1e"+letters(30)+"\x01\x02"+letters(400))
}

func TestReadEntryOfCutTexts(t *testing.T) {
	for _, e := range rightEntries() {
		text := entryBytes(e)
		bodyAt := len(text) - len(e.Body)
		for size := range text {
			wantReadByRule(t, text[:size])
			if size < bodyAt {
				wantNoEntry(t, "cut ahead of its body", text[:size])
				continue
			}
			// What stands behind the numbers is the Body, however much is left of it.
			wantWrittenEntry(t, entry(e.Key, e.Stored, e.Life, e.Body[:size-bodyAt]), text[:size])
		}
		for from := 1; from < len(text); from++ {
			wantReadByRule(t, text[from:])
		}
	}
	wantNoEntry(t, "the empty text", "")
}

// longerForm is the number with needless bytes behind it.
func longerForm(n, more int) string {
	short := []byte(numberBytes(n))
	short[len(short)-1] += 128
	return string(short) + strings.Repeat("\x80", more-1) + "\x00"
}

func TestReadEntryOfLongerForms(t *testing.T) {
	for _, e := range []impl.Entry{entry("/a", 5, 9, "hi"), entry("k", 0, 1, ""), entry(letters(30), 300, 999999, letters(20)), entry("k", impl.MaxNumber, 127, "\x00")} {
		size, stored, life := numberBytes(len(e.Key)), numberBytes(e.Stored), numberBytes(e.Life)
		for more := 1; more <= 6; more++ {
			wantNoEntry(t, "a length in a longer form", longerForm(len(e.Key), more)+e.Key+stored+life+e.Body)
			wantNoEntry(t, "Stored in a longer form", size+e.Key+longerForm(e.Stored, more)+life+e.Body)
			wantNoEntry(t, "Life in a longer form", size+e.Key+stored+longerForm(e.Life, more)+e.Body)
		}
	}
}

// Texts that an entry would have if it were right.
func TestReadEntryOfWrongEntries(t *testing.T) {
	for _, e := range wrongEntries() {
		if e.Stored >= 0 && e.Life >= 0 {
			wantNoEntry(t, "the text of one that is not right: "+toldEntry(e), entryBytes(e))
		}
	}
	for _, life := range []string{"\x00", "\x80\x00", "\xc0\x84\x3d", "\xff\xff\xff\x7f", "\x80\x94\xeb\xdc\x03", "\x81\x94\xeb\xdc\x03"} {
		wantNoEntry(t, "a Life beyond its limits", "\x01k\x00"+life)
		wantNoEntry(t, "a Life beyond its limits", "\x01k\x00"+life+"\x01b")
	}
	for _, stored := range []string{"\x81\x94\xeb\xdc\x03", "\xff\xff\xff\xff\x7f", "\x80\x80\x80\x80\x80\x01", "\xff\xff\xff\xff\xff\xff\xff\xff\x7f", "\xff\xff\xff\xff\xff\xff\xff\xff\xff\xff\xff"} {
		wantNoEntry(t, "Stored beyond its limit", "\x01k"+stored+"\x01b")
	}
	for _, size := range []string{"\x00", "\x1f", "\x7f", "\x80\x01", "\xa1\x9c\x01", "\xff\xff\xff\xff\x0f", "\xff\xff\xff\xff\xff\xff\xff\xff\x7f"} {
		wantNoEntry(t, "a length that is none of a Key", size+letters(40)+"\x01\x01b")
		wantNoEntry(t, "a length that is none of a Key", size+letters(21000)+"\x01\x01b")
	}
	wantNoEntry(t, "a Key of no byte", "\x00\x05\x09hi")
	wantNoEntry(t, "a Key of 31 bytes", "\x1f"+letters(31)+"\x05\x09hi")
	wantNoEntry(t, "a Key that is cut", "\x05abc")
	wantNoEntry(t, "no numbers", "\x03abc")
	wantNoEntry(t, "no Life", "\x03abc\x05")
	wantNoEntry(t, "noughts", strings.Repeat("\x00", 30))
	wantNoEntry(t, "a Body of one byte too many", "\x01k\x00\x01"+letters(401))
	wantNoEntry(t, "a great text", "\x01k\x00\x01"+letters(100000))
}

// A text of few bytes, of each kind some: the rule tells each.
func TestReadEntryOfShortTexts(t *testing.T) {
	some := "\x00\x01\x02\x7f\x80\xff"
	right := 0
	for size := range 7 {
		for _, picks := range everyTurns(size, len(some)) {
			text := ""
			for _, pick := range picks {
				text += some[pick : pick+1]
			}
			if wantReadByRule(t, text) {
				right++
			}
		}
	}
	if right < 1000 {
		t.Errorf("just %d are entries: the texts tell too little", right)
	}
}

// Each byte of a text turned into each other one.
func TestReadEntryOfTurnedTexts(t *testing.T) {
	for _, e := range []impl.Entry{entry("/a", 5, 9, "hi"), entry("k", 0, 1, ""), entry("ab", 300, 999999, "\xff\x00"), entry(letters(30), impl.MaxNumber, 500, "b")} {
		text := entryBytes(e)
		for at := range text {
			for b := range 256 {
				wantReadByRule(t, withByteAt(text, at, byte(b)))
			}
		}
	}
}

func TestDrawnEntryTexts(t *testing.T) {
	right, wrong := 0, 0
	for seed := range uint32(4000) {
		draws := drawn(60, seed*41+3)
		e := entry(drawn(int(draws[0])%32, seed), numberAt(draws[1:2+draws[2]%5]), numberAt(draws[6:7+draws[3]%3]), drawn([]int{0, 1, 9, 100, 399, 400, 401}[int(draws[4])%7], seed+9))
		text := entryBytes(e)
		if wantReadByRule(t, text) {
			right++
		} else {
			wrong++
		}
		wantReadByRule(t, draws)
		wantReadByRule(t, text[:int(draws[5])%(len(text)+1)])
		if got, ok := impl.EntryText(e); ok != entryOkByRule(e) || ok && got != text || !ok && got != "" {
			t.Errorf("EntryText of %s = %.40q, %v", toldEntry(e), got, ok)
		}
	}
	if right < 500 || wrong < 500 {
		t.Errorf("%d are entries and %d are not: the draws tell too little", right, wrong)
	}
}

func TestFreshAtKnown(t *testing.T) {
	for _, c := range []struct {
		e    impl.Entry
		now  int
		want bool
	}{
		{entry("/a", 5, 9, "hi"), 4, false},
		{entry("/a", 5, 9, "hi"), 5, true},
		{entry("/a", 5, 9, "hi"), 13, true},
		{entry("/a", 5, 9, "hi"), 14, false},
		{entry("/a", 5, 1, ""), 5, true},
		{entry("/a", 5, 1, ""), 6, false},
		{entry("/a", 0, 9, "hi"), -1, false},
		{entry("/a", 0, 9, "hi"), 0, true},
		{entry("/a", 0, 999999, ""), 999998, true},
		{entry("/a", 0, 999999, ""), 999999, false},
		{entry("/a", impl.MaxNumber, 9, ""), impl.MaxNumber - 1, false},
		{entry("/a", impl.MaxNumber, 9, ""), impl.MaxNumber, true},
		{entry("/a", impl.MaxNumber, 9, ""), impl.MaxNumber + 1, false},
		{entry("/a", impl.MaxNumber-1, 9, ""), impl.MaxNumber, true},
		{entry("/a", impl.MaxNumber-1, 9, ""), impl.MaxNumber + 1, false},
		{entry("/a", 5, 9, "hi"), math.MinInt, false},
		{entry("/a", 5, 9, "hi"), math.MaxInt, false},
		{entry("/a", 5, 9, "hi"), 5 + 1<<32, false},
		{entry("", 5, 9, "hi"), 6, false},
		{entry("/a", 5, 0, "hi"), 5, false},
		{entry("/a", -1, 9, "hi"), 0, false},
		{entry("/a", 5, 1000000, "hi"), 6, false},
		{entry("/a", 5, 9, letters(401)), 6, false},
	} {
		if got := impl.FreshAt(c.e, c.now); got != c.want {
			t.Errorf("FreshAt of %s at %d = %v", toldEntry(c.e), c.now, got)
		}
	}
}

func TestFreshAtByRule(t *testing.T) {
	fresh, old := 0, 0
	for _, stored := range []int{-2, -1, 0, 1, 2, 100, impl.MaxNumber - 999999, impl.MaxNumber - 5, impl.MaxNumber - 1, impl.MaxNumber, impl.MaxNumber + 1, math.MaxInt} {
		for _, life := range []int{-1, 0, 1, 2, 5, 127, 999998, 999999, 1000000, math.MaxInt, math.MinInt} {
			e := entry("/a", stored, life, "b")
			moments := append(momentsOf(e), -1, 0, 1, impl.MaxNumber-1, impl.MaxNumber, impl.MaxNumber+1, math.MinInt, math.MaxInt)
			for _, now := range moments {
				want := freshByRule(e, now)
				if got := impl.FreshAt(e, now); got != want {
					t.Errorf("FreshAt of %s at %d = %v", toldEntry(e), now, got)
				}
				if want {
					fresh++
				} else {
					old++
				}
			}
		}
	}
	if fresh < 100 || old < 100 {
		t.Errorf("%d are fresh and %d are not", fresh, old)
	}
}

// An entry is fresh at just so many moments as its Life has.
func TestFreshAsLongAsItsLife(t *testing.T) {
	for _, life := range []int{1, 2, 3, 50} {
		for _, stored := range []int{0, 1, 30} {
			count := 0
			for now := range 200 {
				if impl.FreshAt(entry("k", stored, life, ""), now) {
					count++
				}
			}
			if count != life {
				t.Errorf("stored at %d for %d: fresh at %d moments", stored, life, count)
			}
		}
	}
}

func TestKeepActsKnown(t *testing.T) {
	e := entry("/a", 5, 9, "hi")
	acts, ok := impl.KeepActs(e)
	want := []impl.Act{
		{Kind: impl.ActAdd, Name: "kept", Text: "\x07" + sumBytes("\x02/a\x05\x09hi") + "\x02/a\x05\x09hi"},
		{Kind: impl.ActKeep, Name: "kept"},
	}
	if !ok || !slices.Equal(acts, want) {
		t.Errorf("KeepActs = %s, %v", toldActs(acts), ok)
	}
}

// Promise 15: what was kept is found.
func TestWhatWasKeptIsFound(t *testing.T) {
	for _, e := range rightEntries() {
		wantFound(t, "one", keptDisk(t, e), e)
		for _, other := range rightEntries() {
			if e.Key != other.Key {
				wantFound(t, "two", keptDisk(t, e, other), lastByRule([]impl.Entry{e, other})...)
			}
		}
	}
	a, b, c := entry("a", 1, 2, "A"), entry("b", 3, 4, ""), entry("c", 5, 6, "\xff")
	for _, order := range everyOrder(3) {
		three := []impl.Entry{a, b, c}
		wantFound(t, "three", keptDisk(t, three[order[0]], three[order[1]], three[order[2]]), a, b, c)
	}
	keys := []string{"\x00", "\x00\x00", "A", "a", "a\x00", "aa", "ab", "b", "\x7f", "\x80", "\xff", "\xff\xff"}
	var ordered, turned []impl.Entry
	for i, key := range keys {
		ordered = append(ordered, entry(key, i, i+1, drawn(i*10, uint32(i))))
	}
	for i := range ordered {
		turned = append(turned, ordered[(i*5+3)%len(ordered)])
	}
	wantFound(t, "keys byte by byte, a beginning being less", keptDisk(t, turned...), ordered...)
	slices.Reverse(turned)
	wantFound(t, "keys byte by byte, the other way", keptDisk(t, turned...), ordered...)
}

// Many: as many of the longest as the file has room for, and as many of the shortest.
func TestManyKept(t *testing.T) {
	longest := func(i int) impl.Entry {
		return entry(letters(28)+twoLetters(100)[i*7%100], impl.MaxNumber-i, 999999-i, drawn(400, uint32(i)))
	}
	var list []impl.Entry
	for i := range impl.MaxText / len(framesOf(longest(0))) {
		list = append(list, longest(i))
	}
	d := keptDisk(t, list...)
	wantFound(t, "the longest", d, lastByRule(list)...)
	acts, _ := impl.KeepActs(longest(len(list)))
	if full, done := impl.DoActs(d, acts); done != 0 || !sameDisk(full, d) {
		t.Errorf("%d more acts were done in a full file", done)
	}
	var short []impl.Entry
	for i := range 1500 {
		short = append(short, entry(string([]byte{byte(i * 7 % 251), byte(i / 251)}), i%100, i%90+1, ""))
	}
	wantFound(t, "the shortest", keptFile(framesOf(short...)), lastByRule(short)...)
	if got := impl.FindKept(keptFile(framesOf(short...))); len(got) != 1500 {
		t.Errorf("%d of 1500 are found", len(got))
	}
}

// Promise 15: of one key the last one, whatever it is, and the others as they were.
func TestKeptTwice(t *testing.T) {
	versions := []impl.Entry{
		entry("k", 5, 9, "body"), entry("k", 5, 9, ""), entry("k", 5, 9, "bodies"), entry("k", 4, 9, "body"), entry("k", 500, 9, "body"),
		entry("k", 5, 1, "body"), entry("k", 5, 999999, "body"), entry("k", 0, 1, ""), entry("k", impl.MaxNumber, 999999, drawn(400, 1)),
	}
	others := []impl.Entry{entry("a", 1, 2, "A"), entry("ka", 7, 8, "\xff"), entry("\x00", 3, 3, "")}
	for _, first := range versions {
		for _, last := range versions {
			wantFound(t, "twice", keptDisk(t, first, last), last)
			for between := range len(others) + 1 {
				list := slices.Concat(others[between:], []impl.Entry{first}, others[:between], []impl.Entry{last})
				wantFound(t, "twice, others between", keptDisk(t, list...), others[2], others[0], last, others[1])
			}
			for _, middle := range versions {
				wantFound(t, "three times", keptDisk(t, first, middle, last), last)
				wantFound(t, "three times, others between", keptDisk(t, others[0], first, others[1], middle, others[2], last), others[2], others[0], last, others[1])
			}
		}
	}
	wantFound(t, "each twice", keptDisk(t, entry("b", 1, 1, "1"), entry("a", 2, 2, "2"), entry("a", 3, 3, "3"), entry("b", 4, 4, "4")), entry("a", 3, 3, "3"), entry("b", 4, 4, "4"))
	wantFound(t, "each twice, in turns", keptDisk(t, entry("a", 1, 1, "1"), entry("b", 2, 2, "2"), entry("a", 3, 3, "3"), entry("b", 4, 4, "4")), entry("a", 3, 3, "3"), entry("b", 4, 4, "4"))
}

// A first one that is kept again and again, till the file is full, is found as it was kept last.
func TestKeptOftenAndAgain(t *testing.T) {
	var list []impl.Entry
	for i := range 300 {
		list = append(list, entry([]string{"b", "a", "c", "aa", "\xff"}[i*i%5], i, 1000-i, drawn(i*37%50, uint32(i))))
	}
	d := impl.Disk{}
	for i, e := range list {
		d = keptOn(t, d, e)
		wantFound(t, fmt.Sprintf("behind %d", i+1), d, lastByRule(list[:i+1])...)
	}
}

func TestFindKeptOfNoFile(t *testing.T) {
	frames := framesOf(entry("/a", 5, 9, "hi"))
	wantFound(t, "no files", impl.Disk{})
	wantFound(t, "an empty file", disk(impl.File{Name: "kept"}))
	for _, name := range []string{"new", "kep", "kept ", "Kept", "keptt", "kept\x00", "jept", "lept"} {
		wantFound(t, "another file", disk(impl.File{Name: name, Text: frames, Kept: len(frames)}))
	}
	for _, d := range rightDisks() {
		wantFound(t, "without the file", d)
	}
}

// The file is found among others, also where they have entries, too, and whatever of it is kept.
func TestFindKeptAmongOtherFiles(t *testing.T) {
	e, other := entry("/a", 5, 9, "hi"), entry("/b", 1, 1, "")
	for kept := range len(framesOf(e)) + 1 {
		d := disk(impl.File{Name: "a", Text: framesOf(other)}, impl.File{Name: "kept", Text: framesOf(e), Kept: kept}, impl.File{Name: "new", Text: framesOf(other)})
		wantFound(t, "among others", d, e)
	}
	wantFound(t, "on a full disk", withFile(fullDisk(29), impl.File{Name: "kept", Text: framesOf(e, other)}), e, other)
}

// withFile has one file more, in its place.
func withFile(d impl.Disk, file impl.File) impl.Disk {
	files := append(slices.Clone(d.Files), file)
	slices.SortStableFunc(files, func(a, b impl.File) int { return strings.Compare(a.Name, b.Name) })
	return impl.Disk{Files: files}
}

// brokenDisks are not right, though the file of what was kept stands there.
func brokenDisks() []impl.Disk {
	frames := framesOf(entry("/a", 5, 9, "hi"), entry("/b", 1, 1, ""))
	file := impl.File{Name: "kept", Text: frames, Kept: len(frames)}
	list := []impl.Disk{
		disk(file, file),
		disk(impl.File{Name: "new"}, file),
		disk(file, impl.File{Name: "a"}),
		disk(file, impl.File{Name: "new", Text: "1", Kept: 2}),
		disk(impl.File{Name: "kept", Text: frames, Kept: len(frames) + 1}),
		disk(impl.File{Name: "kept", Text: frames, Kept: -1}),
		disk(impl.File{Name: "kept", Text: frames + letters(impl.MaxText-len(frames)+1)}),
		withFile(fullDisk(30), file),
	}
	for _, d := range wrongDisks() {
		d.Files = append([]impl.File{file}, d.Files...)
		list = append(list, d)
	}
	return list
}

func TestKeptOnDisksThatAreNotRight(t *testing.T) {
	for _, d := range append(brokenDisks(), wrongDisks()...) {
		if impl.DiskOk(d) {
			t.Fatalf("%s is right", told(d))
		}
		if got := impl.FindKept(d); len(got) != 0 {
			t.Errorf("FindKept of %s = %s; want nothing", told(d), toldEntries(got))
		}
		wantNoAnew(t, "a disk that is not right", d)
		wantNoAnew(t, "a disk that is not right", d, entry("/a", 5, 9, "hi"))
		wantNoAnew(t, "a disk that is not right, and an entry", d, impl.Entry{})
	}
}

// noEntries are texts of whole frames that are no entries.
func noEntries() []string {
	return []string{
		"\x00", "a", "\x00\x05\x09hi", "\x01k\x00\x00", "\x01k\x00\x00body", "\x02/a\x05", "\x02/a", "\x02/", "\x02/a\x85\x00\x09hi",
		"\x1f" + letters(31) + "\x05\x09hi", "\x01k\x05\x09" + letters(401), "\x82\x00/a\x05\x09hi", "\x01k\x81\x94\xeb\xdc\x03\x01b", drawn(9000, 3), letters(5000),
	}
}

func TestFindKeptPassesOver(t *testing.T) {
	a, b, again := entry("a", 1, 2, "A"), entry("b", 3, 4, ""), entry("a", 5, 6, "new")
	for _, none := range noEntries() {
		wantNoEntry(t, "no entry", none)
		between := framed(none)
		wantFound(t, "just one that is none", keptFile(between))
		wantFound(t, "ahead of others", keptFile(between+framesOf(a, b)), a, b)
		wantFound(t, "between others", keptFile(framesOf(a)+between+framesOf(b)), a, b)
		wantFound(t, "behind others", keptFile(framesOf(b, a)+between), a, b)
		wantFound(t, "ahead of a later one", keptFile(framesOf(a, b)+between+framesOf(again)), again, b)
		wantFound(t, "behind a later one", keptFile(framesOf(a, b, again)+between), again, b)
	}
	// One of the same Key that is not right is none: the one ahead of it stays the last.
	for _, wrong := range []impl.Entry{entry("a", 9, 0, "x"), entry("a", 9, 1000000, "x"), entry("a", 9, 9, letters(401)), entry("a", impl.MaxNumber+1, 9, "x")} {
		wantFound(t, "a later one that is not right", keptFile(framesOf(a, wrong)), a)
		wantFound(t, "an earlier one that is not right", keptFile(framesOf(wrong, a)), a)
	}
}

// A file that ends in a part of a frame: the whole ones ahead of it are found.
func TestFindKeptOfTornFiles(t *testing.T) {
	list := []impl.Entry{entry("b", 1, 2, "first"), entry("a", 300, 999999, drawn(200, 1)), entry("b", 5, 6, ""), entry("c", 7, 8, "\xff\x00"), entry("a", 9, 9, "last")}
	file := framesOf(list...)
	for size := range len(file) + 1 {
		whole := 0
		for whole < len(list) && len(framesOf(list[:whole+1]...)) <= size {
			whole++
		}
		wantFound(t, "a file that is cut", keptFile(file[:size]), lastByRule(list[:whole])...)
	}
	// A turned byte tears its frame: what stands behind it is not read any more.
	for at := range file {
		whole := 0
		for len(framesOf(list[:whole+1]...)) <= at {
			whole++
		}
		wantFound(t, "a file with a byte turned", keptFile(withByteAt(file, at, file[at]^0x40)), lastByRule(list[:whole])...)
	}
	torn := keptFile(framesOf(list[0]) + framesOf(list[1])[:9])
	wantFound(t, "kept behind a torn one", keptOn(t, torn, list[3]), list[0])
	anew, _ := impl.DoActs(torn, wantAnew(t, torn, impl.FindKept(torn)...))
	wantFound(t, "kept in a file that was laid anew", keptOn(t, anew, list[3]), list[0], list[3])
}

// manyLefts are numbers of bytes that may be left of files, as far as each of these has some.
func manyLefts(d impl.Disk) [][]int {
	lefts := [][]int{nil, {}, {-1}, {0, 0, 0}, {math.MaxInt, math.MaxInt, math.MaxInt}, {math.MinInt, 7}}
	for i, file := range d.Files {
		step := max(1, (len(file.Text)-file.Kept)/40)
		for size := file.Kept; size <= len(file.Text); size += step {
			left := make([]int, i+1)
			left[i] = size
			lefts = append(lefts, left)
		}
	}
	return lefts
}

// cutAnywhere tells of the disk whatever may be left of it, behind each number of acts.
func cutAnywhere(t *testing.T, d impl.Disk, acts []impl.Act, check func(cut impl.Disk, whole int)) {
	t.Helper()
	for whole := range len(acts) + 1 {
		ahead, done := impl.DoActs(d, acts[:whole])
		if done != whole {
			t.Fatalf("%d of %d acts are done", done, whole)
		}
		for _, left := range manyLefts(ahead) {
			cut, ok := impl.CutActs(d, acts, whole, left)
			if !ok {
				t.Fatalf("cut at %d: false", whole)
			}
			check(cut, whole)
		}
	}
}

// The power goes while one is kept: what was kept ahead of it is found, and of its Key the old one or the new one.
func TestPowerGoesWhileOneIsKept(t *testing.T) {
	ahead := []impl.Entry{entry("b", 1, 2, "first"), entry("a", 3, 4, ""), entry("c", 5, 6, drawn(100, 2))}
	for _, e := range []impl.Entry{entry("b", 9, 9, "longer than the first"), entry("b", 9, 9, ""), entry("aa", 7, 7, "new"), entry("c", 5, 6, drawn(400, 3)), entry("\x00", 0, 1, ""), entry("z", impl.MaxNumber, 999999, "\xff")} {
		for count := range len(ahead) + 1 {
			d := keptDisk(t, ahead[:count]...)
			acts, _ := impl.KeepActs(e)
			old, next := lastByRule(ahead[:count]), lastByRule(append(slices.Clone(ahead[:count]), e))
			seen := map[int]bool{}
			cutAnywhere(t, d, acts, func(cut impl.Disk, whole int) {
				got := impl.FindKept(cut)
				isNew := slices.Equal(got, next)
				if !isNew && !slices.Equal(got, old) || whole == 0 && isNew || whole == 2 && !isNew {
					t.Errorf("%s cut behind %d acts: %s", toldEntry(e), whole, toldEntries(got))
				}
				if isNew && whole == 1 {
					seen[1] = true
				}
			})
			if !seen[1] {
				t.Errorf("%s: never found behind the first act", toldEntry(e))
			}
		}
	}
}

// The power goes while the file is laid anew: it is the old one or the new one, never less.
func TestPowerGoesWhileTheFileIsLaidAnew(t *testing.T) {
	kept := []impl.Entry{entry("b", 1, 2, "first"), entry("a", 3, 4, ""), entry("b", 5, 6, drawn(100, 2)), entry("c", 7, 8, "x")}
	lists := [][]impl.Entry{{}, {kept[2]}, lastByRule(kept), {kept[3], kept[1]}, {entry("d", 1, 1, drawn(400, 4)), kept[0], kept[2]}}
	stale := impl.File{Name: "new", Text: framesOf(entry("stale", 1, 1, "none")) + "torn", Kept: 3}
	base := keptDisk(t, kept...)
	for _, d := range []impl.Disk{base, withFile(base, stale), withFile(withFile(base, stale), impl.File{Name: "other", Text: "kept as it is", Kept: 13}), withFile(impl.Disk{}, stale), {}} {
		old, wasThere := impl.FileAt(d, "kept")
		for _, list := range lists {
			acts := wantAnew(t, d, list...)
			cutAnywhere(t, d, acts, func(cut impl.Disk, whole int) {
				file, there := impl.FileAt(cut, "kept")
				want := old
				if whole == len(acts) {
					want = framesOf(list...)
				}
				if file != want || there != (wasThere || whole == len(acts)) {
					t.Errorf("cut behind %d of %d acts: %.40q, %v; want %.40q", whole, len(acts), file, there, want)
				}
				if other, _ := impl.FileAt(d, "other"); other != "" {
					if got, _ := impl.FileAt(cut, "other"); got != other {
						t.Errorf("cut behind %d acts: the other file is %q", whole, got)
					}
				}
				wantFound(t, "laid anew, and cut", cut, findByRule(keptFile(want))...)
			})
		}
	}
}

// A fall while the file is laid anew, and then it is laid anew again: nothing of the first try is in the way.
func TestLaidAnewBehindAFall(t *testing.T) {
	kept := []impl.Entry{entry("b", 1, 2, "first"), entry("a", 3, 4, ""), entry("b", 5, 6, "second")}
	want := lastByRule(kept)
	d := keptDisk(t, kept...)
	acts := wantAnew(t, d, want...)
	cutAnywhere(t, d, acts, func(cut impl.Disk, whole int) {
		again := wantAnew(t, cut, impl.FindKept(cut)...)
		after, done := impl.DoActs(cut, again)
		if done != len(again) || !sameDisk(after, keptFile(framesOf(want...))) || !impl.AllKept(after) {
			t.Errorf("laid anew again behind %d acts: %d of %d done: %s", whole, done, len(again), told(after))
		}
		wantFound(t, "laid anew again", after, want...)
	})
}

func TestAnewActsKnown(t *testing.T) {
	a, b := entry("/a", 5, 9, "hi"), entry("b", 0, 1, "")
	frames := "\x07" + sumBytes("\x02/a\x05\x09hi") + "\x02/a\x05\x09hi" + "\x04" + sumBytes("\x01b\x00\x01") + "\x01b\x00\x01"
	plain := []impl.Act{{Kind: impl.ActAdd, Name: "new", Text: frames}, {Kind: impl.ActKeep, Name: "new"}, {Kind: impl.ActMove, Name: "new", To: "kept"}}
	for _, c := range []struct {
		d    impl.Disk
		want []impl.Act
	}{
		{impl.Disk{}, plain},
		{keptFile("old"), plain},
		{disk(impl.File{Name: "new"}), append([]impl.Act{{Kind: impl.ActDrop, Name: "new"}}, plain...)},
		{disk(impl.File{Name: "kept"}, impl.File{Name: "new", Text: "part"}), append([]impl.Act{{Kind: impl.ActDrop, Name: "new"}}, plain...)},
	} {
		acts, ok := impl.AnewActs(c.d, []impl.Entry{a, b})
		if !ok || !slices.Equal(acts, c.want) {
			t.Errorf("AnewActs of %s = %s, %v", told(c.d), toldActs(acts), ok)
		}
	}
	acts, ok := impl.AnewActs(impl.Disk{}, nil)
	if want := []impl.Act{{Kind: impl.ActAdd, Name: "new"}, {Kind: impl.ActKeep, Name: "new"}, {Kind: impl.ActMove, Name: "new", To: "kept"}}; !ok || !slices.Equal(acts, want) {
		t.Errorf("AnewActs of no entries = %s, %v", toldActs(acts), ok)
	}
}

// disksToLayOn have the two files or not, among others.
func disksToLayOn() []impl.Disk {
	kept := impl.File{Name: "kept", Text: framesOf(entry("old", 1, 2, "x")) + "torn", Kept: 5}
	fresh := impl.File{Name: "new", Text: framesOf(entry("stale", 1, 2, "x")), Kept: 2}
	list := []impl.Disk{{}, disk(kept), disk(fresh), disk(kept, fresh), disk(impl.File{Name: "new"}), disk(impl.File{Name: "kept"}), disk(impl.File{Name: "new", Text: letters(impl.MaxText)})}
	for _, d := range []impl.Disk{disk(impl.File{Name: "a", Text: "1"}, impl.File{Name: "z"}), fullDisk(28), disk(impl.File{Name: "ne"}, impl.File{Name: "neww"}, impl.File{Name: "nex"})} {
		list = append(list, d, withFile(d, kept), withFile(d, fresh), withFile(withFile(d, kept), fresh))
	}
	return list
}

// Behind the acts the file is just what was told, all of it kept, NameNew is gone, and all others are as they were.
func TestLaidAnew(t *testing.T) {
	right := rightEntries()
	lists := [][]impl.Entry{nil, {}, {right[0]}, {right[1]}, {right[6]}, right[:5], right, {right[2], right[1], right[0]}}
	for _, d := range disksToLayOn() {
		for _, list := range lists {
			acts := wantAnew(t, d, list...)
			after, done := impl.DoActs(d, acts)
			text := framesOf(list...)
			want := impl.Disk{}
			for _, file := range d.Files {
				if file.Name != "kept" && file.Name != "new" {
					want.Files = append(want.Files, file)
				}
			}
			want = withFile(want, impl.File{Name: "kept", Text: text, Kept: len(text)})
			if done != len(acts) || !sameDisk(after, want) {
				t.Errorf("laid anew on %s: %d of %d done: %s", told(d), done, len(acts), told(after))
			}
			wantFound(t, "laid anew", after, lastByRule(list)...)
		}
	}
}

// A Key twice: both are written, in order, and the last one is found.
func TestLaidAnewTwice(t *testing.T) {
	first, last, other := entry("k", 9, 9, "first"), entry("k", 1, 1, ""), entry("a", 2, 2, "o")
	for _, list := range [][]impl.Entry{{first, last}, {last, first}, {first, other, last}, {first, first}, {other, first, last, first}} {
		after, done := impl.DoActs(impl.Disk{}, wantAnew(t, impl.Disk{}, list...))
		if file, _ := impl.FileAt(after, "kept"); done != 3 || file != framesOf(list...) {
			t.Errorf("%d done: %q", done, file)
		}
		wantFound(t, "a Key twice", after, lastByRule(list)...)
	}
}

// One that is not right, at each place among others, refuses all of them.
func TestAnewActsOfWrongEntries(t *testing.T) {
	others := rightEntries()[:4]
	for _, wrong := range wrongEntries() {
		for at := range len(others) + 1 {
			wantNoAnew(t, "one that is not right: "+toldEntry(wrong), keptFile("x"), slices.Insert(slices.Clone(others), at, wrong)...)
		}
		wantNoAnew(t, "two that are not right", impl.Disk{}, wrong, wrong)
	}
}

// The chapter asks for right ones alone: more than a file has room for is told, too, and refused when it is done.
func TestAnewActsOfTooMany(t *testing.T) {
	var list []impl.Entry
	for i := range 60 {
		list = append(list, entry(letters(28)+twoLetters(60)[i], i, 9, drawn(400, uint32(i))))
	}
	d := keptDisk(t, entry("old", 1, 2, "x"))
	acts := wantAnew(t, d, list...)
	if after, done := impl.DoActs(d, acts); done != 0 || !sameDisk(after, d) {
		t.Errorf("%d done: %s", done, told(after))
	}
	full := withFile(fullDisk(29), impl.File{Name: "kept"})
	if after, done := impl.DoActs(full, wantAnew(t, full, list[0])); done != 0 || !sameDisk(after, full) {
		t.Errorf("%d done on a full disk", done)
	}
}

// What is refused leaves the disk as it was, and so does each that asks alone.
func TestRefusedKeepsTheDisk(t *testing.T) {
	d := keptDisk(t, entry("a", 1, 2, "A"), entry("b", 3, 4, ""))
	for _, wrong := range wrongEntries() {
		acts, _ := impl.KeepActs(wrong)
		more, _ := impl.AnewActs(d, []impl.Entry{entry("c", 1, 1, ""), wrong})
		after, done := impl.DoActs(d, append(acts, more...))
		if done != 0 || !sameDisk(after, d) {
			t.Errorf("%s: %d acts are done", toldEntry(wrong), done)
		}
	}
	wantFound(t, "behind what was refused", d, entry("a", 1, 2, "A"), entry("b", 3, 4, ""))
}

func drawnEntry(draws string) impl.Entry {
	keys := []string{"a", "b", "aa", "\x00", "\xff", "k\x7f", drawn(30, 1)}
	numbers := []int{0, 1, 127, 128, 5000, 16384, impl.MaxNumber}
	sizes := []int{0, 1, 2, 17, 90, 128}
	return entry(keys[int(draws[0])%len(keys)], numbers[int(draws[1])%len(numbers)], int(draws[2])*3000+1, drawn(sizes[int(draws[3])%len(sizes)], uint32(draws[4])))
}

// Lives: entries are kept, the file is laid anew, and now and then the power goes; what was kept is found all along.
func TestDrawnLivesOfKept(t *testing.T) {
	falls, anews, kepts := 0, 0, 0
	for seed := range uint32(120) {
		draws := drawn(6*60, seed*97+11)
		d, kept := impl.Disk{}, []impl.Entry{}
		for i := 0; i < len(draws); i += 6 {
			e, turn := drawnEntry(draws[i:i+5]), int(draws[i+5])
			acts, next := keepByRule(e), lastByRule(append(slices.Clone(kept), e))
			if turn%5 == 0 {
				list := impl.FindKept(d)
				acts, next = wantAnew(t, d, list...), kept
				anews++
			}
			after, done := impl.DoActs(d, acts)
			if done != len(acts) {
				break
			}
			if turn > 200 {
				after, _ = impl.CutActs(d, acts, turn%(len(acts)+1), []int{turn * 40, int(draws[i]) * 3})
				falls++
			}
			got := impl.FindKept(after)
			if !slices.Equal(got, next) && (turn <= 200 || !slices.Equal(got, kept)) || !slices.Equal(got, findByRule(after)) {
				t.Fatalf("life %d, turn %d: %s; want %s", seed, i/6, toldEntries(got), toldEntries(next))
			}
			if turn > 200 {
				// As behind each fall: a torn end is laid anew, so that what comes behind it is found.
				after, _ = impl.DoActs(after, wantAnew(t, after, got...))
			}
			d, kept = after, got
			kepts = max(kepts, len(kept))
		}
	}
	if falls < 200 || anews < 200 || kepts < 7 {
		t.Errorf("%d falls, laid anew %d times, %d kept: the draws tell too little", falls, anews, kepts)
	}
}

func TestDrawnKeptFilesByRule(t *testing.T) {
	found, passed := 0, 0
	for seed := range uint32(800) {
		draws := drawn(50, seed*61+29)
		file := ""
		for i := range int(draws[0]) % 8 {
			part := draws[1+i*6 : 7+i*6]
			switch text := entryBytes(drawnEntry(part)); part[5] % 8 {
			case 0:
				file += framed(noEntries()[int(part[0])%13])
				passed++
			case 1:
				file += framed(withByteAt(text, int(part[1])%len(text), part[2]))
			case 2:
				file += framed(text[:int(part[1])%len(text)+1])
			default:
				file += framed(text)
			}
		}
		switch at := int(draws[49]) * 7; draws[48] % 6 {
		case 0:
			file = file[:min(at, len(file))]
		case 1:
			if at < len(file) {
				file = withByteAt(file, at, draws[47])
			}
		case 2:
			file += draws[:at%20]
		}
		d := keptFile(file)
		want := findByRule(d)
		wantFound(t, "drawn", d, want...)
		found += len(want)
	}
	if found < 1000 || passed < 100 {
		t.Errorf("%d found, %d passed over: the draws tell too little", found, passed)
	}
}

// roomyEntries have texts of their own, and room behind the list, where nothing may be written.
func roomyEntries(list []impl.Entry) ([]impl.Entry, []impl.Entry) {
	var room []impl.Entry
	for _, e := range list {
		room = append(room, ownEntry(e))
	}
	room = append(room, entry("spare", -71, -72, "room"), entry("more", -73, -74, ""))
	return room[:len(list)], room
}

func ownEntry(e impl.Entry) impl.Entry {
	return entry(ownText(e.Key), e.Stored, e.Life, ownText(e.Body))
}

func roomyDisk(d impl.Disk) (impl.Disk, []impl.File) {
	var room []impl.File
	for _, file := range d.Files {
		room = append(room, impl.File{Name: ownText(file.Name), Text: ownText(file.Text), Kept: file.Kept})
	}
	room = append(room, impl.File{Name: "spare", Text: "room", Kept: -7}, impl.File{Name: "new", Kept: -8})
	return impl.Disk{Files: room[:len(d.Files)]}, room
}

func spoilEntries(list []impl.Entry) {
	room := list[:cap(list)]
	for i := range room {
		room[i] = entry("spoilt", -99, -98, "spoilt")
	}
}

func spoilActs(list []impl.Act) {
	room := list[:cap(list)]
	for i := range room {
		room[i] = impl.Act{Kind: -99, Name: "spoilt", Text: "spoilt", To: "spoilt"}
	}
}

func textsOfEntries(list ...impl.Entry) []string {
	var texts []string
	for _, e := range list {
		texts = append(texts, e.Key, e.Body)
	}
	return texts
}

func textsOfDisk(d impl.Disk) []string {
	var texts []string
	for _, file := range d.Files {
		texts = append(texts, file.Name, file.Text)
	}
	return texts
}

// textsOfActs are what acts add: their names are those that the chapter names.
func textsOfActs(list []impl.Act) []string {
	var texts []string
	for _, a := range list {
		texts = append(texts, a.Text)
	}
	return texts
}

// disksToFindOn are right and not right, with entries found and passed over.
func disksToFindOn() []impl.Disk {
	frames := framesOf(rightEntries()...)
	list := []impl.Disk{{}, keptFile(""), keptFile(frames), keptFile(frames + frames), keptFile(framed(noEntries()[:5]...) + frames + "torn")}
	return slices.Concat(list, disksToLayOn(), brokenDisks(), rightDisks()[:8], wrongDisks())
}

func TestKeptChangesNothing(t *testing.T) {
	some := rightEntries()
	lists := [][]impl.Entry{nil, some[:1], some[:4], some, {some[0], some[0]}, {some[0], {}, some[1]}, wrongEntries()[:2]}
	for _, wanted := range disksToFindOn() {
		for _, list := range lists {
			d, files := roomyDisk(wanted)
			entries, room := roomyEntries(list)
			filesAhead, roomAhead := slices.Clone(files), slices.Clone(room)
			found := impl.FindKept(d)
			acts, _ := impl.AnewActs(d, entries)
			if !slices.Equal(files, filesAhead) || !slices.Equal(room, roomAhead) {
				t.Fatalf("what was handed in is changed: %s, %s", told(wanted), toldEntries(list))
			}
			wantApart(t, "FindKept", textsOfEntries(found...), textsOfDisk(d))
			wantApart(t, "AnewActs", textsOfActs(acts), append(textsOfDisk(d), textsOfEntries(entries...)...))
			wantFoundEntries, wantActs := slices.Clone(found), slices.Clone(acts)
			for i := range files {
				files[i] = impl.File{Name: "spoilt", Text: "spoilt", Kept: -9}
			}
			spoilEntries(entries)
			if !slices.Equal(found, wantFoundEntries) || !slices.Equal(acts, wantActs) {
				t.Fatalf("what was handed in is spoilt, and so is an answer: %s, %s", toldEntries(found), toldActs(acts))
			}
		}
	}
}

func TestOneEntryChangesNothing(t *testing.T) {
	for _, wanted := range append(rightEntries(), wrongEntries()...) {
		e := ownEntry(wanted)
		text, ok := impl.EntryText(e)
		again, okAgain := impl.EntryText(e)
		acts, kept := impl.KeepActs(e)
		actsAgain, keptAgain := impl.KeepActs(e)
		fresh, freshAgain := impl.FreshAt(e, e.Stored), impl.FreshAt(e, e.Stored)
		if text != again || ok != okAgain || !slices.Equal(acts, actsAgain) || kept != keptAgain || fresh != freshAgain || fresh != ok || impl.EntryOk(e) != ok || e != wanted {
			t.Fatalf("%s: another answer, or changed", toldEntry(wanted))
		}
		wantApart(t, "EntryText", []string{text}, append(textsOfEntries(e), again))
		wantApart(t, "KeepActs", textsOfActs(acts), append(textsOfEntries(e), textsOfActs(actsAgain)...))
		wantActs := slices.Clone(actsAgain)
		spoilActs(acts)
		if more, _ := impl.KeepActs(e); !slices.Equal(actsAgain, wantActs) || !slices.Equal(more, wantActs) {
			t.Errorf("%s: an answer is spoilt, and so is another", toldEntry(wanted))
		}
		given := ownText(text)
		read, _ := impl.ReadEntry(given)
		readAgain, _ := impl.ReadEntry(given)
		if read != readAgain || given != text {
			t.Errorf("%.40q: another answer, or changed", text)
		}
		wantApart(t, "ReadEntry", textsOfEntries(read), append(textsOfEntries(readAgain), given))
		wantApart(t, "ReadEntry: Key and Body", []string{read.Key}, []string{read.Body})
	}
}

func TestKeptAnswersReachNothing(t *testing.T) {
	some := rightEntries()
	for _, wanted := range disksToFindOn() {
		d, files := roomyDisk(wanted)
		ahead := slices.Clone(files)
		found, again := impl.FindKept(d), impl.FindKept(d)
		list, room := roomyEntries(some[:3])
		roomAhead := slices.Clone(room)
		acts, ok := impl.AnewActs(d, list)
		actsAgain, okAgain := impl.AnewActs(d, list)
		if !slices.Equal(found, again) || !slices.Equal(acts, actsAgain) || ok != okAgain {
			t.Fatalf("%s: the second answer is another one", told(wanted))
		}
		wantApart(t, "FindKept", textsOfEntries(found...), textsOfEntries(again...))
		wantApart(t, "AnewActs", textsOfActs(acts), textsOfActs(actsAgain))
		for i, e := range found {
			wantApart(t, "FindKept: one and another", textsOfEntries(e), textsOfEntries(found[i+1:]...))
		}
		wantEntries, wantActs := slices.Clone(again), slices.Clone(actsAgain)
		spoilEntries(found)
		spoilActs(acts)
		if !slices.Equal(again, wantEntries) || !slices.Equal(actsAgain, wantActs) || !slices.Equal(files, ahead) || !slices.Equal(room, roomAhead) {
			t.Fatalf("%s: an answer is spoilt, and so is what was handed in, or another answer", told(wanted))
		}
	}
}

// Many may ask at the same time: each gets what it would get alone.
func TestKeptAskedAtOnce(t *testing.T) {
	list := rightEntries()
	d := keptDisk(t, list...)
	want, anew := impl.FindKept(d), anewByRule(d, list)
	faults := make([]string, 8)
	var all sync.WaitGroup
	for i := range faults {
		all.Go(func() {
			for n := range 100 {
				e := list[(n+i)%len(list)]
				acts, _ := impl.AnewActs(d, list)
				text, _ := impl.EntryText(e)
				if !slices.Equal(impl.FindKept(d), want) || !slices.Equal(acts, anew) || text != entryBytes(e) {
					faults[i] = toldEntry(e)
				}
			}
		})
	}
	all.Wait()
	for _, fault := range faults {
		if fault != "" {
			t.Errorf("another answer at the same time as others: %s", fault)
		}
	}
}
