package tests

import (
	"math"
	"slices"
	"strings"
	"testing"

	"loop.example/g00245/impl"
)

// filledSketch has this number at every place.
func filledSketch(n, added int) impl.Sketch {
	var rows [][]int
	for range 3 {
		rows = append(rows, slices.Repeat([]int{n}, 16))
	}
	return impl.Sketch{Rows: rows, Added: added}
}

// drawnSketch is a right one whose rows have nothing to do with one another.
func drawnSketch(seed uint32, added int) impl.Sketch {
	draws := drawn(48, seed)
	s := filledSketch(0, added)
	for i := range len(draws) {
		s.Rows[i/16][i%16] = int(draws[i]) % 16
	}
	return s
}

func cloneSketch(s impl.Sketch) impl.Sketch {
	clone := impl.Sketch{Added: s.Added}
	for _, row := range s.Rows {
		clone.Rows = append(clone.Rows, slices.Clone(row))
	}
	return clone
}

func sameSketch(a, b impl.Sketch) bool {
	return a.Added == b.Added && slices.EqualFunc(a.Rows, b.Rows, slices.Equal[[]int])
}

// withNumber has another number at one place.
func withNumber(s impl.Sketch, row, place, n int) impl.Sketch {
	next := cloneSketch(s)
	next.Rows[row][place] = n
	return next
}

// withNumbers has these numbers at the places of a key, row by row.
func withNumbers(s impl.Sketch, key string, numbers ...int) impl.Sketch {
	next := cloneSketch(s)
	for row, n := range numbers {
		next.Rows[row][placeByRule(row, key)] = n
	}
	return next
}

func numbersOf(s impl.Sketch, key string) []int {
	var numbers []int
	for row := range 3 {
		numbers = append(numbers, s.Rows[row][placeByRule(row, key)])
	}
	return numbers
}

// placeByRule brings the row into 0 .. 255 ahead of making a byte of it.
func placeByRule(row int, key string) int {
	row = (row%256 + 256) % 256
	return int(sumByBits(4294967295, key+string([]byte{byte(row)})) & 15)
}

func sketchOkByRule(s impl.Sketch) bool {
	ok := len(s.Rows) == 3 && -1 < s.Added && s.Added < 64
	for _, row := range s.Rows {
		ok = ok && len(row) == 16
		for _, n := range row {
			ok = ok && 0 <= n && n <= 15
		}
	}
	return ok
}

// bumpByRule is the document's text of SketchBump.
func bumpByRule(s impl.Sketch, key string) impl.Sketch {
	next := cloneSketch(s)
	if !sketchOkByRule(s) {
		return next
	}
	for row := range 3 {
		if at := placeByRule(row, key); next.Rows[row][at] != 15 {
			next.Rows[row][at]++
		}
	}
	next.Added++
	if next.Added < 64 {
		return next
	}
	next.Added = 0
	for _, row := range next.Rows {
		for i, n := range row {
			row[i] = n >> 1
		}
	}
	return next
}

func guessByRule(s impl.Sketch, key string) int {
	if !sketchOkByRule(s) {
		return 0
	}
	numbers := numbersOf(s, key)
	slices.Sort(numbers)
	return numbers[0]
}

func wantSketch(t *testing.T, what string, got, want impl.Sketch) {
	t.Helper()
	if !sameSketch(got, want) {
		t.Errorf("%s: %v; want %v", what, got, want)
	}
}

func wantGuess(t *testing.T, what string, s impl.Sketch, key string, want int) {
	t.Helper()
	if got := impl.SketchGuess(s, key); got != want {
		t.Errorf("%s: %.40q is guessed %d times; want %d; %v", what, key, got, want, s)
	}
}

// wantSketchByRule holds one right or wrong sketch against the text, and answers it bumped.
func wantSketchByRule(t *testing.T, s impl.Sketch, key string) impl.Sketch {
	t.Helper()
	if ok := impl.SketchOk(s); ok != sketchOkByRule(s) {
		t.Errorf("SketchOk of %v: %v", s, ok)
	}
	wantGuess(t, "by the rule", s, key, guessByRule(s, key))
	next := impl.SketchBump(s, key)
	if want := bumpByRule(s, key); !sameSketch(next, want) {
		t.Errorf("SketchBump of %v and %.40q: %v; want %v", s, key, next, want)
	}
	return next
}

// bumped has all keys asked for, in order.
func bumped(s impl.Sketch, keys ...string) impl.Sketch {
	for _, key := range keys {
		s = impl.SketchBump(s, key)
	}
	return s
}

// sketchKeys are short and long ones, of any bytes; no limit of theirs is named.
func sketchKeys() []string {
	return []string{
		"", "\x00", "\x00\x00", "\x01", "a", "b", "abc", "/a", "/index?x=1", "\x7f", "\x80", "\xff", "\xff\xff\xff\xff", "\x80\xfe\x7f", "\u00e9", "\xc3",
		everyByte(), strings.Repeat("k", 30), strings.Repeat("k", 31), drawn(1000, 5), drawn(impl.MaxText, 6), strings.Repeat("\x00", impl.MaxText+1), strings.Repeat("key", 40000),
	}
}

// shortKeys are those whose places are soon reckoned.
func shortKeys() []string {
	return slices.DeleteFunc(sketchKeys(), func(key string) bool { return len(key) > 300 })
}

// keysAt are keys of one and two letters whose place in row 0 is this one.
func keysAt(place int) []string {
	var keys []string
	for _, key := range slices.Concat(everyOneByte(), twoLetters(300)) {
		if placeByRule(0, key) == place {
			keys = append(keys, key)
		}
	}
	return keys
}

// keyAtEachPlace has one key for each place of row 0.
func keyAtEachPlace(t *testing.T) []string {
	t.Helper()
	var keys []string
	for place := range 16 {
		there := keysAt(place)
		if len(there) < 2 {
			t.Fatalf("of the place %d there are %q alone", place, there)
		}
		keys = append(keys, there[0])
	}
	return keys
}

func edgeRows() []int {
	return []int{
		0, 1, 2, 3, 15, 16, 127, 128, 254, 255, 256, 257, 258, 511, 512, 65535, 65536, 1 << 31, 1<<31 - 1, 1 << 32, 1<<32 + 1, math.MaxInt, math.MaxInt - 1, math.MaxInt - 255,
		-1, -2, -127, -128, -129, -254, -255, -256, -257, -258, -512, -65536, -1 << 31, -1<<31 - 1, math.MinInt, math.MinInt + 1, math.MinInt + 2, math.MinInt + 255, math.MinInt + 256,
	}
}

// rightSketches have each limit met in each row and place, and drawn numbers.
func rightSketches() []impl.Sketch {
	list := []impl.Sketch{filledSketch(0, 0), filledSketch(15, 63), filledSketch(0, 63), filledSketch(15, 0), filledSketch(1, 62), filledSketch(14, 62)}
	for _, n := range []int{0, 1, 14, 15} {
		for i := range 48 {
			list = append(list, withNumber(filledSketch(7, 9), i/16, i%16, n))
		}
	}
	for added := range 64 {
		list = append(list, filledSketch(3, added), drawnSketch(uint32(added)*97+3, added))
	}
	return list
}

func wrongByRows() []impl.Sketch {
	row := slices.Repeat([]int{5}, 16)
	list := []impl.Sketch{{}, {Added: 5}, {Rows: [][]int{}}, {Rows: [][]int{nil}}, {Rows: [][]int{nil, nil, nil}}, {Rows: [][]int{{}, {}, {}}, Added: 63}, {Rows: [][]int{{1}, {2}, {3}}}}
	for _, deep := range []int{1, 2, 4, 5, 6, 48, 100} {
		for _, added := range []int{0, 9, 63} {
			list = append(list, impl.Sketch{Rows: slices.Repeat([][]int{row}, deep), Added: added})
		}
	}
	for place := range 3 {
		for _, wide := range []int{0, 1, 14, 15, 17, 18, 31, 32, 48, 500} {
			for _, added := range []int{0, 63} {
				wrong := filledSketch(5, added)
				wrong.Rows[place] = slices.Repeat([]int{5}, wide)
				list = append(list, wrong)
			}
		}
	}
	// As many numbers in all, but 15 in one row and 17 in another.
	for short := range 3 {
		wrong := filledSketch(5, 9)
		wrong.Rows[short], wrong.Rows[(short+1)%3] = wrong.Rows[short][:15], slices.Repeat([]int{5}, 17)
		list = append(list, wrong)
	}
	return list
}

func wrongByNumbers() []impl.Sketch {
	var list []impl.Sketch
	for _, n := range []int{-1, 16, -2, 17, -15, -16, 31, 255, 256, 271, -256, 1 << 32, 1<<32 + 5, math.MinInt, math.MaxInt} {
		for i := range 48 {
			list = append(list, withNumber(filledSketch(5, 9), i/16, i%16, n))
		}
		list = append(list, filledSketch(n, 9), withNumber(filledSketch(0, 63), 1, 7, n), withNumber(filledSketch(15, 63), 2, 15, n))
	}
	return list
}

func wrongByAdded() []impl.Sketch {
	var list []impl.Sketch
	for _, added := range []int{-1, 64, -2, 65, -63, -64, 127, 128, 1 << 32, 1<<32 + 63, math.MinInt, math.MaxInt} {
		list = append(list, filledSketch(0, added), filledSketch(5, added), filledSketch(15, added))
	}
	return list
}

func wrongSketches() []impl.Sketch {
	return slices.Concat(wrongByRows(), wrongByNumbers(), wrongByAdded())
}

func TestSketchConstants(t *testing.T) {
	got := [4]int{impl.SketchWide, impl.SketchDeep, impl.SketchTop, impl.SketchAge}
	if got != [4]int{16, 3, 15, 64} {
		t.Errorf("wide, deep, top and age: %v", got)
	}
}

func TestSketchNew(t *testing.T) {
	s := impl.SketchNew()
	wantSketch(t, "SketchNew", s, filledSketch(0, 0))
	if !impl.SketchOk(s) {
		t.Errorf("a new one is not right: %v", s)
	}
	for _, key := range sketchKeys() {
		wantGuess(t, "a new one", s, key, 0)
	}
}

func TestSketchPlaceKnown(t *testing.T) {
	rows := []int{0, 1, 2, 3, 127, 128, 254, 255, 256, 257, -1, -2, -256, -257}
	for key, want := range map[string][]int{
		"":                            {12, 3, 2, 13, 10, 9, 0, 15, 12, 3, 15, 0, 12, 15},
		"a":                           {14, 1, 0, 15, 8, 11, 2, 13, 14, 1, 13, 2, 14, 13},
		"b":                           {6, 9, 8, 7, 0, 3, 10, 5, 6, 9, 5, 10, 6, 5},
		"abc":                         {0, 15, 14, 1, 6, 5, 12, 3, 0, 15, 3, 12, 0, 3},
		"/a":                          {10, 5, 4, 11, 12, 15, 6, 9, 10, 5, 9, 6, 10, 9},
		"\x00":                        {15, 0, 1, 14, 9, 10, 3, 12, 15, 0, 12, 3, 15, 12},
		"\xff":                        {12, 3, 2, 13, 10, 9, 0, 15, 12, 3, 15, 0, 12, 15},
		"\x80\xfe\x7f":                {12, 3, 2, 13, 10, 9, 0, 15, 12, 3, 15, 0, 12, 15},
		everyByte():                   {10, 5, 4, 11, 12, 15, 6, 9, 10, 5, 9, 6, 10, 9},
		strings.Repeat("\x00", 20001): {7, 8, 9, 6, 1, 2, 11, 4, 7, 8, 4, 11, 7, 4},
		strings.Repeat("key", 40000):  {0, 15, 14, 1, 6, 5, 12, 3, 0, 15, 3, 12, 0, 3},
	} {
		for i, row := range rows {
			if got := impl.SketchPlace(row, key); got != want[i] {
				t.Errorf("SketchPlace(%d, %.40q) = %d; want %d", row, key, got, want[i])
			}
		}
	}
}

func TestSketchPlaceEdges(t *testing.T) {
	for _, key := range shortKeys() {
		for _, row := range edgeRows() {
			got := impl.SketchPlace(row, key)
			if got != placeByRule(row, key) || got < 0 || got >= 16 {
				t.Errorf("SketchPlace(%d, %.40q) = %d; want %d", row, key, got, placeByRule(row, key))
			}
		}
	}
	for _, key := range shortKeys() {
		for row, same := range map[int]int{math.MaxInt: 255, math.MinInt: 0, math.MinInt + 1: 1, -1: 255, -255: 1, 256: 0} {
			if got, want := impl.SketchPlace(row, key), impl.SketchPlace(same, key); got != want {
				t.Errorf("SketchPlace(%d, %.40q) = %d; of row %d it is %d", row, key, got, same, want)
			}
		}
	}
}

// The byte of the row stands behind the key: so a row of a key is where the longer key would be without one.
func TestSketchPlaceIsOfTheSum(t *testing.T) {
	for _, key := range sketchKeys() {
		for row := range 256 {
			sum := impl.SumOf(key + string([]byte{byte(row)}))
			if got := impl.SketchPlace(row, key); uint32(got) != sum%16 {
				t.Fatalf("SketchPlace(%d, %.40q) = %d; the sum is %d", row, key, got, sum)
			}
		}
	}
}

func TestSketchPlacesAreAllMet(t *testing.T) {
	for row := range 3 {
		met := map[int]bool{}
		for _, key := range twoLetters(300) {
			met[impl.SketchPlace(row, key)] = true
		}
		if len(met) != 16 {
			t.Errorf("row %d: 300 keys meet %d places", row, len(met))
		}
	}
}

func TestSketchOk(t *testing.T) {
	for _, s := range rightSketches() {
		if !impl.SketchOk(s) {
			t.Errorf("%v is not right", s)
		}
	}
	for _, s := range wrongSketches() {
		if impl.SketchOk(s) {
			t.Errorf("%v is right", s)
		}
	}
}

// A key alone: each row has one number, at its place, and all other places stay 0.
func TestAskedSeveralTimes(t *testing.T) {
	for _, key := range sketchKeys() {
		s := impl.SketchNew()
		for times := range 64 {
			n := min(times, 15)
			wantGuess(t, "a key alone", s, key, n)
			wantSketch(t, "a key alone", s, withNumbers(filledSketch(0, times), key, n, n, n))
			if !impl.SketchOk(s) {
				t.Fatalf("asked %d times: %v is not right", times, s)
			}
			s = impl.SketchBump(s, key)
		}
		wantSketch(t, "the 64th time", s, withNumbers(filledSketch(0, 0), key, 7, 7, 7))
		wantGuess(t, "the 64th time", s, key, 7)
	}
}

// Keys at one place are counted together, so each is guessed as often as all of them; keys at other places are not.
func TestKeysThatShareAPlace(t *testing.T) {
	for place := range 16 {
		there, other := keysAt(place), keysAt((place+5)%16)
		s := bumped(impl.SketchNew(), there[0], other[0], there[1], there[0], other[0], there[1], there[0])
		for _, key := range there {
			wantGuess(t, "at one place", s, key, 5)
		}
		for _, key := range other {
			wantGuess(t, "at another place", s, key, 2)
		}
		for _, key := range keysAt((place + 6) % 16) {
			wantGuess(t, "at a place of nobody", s, key, 0)
		}
		if s.Added != 7 {
			t.Errorf("seven calls: Added is %d", s.Added)
		}
	}
}

// All rows tell the same of keys that were asked for: where two share a place in one row, they do in every other one.
func TestKeysShareAllPlacesOrNone(t *testing.T) {
	for place := range 16 {
		for _, key := range keysAt(place) {
			got := [3]int{impl.SketchPlace(0, key), impl.SketchPlace(1, key), impl.SketchPlace(2, key)}
			if got != [3]int{place, place ^ 15, place ^ 14} {
				t.Errorf("%q: %v", key, got)
			}
		}
	}
}

func TestSeveralKeysByTurns(t *testing.T) {
	keys := []string{"a", "b", "", "\xff", "abc", "g"}
	s, want := impl.SketchNew(), filledSketch(0, 0)
	asked := map[string]int{}
	for i := range 63 {
		key := keys[i*i%7%len(keys)]
		asked[key]++
		s, want = wantSketchByRule(t, s, key), bumpByRule(want, key)
		wantSketch(t, "by turns", s, want)
		for _, other := range keys {
			if got := impl.SketchGuess(s, other); got < min(asked[other], 15) || got > 15 {
				t.Fatalf("%q was asked for %d times, and is guessed %d times", other, asked[other], got)
			}
		}
	}
}

func TestBumpAtEachPlace(t *testing.T) {
	for _, key := range keyAtEachPlace(t) {
		for _, n := range []int{0, 1, 7, 13, 14, 15} {
			for _, added := range []int{0, 1, 31, 61, 62} {
				up := min(n+1, 15)
				got := impl.SketchBump(filledSketch(n, added), key)
				wantSketch(t, "bumped", got, withNumbers(filledSketch(n, added+1), key, up, up, up))
			}
		}
	}
}

// The top is held in each row by itself.
func TestBumpNearTheTop(t *testing.T) {
	for _, key := range []string{"", "a", "\xff"} {
		for _, c := range []struct{ at, want [3]int }{
			{[3]int{13, 14, 15}, [3]int{14, 15, 15}},
			{[3]int{15, 13, 14}, [3]int{15, 14, 15}},
			{[3]int{14, 15, 0}, [3]int{15, 15, 1}},
			{[3]int{15, 15, 15}, [3]int{15, 15, 15}},
			{[3]int{0, 1, 15}, [3]int{1, 2, 15}},
		} {
			s := withNumbers(filledSketch(4, 20), key, c.at[:]...)
			wantSketch(t, "near the top", impl.SketchBump(s, key), withNumbers(filledSketch(4, 21), key, c.want[:]...))
		}
	}
}

// Added of 62 becomes 63, and nothing is halved; of 63 all is halved, the new number, too, and Added is 0.
func TestWhenAllIsHalved(t *testing.T) {
	halves := []int{0, 0, 1, 1, 2, 2, 3, 3, 4, 4, 5, 5, 6, 6, 7, 7}
	news := []int{0, 1, 1, 2, 2, 3, 3, 4, 4, 5, 5, 6, 6, 7, 7, 7}
	for _, key := range keyAtEachPlace(t) {
		for n := range 16 {
			up := min(n+1, 15)
			got := impl.SketchBump(filledSketch(n, 62), key)
			wantSketch(t, "Added of 62", got, withNumbers(filledSketch(n, 63), key, up, up, up))
			got = impl.SketchBump(filledSketch(n, 63), key)
			wantSketch(t, "Added of 63", got, withNumbers(filledSketch(halves[n], 0), key, news[n], news[n], news[n]))
			wantGuess(t, "halved", got, key, news[n])
			got = impl.SketchBump(got, key)
			wantSketch(t, "behind it", got, withNumbers(filledSketch(halves[n], 1), key, news[n]+1, news[n]+1, news[n]+1))
		}
	}
}

// Each number is halved by itself, down, in whatever row and place it is.
func TestEachNumberIsHalved(t *testing.T) {
	row := []int{0, 1, 2, 3, 4, 5, 6, 7, 8, 9, 10, 11, 12, 13, 14, 15}
	half := []int{0, 0, 1, 1, 2, 2, 3, 3, 4, 4, 5, 5, 6, 6, 7, 7}
	// The places of "abc" are 0, 15 and 14.
	s := impl.Sketch{Rows: [][]int{row, slices.Clone(row), slices.Clone(row)}, Added: 63}
	want := impl.Sketch{Rows: [][]int{half, slices.Clone(half), slices.Clone(half)}}
	wantSketch(t, "abc", impl.SketchBump(s, "abc"), want)
	// The places of "a" are 14, 1 and 0: just at 1 the half is another one.
	want.Rows[1][1] = 1
	wantSketch(t, "a", impl.SketchBump(s, "a"), want)
	turned := impl.Sketch{Rows: [][]int{{15, 14, 13, 12, 11, 10, 9, 8, 7, 6, 5, 4, 3, 2, 1, 0}, slices.Repeat([]int{1}, 16), slices.Repeat([]int{15}, 16)}, Added: 63}
	want = impl.Sketch{Rows: [][]int{{7, 7, 6, 6, 5, 5, 4, 4, 3, 3, 2, 2, 1, 1, 1, 0}, slices.Repeat([]int{0}, 16), slices.Repeat([]int{7}, 16)}}
	want.Rows[1][1] = 1
	wantSketch(t, "a in other numbers", impl.SketchBump(turned, "a"), want)
}

// A key alone over 128 calls and more: at the 64th 15 becomes 7; at the 128th 15 does again.
func TestCallsBeyondTheAge(t *testing.T) {
	s := impl.SketchNew()
	for call := 1; call <= 200; call++ {
		s = impl.SketchBump(s, "a")
		want := min(call, 15)
		if call >= 64 {
			want = min(7+call%64, 15)
		}
		wantGuess(t, "over and over", s, "a", want)
		wantSketch(t, "over and over", s, withNumbers(filledSketch(0, call%64), "a", want, want, want))
	}
}

// What is no more asked for is guessed less with every 64 calls for another key, and not at all in the end.
func TestOldCallsFade(t *testing.T) {
	s := bumped(impl.SketchNew(), slices.Repeat([]string{"a"}, 15)...)
	for _, want := range []int{7, 3, 1, 0, 0} {
		for {
			s = impl.SketchBump(s, "b")
			if s.Added == 0 {
				break
			}
		}
		wantGuess(t, "halved", s, "a", want)
		wantGuess(t, "halved", s, "b", 7)
	}
}

func TestAddedGoesRound(t *testing.T) {
	s := impl.SketchNew()
	for call := 1; call <= 300; call++ {
		s = impl.SketchBump(s, "key"+strings.Repeat("x", call%9))
		if s.Added != call%64 || !impl.SketchOk(s) {
			t.Fatalf("call %d: %v", call, s)
		}
	}
}

// The least of three numbers, whichever row has it.
func TestGuessIsTheLeast(t *testing.T) {
	numbers := []int{0, 1, 2, 7, 14, 15}
	for _, key := range []string{"", "a", "abc", "\xff\x80"} {
		for _, filling := range []int{0, 15} {
			for _, a := range numbers {
				for _, b := range numbers {
					for _, c := range numbers {
						s := withNumbers(filledSketch(filling, 30), key, a, b, c)
						wantGuess(t, "of three", s, key, min(a, b, c))
					}
				}
			}
		}
	}
}

// Guessing is the same whatever Added is: it halves nothing.
func TestGuessHangsOnRowsAlone(t *testing.T) {
	for added := range 64 {
		wantGuess(t, "Added", filledSketch(15, added), "a", 15)
		wantGuess(t, "Added", filledSketch(1, added), "a", 1)
	}
}

func TestWrongSketches(t *testing.T) {
	for _, s := range wrongSketches() {
		for _, key := range []string{"", "a", "abc", "\xff"} {
			wantSketch(t, "of a wrong one", impl.SketchBump(s, key), s)
			wantGuess(t, "of a wrong one", s, key, 0)
		}
	}
}

func TestRightSketchesByRule(t *testing.T) {
	for _, s := range rightSketches() {
		for _, key := range shortKeys() {
			wantSketchByRule(t, s, key)
		}
	}
}

func TestDrawnSketchesByRule(t *testing.T) {
	for seed := range uint32(3000) {
		draws := drawn(6, seed*31+7)
		s := drawnSketch(seed*53+1, int(draws[0])%64)
		if draws[1]%4 == 0 {
			s.Added = 63
		}
		if draws[1]%16 == 1 {
			s = withNumber(s, int(draws[2])%3, int(draws[3])%16, int(draws[4])%40-12)
		}
		wantSketchByRule(t, s, draws[2:2+seed%5])
	}
}

// askedFor is how often a key was asked for at least, as the promise has it: up to the top, and halved when all is.
type askedFor map[string]int

func (a askedFor) more(key string, call int) {
	a[key] = min(a[key]+1, 15)
	if call%64 == 0 {
		for known := range a {
			a[known] /= 2
		}
	}
}

func TestDrawnLivesOfSketches(t *testing.T) {
	above := 0
	for seed := range uint32(60) {
		draws := drawn(300, seed*19+2)
		s, asked := impl.SketchNew(), askedFor{}
		for i := range len(draws) {
			key := draws[i : i+1]
			if draws[i]%2 == 0 {
				key = string([]byte{'a' + draws[i]%32%5})
			}
			asked.more(key, i+1)
			s = wantSketchByRule(t, s, key)
			for known, times := range asked {
				got := impl.SketchGuess(s, known)
				if got < times || got > 15 {
					t.Fatalf("life %d, call %d: %q was asked for %d times, and is guessed %d times", seed, i+1, known, times, got)
				}
				if got > times {
					above++
				}
			}
		}
	}
	if above == 0 {
		t.Error("no guess was above the truth: the draws tell too little")
	}
}

// Within 63 calls nothing is halved: no key is guessed less often than it was asked for.
func TestGuessedNoLess(t *testing.T) {
	for seed := range uint32(200) {
		draws := drawn(63, seed*7+5)
		s, asked := impl.SketchNew(), map[string]int{}
		for i := range len(draws) {
			key := string([]byte{draws[i] % byte(seed%12+1)})
			asked[key]++
			s = impl.SketchBump(s, key)
		}
		for key, times := range asked {
			if got := impl.SketchGuess(s, key); got < min(times, 15) || got > 15 {
				t.Errorf("life %d: %q was asked for %d times, and is guessed %d times", seed, key, times, got)
			}
		}
		if s.Added != 63 {
			t.Errorf("life %d: Added is %d", seed, s.Added)
		}
	}
}

// sketchRoom is a sketch with room behind its rows and behind each of them, where nothing may be written; what was handed in is compared by all of it.
type sketchRoom struct {
	sketch impl.Sketch
	rows   [][]int
	behind [][]int
}

func roomySketch(s impl.Sketch) sketchRoom {
	var r sketchRoom
	for _, row := range s.Rows {
		room := append(slices.Clone(row), -71, -72, -73)
		r.behind = append(r.behind, room)
		r.rows = append(r.rows, room[:len(row)])
	}
	spare := []int{-81, -82}
	r.behind = append(r.behind, spare)
	r.rows = append(r.rows, spare, spare)
	r.sketch = impl.Sketch{Rows: r.rows[:len(s.Rows)], Added: s.Added}
	return r
}

// whole is every number that can be reached from the room, and how long each row is.
func (r sketchRoom) whole() []int {
	var all []int
	for _, row := range r.rows {
		all = append(all, len(row))
	}
	for _, room := range r.behind {
		all = append(all, room...)
	}
	return all
}

func spoilRow(row []int) {
	row = row[:cap(row)]
	for i := range row {
		row[i] = -99
	}
}

func spoilSketch(s impl.Sketch) {
	rows := s.Rows[:cap(s.Rows)]
	for i := range rows {
		spoilRow(rows[i])
		rows[i] = nil
	}
}

func someSketches() []impl.Sketch {
	list := slices.Concat(rightSketches(), wrongByRows(), wrongByAdded())
	for i, s := range wrongByNumbers() {
		if i%9 == 0 {
			list = append(list, s)
		}
	}
	return list
}

func TestSketchesChangeNothing(t *testing.T) {
	for _, s := range someSketches() {
		for _, key := range []string{"", "a", "abc"} {
			room := roomySketch(s)
			ahead := room.whole()
			given := ownText(key)
			after := impl.SketchBump(room.sketch, given)
			impl.SketchGuess(room.sketch, given)
			impl.SketchOk(room.sketch)
			if !slices.Equal(room.whole(), ahead) || given != key {
				t.Fatalf("%v: what was handed in is changed: %v", s, room.whole())
			}
			want := cloneSketch(after)
			for _, row := range room.behind {
				spoilRow(row)
			}
			spoilSketch(room.sketch)
			wantSketch(t, "what was handed in is spoilt", after, want)
		}
	}
}

func TestSketchAnswersReachNothing(t *testing.T) {
	for _, s := range someSketches() {
		for _, key := range []string{"", "a", "abc"} {
			room := roomySketch(s)
			ahead := room.whole()
			other := impl.SketchBump(room.sketch, key)
			want := cloneSketch(other)
			spoilSketch(impl.SketchBump(room.sketch, key))
			if !slices.Equal(room.whole(), ahead) {
				t.Fatalf("%v: what was handed in changes with the answer", s)
			}
			wantSketch(t, "another answer is spoilt", other, want)
		}
	}
	one, other := impl.SketchNew(), impl.SketchNew()
	spoilSketch(one)
	wantSketch(t, "another new one is spoilt", other, filledSketch(0, 0))
	wantSketch(t, "a new one behind it", impl.SketchNew(), filledSketch(0, 0))
}

func wantRowsApart(t *testing.T, what string, s impl.Sketch) {
	t.Helper()
	for i := range s.Rows {
		want := cloneSketch(s)
		spoilRow(s.Rows[i])
		for k := range s.Rows {
			if k != i && !slices.Equal(s.Rows[k], want.Rows[k]) {
				t.Fatalf("%s: row %d changes with row %d", what, k, i)
			}
		}
		copy(s.Rows[i], want.Rows[i])
	}
}

// Also where the rows that are handed in are one and the same.
func TestSketchRowsAreApart(t *testing.T) {
	wantRowsApart(t, "a new one", impl.SketchNew())
	for _, s := range someSketches() {
		wantRowsApart(t, "bumped", impl.SketchBump(s, "a"))
	}
	for _, wide := range []int{1, 15, 16, 17} {
		for _, deep := range []int{2, 3, 4} {
			for _, added := range []int{-1, 0, 62, 63, 64} {
				row := slices.Repeat([]int{6}, wide)
				one := impl.Sketch{Rows: slices.Repeat([][]int{row}, deep), Added: added}
				after := impl.SketchBump(one, "a")
				wantSketch(t, "one row several times", after, bumpByRule(cloneSketch(one), "a"))
				if !slices.Equal(row, slices.Repeat([]int{6}, wide)) {
					t.Fatalf("the row is changed: %v", row)
				}
				wantRowsApart(t, "one row several times", after)
			}
		}
	}
	// Rows cut out of one list, one behind the other.
	for _, wide := range []int{15, 16, 17} {
		long := slices.Repeat([]int{6}, 3*wide)
		cut := impl.Sketch{Rows: [][]int{long[:wide], long[wide : 2*wide], long[2*wide:]}, Added: 63}
		after := impl.SketchBump(cut, "a")
		wantSketch(t, "rows of one list", after, bumpByRule(cloneSketch(cut), "a"))
		wantRowsApart(t, "rows of one list", after)
		if !slices.Equal(long, slices.Repeat([]int{6}, 3*wide)) {
			t.Fatalf("the list is changed: %v", long)
		}
	}
}

// Nothing is kept from call to call.
func TestSketchAnswersTwice(t *testing.T) {
	s := drawnSketch(77, 63)
	first := impl.SketchBump(s, "a")
	guessed := impl.SketchGuess(s, "a")
	for _, key := range sketchKeys() {
		impl.SketchBump(first, key)
		impl.SketchGuess(first, key)
	}
	wantSketch(t, "the second time", impl.SketchBump(s, "a"), first)
	wantGuess(t, "the second time", s, "a", guessed)
}
