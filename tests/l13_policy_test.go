package tests

import (
	"fmt"
	"slices"
	"strings"
	"testing"

	"loop.example/g00245/impl"
)

// staying has these keys, told with blanks between, and a new sketch.
func staying(window, main string) impl.Policy {
	return impl.Policy{Window: strings.Fields(window), Main: strings.Fields(main), Sketch: filledSketch(0, 0)}
}

func clonePolicy(p impl.Policy) impl.Policy {
	return impl.Policy{Window: slices.Clone(p.Window), Main: slices.Clone(p.Main), Sketch: cloneSketch(p.Sketch)}
}

func samePolicy(a, b impl.Policy) bool {
	return slices.Equal(a.Window, b.Window) && slices.Equal(a.Main, b.Main) && sameSketch(a.Sketch, b.Sketch)
}

func toldPolicy(p impl.Policy) string {
	return fmt.Sprintf("%.40q %.40q %v", p.Window, p.Main, p.Sketch)
}

func withSketch(p impl.Policy, s impl.Sketch) impl.Policy {
	next := clonePolicy(p)
	next.Sketch = cloneSketch(s)
	return next
}

// countedPolicy has these keys, and a sketch in which each of some keys was asked for as often as told, and every other one at another place never.
func countedPolicy(window, main []string, added int, counts map[string]int) impl.Policy {
	s := filledSketch(0, added)
	for key, n := range counts {
		s = withNumbers(s, key, n, n, n)
	}
	return impl.Policy{Window: slices.Clone(window), Main: slices.Clone(main), Sketch: s}
}

func withoutKey(keys []string, key string) []string {
	var rest []string
	for _, other := range keys {
		if other != key {
			rest = append(rest, other)
		}
	}
	return rest
}

func policyKeyOkByRule(key string) bool {
	return 1 <= len(key) && len(key) <= 30
}

func policyOkByRule(p impl.Policy) bool {
	if len(p.Window) > 2 || len(p.Main) > 4 || !sketchOkByRule(p.Sketch) {
		return false
	}
	times := map[string]int{}
	for _, list := range [][]string{p.Window, p.Main} {
		for _, key := range list {
			times[key]++
			if times[key] > 1 || !policyKeyOkByRule(key) {
				return false
			}
		}
	}
	return true
}

// touchByRule is the document's text of PolicyTouch.
func touchByRule(p impl.Policy, key string) (impl.Policy, string) {
	next := clonePolicy(p)
	if !policyOkByRule(p) || !policyKeyOkByRule(key) {
		return next, ""
	}
	next.Sketch = bumpByRule(p.Sketch, key)
	for _, list := range []*[]string{&next.Window, &next.Main} {
		if rest := withoutKey(*list, key); len(rest) < len(*list) {
			*list = append(rest, key)
			return next, ""
		}
	}
	all := append(next.Window, key)
	if len(all) < 3 {
		next.Window = all
		return next, ""
	}
	first := all[0]
	next.Window = all[1:]
	all = append(next.Main, first)
	if len(all) < 5 {
		next.Main = all
		return next, ""
	}
	if guessByRule(next.Sketch, first) > guessByRule(next.Sketch, all[0]) {
		next.Main = all[1:]
		return next, all[0]
	}
	next.Main = all[:4]
	return next, first
}

func dropByRule(p impl.Policy, key string) impl.Policy {
	next := clonePolicy(p)
	next.Window, next.Main = withoutKey(p.Window, key), withoutKey(p.Main, key)
	return next
}

func wantPolicy(t *testing.T, what string, got, want impl.Policy) {
	t.Helper()
	if !samePolicy(got, want) {
		t.Errorf("%s:\n%s\nwant\n%s", what, toldPolicy(got), toldPolicy(want))
	}
}

// wantTouch answers what is there behind it.
func wantTouch(t *testing.T, what string, p impl.Policy, key string, want impl.Policy, out string) impl.Policy {
	t.Helper()
	got, gone := impl.PolicyTouch(p, key)
	if !samePolicy(got, want) || gone != out {
		t.Errorf("%s: %.40q in %s:\n%s, %q is out;\nwant\n%s, %q", what, key, toldPolicy(p), toldPolicy(got), gone, toldPolicy(want), out)
	}
	return got
}

// wantLists is as wantTouch, of the lists; the sketch is the one behind its bump.
func wantLists(t *testing.T, what string, p impl.Policy, key string, window, main []string, out string) impl.Policy {
	t.Helper()
	want := impl.Policy{Window: window, Main: main, Sketch: bumpByRule(p.Sketch, key)}
	return wantTouch(t, what, p, key, want, out)
}

// wantPolicyByRule holds one right or wrong policy against the text, and answers it touched, and who is out.
func wantPolicyByRule(t *testing.T, p impl.Policy, key string) (impl.Policy, string) {
	t.Helper()
	if ok := impl.PolicyOk(p); ok != policyOkByRule(p) {
		t.Errorf("PolicyOk of %s: %v", toldPolicy(p), ok)
	}
	has := slices.Contains(slices.Concat(p.Main, p.Window), key)
	if got := impl.PolicyHas(p, key); got != has {
		t.Errorf("PolicyHas of %s and %.40q: %v", toldPolicy(p), key, got)
	}
	wantPolicy(t, "dropped", impl.PolicyDrop(p, key), dropByRule(p, key))
	want, out := touchByRule(p, key)
	return wantTouch(t, "by the rule", p, key, want, out), out
}

func touched(p impl.Policy, keys ...string) impl.Policy {
	for _, key := range keys {
		p, _ = impl.PolicyTouch(p, key)
	}
	return p
}

// policyKeys are right ones: of 1 and of 30 bytes, of bytes above 126, and some that begin alike.
func policyKeys() []string {
	return []string{
		"a", "b", "/a", "/ab", "\x00", " ", "\x7f", "\x80", "\xff", "\xff\xff", "\u00e9", "\xc3",
		strings.Repeat("k", 29), strings.Repeat("k", 30), strings.Repeat("\xff", 30), drawn(30, 3), strings.Repeat("\x00", 30),
	}
}

func wrongKeys() []string {
	return []string{"", strings.Repeat("k", 31), strings.Repeat("\xff", 31), strings.Repeat("\x00", 32), strings.Repeat("\u00e9", 16), drawn(256, 4), strings.Repeat("key", 40000)}
}

// someKeys has as many right ones, none alike, from a number on.
func someKeys(from, count int) []string {
	return twoLetters(from + count)[from:]
}

// rightPolicies have lists of each size, each limit of a key met in each place, and sketches of all kinds.
func rightPolicies() []impl.Policy {
	var list []impl.Policy
	sketches := []impl.Sketch{filledSketch(0, 0), filledSketch(15, 63), filledSketch(7, 62), drawnSketch(5, 63), drawnSketch(6, 20)}
	for window := range 3 {
		for main := range 5 {
			p := impl.Policy{Window: someKeys(0, window), Main: someKeys(10, main)}
			for _, s := range sketches {
				list = append(list, withSketch(p, s))
			}
			for place := range window + main {
				for _, key := range policyKeys() {
					list = append(list, withKeyAt(withSketch(p, drawnSketch(uint32(place), 63)), place, key))
				}
			}
		}
	}
	return list
}

// withKeyAt has another key at a place, counted through Window and then Main.
func withKeyAt(p impl.Policy, place int, key string) impl.Policy {
	next := clonePolicy(p)
	if place < len(p.Window) {
		next.Window[place] = key
	} else {
		next.Main[place-len(p.Window)] = key
	}
	return next
}

func wrongBySize() []impl.Policy {
	var list []impl.Policy
	for _, size := range [][2]int{{3, 0}, {3, 1}, {3, 3}, {3, 4}, {4, 2}, {6, 0}, {100, 0}, {0, 5}, {1, 5}, {2, 5}, {2, 6}, {0, 6}, {0, 100}, {3, 5}} {
		p := impl.Policy{Window: someKeys(0, size[0]), Main: someKeys(110, size[1])}
		list = append(list, withSketch(p, filledSketch(0, 0)), withSketch(p, drawnSketch(9, 63)))
	}
	return list
}

// wrongByTwice has a key twice, at each two places of a policy.
func wrongByTwice() []impl.Policy {
	var list []impl.Policy
	for _, size := range [][2]int{{2, 4}, {2, 0}, {0, 2}, {1, 1}, {2, 3}, {1, 4}} {
		p := withSketch(impl.Policy{Window: someKeys(0, size[0]), Main: someKeys(10, size[1])}, drawnSketch(2, 63))
		for i := range size[0] + size[1] {
			for k := range i {
				list = append(list, withKeyAt(withKeyAt(p, i, "twice"), k, "twice"))
			}
		}
	}
	all := impl.Policy{Window: []string{"a", "a"}, Main: []string{"a", "a", "a", "a"}, Sketch: filledSketch(1, 1)}
	return append(list, all)
}

func wrongByKeys() []impl.Policy {
	var list []impl.Policy
	for _, size := range [][2]int{{2, 4}, {1, 0}, {0, 1}, {1, 2}} {
		p := withSketch(impl.Policy{Window: someKeys(0, size[0]), Main: someKeys(10, size[1])}, drawnSketch(3, 63))
		for place := range size[0] + size[1] {
			for _, key := range wrongKeys()[:6] {
				list = append(list, withKeyAt(p, place, key))
			}
		}
	}
	return list
}

func wrongBySketch() []impl.Policy {
	var list []impl.Policy
	for i, s := range wrongSketches() {
		if len(s.Rows) > 3 && i%3 != 0 {
			continue
		}
		p := impl.Policy{Window: someKeys(0, i%3), Main: someKeys(10, i%5)}
		list = append(list, withSketch(p, s))
	}
	full := staying("a b", "c d e f")
	return append(list, withSketch(full, impl.Sketch{}), withSketch(full, filledSketch(16, 0)), withSketch(full, filledSketch(1, 64)), impl.Policy{})
}

func wrongPolicies() []impl.Policy {
	return slices.Concat(wrongBySize(), wrongByTwice(), wrongByKeys(), wrongBySketch())
}

func TestPolicyConstants(t *testing.T) {
	if got := [2]int{impl.WindowSize, impl.MainSize}; got != [2]int{2, 4} {
		t.Errorf("Window and Main: %v", got)
	}
}

func TestPolicyNew(t *testing.T) {
	p := impl.PolicyNew()
	wantPolicy(t, "PolicyNew", p, impl.Policy{Sketch: filledSketch(0, 0)})
	if !impl.PolicyOk(p) {
		t.Errorf("a new one is not right: %s", toldPolicy(p))
	}
	for _, key := range slices.Concat(policyKeys(), wrongKeys()) {
		if impl.PolicyHas(p, key) {
			t.Errorf("a new one has %.40q", key)
		}
		wantPolicy(t, "dropped from a new one", impl.PolicyDrop(p, key), impl.PolicyNew())
	}
}

// Keys that share no place are all guessed the same, so nobody leaves Main.
func TestEachAskedForOnce(t *testing.T) {
	k := keyAtEachPlace(t)
	p := impl.PolicyNew()
	p = wantLists(t, "one", p, k[0], k[:1], nil, "")
	p = wantLists(t, "two", p, k[1], k[:2], nil, "")
	p = wantLists(t, "three", p, k[2], k[1:3], k[:1], "")
	p = wantLists(t, "four", p, k[3], k[2:4], k[:2], "")
	p = wantLists(t, "five", p, k[4], k[3:5], k[:3], "")
	p = wantLists(t, "six", p, k[5], k[4:6], k[:4], "")
	p = wantLists(t, "seven", p, k[6], k[5:7], k[:4], k[4])
	for i := 7; i < 16; i++ {
		p = wantLists(t, "many", p, k[i], k[i-1:i+1], k[:4], k[i-2])
	}
	if p.Sketch.Added != 16 || !impl.PolicyOk(p) {
		t.Errorf("sixteen keys: %s", toldPolicy(p))
	}
}

// The letters from a on have four places alone: a, g, k and m share one, b, d, h and n do, c, e and i, and f, j and l. So some are guessed above those who came ahead of them.
func TestLettersAskedForOnce(t *testing.T) {
	p := impl.PolicyNew()
	for i, want := range []struct{ window, main, out string }{
		{"a", "", ""}, {"a b", "", ""}, {"b c", "a", ""}, {"c d", "a b", ""}, {"d e", "a b c", ""}, {"e f", "a b c d", ""},
		{"f g", "a b c d", "e"}, {"g h", "a b c d", "f"}, {"h i", "a b c d", "g"}, {"i j", "b c d h", "a"},
		{"j k", "b c d h", "i"}, {"k l", "b c d h", "j"}, {"l m", "c d h k", "b"}, {"m n", "c d h k", "l"},
	} {
		key := string([]byte{byte('a' + i)})
		p = wantLists(t, "letters", p, key, strings.Fields(want.window), strings.Fields(want.main), want.out)
	}
}

func TestAskedForAgain(t *testing.T) {
	full := staying("a b", "c d e f")
	for _, s := range []impl.Sketch{filledSketch(0, 0), filledSketch(15, 63), filledSketch(3, 62), drawnSketch(8, 63), drawnSketch(9, 1)} {
		for key, want := range map[string][2]string{
			"a": {"b a", "c d e f"},
			"b": {"a b", "c d e f"},
			"c": {"a b", "d e f c"},
			"d": {"a b", "c e f d"},
			"e": {"a b", "c d f e"},
			"f": {"a b", "c d e f"},
		} {
			wantLists(t, "again", withSketch(full, s), key, strings.Fields(want[0]), strings.Fields(want[1]), "")
		}
	}
	for _, c := range []struct{ window, main, key, windowAfter, mainAfter string }{
		{"a", "", "a", "a", ""},
		{"a b", "", "a", "b a", ""},
		{"a b", "", "b", "a b", ""},
		{"", "a", "a", "", "a"},
		{"", "a b", "a", "", "b a"},
		{"", "a b c", "a", "", "b c a"},
		{"", "a b c", "b", "", "a c b"},
		{"", "a b c", "c", "", "a b c"},
		{"x", "a b c d", "a", "x", "b c d a"},
		{"x y", "a", "x", "y x", "a"},
		{"x y", "a", "a", "x y", "a"},
	} {
		wantLists(t, "again", staying(c.window, c.main), c.key, strings.Fields(c.windowAfter), strings.Fields(c.mainAfter), "")
	}
}

// A key in Window stays in Window, however often it is asked for.
func TestAskedForOverAndOver(t *testing.T) {
	for _, p := range []impl.Policy{staying("a b", "c d e f"), staying("a", ""), staying("", "a"), staying("b", "c a")} {
		want := clonePolicy(p)
		for range 200 {
			want.Sketch = bumpByRule(want.Sketch, "a")
			want.Window, want.Main = lastOf(want.Window, "a"), lastOf(want.Main, "a")
			p = wantTouch(t, "over and over", p, "a", want, "")
		}
	}
}

func lastOf(keys []string, key string) []string {
	if !slices.Contains(keys, key) {
		return keys
	}
	return append(withoutKey(keys, key), key)
}

func TestKeysOfAllKinds(t *testing.T) {
	for _, key := range slices.Concat(policyKeys(), everyOneByte()) {
		p := wantLists(t, "alone", impl.PolicyNew(), key, []string{key}, nil, "")
		p = wantLists(t, "again", p, key, []string{key}, nil, "")
		p = wantLists(t, "another", p, "zz", []string{key, "zz"}, nil, "")
		p = wantLists(t, "a third", p, "yy", []string{"zz", "yy"}, []string{key}, "")
		if !impl.PolicyOk(p) || !impl.PolicyHas(p, key) {
			t.Errorf("%q is in Main: %s", key, toldPolicy(p))
		}
		wantLists(t, "in Main", p, key, []string{"zz", "yy"}, []string{key}, "")
		dropped := impl.PolicyDrop(p, key)
		wantPolicy(t, "dropped", dropped, impl.Policy{Window: []string{"zz", "yy"}, Sketch: p.Sketch})
		if impl.PolicyHas(dropped, key) {
			t.Errorf("%q is dropped: %s", key, toldPolicy(dropped))
		}
	}
}

// A key that begins or ends another one, or is other in its last byte alone, is another key.
func TestKeysThatAreNearlyAlike(t *testing.T) {
	long := strings.Repeat("k", 30)
	for _, pair := range [][2]string{{"a", "aa"}, {"aa", "a"}, {long, long[:29]}, {long[:29], long}, {long, long[:29] + "l"}, {long, "l" + long[1:]}, {"a", "A"}, {"\x00", "\x00\x00"}} {
		p := impl.Policy{Window: []string{pair[0]}, Main: []string{"x"}, Sketch: filledSketch(0, 0)}
		if impl.PolicyHas(p, pair[1]) || !impl.PolicyHas(p, pair[0]) {
			t.Errorf("%q and %q", pair[0], pair[1])
		}
		wantLists(t, "nearly alike", p, pair[1], []string{pair[0], pair[1]}, []string{"x"}, "")
		wantPolicy(t, "nearly alike", impl.PolicyDrop(p, pair[1]), p)
		both := impl.Policy{Window: []string{pair[0]}, Main: []string{pair[1]}, Sketch: filledSketch(0, 0)}
		if !impl.PolicyOk(both) {
			t.Errorf("%s is not right", toldPolicy(both))
		}
	}
}

// With fewer than four in Main the first of the window goes there, whatever is guessed.
func TestRoomInMain(t *testing.T) {
	k := keyAtEachPlace(t)
	window, key := k[0:2], k[2]
	for size := range 4 {
		main := k[4 : 4+size]
		for _, n := range []int{0, 1, 15} {
			for _, m := range []int{0, 1, 15} {
				for _, added := range []int{0, 62, 63} {
					p := countedPolicy(window, main, added, map[string]int{k[0]: n, k[4]: m})
					want := slices.Concat(main, k[0:1])
					got := wantLists(t, "room in Main", p, key, []string{k[1], key}, want, "")
					if !impl.PolicyOk(got) {
						t.Errorf("%s is not right", toldPolicy(got))
					}
				}
			}
		}
	}
}

// With fewer than two in Window nobody goes on, also when Main is full.
func TestRoomInWindow(t *testing.T) {
	k := keyAtEachPlace(t)
	for size := range 5 {
		main := k[4 : 4+size]
		for _, n := range []int{0, 15} {
			p := countedPolicy(nil, main, 9, map[string]int{k[0]: n, k[1]: n, k[4]: 15 - n})
			p = wantLists(t, "Window of none", p, k[0], k[:1], main, "")
			wantLists(t, "Window of one", p, k[1], k[:2], main, "")
		}
	}
}

// Main is full: every two guesses, of the first of the window and of Main's first one. What is guessed of all others counts nothing.
func TestNoRoomInMain(t *testing.T) {
	k := keyAtEachPlace(t)
	window, main, key := k[0:2], k[4:8], k[2]
	for n := range 16 {
		for m := range 16 {
			for _, others := range []int{0, 7, 15} {
				for _, added := range []int{0, 62} {
					counts := map[string]int{k[0]: n, k[4]: m, k[1]: others, k[2]: others, k[5]: others, k[6]: others, k[7]: others}
					p := countedPolicy(window, main, added, counts)
					wantMain, out := main, k[0]
					if n > m {
						wantMain, out = []string{k[5], k[6], k[7], k[0]}, k[4]
					}
					got := wantLists(t, "no room", p, key, []string{k[1], key}, wantMain, out)
					if impl.PolicyHas(got, out) || !impl.PolicyOk(got) {
						t.Errorf("%q is out of %s", out, toldPolicy(got))
					}
				}
			}
		}
	}
}

// The call's own SketchBump counts: the new key makes the guess of whoever shares its place one more.
func TestOwnBumpCounts(t *testing.T) {
	k := keyAtEachPlace(t)
	main := k[4:8]
	moved := []string{k[5], k[6], k[7], k[0]}
	beside, besideMain := keysAt(0)[1], keysAt(4)[1]
	for m := range 16 {
		for n := range 16 {
			p := countedPolicy(k[0:2], main, 5, map[string]int{k[0]: n, k[4]: m})
			wantMain, out := main, k[0]
			if min(n+1, 15) > m {
				wantMain, out = moved, k[4]
			}
			wantLists(t, "beside the window's first", p, beside, []string{k[1], beside}, wantMain, out)
			wantMain, out = main, k[0]
			if n > min(m+1, 15) {
				wantMain, out = moved, k[4]
			}
			wantLists(t, "beside Main's first", p, besideMain, []string{k[1], besideMain}, wantMain, out)
		}
	}
	// The same guess ahead of it, and one more behind it; and one more ahead of it, and the same behind it.
	p := countedPolicy(k[0:2], main, 0, map[string]int{k[0]: 3, k[4]: 3})
	wantLists(t, "one more", p, beside, []string{k[1], beside}, moved, k[4])
	p = countedPolicy(k[0:2], main, 0, map[string]int{k[0]: 4, k[4]: 3})
	wantLists(t, "the same", p, besideMain, []string{k[1], besideMain}, main, k[0])
	// All three at one place.
	there := keysAt(4)
	p = countedPolicy([]string{there[2], k[1]}, main, 0, map[string]int{k[4]: 3})
	wantLists(t, "at one place", p, there[1], []string{k[1], there[1]}, main, there[2])
}

// At the 64th call all is halved ahead of the guesses: what was one more may be the same.
func TestGuessesOfHalves(t *testing.T) {
	k := keyAtEachPlace(t)
	main := k[4:8]
	moved := []string{k[5], k[6], k[7], k[0]}
	beside := keysAt(0)[1]
	for n := range 16 {
		for m := range 16 {
			p := countedPolicy(k[0:2], main, 63, map[string]int{k[0]: n, k[4]: m})
			wantMain, out := main, k[0]
			if n/2 > m/2 {
				wantMain, out = moved, k[4]
			}
			got := wantLists(t, "halved", p, k[2], []string{k[1], k[2]}, wantMain, out)
			if got.Sketch.Added != 0 {
				t.Errorf("the 64th call: Added is %d", got.Sketch.Added)
			}
			wantMain, out = main, k[0]
			if min(n+1, 15)/2 > m/2 {
				wantMain, out = moved, k[4]
			}
			wantLists(t, "halved, with its own", p, beside, []string{k[1], beside}, wantMain, out)
		}
	}
	for _, c := range []struct {
		added, n, m int
		out         string
	}{{62, 3, 2, k[4]}, {63, 3, 2, k[0]}, {62, 2, 1, k[4]}, {63, 2, 1, k[4]}, {62, 1, 0, k[4]}, {63, 1, 0, k[0]}} {
		p := countedPolicy(k[0:2], main, c.added, map[string]int{k[0]: c.n, k[4]: c.m})
		if _, out := impl.PolicyTouch(p, k[2]); out != c.out {
			t.Errorf("Added of %d, %d and %d: %q is out; want %q", c.added, c.n, c.m, out, c.out)
		}
	}
}

// The least of its three numbers is the guess of a key, whatever row has it.
func TestGuessesOfOtherRows(t *testing.T) {
	k := keyAtEachPlace(t)
	main := k[4:8]
	for _, c := range []struct {
		first, main [3]int
		above       bool
	}{
		{[3]int{15, 15, 2}, [3]int{3, 3, 3}, false},
		{[3]int{2, 15, 15}, [3]int{3, 3, 3}, false},
		{[3]int{4, 9, 9}, [3]int{15, 3, 15}, true},
		{[3]int{4, 4, 4}, [3]int{15, 15, 4}, false},
		{[3]int{9, 4, 9}, [3]int{15, 15, 3}, true},
		{[3]int{1, 1, 1}, [3]int{0, 15, 15}, true},
	} {
		s := withNumbers(withNumbers(filledSketch(0, 3), k[0], c.first[:]...), k[4], c.main[:]...)
		p := impl.Policy{Window: k[0:2], Main: main, Sketch: s}
		wantMain, out := main, k[0]
		if c.above {
			wantMain, out = []string{k[5], k[6], k[7], k[0]}, k[4]
		}
		wantLists(t, "other rows", p, k[2], []string{k[1], k[2]}, wantMain, out)
	}
}

// Who is asked for again in the window is the last one there, so the other one goes on.
func TestWhoIsFirstInTheWindow(t *testing.T) {
	k := keyAtEachPlace(t)
	p := touched(impl.PolicyNew(), k[0], k[1], k[0])
	p = wantLists(t, "the first was asked for again", p, k[2], []string{k[0], k[2]}, []string{k[1]}, "")
	p = touched(p, k[0])
	p = wantLists(t, "once more", p, k[3], []string{k[0], k[3]}, []string{k[1], k[2]}, "")
	p = wantLists(t, "no more", p, k[4], []string{k[3], k[4]}, []string{k[1], k[2], k[0]}, "")
	p = touched(p, k[1])
	p = wantLists(t, "full", p, k[5], []string{k[4], k[5]}, []string{k[2], k[0], k[1], k[3]}, "")
	// The first of the window was asked for once, as Main's first one.
	p = wantLists(t, "the same", p, k[6], []string{k[5], k[6]}, []string{k[2], k[0], k[1], k[3]}, k[4])
	p = touched(p, k[5], k[6])
	p = wantLists(t, "above", p, k[7], []string{k[6], k[7]}, []string{k[0], k[1], k[3], k[5]}, k[2])
	// Main's first one was asked for four times, the first of the window twice.
	p = wantLists(t, "below", p, k[8], []string{k[7], k[8]}, []string{k[0], k[1], k[3], k[5]}, k[6])
	// Who is out and comes again is new, but is counted.
	p = wantLists(t, "again", p, k[6], []string{k[8], k[6]}, []string{k[0], k[1], k[3], k[5]}, k[7])
	wantGuess(t, "again", p.Sketch, k[6], 3)
}

func TestOftenEnough(t *testing.T) {
	k := keyAtEachPlace(t)
	p := touched(impl.PolicyNew(), slices.Repeat([]string{"hot"}, 10)...)
	p = touched(p, k[0], k[1])
	if !slices.Contains(p.Main, "hot") {
		t.Fatalf("it is not in Main: %s", toldPolicy(p))
	}
	for i, key := range someKeys(0, 50) {
		out := ""
		p, out = wantPolicyByRule(t, p, key)
		if !slices.Contains(p.Main, "hot") || out == "hot" {
			t.Fatalf("%d came that were asked for once: %q is out of %s", i+1, out, toldPolicy(p))
		}
	}
	// Asked for now and then, it stays though ever more come.
	for i, key := range someKeys(50, 600) {
		if i%5 == 0 {
			p = touched(p, "hot")
		}
		p = touched(p, key)
		if !slices.Contains(p.Main, "hot") {
			t.Fatalf("%d more came that were asked for once: %s", i+1, toldPolicy(p))
		}
	}
	// Not asked for any more, it is forgotten in the end.
	for _, key := range someKeys(0, 650) {
		p = touched(p, key)
	}
	if impl.PolicyHas(p, "hot") {
		t.Errorf("it was asked for long ago: %s", toldPolicy(p))
	}
}

func TestPolicyOk(t *testing.T) {
	for _, p := range rightPolicies() {
		if !impl.PolicyOk(p) {
			t.Errorf("%s is not right", toldPolicy(p))
		}
	}
	for _, p := range wrongPolicies() {
		if impl.PolicyOk(p) {
			t.Errorf("%s is right", toldPolicy(p))
		}
	}
	for _, s := range someSketches() {
		for _, p := range []impl.Policy{staying("", ""), staying("a b", "c d e f")} {
			if got := impl.PolicyOk(withSketch(p, s)); got != sketchOkByRule(s) {
				t.Errorf("PolicyOk with the sketch %v: %v", s, got)
			}
		}
	}
}

func TestPolicyOkEdges(t *testing.T) {
	for _, c := range []struct {
		window, main string
		ok           bool
	}{
		{"", "", true}, {"a", "", true}, {"a b", "", true}, {"a b c", "", false}, {"a b c d", "", false},
		{"", "a", true}, {"", "a b c d", true}, {"", "a b c d e", false}, {"a b", "c d e f", true}, {"a b", "c d e f g", false}, {"a b c", "d e f", false},
		{"a a", "", false}, {"", "a a", false}, {"a", "a", false}, {"a b", "c d e a", false}, {"a b", "b c d e", false}, {"a b", "c d e c", false}, {"a b", "c d d e", false},
	} {
		if got := impl.PolicyOk(staying(c.window, c.main)); got != c.ok {
			t.Errorf("PolicyOk of %q and %q: %v", c.window, c.main, got)
		}
	}
	full := staying("a b", "c d e f")
	for place := range 6 {
		for size, ok := range map[int]bool{0: false, 1: true, 2: true, 29: true, 30: true, 31: false, 32: false, 286: false} {
			if got := impl.PolicyOk(withKeyAt(full, place, strings.Repeat("\xfe", size))); got != ok {
				t.Errorf("a key of %d bytes at the place %d: %v", size, place, got)
			}
		}
	}
}

// As it is, every field, and nothing; also a key that is there.
func TestTouchOfWrongPolicies(t *testing.T) {
	for _, p := range wrongPolicies() {
		keys := slices.Concat(p.Window, p.Main, []string{"new", "twice", ""})
		for i, key := range keys {
			if i < 8 || key == "new" || key == "" {
				wantTouch(t, "of a wrong one", p, key, p, "")
			}
		}
	}
}

func TestTouchOfWrongKeys(t *testing.T) {
	for _, p := range []impl.Policy{staying("", ""), staying("a", ""), staying("a b", ""), staying("a b", "c d e f"), withSketch(staying("a b", "c d e f"), filledSketch(9, 63)), withSketch(staying("", "c d e f"), drawnSketch(4, 62))} {
		for _, key := range wrongKeys() {
			wantTouch(t, "a wrong key", p, key, p, "")
		}
		for size, ok := range map[int]bool{0: false, 1: true, 30: true, 31: false, 257: false, 286: false} {
			key := strings.Repeat("z", size)
			got, _ := impl.PolicyTouch(p, key)
			if samePolicy(got, p) == ok || impl.PolicyHas(got, key) != ok {
				t.Errorf("a key of %d bytes: %s", size, toldPolicy(got))
			}
		}
	}
}

func TestPolicyHasAndDrop(t *testing.T) {
	long := strings.Repeat("k", 31)
	for _, c := range []struct {
		window, main []string
		key          string
		has          bool
		windowAfter  []string
		mainAfter    []string
	}{
		{[]string{"a", "b"}, []string{"c", "d", "e", "f"}, "a", true, []string{"b"}, []string{"c", "d", "e", "f"}},
		{[]string{"a", "b"}, []string{"c", "d", "e", "f"}, "b", true, []string{"a"}, []string{"c", "d", "e", "f"}},
		{[]string{"a", "b"}, []string{"c", "d", "e", "f"}, "c", true, []string{"a", "b"}, []string{"d", "e", "f"}},
		{[]string{"a", "b"}, []string{"c", "d", "e", "f"}, "d", true, []string{"a", "b"}, []string{"c", "e", "f"}},
		{[]string{"a", "b"}, []string{"c", "d", "e", "f"}, "e", true, []string{"a", "b"}, []string{"c", "d", "f"}},
		{[]string{"a", "b"}, []string{"c", "d", "e", "f"}, "f", true, []string{"a", "b"}, []string{"c", "d", "e"}},
		{[]string{"a", "b"}, []string{"c", "d", "e", "f"}, "g", false, []string{"a", "b"}, []string{"c", "d", "e", "f"}},
		{[]string{"a", "b"}, []string{"c", "d", "e", "f"}, "", false, []string{"a", "b"}, []string{"c", "d", "e", "f"}},
		{[]string{"a"}, nil, "a", true, nil, nil},
		{nil, []string{"a"}, "a", true, nil, nil},
		{nil, nil, "", false, nil, nil},
		{[]string{"", "a"}, []string{"b", ""}, "", true, []string{"a"}, []string{"b"}},
		{[]string{"a"}, []string{""}, "", true, []string{"a"}, nil},
		{[]string{"a", "b"}, []string{"c", "a", "d"}, "a", true, []string{"b"}, []string{"c", "d"}},
		{[]string{"a", "a"}, []string{"c", "d"}, "a", true, nil, []string{"c", "d"}},
		{[]string{"a", "b", "a"}, []string{"c", "d"}, "a", true, []string{"b"}, []string{"c", "d"}},
		{[]string{"x"}, []string{"a", "c", "a", "d", "a", "a"}, "a", true, []string{"x"}, []string{"c", "d"}},
		{[]string{"a", "a", "a"}, []string{"a", "a"}, "a", true, nil, nil},
		{[]string{"x", "x"}, []string{"y", "y"}, "a", false, []string{"x", "x"}, []string{"y", "y"}},
		{[]string{long}, []string{"a", long, "b"}, long, true, nil, []string{"a", "b"}},
	} {
		for _, s := range []impl.Sketch{filledSketch(0, 0), drawnSketch(3, 63), filledSketch(16, -1), {}, {Rows: [][]int{{1}, nil, {2, 3}}, Added: 99}} {
			p := impl.Policy{Window: c.window, Main: c.main, Sketch: s}
			if got := impl.PolicyHas(p, c.key); got != c.has {
				t.Errorf("PolicyHas of %s and %.40q: %v", toldPolicy(p), c.key, got)
			}
			wantPolicy(t, "dropped", impl.PolicyDrop(p, c.key), impl.Policy{Window: c.windowAfter, Main: c.mainAfter, Sketch: s})
		}
	}
}

func TestDroppedComesAgain(t *testing.T) {
	p := impl.PolicyDrop(staying("a b", "c d e f"), "d")
	wantLists(t, "dropped of Main", p, "d", []string{"b", "d"}, []string{"c", "e", "f", "a"}, "")
	p = impl.PolicyDrop(staying("a b", "c d e f"), "b")
	wantLists(t, "dropped of Window", p, "b", []string{"a", "b"}, []string{"c", "d", "e", "f"}, "")
	p = impl.PolicyDrop(touched(impl.PolicyNew(), "a", "a"), "a")
	wantGuess(t, "dropped", p.Sketch, "a", 2)
	p = wantLists(t, "again", p, "a", []string{"a"}, nil, "")
	wantGuess(t, "again", p.Sketch, "a", 3)
}

func TestRightPoliciesByRule(t *testing.T) {
	for _, p := range rightPolicies() {
		for _, key := range slices.Concat(p.Window, p.Main, []string{"new", "", "\xff", strings.Repeat("k", 30), strings.Repeat("k", 31)}) {
			wantPolicyByRule(t, p, key)
		}
	}
}

func TestWrongPoliciesByRule(t *testing.T) {
	for _, p := range wrongPolicies() {
		for _, key := range []string{"", "aa", "ab", "ak", "new", "twice", strings.Repeat("k", 31)} {
			wantPolicyByRule(t, p, key)
		}
	}
}

func TestDrawnPoliciesByRule(t *testing.T) {
	k := keyAtEachPlace(t)
	outOfMain, outOfWindow := 0, 0
	for seed := range uint32(4000) {
		draws := drawn(20, seed*43+11)
		added := int(draws[0]) % 64
		if draws[1]%4 == 0 {
			added = 63
		}
		p := impl.Policy{Window: []string{k[draws[2]%8], "w"}, Main: []string{k[8+draws[3]%8], "x", "y", "z"}, Sketch: drawnSketch(seed*29+1, added)}
		if draws[4]%8 == 0 {
			p.Main = p.Main[:draws[5]%5]
		}
		if draws[4]%8 == 1 {
			p.Window = p.Window[:draws[5]%3]
		}
		if draws[4]%16 == 2 {
			p.Main[draws[5]%4] = draws[6 : 6+draws[6]%3]
		}
		switch _, out := wantPolicyByRule(t, p, draws[10:10+draws[7]%4]); {
		case out == "":
		case slices.Contains(p.Main, out):
			outOfMain++
		default:
			outOfWindow++
		}
	}
	if outOfMain < 500 || outOfWindow < 500 {
		t.Errorf("of Main %d are out, of Window %d: the draws tell too little", outOfMain, outOfWindow)
	}
}

// wantPromise: who was asked for is there, somebody else is out just when there was no room, and nobody else comes or goes.
func wantPromise(t *testing.T, ahead, behind impl.Policy, key, out string) {
	t.Helper()
	all := slices.Concat(ahead.Window, ahead.Main)
	if !slices.Contains(all, key) {
		all = append(all, key)
	}
	if out == key || out != "" && !slices.Contains(all, out) {
		t.Fatalf("%q is out when %q is asked for in %s", out, key, toldPolicy(ahead))
	}
	if out != "" {
		all = withoutKey(all, out)
	}
	after := slices.Concat(behind.Window, behind.Main)
	slices.Sort(all)
	slices.Sort(after)
	if !slices.Equal(all, after) || !slices.Contains(behind.Window, key) && !slices.Contains(behind.Main, key) {
		t.Fatalf("%q is asked for in %s: %s, %q is out", key, toldPolicy(ahead), toldPolicy(behind), out)
	}
	if len(behind.Window) > 2 || len(behind.Main) > 4 || !policyOkByRule(behind) {
		t.Fatalf("there is no room for %s", toldPolicy(behind))
	}
	if full := len(ahead.Window)+len(ahead.Main) == 6 && !impl.PolicyHas(ahead, key); full != (out != "") {
		t.Fatalf("%q is asked for in %s: %q is out", key, toldPolicy(ahead), out)
	}
}

func TestDrawnLivesOfPolicies(t *testing.T) {
	fromMain := 0
	for seed := range uint32(60) {
		draws := drawn(600, seed*23+9)
		p := impl.PolicyNew()
		for i := 0; i < 600; i += 2 {
			kinds := 4 + byte(seed)%20
			key := string([]byte{'a' + draws[i]%kinds})
			if draws[i]%3 == 0 {
				key = string([]byte{'a' + draws[i]%4})
			}
			ahead := clonePolicy(p)
			if draws[i+1]%16 == 0 {
				p = impl.PolicyDrop(p, key)
				wantPolicy(t, "dropped", p, dropByRule(ahead, key))
				continue
			}
			out := ""
			p, out = wantPolicyByRule(t, p, key)
			wantPromise(t, ahead, p, key, out)
			if slices.Contains(ahead.Main, out) {
				fromMain++
			}
		}
	}
	if fromMain < 100 {
		t.Errorf("%d are out of Main: the draws tell too little", fromMain)
	}
}

// policyRoom is a policy with room behind each of its lists, where nothing may be written.
type policyRoom struct {
	policy       impl.Policy
	window, main []string
	sketch       sketchRoom
}

func roomyPolicy(p impl.Policy) policyRoom {
	r := policyRoom{sketch: roomySketch(p.Sketch)}
	for _, key := range append(slices.Clone(p.Window), "room1", "room2", "room3") {
		r.window = append(r.window, ownText(key))
	}
	for _, key := range append(slices.Clone(p.Main), "room4", "room5", "room6") {
		r.main = append(r.main, ownText(key))
	}
	r.policy = impl.Policy{Window: r.window[:len(p.Window)], Main: r.main[:len(p.Main)], Sketch: r.sketch.sketch}
	return r
}

func (r policyRoom) whole() ([]string, []int) {
	return slices.Concat(r.window, r.main), r.sketch.whole()
}

func spoilKeys(keys []string) {
	keys = keys[:cap(keys)]
	for i := range keys {
		keys[i] = "spoilt"
	}
}

func spoilPolicy(p impl.Policy) {
	spoilKeys(p.Window)
	spoilKeys(p.Main)
	spoilSketch(p.Sketch)
}

func textsOfPolicy(p impl.Policy) []string {
	return slices.Concat(p.Window, p.Main)
}

// somePolicies are right and wrong ones, with the ways in which a key may be touched.
func somePolicies() []impl.Policy {
	var list []impl.Policy
	for i, p := range slices.Concat(rightPolicies(), wrongBySketch()) {
		if i%5 == 0 {
			list = append(list, p)
		}
	}
	k := []string{"a", "b", "abc", "/a"}
	first := countedPolicy([]string{k[0], "w"}, []string{k[1], "x", "y", "z"}, 63, map[string]int{k[0]: 9, k[1]: 2})
	other := countedPolicy([]string{k[0], "w"}, []string{k[1], "x", "y", "z"}, 9, map[string]int{k[0]: 2, k[1]: 9})
	list = append(list, staying("", ""), staying("a", ""), staying("a b", ""), staying("a b", "c d e"), staying("a b", "c d e f"), first, other)
	return slices.Concat(list, wrongBySize(), wrongByTwice(), wrongByKeys())
}

func keysToTry(p impl.Policy) []string {
	keys := []string{"new", "", strings.Repeat("k", 31), "abc", "twice"}
	if all := textsOfPolicy(p); len(all) > 0 {
		keys = append(keys, all[0], all[len(all)/2], all[len(all)-1])
	}
	return keys
}

func TestPoliciesChangeNothing(t *testing.T) {
	for _, p := range somePolicies() {
		for _, key := range keysToTry(p) {
			room := roomyPolicy(p)
			texts, numbers := room.whole()
			given := ownText(key)
			touched, out := impl.PolicyTouch(room.policy, given)
			dropped := impl.PolicyDrop(room.policy, given)
			impl.PolicyHas(room.policy, given)
			impl.PolicyOk(room.policy)
			if gotTexts, gotNumbers := room.whole(); !slices.Equal(gotTexts, texts) || !slices.Equal(gotNumbers, numbers) || given != key {
				t.Fatalf("%s: what was handed in is changed: %q, %v", toldPolicy(p), gotTexts, gotNumbers)
			}
			handed := append(slices.Clone(texts), given)
			wantApart(t, "touched", append(textsOfPolicy(touched), out), handed)
			wantApart(t, "dropped", textsOfPolicy(dropped), handed)
			wantApart(t, "two answers", append(textsOfPolicy(touched), out), textsOfPolicy(dropped))
			wantTouched, wantDropped := clonePolicy(touched), clonePolicy(dropped)
			spoilPolicy(room.policy)
			for _, row := range room.sketch.behind {
				spoilRow(row)
			}
			wantPolicy(t, "what was handed in is spoilt", touched, wantTouched)
			wantPolicy(t, "what was handed in is spoilt", dropped, wantDropped)
		}
	}
}

func TestPolicyAnswersReachNothing(t *testing.T) {
	for _, p := range somePolicies() {
		for _, key := range keysToTry(p) {
			room := roomyPolicy(p)
			texts, numbers := room.whole()
			touched, out := impl.PolicyTouch(room.policy, key)
			dropped := impl.PolicyDrop(room.policy, key)
			wantTouched, wantDropped := clonePolicy(touched), clonePolicy(dropped)
			again, outAgain := impl.PolicyTouch(room.policy, key)
			spoilPolicy(again)
			spoilPolicy(impl.PolicyDrop(room.policy, key))
			if gotTexts, gotNumbers := room.whole(); !slices.Equal(gotTexts, texts) || !slices.Equal(gotNumbers, numbers) {
				t.Fatalf("%s: what was handed in changes with the answer", toldPolicy(p))
			}
			wantPolicy(t, "another answer is spoilt", touched, wantTouched)
			wantPolicy(t, "another answer is spoilt", dropped, wantDropped)
			wantApart(t, "who is out", []string{out}, append(textsOfPolicy(touched), outAgain))
		}
	}
	one, other := impl.PolicyNew(), impl.PolicyNew()
	spoilPolicy(one)
	wantPolicy(t, "another new one is spoilt", other, staying("", ""))
	wantPolicy(t, "a new one behind it", impl.PolicyNew(), staying("", ""))
}

func wantListsApart(t *testing.T, what string, p impl.Policy) {
	t.Helper()
	want := clonePolicy(p)
	for i, text := range textsOfPolicy(p) {
		wantApart(t, what, []string{text}, textsOfPolicy(p)[i+1:])
	}
	spoilKeys(p.Window)
	if !slices.Equal(p.Main, want.Main) {
		t.Fatalf("%s: Main changes with Window", what)
	}
	copy(p.Window, want.Window)
	spoilKeys(p.Main)
	if !slices.Equal(p.Window, want.Window) {
		t.Fatalf("%s: Window changes with Main", what)
	}
	wantRowsApart(t, what, p.Sketch)
	wantSketch(t, what, p.Sketch, want.Sketch)
}

// Also where the lists that are handed in are one and the same.
func TestPolicyListsAreApart(t *testing.T) {
	for _, p := range somePolicies() {
		for _, key := range keysToTry(p) {
			touched, _ := impl.PolicyTouch(p, key)
			wantListsApart(t, "touched", touched)
			wantListsApart(t, "dropped", impl.PolicyDrop(p, key))
		}
	}
	for size := range 7 {
		row := slices.Repeat([]int{6}, 16)
		keys := someKeys(0, size)
		one := impl.Policy{Window: keys, Main: keys, Sketch: impl.Sketch{Rows: [][]int{row, row, row}, Added: 63}}
		for cut := range size + 1 {
			halves := impl.Policy{Window: keys[:cut], Main: keys[cut:], Sketch: one.Sketch}
			for _, p := range []impl.Policy{one, halves} {
				for _, key := range append(someKeys(0, size), "new") {
					want, out := touchByRule(p, key)
					wantListsApart(t, "lists of one list", wantTouch(t, "lists of one list", p, key, want, out))
					wantListsApart(t, "lists of one list", impl.PolicyDrop(p, key))
				}
			}
		}
		if !slices.Equal(keys, someKeys(0, size)) || !slices.Equal(row, slices.Repeat([]int{6}, 16)) {
			t.Fatalf("what was handed in is changed: %q, %v", keys, row)
		}
	}
}

// Nothing is kept from call to call.
func TestPolicyAnswersTwice(t *testing.T) {
	for _, p := range somePolicies() {
		first, out := impl.PolicyTouch(p, "new")
		touched(p, "a", "b", "new", "c")
		touched(first, "d", "e", "new", "f")
		impl.PolicyDrop(first, "new")
		wantTouch(t, "the second time", p, "new", first, out)
	}
}
