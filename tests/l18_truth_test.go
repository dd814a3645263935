package tests

import (
	"fmt"
	"math"
	"slices"
	"strings"
	"sync"
	"testing"

	"loop.example/g00245/impl"
)

// truths are what is told of a world: by which of the four it holds.
type truths struct{ one, got, stored, sound bool }

func (v truths) told() string {
	names := []string{}
	for i, is := range []bool{v.one, v.got, v.stored, v.sound} {
		if is {
			names = append(names, []string{"one", "got", "stored", "sound"}[i])
		}
	}
	return strings.Join(names, " ")
}

const allTrue = "one got stored sound"

func truthsOf(w impl.World) truths {
	return truths{impl.OneEach(w.Proxy), impl.GotRight(w), impl.StoredRight(w), impl.SoundWorld(w)}
}

// oneEachByRule counts the open fetches of each Key.
func oneEachByRule(p impl.Proxy) bool {
	opened, ok := map[string]int{}, true
	for _, f := range p.Fetches {
		if f.State == 1 {
			opened[f.Key]++
		}
		ok = ok && opened[f.Key] < 2
	}
	return ok
}

// gotByRule tells of each client the ways in which it may have got what it has.
func gotByRule(w impl.World) bool {
	ok := true
	for _, c := range w.Proxy.Clients {
		ways := 0
		for i, f := range w.Proxy.Fetches {
			whole, begins := c.Got == f.Text, c.Got == f.Text[:min(len(c.Got), len(f.Text))]
			fits := c.State == 1 && whole || c.State == 2 && f.State == 2 && whole || c.State == 3 && f.State == 3 && begins
			if c.Fetch == i+1 && c.Key == f.Key && fits {
				ways++
			}
		}
		for _, e := range w.Bodies {
			if c.Fetch < 1 && c.State == 2 && entry(c.Key, c.From, e.Life, c.Got) == e && c.Age < e.Life {
				ways++
			}
		}
		ok = ok && ways > 0
	}
	return ok
}

// eachIsOneOf counts each of the others.
func eachIsOneOf(list, others []impl.Entry) bool {
	there := map[impl.Entry]int{}
	for _, e := range others {
		there[e]++
	}
	ok := true
	for _, e := range list {
		ok = ok && there[e] > 0
	}
	return ok
}

func freshOnesByRule(p impl.Proxy) []impl.Entry {
	var fresh []impl.Entry
	for _, e := range p.Entries {
		if freshByRule(e, p.Now) {
			fresh = append(fresh, e)
		}
	}
	return fresh
}

func truthsByRule(w impl.World) truths {
	v := truths{one: oneEachByRule(w.Proxy), got: gotByRule(w), stored: eachIsOneOf(w.Proxy.Entries, w.Bodies)}
	v.sound = proxyOkByRule(w.Proxy) && v.one && v.got && v.stored && eachIsOneOf(freshOnesByRule(w.Proxy), findByRule(w.Disk))
	return v
}

func wantTruthsByRule(t *testing.T, what string, w impl.World) truths {
	t.Helper()
	got, want := truthsOf(w), truthsByRule(w)
	if got != want {
		t.Fatalf("%s: told %q; want %q of\n%s", what, got.told(), want.told(), toldWorld(w))
	}
	return got
}

// wantTruths holds a world against what is told here, and against the rule.
func wantTruths(t *testing.T, what string, w impl.World, want string) {
	t.Helper()
	if got := wantTruthsByRule(t, what, w).told(); got != want {
		t.Fatalf("%s: told %q; want %q of\n%s", what, got, want, toldWorld(w))
	}
}

// wantAllTrue holds what a life comes to behind each of its events.
func wantAllTrue(t *testing.T, what string, events []impl.Event) {
	t.Helper()
	for size := range len(events) + 1 {
		w, ok := impl.RunLife(events[:size])
		if !ok {
			t.Fatalf("%s: no life:\n  %s", what, toldEvents(events))
		}
		wantTruths(t, fmt.Sprintf("%s, behind %d events", what, size), w, allTrue)
	}
}

func TestTruthsOfShortLives(t *testing.T) {
	wantTruths(t, "nothing at all", impl.World{}, "one got stored")
	wantTruths(t, "a new proxy", impl.World{Proxy: impl.ProxyNew()}, allTrue)
	wantAllTrue(t, "no event", nil)
	for _, e := range everyKindOfEvent() {
		wantAllTrue(t, "one event", []impl.Event{e})
	}
	wantAllTrue(t, "one of each", everyKindOfEvent())
	wantAllTrue(t, "a few", []impl.Event{
		askEvent(1, "/a"), askEvent(2, "/b"), partEvent(0, "hi"), partEvent(1, "more"), askEvent(3, "/a"), closeEvent(0, 9), breakEvent(1),
		passEvent(8), askEvent(4, "/a"), passEvent(1), askEvent(5, "/a"), fallEvent(3), askEvent(1, "/a"), closeEvent(0, 2), askEvent(2, "/a"), fallEvent(), askEvent(3, "/a"),
	})
}

func TestTruthsOfEveryOrderOfEvents(t *testing.T) {
	some := []impl.Event{askEvent(1, "a"), askEvent(2, "a"), partEvent(0, "x"), closeEvent(0, 2), closeEvent(0, 1000000), breakEvent(0), passEvent(1), leaveEvent(1), fallEvent(1)}
	ahead := []impl.Event{askEvent(3, "b"), partEvent(0, "first"), closeEvent(0, 2), askEvent(4, "a")}
	for _, picks := range everyTurns(4, len(some)) {
		var events []impl.Event
		for _, pick := range picks {
			events = append(events, some[pick])
		}
		for _, all := range [][]impl.Event{events, slices.Concat(ahead, events)} {
			w, _ := impl.RunLife(all)
			if got := truthsOf(w).told(); got != allTrue {
				t.Fatalf("%s\ntold %q of\n%s", toldEvents(all), got, toldWorld(w))
			}
		}
	}
}

// Without a seat for all: what is out is of Bodies still, and who got it as well.
func TestTruthsWithoutRoom(t *testing.T) {
	list := lettersDown(1, 900)
	events := append(storedOnes(list...), askEvent(1, "a"), askEvent(2, "c"), askEvent(3, "g"), passEvent(4), askEvent(4, "d"), fallEvent(), askEvent(5, "a"), askEvent(6, "e"), askEvent(7, "zz"))
	wantAllTrue(t, "seven", events)
	var many []impl.Event
	for at := range 15 {
		many = append(many, askEvent(at%9+1, string([]byte{byte('o' - at)})), closeEvent(at, 900), leaveEvent((at+4)%9+1))
	}
	wantAllTrue(t, "fifteen", append(many, fallEvent(), askEvent(1, "a"), passEvent(4), fallEvent(1), askEvent(2, "b")))
}

// What is fresh still when it is asked for is never too old, and what a fall brings back is as old as it is.
func TestTruthsByTime(t *testing.T) {
	for life := 1; life < 7; life++ {
		for passed := range 9 {
			for _, between := range [][]impl.Event{{passEvent(passed)}, {passEvent(passed), fallEvent()}, {fallEvent(1), passEvent(passed)}, {passEvent(passed / 2), fallEvent(2), passEvent(passed - passed/2)}} {
				events := slices.Concat([]impl.Event{askEvent(1, "a"), partEvent(0, "A"), closeEvent(0, life)}, between, []impl.Event{askEvent(2, "a")})
				wantAllTrue(t, "time passes", events)
				w, _ := impl.RunLife(events)
				if hit := w.Proxy.Hits == 1; hit != (passed < life) {
					t.Fatalf("a life of %d behind %d: %s", life, passed, toldWorld(w))
				}
			}
		}
	}
}

// cameWatch notes what came and what was stored by the events and their codes alone.
type cameWatch struct {
	now    int
	keys   []string
	texts  []string
	stored []impl.Entry
}

// note is of an event whose code is 0; w is what the life has come to behind it.
func (came *cameWatch) note(t *testing.T, e impl.Event, w impl.World) {
	t.Helper()
	switch e.Kind {
	case impl.EvAsk:
		at := slices.IndexFunc(w.Proxy.Clients, func(c impl.Client) bool { return c.Id == e.Id })
		came.noteAsked(t, w.Proxy.Clients[at], e.Text)
	case impl.EvPart:
		came.texts[e.Id] += e.Text
	case impl.EvClose:
		if life := e.N % 1000000; life > 0 {
			came.stored = append(came.stored, entry(came.keys[e.Id], came.now, life, came.texts[e.Id]))
		}
	case impl.EvPass:
		came.now += e.N % 1000
	case impl.EvFall:
		came.keys, came.texts = nil, nil
	}
}

func (came *cameWatch) noteAsked(t *testing.T, c impl.Client, key string) {
	t.Helper()
	switch {
	case c.Fetch == len(came.keys)+1:
		came.keys, came.texts = append(came.keys, key), append(came.texts, "")
	case c.Fetch == 0:
		fresh := func(e impl.Entry) bool {
			return e.Key == key && e.Body == c.Got && e.Stored == c.From && e.Stored == came.now-c.Age && c.Age < e.Life
		}
		if !slices.ContainsFunc(came.stored, fresh) {
			t.Fatalf("%q is answered %v in %d; stored were %s", key, c, came.now, toldEntries(came.stored))
		}
	}
}

// holds is promise 18 in its own words.
func (came *cameWatch) holds(t *testing.T, w impl.World) {
	t.Helper()
	for _, c := range w.Proxy.Clients {
		if c.Fetch > 0 && (c.Key != came.keys[c.Fetch-1] || c.Got != came.texts[c.Fetch-1]) {
			t.Fatalf("%v got something else than %q", c, came.texts)
		}
		old := func(e impl.Entry) bool { return entry(c.Key, c.From, e.Life, c.Got) == e && c.Age < e.Life }
		if c.Fetch == 0 && !slices.ContainsFunc(came.stored, old) {
			t.Fatalf("%v got what is too old, or did not come: %s", c, toldEntries(came.stored))
		}
	}
	if !slices.Equal(w.Bodies, came.stored) || !eachIsOneOf(w.Proxy.Entries, came.stored) || w.Proxy.Now != came.now {
		t.Fatalf("stored were %s: %s", toldEntries(came.stored), toldWorld(w))
	}
}

// Promise 18: in a drawn life whoever got something got what came, and nothing that was too old; what is stored is what came.
func TestTruthsOfDrawnLives(t *testing.T) {
	waits, done, failed, answers, stored := 0, 0, 0, 0, 0
	for seed := range uint32(70) {
		events := drawnLife(seed*89+seed%16, []int{70, 70, 69, 40}[seed%4])
		came := cameWatch{now: 1}
		for i, e := range events {
			w, _ := impl.RunLife(events[:i+1])
			if w.Codes[i] == 0 {
				came.note(t, e, w)
			}
			came.holds(t, w)
			wantTruths(t, "drawn", w, allTrue)
			for _, c := range w.Proxy.Clients {
				switch {
				case c.Fetch == 0:
					answers++
				case c.State == 1:
					waits++
				case c.State == 2:
					done++
				default:
					failed++
				}
			}
			stored += len(w.Proxy.Entries)
		}
	}
	if min(waits, done, failed, answers, stored) < 100 {
		t.Errorf("%d wait, %d are done, %d failed, %d got an entry, %d entries: the draws tell too little", waits, done, failed, answers, stored)
	}
}

func TestTruthsOfManyDrawnLives(t *testing.T) {
	for seed := range uint32(600) {
		events := drawnLife(seed*97+seed%5+11, 70)
		w, _ := impl.RunLife(events)
		wantTruths(t, "drawn", w, allTrue)
	}
	for _, events := range livesToTry() {
		if w, ok := impl.RunLife(events); ok {
			wantTruths(t, "a life", w, allTrue)
		}
	}
}

func wantOneEach(t *testing.T, what string, want bool, fetches ...impl.Fetch) {
	t.Helper()
	for _, p := range []impl.Proxy{{Fetches: fetches}, {Now: 5, Fetches: fetches, Policy: staying("a", ""), Hits: -1}} {
		if got := impl.OneEach(p); got != want || oneEachByRule(p) != want {
			t.Fatalf("%s: OneEach is %v; want %v of %s", what, got, want, toldProxy(p))
		}
	}
}

func TestOneEach(t *testing.T) {
	wantOneEach(t, "no fetches", true)
	wantOneEach(t, "one", true, begun("a", ""))
	wantOneEach(t, "one without a Key", true, begun("", ""))
	wantOneEach(t, "two of different Keys", true, begun("a", "x"), begun("b", "x"))
	wantOneEach(t, "two of nearly one Key", true, begun("a", ""), begun("a\x00", ""), begun("A", ""), begun("", ""), begun("aa", ""))
	wantOneEach(t, "two of one Key", false, begun("a", ""), begun("a", ""))
	wantOneEach(t, "two that differ in all else", false, fetched("a", "x", 1, 5, 6), fetched("a", "y", 1, 7, 8))
	wantOneEach(t, "two without a Key", false, begun("", "x"), begun("", ""))
	wantOneEach(t, "two of a Key that is too long", false, begun(letters(31), ""), begun("b", ""), begun(letters(31), ""))
	for _, state := range []int{2, 3} {
		ended := fetched("a", "", state, 0, 0)
		wantOneEach(t, "one of two has ended", true, ended, begun("a", ""))
		wantOneEach(t, "the other of two has ended", true, begun("a", ""), ended)
		wantOneEach(t, "both have", true, ended, ended)
		wantOneEach(t, "two beside one that has", false, begun("a", ""), ended, begun("a", ""))
		wantOneEach(t, "two behind one that has", false, ended, begun("a", ""), begun("a", ""))
	}
	wantOneEach(t, "one done, one broken", true, fetched("a", "", 2, 0, 0), fetched("a", "", 3, 0, 0))
	for _, state := range []int{-1, 0, 4, 257, math.MinInt, math.MaxInt} {
		wantOneEach(t, "no State of a stream", true, fetched("a", "", state, 0, 0), fetched("a", "", state, 0, 0), begun("a", ""))
	}
}

// Two open ones at each two places of many, and beyond as many as there may be.
func TestOneEachAmongMany(t *testing.T) {
	for _, count := range []int{2, 3, 19, 20, 21, 40, 300} {
		var many []impl.Fetch
		for _, key := range twoLetters(count) {
			many = append(many, begun(key, ""))
		}
		wantOneEach(t, "many", true, many...)
		for k := 1; k < count; k += max(1, count/20) {
			for _, i := range []int{0, k / 2, k - 1} {
				twice := slices.Clone(many)
				twice[k].Key = twice[i].Key
				wantOneEach(t, "two among many", false, twice...)
				twice[i].State = 2 + k%2
				wantOneEach(t, "one of the two has ended", true, twice...)
				twice[i].State, twice[k].State = 1, 2+i%2
				wantOneEach(t, "the other of the two has ended", true, twice...)
			}
		}
	}
}

// Every list of up to four fetches of two Keys, in each State and in one that is none.
func TestOneEachOfShortLists(t *testing.T) {
	for size := range 5 {
		for _, picks := range everyTurns(size, 8) {
			var p impl.Proxy
			for _, pick := range picks {
				p.Fetches = append(p.Fetches, fetched([]string{"a", "b"}[pick/4], "", pick%4, 0, 0))
			}
			if got, want := impl.OneEach(p), oneEachByRule(p); got != want {
				t.Fatalf("OneEach is %v; want %v of %s", got, want, toldProxy(p))
			}
		}
	}
}

func wantGot(t *testing.T, what string, w impl.World, want bool) {
	t.Helper()
	if got := impl.GotRight(w); got != want || gotByRule(w) != want {
		t.Fatalf("%s: GotRight is %v; want %v of\n%s", what, got, want, toldWorld(w))
	}
}

// waiting is a world of one fetch and one client of it.
func waiting(f impl.Fetch, c impl.Client) impl.World {
	return impl.World{Proxy: impl.Proxy{Fetches: []impl.Fetch{f}, Clients: []impl.Client{c}}}
}

func TestGotRightOfNobody(t *testing.T) {
	wantGot(t, "nothing", impl.World{}, true)
	wantGot(t, "no clients", impl.World{Proxy: busyWorld().Proxy, Bodies: busyWorld().Bodies}, true)
	none := busyWorld()
	none.Proxy.Clients = []impl.Client{}
	wantGot(t, "an empty list", none, true)
	wantGot(t, "clients of nothing", impl.World{Proxy: impl.Proxy{Clients: []impl.Client{{}}}}, false)
}

// What a client may have got of its fetch, by the States of both.
func TestGotRightOfFetches(t *testing.T) {
	gots := []struct {
		got           string
		whole, begins bool
	}{
		{"hello", true, true}, {"hell", false, true}, {"h", false, true}, {"", false, true},
		{"hellp", false, false}, {"Hello", false, false}, {"hello ", false, false}, {"hellohello", false, false}, {"ello", false, false}, {"x", false, false}, {"\x00", false, false}, {letters(401), false, false},
	}
	states := []int{math.MinInt, -1, 0, 1, 2, 3, 4, 5, 257, 258, 259, math.MaxInt}
	for _, g := range gots {
		for _, of := range states {
			for _, state := range states {
				want := state == 1 && g.whole || state == 2 && of == 2 && g.whole || state == 3 && of == 3 && g.begins
				f, c := fetched("a", "hello", of, 7, 9), impl.Client{Id: 4, Key: "a", Fetch: 1, From: -5, State: state, Got: g.got, Age: 1000}
				wantGot(t, "of its Key", waiting(f, c), want)
				for _, key := range []string{"", "b", "A", "aa", "a\x00"} {
					c.Key = key
					wantGot(t, "of another Key", waiting(f, c), false)
				}
			}
		}
	}
}

// Of a fetch to which nothing came: nothing is all of it, and a beginning.
func TestGotRightOfNothing(t *testing.T) {
	for state := 1; state < 4; state++ {
		for of := 1; of < 4; of++ {
			want := state == 1 || state == of
			wantGot(t, "nothing came", waiting(fetched("a", "", of, 0, 0), client(1, "a", 1, state, "")), want)
			wantGot(t, "something was got", waiting(fetched("a", "", of, 0, 0), client(1, "a", 1, state, "x")), false)
		}
	}
}

// Each place of three fetches, below them and beyond them.
func TestGotRightOfEachPlace(t *testing.T) {
	fetches := []impl.Fetch{begun("a", "A"), fetched("b", "B", 2, 0, 0), fetched("a", "", 3, 0, 0)}
	for _, c := range []struct {
		key, got string
		state    int
		place    int
	}{{"a", "A", 1, 1}, {"b", "B", 1, 2}, {"b", "B", 2, 2}, {"a", "", 3, 3}, {"a", "", 1, 3}, {"b", "", 3, 0}, {"a", "A", 2, 0}, {"c", "", 1, 0}} {
		for _, at := range []int{math.MinInt, -3, -2, -1, 0, 1, 2, 3, 4, 5, 20, 21, 1 << 32, 1<<32 + 1, 1<<32 + 2, 1<<32 + 3, math.MaxInt} {
			w := impl.World{Proxy: impl.Proxy{Fetches: fetches, Clients: []impl.Client{client(1, c.key, at, c.state, c.got)}}}
			wantGot(t, fmt.Sprintf("at %d", at), w, at > 0 && at == c.place)
			// A body that came does not stand in for a fetch.
			w.Bodies = []impl.Entry{entry(c.key, 0, 9, c.got)}
			wantGot(t, fmt.Sprintf("at %d, stored", at), w, at > 0 && at == c.place || at < 1 && c.state == 2)
			w.Proxy.Fetches = nil
			wantGot(t, fmt.Sprintf("at %d of none", at), w, at < 1 && c.state == 2)
		}
	}
}

// answeredWorld is a world of one client that got an entry, and of what was stored.
func answeredWorld(c impl.Client, bodies ...impl.Entry) impl.World {
	return impl.World{Proxy: impl.Proxy{Now: 50, Clients: []impl.Client{c}}, Bodies: bodies}
}

func TestGotRightOfAnEntry(t *testing.T) {
	c, e := answered(4, "a", 10, "hello", 5), entry("a", 10, 6, "hello")
	wantGot(t, "it is as old as may be", answeredWorld(c, e), true)
	wantGot(t, "no Bodies", answeredWorld(c), false)
	for _, l := range []limit{{math.MinInt, false}, {-1, false}, {0, false}, {4, false}, {5, false}, {6, true}, {7, true}, {999999, true}, {1000000, true}, {math.MaxInt, true}} {
		wantGot(t, "its Life", answeredWorld(c, entry("a", 10, l.n, "hello")), l.ok)
	}
	for _, l := range []limit{{math.MinInt, true}, {-1, true}, {0, true}, {4, true}, {5, true}, {6, false}, {7, false}, {1 << 32, false}, {math.MaxInt, false}} {
		wantGot(t, "its Age", answeredWorld(answered(4, "a", 10, "hello", l.n), e), l.ok)
	}
	wantGot(t, "the greatest Age", answeredWorld(answered(4, "a", 10, "hello", math.MaxInt), entry("a", 10, math.MaxInt, "hello")), false)
	wantGot(t, "the greatest but one", answeredWorld(answered(4, "a", 10, "hello", math.MaxInt-1), entry("a", 10, math.MaxInt, "hello")), true)
	wantGot(t, "a Life below 0", answeredWorld(answered(4, "a", 10, "hello", -3), entry("a", 10, -2, "hello")), true)
	wantGot(t, "a Life below 0, and an Age that is it", answeredWorld(answered(4, "a", 10, "hello", -3), entry("a", 10, -3, "hello")), false)
	for _, state := range []int{math.MinInt, -1, 0, 1, 3, 4, 258, math.MaxInt} {
		other := c
		other.State = state
		wantGot(t, "it is not done", answeredWorld(other, e), false)
	}
	for _, at := range []int{math.MinInt, -2, -1, 0} {
		other := c
		other.Fetch = at
		wantGot(t, "a Fetch that is not above 0", answeredWorld(other, e), true)
	}
}

// otherClients differ in one thing of those by which a client is told to be answered by an entry.
func otherClients(c impl.Client) []impl.Client {
	var list []impl.Client
	with := func(change func(c *impl.Client)) {
		other := c
		change(&other)
		list = append(list, other)
	}
	for _, key := range []string{"", "b", c.Key + "\x00", c.Key + c.Key} {
		with(func(c *impl.Client) { c.Key = key })
	}
	for _, from := range []int{c.From - 1, c.From + 1, -c.From, c.From + 1<<32, math.MinInt, math.MaxInt} {
		with(func(c *impl.Client) { c.From = from })
	}
	for _, got := range []string{"", c.Got + "x", c.Got[:len(c.Got)-1], strings.ToUpper(c.Got)} {
		with(func(c *impl.Client) { c.Got = got })
	}
	return list
}

func TestGotRightOfAnotherEntry(t *testing.T) {
	c, e := answered(4, "a", 10, "hello", 5), entry("a", 10, 9, "hello")
	for _, other := range otherClients(c) {
		wantGot(t, "a client of another value", answeredWorld(other, e), false)
		its := entry(other.Key, other.From, 9, other.Got)
		wantGot(t, "stored of another value", answeredWorld(c, its), false)
		wantGot(t, "both of that", answeredWorld(other, its), true)
		wantGot(t, "behind one that is not it", answeredWorld(c, its, e), true)
		wantGot(t, "ahead of one that is not it", answeredWorld(c, e, its), true)
		// Two things of which each has what the other one wants do not make one.
		for _, another := range otherClients(c) {
			two := []impl.Entry{its, entry(another.Key, another.From, 9, another.Got)}
			wantGot(t, "two that are not it", answeredWorld(c, two...), false)
			wantGot(t, "behind two that are not it", answeredWorld(c, append(two, e)...), true)
		}
	}
	short := entry("a", 10, 5, "hello")
	wantGot(t, "one of too short a Life", answeredWorld(c, short), false)
	wantGot(t, "behind it one that lives longer", answeredWorld(c, short, e), true)
	wantGot(t, "ahead of it one that lives longer", answeredWorld(c, e, short), true)
	wantGot(t, "two of too short a Life", answeredWorld(c, short, short), false)
	wantGot(t, "two of one Key", answeredWorld(c, entry("a", 1, 99, "old"), e, entry("a", 20, 9, "new")), true)
	wantGot(t, "the Key of one, the rest of another", answeredWorld(c, entry("a", 1, 99, "old"), entry("b", 10, 9, "hello")), false)
	many := slices.Repeat([]impl.Entry{entry("b", 10, 9, "hello"), short}, 40)
	wantGot(t, "many that are not it", answeredWorld(c, many...), false)
	for _, place := range []int{0, 1, 40, 79, 80} {
		wantGot(t, "among many", answeredWorld(c, slices.Insert(slices.Clone(many), place, e)...), true)
	}
	there := answeredWorld(c)
	there.Proxy.Entries = []impl.Entry{e}
	there.Disk = keptFile(framesOf(e))
	wantGot(t, "it is an entry, but not of Bodies", there, false)
}

// One of several clients that is not right, at each place.
func TestGotRightOfSeveral(t *testing.T) {
	base := busyWorld()
	wantGot(t, "all are right", base, true)
	for place := range base.Proxy.Clients {
		w := cloneWorld(base)
		w.Proxy.Clients[place].Got += "!"
		wantGot(t, "one is not", w, false)
		w.Proxy.Clients = slices.Delete(w.Proxy.Clients, place, place+1)
		wantGot(t, "it is gone", w, true)
		for other := range place {
			both := cloneWorld(base)
			both.Proxy.Clients[place].Key, both.Proxy.Clients[other].State = "zz", 7
			wantGot(t, "two are not", both, false)
		}
	}
	// Nothing is asked of the order of clients, nor of how many there are, nor of their Ids.
	many := cloneWorld(base)
	many.Proxy.Clients = slices.Repeat(many.Proxy.Clients, 5)
	slices.Reverse(many.Proxy.Clients)
	wantGot(t, "many", many, true)
	many.Proxy.Clients[29].Id = -5
	wantGot(t, "an Id that is none", many, true)
	many.Proxy.Clients[29].State = 0
	wantGot(t, "many, the last one is not", many, false)
}

// busyWorld is sound: its clients wait, are done, failed, or got an entry, one of which is gone; b is fresh no more.
func busyWorld() impl.World {
	a, b, d, g := entry("a", 10, 50, "A"), entry("b", 5, 15, "B"), entry("d", 19, 5, "dd"), entry("g", 1, 4, "G")
	return impl.World{
		Proxy: impl.Proxy{
			Now: 20, Hits: 2, Entries: []impl.Entry{a, b, d}, Policy: staying("a d", "b"),
			Fetches: []impl.Fetch{begun("c", "cc"), fetched("d", "dd", 2, 5, 19), fetched("e", "ee", 3, 0, 0), begun("f", "")},
			Clients: []impl.Client{client(1, "c", 1, 1, "cc"), client(2, "d", 2, 2, "dd"), client(3, "e", 3, 3, "e"), answered(4, "a", 10, "A", 7), answered(5, "g", 1, "G", 3), client(6, "f", 4, 1, "")},
		},
		Disk:   keptFile(framesOf(g, a, b, d)),
		Codes:  []int{0, 1, 0},
		Bodies: []impl.Entry{g, b, a, d},
	}
}

func TestStoredRight(t *testing.T) {
	a, b, c := entry("a", 10, 50, "A"), entry("b", 5, 15, "B"), entry("c", 0, 1, "")
	for _, x := range []struct {
		what            string
		entries, bodies []impl.Entry
		want            bool
	}{
		{"nothing", nil, nil, true},
		{"no entries", []impl.Entry{}, []impl.Entry{a, b}, true},
		{"no bodies", []impl.Entry{a}, nil, false},
		{"one", []impl.Entry{a}, []impl.Entry{a}, true},
		{"another one", []impl.Entry{a}, []impl.Entry{b}, false},
		{"all", []impl.Entry{a, b, c}, []impl.Entry{a, b, c}, true},
		{"in another order", []impl.Entry{a, b, c}, []impl.Entry{c, a, b}, true},
		{"turned", []impl.Entry{a, b, c}, []impl.Entry{c, b, a}, true},
		{"entries that do not ascend", []impl.Entry{c, b, a}, []impl.Entry{a, b, c}, true},
		{"among more", []impl.Entry{b}, []impl.Entry{a, a, c, b}, true},
		{"one more than Bodies have", []impl.Entry{a, b, c}, []impl.Entry{a, b}, false},
		{"the first one is none", []impl.Entry{a, b, c}, []impl.Entry{b, c}, false},
		{"the one between is none", []impl.Entry{a, b, c}, []impl.Entry{c, a}, false},
		{"as many, but others", []impl.Entry{a, b}, []impl.Entry{a, c}, false},
		{"one twice", []impl.Entry{a, a}, []impl.Entry{a}, true},
		{"one twice among Bodies", []impl.Entry{a, b}, []impl.Entry{a, a}, false},
		{"none that is right", []impl.Entry{{}}, []impl.Entry{a, {}}, true},
		{"nothing in it", []impl.Entry{{}}, []impl.Entry{a}, false},
	} {
		w := impl.World{Proxy: impl.Proxy{Entries: x.entries}, Bodies: x.bodies, Disk: keptFile(framesOf(a, b, c))}
		if got := impl.StoredRight(w); got != x.want || eachIsOneOf(x.entries, x.bodies) != x.want {
			t.Errorf("%s: StoredRight is %v; want %v", x.what, got, x.want)
		}
	}
}

// otherEntries differ in one field.
func otherEntries(e impl.Entry) []impl.Entry {
	var list []impl.Entry
	for _, n := range []int{-1, 1, 1 << 32, math.MinInt} {
		list = append(list, entry(e.Key, e.Stored+n, e.Life, e.Body), entry(e.Key, e.Stored, e.Life+n, e.Body))
	}
	for _, text := range []string{"x", "\x00"} {
		list = append(list, entry(e.Key+text, e.Stored, e.Life, e.Body), entry(text+e.Key, e.Stored, e.Life, e.Body), entry(e.Key, e.Stored, e.Life, e.Body+text), entry(e.Key, e.Stored, e.Life, text+e.Body))
	}
	list = append(list, entry("", e.Stored, e.Life, e.Body), entry(e.Key, e.Stored, e.Life, ""), entry(strings.ToUpper(e.Key), e.Stored, e.Life, e.Body), entry(e.Key, e.Stored, e.Life, strings.ToLower(e.Body)))
	return slices.DeleteFunc(list, func(other impl.Entry) bool { return other == e })
}

func TestStoredRightOfOneField(t *testing.T) {
	base := []impl.Entry{entry("a", 10, 50, "A"), entry("b", 5, 15, "B"), entry("c", 1, 2, "C")}
	for place, e := range base {
		for _, other := range otherEntries(e) {
			changed := slices.Clone(base)
			changed[place] = other
			for _, w := range []impl.World{{Proxy: impl.Proxy{Entries: changed}, Bodies: base}, {Proxy: impl.Proxy{Entries: base}, Bodies: changed}} {
				if impl.StoredRight(w) {
					t.Fatalf("%s for %s: StoredRight", toldEntry(other), toldEntry(e))
				}
				w.Bodies = slices.Concat(w.Bodies, changed, base)
				if !impl.StoredRight(w) {
					t.Fatalf("%s beside %s: not StoredRight", toldEntry(other), toldEntry(e))
				}
			}
		}
	}
}

// changedWorld is one in which one thing is another, and what is true of it still.
type changedWorld struct {
	what   string
	want   string
	change func(w *impl.World)
}

func wantChanged(t *testing.T, list []changedWorld) {
	t.Helper()
	for _, c := range list {
		w := busyWorld()
		c.change(&w)
		wantTruths(t, c.what, w, c.want)
	}
}

const allButSound = "one got stored"

func TestSoundWorld(t *testing.T) {
	wantTruths(t, "as it is", busyWorld(), allTrue)
	wantTruths(t, "nothing in its lists but what must be", impl.World{Proxy: newProxyByRule(1), Disk: impl.Disk{Files: []impl.File{}}, Codes: []int{}, Bodies: []impl.Entry{}}, allTrue)
	wantChanged(t, []changedWorld{
		{"codes are not looked at", allTrue, func(w *impl.World) { w.Codes = []int{-5, 9, math.MaxInt} }},
		{"no codes", allTrue, func(w *impl.World) { w.Codes = nil }},
		{"two open ones of one Key", "got stored", func(w *impl.World) { w.Proxy.Fetches = append(w.Proxy.Fetches, begun("c", "")) }},
		{"two of one Key, one has ended", allTrue, func(w *impl.World) { w.Proxy.Fetches = append(w.Proxy.Fetches, begun("d", ""), begun("e", "")) }},
		{"one got something else", "one stored", func(w *impl.World) { w.Proxy.Clients[0].Got = "c" }},
		{"one who is done got something else", "one stored", func(w *impl.World) { w.Proxy.Clients[1].Got = "d" }},
		{"one who failed got something else", "one stored", func(w *impl.World) { w.Proxy.Clients[2].Got = "f" }},
		{"one got something else of an entry", "one stored", func(w *impl.World) { w.Proxy.Clients[3].Got = "B" }},
		{"one got what is too old", "one stored", func(w *impl.World) { w.Proxy.Clients[4].Age = 4 }},
		{"an entry that was never stored", "one got", func(w *impl.World) {
			w.Proxy.Entries[0].Body, w.Disk = "!", keptFile(framesOf(entry("a", 10, 50, "!")))
		}},
		{"an old entry that was never stored", "one got", func(w *impl.World) { w.Proxy.Entries[1].Body = "!" }},
		{"all that was stored is gone", "one", func(w *impl.World) { w.Bodies = nil }},
		{"what nobody got and is no entry is gone", allTrue, func(w *impl.World) {
			w.Bodies = w.Bodies[1:]
			w.Proxy.Clients = slices.Delete(w.Proxy.Clients, 4, 5)
		}},
		{"each once more", allTrue, func(w *impl.World) { w.Bodies = append(w.Bodies, w.Bodies...) }},
	})
}

// A proxy that is not right in each of its ways, where all else is true.
func TestSoundWorldOfWrongProxies(t *testing.T) {
	wantChanged(t, []changedWorld{
		{"Now of 0", allButSound, func(w *impl.World) { w.Proxy.Now = 0 }},
		{"Now beyond", allButSound, func(w *impl.World) { w.Proxy.Now = impl.MaxNumber + 1 }},
		{"Hits below 0", allButSound, func(w *impl.World) { w.Proxy.Hits = -1 }},
		{"a Policy without one of the Keys", allButSound, func(w *impl.World) { w.Proxy.Policy = staying("a d", "") }},
		{"a Policy with a Key of no entry", allButSound, func(w *impl.World) { w.Proxy.Policy = staying("a d", "b g") }},
		{"no Sketch", allButSound, func(w *impl.World) { w.Proxy.Policy.Sketch = impl.Sketch{} }},
		{"entries that do not ascend", allButSound, func(w *impl.World) { slices.Reverse(w.Proxy.Entries) }},
		{"an entry twice", allButSound, func(w *impl.World) { w.Proxy.Entries = slices.Insert(w.Proxy.Entries, 1, w.Proxy.Entries[0]) }},
		{"an entry that is not right, but of Bodies", allButSound, func(w *impl.World) { w.Proxy.Entries[1].Life, w.Bodies[1].Life = 0, 0 }},
		{"an Id twice", allButSound, func(w *impl.World) { w.Proxy.Clients[1].Id = 1 }},
		{"an Age below 0", allButSound, func(w *impl.World) { w.Proxy.Clients[4].Age = -1 }},
		{"a From beyond Now", allButSound, func(w *impl.World) { w.Proxy.Clients[0].From = 21 }},
		{"a Fetch below 0", allButSound, func(w *impl.World) { w.Proxy.Clients[3].Fetch = -1 }},
		{"a State that is none, of a fetch", allButSound, func(w *impl.World) { w.Proxy.Fetches[3].State = 0 }},
		{"a fetch stored later than Now", allButSound, func(w *impl.World) { w.Proxy.Fetches[1].Stored = 21 }},
		{"too many fetches", allButSound, func(w *impl.World) {
			w.Proxy.Fetches = append(w.Proxy.Fetches, slices.Repeat([]impl.Fetch{fetched("y", "", 2, 0, 0)}, 17)...)
		}},
		{"too many clients", allButSound, func(w *impl.World) { w.Proxy.Clients = append(w.Proxy.Clients, client(7, "c", 1, 1, "cc")) }},
		{"a Fetch beyond", "one stored", func(w *impl.World) { w.Proxy.Clients[0].Fetch = 5 }},
		{"no State", "one stored", func(w *impl.World) { w.Proxy.Clients[5].State = 0 }},
	})
	for _, c := range changedProxies() {
		if len(c.proxy.Fetches) > 40 || len(c.proxy.Entries) > 40 {
			continue
		}
		w := impl.World{Proxy: c.proxy, Disk: keptFile(framesOf(c.proxy.Entries[:min(len(c.proxy.Entries), 3)]...)), Bodies: slices.Clone(c.proxy.Entries)}
		if wantTruthsByRule(t, c.what, w).sound && !c.ok {
			t.Fatalf("%s: SoundWorld of\n%s", c.what, toldWorld(w))
		}
	}
}

// What is fresh is found in the file as it is; what is fresh no more may be there or not.
func TestSoundWorldOfItsFile(t *testing.T) {
	a, b, d, g := entry("a", 10, 50, "A"), entry("b", 5, 15, "B"), entry("d", 19, 5, "dd"), entry("g", 1, 4, "G")
	withDisk := func(what, want string, d impl.Disk) changedWorld {
		return changedWorld{what, want, func(w *impl.World) { w.Disk = d }}
	}
	list := []changedWorld{
		withDisk("no files", allButSound, impl.Disk{}),
		withDisk("an empty file", allButSound, keptFile("")),
		withDisk("what is fresh alone", allTrue, keptFile(framesOf(a, d))),
		withDisk("in another order", allTrue, keptFile(framesOf(d, b, a))),
		withDisk("one of two", allButSound, keptFile(framesOf(a, b, g))),
		withDisk("the other of two", allButSound, keptFile(framesOf(b, d, g))),
		withDisk("what is old alone", allButSound, keptFile(framesOf(b, g))),
		withDisk("what is old in another way", allTrue, keptFile(framesOf(a, entry("b", 7, 9, "other"), d))),
		withDisk("an older one ahead of it", allTrue, keptFile(framesOf(entry("a", 9, 50, "old"), a, d))),
		withDisk("an older one behind it", allButSound, keptFile(framesOf(a, entry("a", 9, 50, "old"), d))),
		withDisk("twice as it is", allTrue, keptFile(framesOf(a, d, a, d))),
		withDisk("another one between", allTrue, keptFile(framesOf(a, entry("a", 11, 1, ""), d, a))),
		withDisk("none of an entry between", allTrue, keptFile(framed("none")+framesOf(a)+framed("\x00\x00\x00")+framesOf(d))),
		withDisk("torn behind both", allTrue, keptFile(framesOf(a, d)+framesOf(a)[:9])),
		withDisk("torn between", allButSound, keptFile(framesOf(a)+framesOf(d)[:9]+framesOf(d))),
		withDisk("torn at the end", allButSound, keptFile(framesOf(a, d)[:len(framesOf(a, d))-1])),
		withDisk("nothing of it is kept yet", allTrue, disk(impl.File{Name: "kept", Text: framesOf(a, d)})),
		withDisk("another file", allButSound, disk(impl.File{Name: "new", Text: framesOf(a, d)})),
		withDisk("among others", allTrue, withFile(fullDisk(29), impl.File{Name: "kept", Text: framesOf(a, d), Kept: 3})),
		withDisk("too many others", allButSound, withFile(fullDisk(30), impl.File{Name: "kept", Text: framesOf(a, d), Kept: 3})),
		withDisk("a disk that is not right", allButSound, disk(impl.File{Name: "kept", Text: framesOf(a, d), Kept: -1})),
	}
	for _, e := range []impl.Entry{a, d} {
		for _, other := range otherEntries(e) {
			if entryOkByRule(other) {
				list = append(list, withDisk("one field is another", allButSound, keptFile(strings.Replace(framesOf(a, d), framesOf(e), framesOf(other), 1))))
			}
		}
	}
	wantChanged(t, list)
	for _, broken := range brokenDisks() {
		wantChanged(t, []changedWorld{withDisk("a disk that is not right", allButSound, broken)})
	}
	// Where no entry is fresh, nothing is asked of the file; not even that the disk is right.
	for _, d := range append(brokenDisks(), impl.Disk{}, keptFile(""), keptFile(framesOf(g))) {
		wantChanged(t, []changedWorld{
			{"later", allTrue, func(w *impl.World) { w.Proxy.Now, w.Disk = 60, d }},
			{"no entries", allTrue, func(w *impl.World) { w.Proxy.Entries, w.Proxy.Policy, w.Disk = nil, staying("", ""), d }},
			{"to come", allTrue, func(w *impl.World) {
				for i := range w.Proxy.Entries {
					w.Proxy.Entries[i].Stored += 50
				}
				w.Bodies, w.Disk = append(w.Bodies, w.Proxy.Entries...), d
			}},
		})
	}
}

// One who waits is told nothing of by the State of its fetch.
func TestWhoWaitsForWhatHasEnded(t *testing.T) {
	wantChanged(t, []changedWorld{
		{"it is done", allTrue, func(w *impl.World) { w.Proxy.Fetches[0].State = 2 }},
		{"it is broken", allTrue, func(w *impl.World) { w.Proxy.Fetches[0].State = 3 }},
		{"done, of one that is open", "one stored", func(w *impl.World) { w.Proxy.Fetches[1].State = 1 }},
		{"done, of one that is broken", "one stored", func(w *impl.World) { w.Proxy.Fetches[1].State = 3 }},
		{"failed, of one that is open", "one stored", func(w *impl.World) { w.Proxy.Fetches[2].State = 1 }},
		{"failed, of one that is done", "one stored", func(w *impl.World) { w.Proxy.Fetches[2].State = 2 }},
	})
}

// worldChanges turn one thing each of a world.
func worldChanges(w impl.World) []func(w *impl.World) {
	var list []func(w *impl.World)
	add := func(change func(w *impl.World)) { list = append(list, change) }
	for i := range w.Proxy.Clients {
		for _, n := range []int{-1, 0, 1, 2, 3, 4, 21} {
			add(func(w *impl.World) { w.Proxy.Clients[i].State = n })
			add(func(w *impl.World) { w.Proxy.Clients[i].Fetch = n })
			add(func(w *impl.World) { w.Proxy.Clients[i].From += n - 2 })
			add(func(w *impl.World) { w.Proxy.Clients[i].Age += n - 2 })
		}
		for _, text := range []string{"", "a", "x", w.Proxy.Clients[i].Got + "x", w.Proxy.Clients[i].Got[:len(w.Proxy.Clients[i].Got)/2]} {
			add(func(w *impl.World) { w.Proxy.Clients[i].Got = text })
			add(func(w *impl.World) { w.Proxy.Clients[i].Key = text })
		}
	}
	for i := range w.Proxy.Fetches {
		for n := range 5 {
			add(func(w *impl.World) { w.Proxy.Fetches[i].State = n })
		}
		add(func(w *impl.World) { w.Proxy.Fetches[i].Text += "x" })
		add(func(w *impl.World) { w.Proxy.Fetches[i].Key = w.Proxy.Fetches[0].Key })
	}
	for i, e := range w.Proxy.Entries {
		for _, other := range otherEntries(e)[:12] {
			add(func(w *impl.World) { w.Proxy.Entries[i] = other })
		}
	}
	for i, e := range w.Bodies {
		for _, other := range otherEntries(e)[:12] {
			add(func(w *impl.World) { w.Bodies[i] = other })
		}
		add(func(w *impl.World) { w.Bodies = slices.Delete(w.Bodies, i, i+1) })
	}
	for _, e := range append(w.Bodies, entry("a", 1, 900, "other")) {
		add(func(w *impl.World) { w.Disk = keptFile(framesOf(append(findByRule(w.Disk), e)...)) })
	}
	for range 2 {
		add(func(w *impl.World) { w.Proxy.Fetches = append(w.Proxy.Fetches, begun("zz", ""), begun("zz", "")) })
	}
	add(func(w *impl.World) { w.Disk = impl.Disk{} })
	add(func(w *impl.World) { w.Proxy.Now = 0 })
	add(func(w *impl.World) { w.Proxy.Now += 40 })
	return list
}

// The worlds of lives in which one thing is another: not all of the four are true of most of them.
func TestTruthsOfTurnedWorlds(t *testing.T) {
	counts := map[string]int{}
	for seed := range uint32(60) {
		w, _ := impl.RunLife(drawnLife(seed*101+7, 30+int(seed)%40))
		for _, change := range worldChanges(w) {
			turned := cloneWorld(w)
			change(&turned)
			counts[wantTruthsByRule(t, "turned", turned).told()]++
		}
	}
	for _, told := range []string{allTrue, allButSound, "one got", "one stored", "got stored"} {
		if counts[told] < 30 {
			t.Errorf("%q: %d times: the draws tell too little: %v", told, counts[told], counts)
		}
	}
}

// drawnWorld is of few values, so that what it tells is true now and then.
func drawnWorld(draws string) impl.World {
	next := 0
	draw := func(count int) int {
		next++
		return int(draws[next-1]) % count
	}
	text := func() string { return []string{"", "x", "xy"}[draw(3)] }
	key := func() string { return []string{"a", "b"}[draw(2)] }
	body := func() impl.Entry { return entry(key(), draw(2), draw(3)+draw(2), text()) }
	w := impl.World{Proxy: impl.Proxy{Now: draw(4)}}
	for range draw(4) {
		w.Bodies = append(w.Bodies, body())
	}
	for i := range draw(3) {
		e := body()
		if i < len(w.Bodies) && draw(4) > 0 {
			e = w.Bodies[i]
		}
		w.Proxy.Entries = append(w.Proxy.Entries, e)
	}
	w.Proxy.Entries = lastByRule(w.Proxy.Entries)
	w.Proxy.Policy = staying(strings.Join(keysOfEntries(w.Proxy.Entries), " "), "")
	for range draw(4) {
		w.Proxy.Fetches = append(w.Proxy.Fetches, fetched(key(), text(), []int{1, 2, 3, 1, 2, 3, 0, 4}[draw(8)], 0, 0))
	}
	for id := range draw(3) {
		c := impl.Client{Id: id + 1, Key: key(), Fetch: draw(5), State: []int{2, 1, 3, 2, 2, 0}[draw(6)], Got: text(), From: draw(2), Age: draw(4) - 1}
		if c.Fetch > 0 && c.Fetch <= len(w.Proxy.Fetches) && draw(3) > 0 {
			c.Key, c.Got = w.Proxy.Fetches[c.Fetch-1].Key, w.Proxy.Fetches[c.Fetch-1].Text[:draw(2)*len(w.Proxy.Fetches[c.Fetch-1].Text)]
		}
		w.Proxy.Clients = append(w.Proxy.Clients, c)
	}
	w.Disk = keptFile(framesOf(slices.DeleteFunc(slices.Concat(w.Bodies[:draw(len(w.Bodies)+1)], w.Proxy.Entries[draw(len(w.Proxy.Entries)+1):]), func(e impl.Entry) bool { return !entryOkByRule(e) })...))
	return w
}

func TestTruthsOfDrawnWorlds(t *testing.T) {
	counts := map[string]int{}
	for seed := range uint32(40000) {
		counts[wantTruthsByRule(t, "drawn", drawnWorld(drawn(90, seed*103+3))).told()]++
	}
	for _, told := range []string{allTrue, allButSound, "one got", "one stored", "got stored", "one", "got", "stored", ""} {
		if counts[told] < 30 {
			t.Errorf("%q: %d times: the draws tell too little: %v", told, counts[told], counts)
		}
	}
}

// oddWorlds are of whatever there may be, in lists of each size.
func oddWorlds() []impl.World {
	list := []impl.World{
		{}, {Proxy: impl.Proxy{Entries: []impl.Entry{}, Fetches: []impl.Fetch{}, Clients: []impl.Client{}}, Disk: impl.Disk{Files: []impl.File{}}, Codes: []int{}, Bodies: []impl.Entry{}},
		{Proxy: impl.Proxy{Entries: make([]impl.Entry, 3), Fetches: make([]impl.Fetch, 3), Clients: make([]impl.Client, 3)}, Disk: impl.Disk{Files: make([]impl.File, 3)}, Codes: make([]int, 3), Bodies: make([]impl.Entry, 3)},
		{Bodies: make([]impl.Entry, 1000), Proxy: impl.Proxy{Clients: slices.Repeat([]impl.Client{{State: 2, Age: -1}}, 500), Entries: make([]impl.Entry, 500), Fetches: make([]impl.Fetch, 500)}},
	}
	for _, n := range []int{math.MinInt, math.MinInt + 1, -1, 0, 1, 2, 3, impl.MaxNumber, impl.MaxNumber + 1, 1 << 32, math.MaxInt - 1, math.MaxInt} {
		text := letters(max(0, min(n, 401)))
		list = append(list, impl.World{
			Proxy: impl.Proxy{
				Now: n, Hits: n, Entries: []impl.Entry{entry(text, n, n, text)}, Policy: impl.Policy{Window: []string{text}, Sketch: filledSketch(n, n)},
				Fetches: []impl.Fetch{fetched(text, text, n, n, n), fetched(text, text, 1, n, n)},
				Clients: []impl.Client{{Id: n, Key: text, Fetch: n, From: n, State: n, Got: text, Age: n}, {Id: n, Key: text, Fetch: 2, From: n, State: 1, Got: text, Age: n}},
			},
			Disk: disk(impl.File{Name: "kept", Text: text, Kept: n}), Codes: []int{n}, Bodies: []impl.Entry{entry(text, n, n, text)},
		})
	}
	for i, p := range someProxies() {
		list = append(list, impl.World{Proxy: p, Disk: disksToFindOn()[i%30], Bodies: append(rightEntries(), p.Entries...)})
	}
	for _, e := range wrongEntries() {
		list = append(list, impl.World{Proxy: impl.Proxy{Now: 6, Policy: staying("/a", ""), Entries: []impl.Entry{e}}, Bodies: []impl.Entry{e}, Disk: keptFile(framesOf(e))})
	}
	return list
}

func TestTruthsOfOddWorlds(t *testing.T) {
	for i, w := range oddWorlds() {
		wantTruthsByRule(t, fmt.Sprintf("odd world %d", i), w)
	}
}

// worldRoom is a world with texts of its own and room behind each of its lists, where nothing may be written.
type worldRoom struct {
	world  impl.World
	proxy  proxyRoom
	files  []impl.File
	codes  []int
	bodies []impl.Entry
}

func roomyWorld(w impl.World) worldRoom {
	r := worldRoom{proxy: roomyProxy(w.Proxy), codes: append(slices.Clone(w.Codes), -61, -62)}
	list, bodies := roomyEntries(w.Bodies)
	files, room := roomyDisk(w.Disk)
	r.bodies, r.files = bodies, room
	r.world = impl.World{Proxy: r.proxy.proxy, Disk: files, Codes: r.codes[:len(w.Codes)], Bodies: list}
	return r
}

func (r worldRoom) same(other worldRoom) bool {
	return sameWorld(r.world, other.world) && r.proxy.same(other.proxy) && slices.Equal(r.files, other.files) &&
		slices.Equal(r.codes, other.codes) && slices.Equal(r.bodies, other.bodies)
}

// worldsToTry are sound and not, none of them very large.
func worldsToTry() []impl.World {
	list := append([]impl.World{busyWorld()}, oddWorlds()[:16]...)
	for _, events := range livesToTry() {
		w, _ := impl.RunLife(events)
		list = append(list, w)
	}
	for seed := range uint32(200) {
		list = append(list, drawnWorld(drawn(90, seed*107+5)))
	}
	for i, change := range worldChanges(busyWorld()) {
		if i%3 == 0 {
			w := busyWorld()
			change(&w)
			list = append(list, w)
		}
	}
	return list
}

// Asked twice, each answers the same, and nothing that is handed in is another one then, nor kept.
func TestTruthsChangeNothing(t *testing.T) {
	for _, w := range worldsToTry() {
		given, untouched := roomyWorld(w), roomyWorld(w)
		first, again := truthsOf(given.world), truthsOf(given.world)
		if first != again || first != truthsByRule(w) {
			t.Fatalf("told %q, then %q of\n%s", first.told(), again.told(), toldWorld(w))
		}
		if !given.same(untouched) {
			t.Fatalf("what was handed in is changed: %s\nit was %s", toldWorld(given.world), toldWorld(untouched.world))
		}
		spoilProxy(given.world.Proxy)
		spoilEntries(given.world.Bodies)
		if later := truthsOf(w); later != first {
			t.Fatalf("told %q, then %q of\n%s", first.told(), later.told(), toldWorld(w))
		}
	}
}

// Many may ask of one world at the same time.
func TestTruthsAskedAtOnce(t *testing.T) {
	worlds := worldsToTry()
	faults := make([]string, len(worlds))
	var all sync.WaitGroup
	for i, w := range worlds {
		for range 2 {
			all.Go(func() {
				for range 5 {
					truthsOf(w)
				}
			})
		}
		all.Go(func() {
			if got, want := truthsOf(w), truthsByRule(w); got != want {
				faults[i] = got.told()
			}
		})
	}
	all.Wait()
	for i, fault := range faults {
		if fault != "" {
			t.Errorf("at the same time as others %q is told of\n%s", fault, toldWorld(worlds[i]))
		}
	}
}
