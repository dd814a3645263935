package tests

import (
	"fmt"
	"math"
	"slices"
	"strings"
	"sync"
	"testing"

	"loop.example/g00245/impl"
)

func askEvent(id int, key string) impl.Event   { return impl.Event{Kind: 1, Id: id, Text: key} }
func partEvent(at int, part string) impl.Event { return impl.Event{Kind: 2, Id: at, Text: part} }
func closeEvent(at, n int) impl.Event          { return impl.Event{Kind: 3, Id: at, N: n} }
func breakEvent(at int) impl.Event             { return impl.Event{Kind: 4, Id: at} }
func passEvent(n int) impl.Event               { return impl.Event{Kind: 5, N: n} }
func leaveEvent(id int) impl.Event             { return impl.Event{Kind: 6, Id: id} }
func fallEvent(left ...int) impl.Event         { return impl.Event{Kind: 7, Left: left} }

func toldEvents(events []impl.Event) string {
	var parts []string
	for i, e := range events {
		parts = append(parts, fmt.Sprintf("%d {kind %d id %d text %.50q n %d left %v}", i, e.Kind, e.Id, e.Text, e.N, e.Left))
	}
	return strings.Join(parts, "\n  ")
}

func toldWorld(w impl.World) string {
	return fmt.Sprintf("codes %v\nbodies %s\ndisk %s\n%s", w.Codes, toldEntries(w.Bodies), told(w.Disk), toldProxy(w.Proxy))
}

func cloneWorld(w impl.World) impl.World {
	return impl.World{Proxy: cloneProxy(w.Proxy), Disk: impl.Disk{Files: slices.Clone(w.Disk.Files)}, Codes: slices.Clone(w.Codes), Bodies: slices.Clone(w.Bodies)}
}

func sameWorld(a, b impl.World) bool {
	return sameProxy(a.Proxy, b.Proxy) && sameDisk(a.Disk, b.Disk) && slices.Equal(a.Codes, b.Codes) && slices.Equal(a.Bodies, b.Bodies)
}

func newProxyByRule(now int) impl.Proxy {
	return impl.Proxy{Now: now, Policy: staying("", "")}
}

// restoredByRule is the document's text of Restored.
func restoredByRule(now int, list []impl.Entry) impl.Proxy {
	p := newProxyByRule(now)
	for _, e := range list {
		if freshByRule(e, now) {
			p = storeByRule(p, e)
		}
	}
	return p
}

func eventOkByRule(e impl.Event) bool {
	return slices.Contains([]int{1, 2, 3, 4, 5, 6, 7}, e.Kind) && -1 < e.Id && e.Id < 31 && len(e.Text) < 61 && -1 < e.N && len(e.Left) < 5
}

// lifeByRule is the document's text of a life: what is in the file is told as a list of entries, apart from the disk.
type lifeByRule struct {
	world impl.World
	laid  bool
	kept  []impl.Entry
}

func newLifeByRule() *lifeByRule {
	return &lifeByRule{world: impl.World{Proxy: newProxyByRule(1)}}
}

// stepOf is the call on a proxy that an event of the first six is.
func stepOf(e impl.Event) proxyStep {
	return []proxyStep{
		{}, askStep(e.Id, e.Text), partStep(e.Id, e.Text), closeStep(e.Id, moduloByRule(e.N, 1000000)), breakStep(e.Id), passStep(e.N), awayStep(e.Id),
	}[e.Kind]
}

func (l *lifeByRule) happens(e impl.Event) int {
	code := 0
	if e.Kind == 7 {
		l.falls()
	} else {
		ahead := l.world.Proxy
		step := stepOf(e)
		l.world.Proxy, code = step.byRule(ahead)
		if e.Kind == 3 && code == 0 && step.life > 0 {
			stored := entry(ahead.Fetches[e.Id].Key, ahead.Now, step.life, ahead.Fetches[e.Id].Text)
			l.world.Bodies = append(l.world.Bodies, stored)
			l.kept, l.laid = append(l.kept, stored), true
		}
		if e.Kind == 6 && len(ahead.Clients) == len(l.world.Proxy.Clients) {
			code = 1
		}
	}
	l.world.Codes = append(l.world.Codes, code)
	if l.laid {
		l.world.Disk = keptFile(framesOf(l.kept...))
	}
	return code
}

// falls loses nothing that is in the file, as all of it is kept; what is fresh no more goes when the file is laid anew.
func (l *lifeByRule) falls() {
	now := l.world.Proxy.Now
	var fresh []impl.Entry
	for _, e := range lastByRule(l.kept) {
		if freshByRule(e, now) {
			fresh = append(fresh, e)
		}
	}
	l.kept, l.laid = fresh, true
	l.world.Proxy = restoredByRule(now, fresh)
}

func worldByRule(events []impl.Event) (impl.World, bool) {
	l := newLifeByRule()
	for _, e := range events {
		if len(events) > 70 || !eventOkByRule(e) {
			return impl.World{}, false
		}
	}
	for _, e := range events {
		l.happens(e)
	}
	return l.world, true
}

func wantWorld(t *testing.T, what string, events []impl.Event, want impl.World) impl.World {
	t.Helper()
	got, ok := impl.RunLife(events)
	if !ok || !sameWorld(got, want) {
		t.Fatalf("%s:\n  %s\n%v\n%s\nwant true\n%s", what, toldEvents(events), ok, toldWorld(got), toldWorld(want))
	}
	return got
}

func wantNoWorld(t *testing.T, what string, events []impl.Event) {
	t.Helper()
	if got, ok := impl.RunLife(events); ok || !sameWorld(got, impl.World{}) {
		t.Errorf("%s:\n  %s\n%v\n%s\nwant nothing, false", what, toldEvents(events), ok, toldWorld(got))
	}
}

// wantLife holds a life against the rule, and what it comes to as right.
func wantLife(t *testing.T, what string, events ...impl.Event) impl.World {
	t.Helper()
	want, _ := worldByRule(events)
	got := wantWorld(t, what, events, want)
	if len(got.Codes) != len(events) || !impl.ProxyOk(got.Proxy) || !impl.AllKept(got.Disk) {
		t.Fatalf("%s:\n  %s\n%d codes, or not right, or not kept: %s", what, toldEvents(events), len(got.Codes), toldWorld(got))
	}
	return got
}

// wantLifeThrough holds each beginning of a life, too: what is told of it stays as it is behind more events.
func wantLifeThrough(t *testing.T, what string, events ...impl.Event) impl.World {
	t.Helper()
	whole := wantLife(t, what, events...)
	for size := range events {
		cut := wantLife(t, what, events[:size]...)
		if !slices.Equal(cut.Codes, whole.Codes[:size]) || !slices.Equal(cut.Bodies, whole.Bodies[:len(cut.Bodies)]) {
			t.Fatalf("%s: %v and %s behind %d events, %v and %s in the end", what, cut.Codes, toldEntries(cut.Bodies), size, whole.Codes, toldEntries(whole.Bodies))
		}
	}
	return whole
}

func wantCodes(t *testing.T, what string, events []impl.Event, want ...int) impl.World {
	t.Helper()
	w := wantLifeThrough(t, what, events...)
	if !slices.Equal(w.Codes, want) {
		t.Fatalf("%s:\n  %s\ncodes %v; want %v", what, toldEvents(events), w.Codes, want)
	}
	return w
}

func wantRestored(t *testing.T, what string, now int, list ...impl.Entry) impl.Proxy {
	t.Helper()
	got, want := impl.Restored(now, list), restoredByRule(now, list)
	if !sameProxy(got, want) {
		t.Fatalf("%s: Restored of %d and %s\n%s\nwant\n%s", what, now, toldEntries(list), toldProxy(got), toldProxy(want))
	}
	return got
}

// wantSeats tells who is in which list; the entries are of just these.
func wantSeats(t *testing.T, what string, p impl.Proxy, window, main string) {
	t.Helper()
	keys := append(strings.Fields(window), strings.Fields(main)...)
	slices.Sort(keys)
	if !slices.Equal(p.Policy.Window, strings.Fields(window)) || !slices.Equal(p.Policy.Main, strings.Fields(main)) || !slices.Equal(keysOfEntries(p.Entries), keys) {
		t.Fatalf("%s: want %q and %q: %s", what, window, main, toldProxy(p))
	}
}

func keysOfEntries(list []impl.Entry) []string {
	var keys []string
	for _, e := range list {
		keys = append(keys, e.Key)
	}
	return keys
}

// storedEvents are what stores a thing: one asks, it comes, is done, and who asked leaves; at is the place of its fetch.
func storedEvents(at int, key, body string, life int) []impl.Event {
	events := []impl.Event{askEvent(1, key)}
	if body != "" {
		events = append(events, partEvent(at, body))
	}
	return append(events, closeEvent(at, life), leaveEvent(1))
}

// storedOnes are those of several, one behind the other, from a proxy without fetches on.
func storedOnes(list ...impl.Entry) []impl.Event {
	var events []impl.Event
	for at, e := range list {
		events = append(events, storedEvents(at, e.Key, e.Body, e.Life)...)
	}
	return events
}

func TestLifeConstants(t *testing.T) {
	if got := []int{impl.EvAsk, impl.EvPart, impl.EvClose, impl.EvBreak, impl.EvPass, impl.EvLeave, impl.EvFall}; !slices.Equal(got, []int{1, 2, 3, 4, 5, 6, 7}) {
		t.Errorf("the Kinds are %v", got)
	}
}

func wantEventOk(t *testing.T, e impl.Event, want bool) {
	t.Helper()
	if got := impl.EventOk(e); got != want {
		t.Errorf("EventOk is %v of %s", got, toldEvents([]impl.Event{e}))
	}
}

// everyKindOfEvent are plain ones of each Kind.
func everyKindOfEvent() []impl.Event {
	return []impl.Event{askEvent(1, "/a"), partEvent(0, "hi"), closeEvent(0, 9), breakEvent(0), passEvent(3), leaveEvent(1), fallEvent(1, 2)}
}

func TestEventOkAtEachLimit(t *testing.T) {
	for _, base := range append(everyKindOfEvent(), impl.Event{Kind: 7, Id: 30, Text: letters(60), N: math.MaxInt, Left: []int{1, 2, 3, 4}}) {
		wantEventOk(t, base, true)
		for _, l := range limitsOf(1, 7) {
			e := base
			e.Kind = l.n
			wantEventOk(t, e, l.ok)
		}
		for _, l := range limitsOf(0, 30) {
			e := base
			e.Id = l.n
			wantEventOk(t, e, l.ok)
		}
		for _, l := range []limit{{math.MinInt, false}, {-2, false}, {-1, false}, {0, true}, {1, true}, {999999, true}, {1000000, true}, {1000001, true}, {1 << 32, true}, {math.MaxInt, true}} {
			e := base
			e.N = l.n
			wantEventOk(t, e, l.ok)
		}
		for _, l := range []limit{{0, true}, {1, true}, {30, true}, {31, true}, {59, true}, {60, true}, {61, false}, {62, false}, {256, false}, {20001, false}} {
			e := base
			e.Text = drawn(l.n, 9)
			wantEventOk(t, e, l.ok)
		}
		for count := range 12 {
			e := base
			e.Left = slices.Repeat([]int{math.MinInt}, count)
			wantEventOk(t, e, count < 5)
		}
	}
	wantEventOk(t, impl.Event{}, false)
	wantEventOk(t, impl.Event{Kind: 1}, true)
	// Nothing is asked of what is left, nor of what another Kind needs.
	wantEventOk(t, impl.Event{Kind: 1, Id: 0, Text: "\x00\xff", N: 7, Left: []int{math.MinInt, -1, math.MaxInt, 0}}, true)
	wantEventOk(t, impl.Event{Kind: 7, Left: []int{}}, true)
}

// Each mix of what is within, at and beyond each limit.
func TestEventOkByRule(t *testing.T) {
	for _, kind := range []int{-1, 0, 1, 2, 3, 4, 5, 6, 7, 8} {
		for _, id := range []int{-1, 0, 1, 30, 31} {
			for _, size := range []int{0, 1, 60, 61} {
				for _, n := range []int{-1, 0, 1, math.MaxInt} {
					for left := range 6 {
						e := impl.Event{Kind: kind, Id: id, Text: letters(size), N: n, Left: make([]int, left)}
						wantEventOk(t, e, eventOkByRule(e))
					}
				}
			}
		}
	}
}

// wrongEvents break the rule in one way each, but for the last one.
func wrongEvents() []impl.Event {
	var list []impl.Event
	for _, e := range everyKindOfEvent() {
		list = append(list,
			impl.Event{Kind: 0, Id: e.Id, Text: e.Text, N: e.N, Left: e.Left},
			impl.Event{Kind: 8, Id: e.Id, Text: e.Text, N: e.N, Left: e.Left},
			impl.Event{Kind: -e.Kind, Id: e.Id, Text: e.Text, N: e.N, Left: e.Left},
			impl.Event{Kind: e.Kind, Id: -1, Text: e.Text, N: e.N, Left: e.Left},
			impl.Event{Kind: e.Kind, Id: 31, Text: e.Text, N: e.N, Left: e.Left},
			impl.Event{Kind: e.Kind, Id: e.Id, Text: letters(61), N: e.N, Left: e.Left},
			impl.Event{Kind: e.Kind, Id: e.Id, Text: e.Text, N: -1, Left: e.Left},
			impl.Event{Kind: e.Kind, Id: e.Id, Text: e.Text, N: e.N, Left: make([]int, 5)},
		)
	}
	return append(list, impl.Event{}, impl.Event{Kind: math.MaxInt, Id: math.MinInt, Text: letters(20001), N: math.MinInt, Left: make([]int, 100)})
}

// One event that is not EventOk, at whatever place among others: no life.
func TestLivesWithAWrongEvent(t *testing.T) {
	for _, wrong := range wrongEvents() {
		wantNoWorld(t, "one wrong event", []impl.Event{wrong})
		for place := range 8 {
			wantNoWorld(t, "a wrong one among others", slices.Insert(everyKindOfEvent(), place, wrong))
		}
		long := slices.Repeat(everyKindOfEvent(), 10)
		for _, place := range []int{0, 1, 35, 68, 69} {
			events := slices.Clone(long)
			events[place] = wrong
			wantNoWorld(t, "a wrong one among 70", events)
		}
		wantNoWorld(t, "a wrong one beyond 70", append(long, wrong))
	}
}

func TestHowLongALifeMayBe(t *testing.T) {
	wantWorld(t, "no event", nil, impl.World{Proxy: impl.ProxyNew()})
	wantWorld(t, "no event", []impl.Event{}, impl.World{Proxy: impl.ProxyNew()})
	for _, e := range everyKindOfEvent() {
		for _, size := range []int{1, 2, 69, 70} {
			if w := wantLife(t, "one event again and again", slices.Repeat([]impl.Event{e}, size)...); len(w.Codes) != size {
				t.Errorf("%d codes of %d events", len(w.Codes), size)
			}
		}
		for _, size := range []int{71, 72, 140, 256, 65536 + 7} {
			wantNoWorld(t, "too many", slices.Repeat([]impl.Event{e}, size))
		}
	}
	wantLifeThrough(t, "70 of each Kind", slices.Repeat(everyKindOfEvent(), 10)...)
	wantNoWorld(t, "71 of each Kind", append(slices.Repeat(everyKindOfEvent(), 10), passEvent(1)))
}

// A life of one event: what is told of each Kind where nothing is there yet.
func TestLivesOfOneEvent(t *testing.T) {
	fresh := impl.World{Proxy: newProxyByRule(1)}
	withCode := func(code int) impl.World {
		w := cloneWorld(fresh)
		w.Codes = []int{code}
		return w
	}
	asked := withCode(0)
	asked.Proxy.Policy.Sketch = bumpByRule(fresh.Proxy.Policy.Sketch, "/a")
	asked.Proxy.Fetches = []impl.Fetch{begun("/a", "")}
	asked.Proxy.Clients = []impl.Client{client(9, "/a", 1, 1, "")}
	wantWorld(t, "one asks", []impl.Event{{Kind: impl.EvAsk, Id: 9, Text: "/a", N: 5, Left: []int{3}}}, asked)
	for id := range 31 {
		wantWorld(t, "one without a key asks", []impl.Event{{Kind: impl.EvAsk, Id: id}}, withCode(1))
		wantWorld(t, "a part", []impl.Event{{Kind: impl.EvPart, Id: id, Text: "hi"}}, withCode(1))
		wantWorld(t, "a close", []impl.Event{{Kind: impl.EvClose, Id: id, Text: "hi", N: 9}}, withCode(1))
		wantWorld(t, "a break", []impl.Event{{Kind: impl.EvBreak, Id: id}}, withCode(1))
		wantWorld(t, "one leaves who is not there", []impl.Event{{Kind: impl.EvLeave, Id: id}}, withCode(1))
		if id < 1 || id > 9 {
			wantWorld(t, "an Id that is none", []impl.Event{{Kind: impl.EvAsk, Id: id, Text: "/a"}}, withCode(1))
		}
	}
	passed := withCode(0)
	passed.Proxy.Now = 8
	wantWorld(t, "time passes", []impl.Event{{Kind: impl.EvPass, Id: 4, Text: "hi", N: 7}}, passed)
	fallen := withCode(0)
	fallen.Disk = keptFile("")
	for _, left := range [][]int{nil, {}, {0}, {5}, {-1}, {1, 2, 3, 4}, {math.MinInt, math.MaxInt}} {
		wantWorld(t, "the power goes", []impl.Event{{Kind: impl.EvFall, Id: 3, Text: "hi", N: 6, Left: left}}, fallen)
	}
}

// A few events told in numbers and texts, one by one.
func TestLifeKnown(t *testing.T) {
	events := []impl.Event{
		askEvent(1, "/a"), askEvent(2, "/a"), partEvent(0, "hi"), passEvent(4), closeEvent(0, 9), // stored in 5, for 9
		askEvent(3, "/b"), partEvent(1, "more"), leaveEvent(2), leaveEvent(2), passEvent(6), askEvent(2, "/a"), // in 11, 6 old
	}
	w := wantCodes(t, "a few", events, 0, 0, 0, 0, 0, 0, 0, 0, 1, 0, 0)
	hi := entry("/a", 5, 9, "hi")
	want := impl.Proxy{
		Now: 11, Hits: 1, Entries: []impl.Entry{hi}, Policy: staying("/a", ""),
		Fetches: []impl.Fetch{fetched("/a", "hi", 2, 9, 5), begun("/b", "more")},
		Clients: []impl.Client{client(1, "/a", 1, 2, "hi"), answered(2, "/a", 5, "hi", 6), client(3, "/b", 2, 1, "more")},
	}
	for _, key := range []string{"/a", "/a", "/a", "/b", "/a"} {
		want.Policy.Sketch = bumpByRule(want.Policy.Sketch, key)
	}
	if !sameProxy(w.Proxy, want) || !slices.Equal(w.Bodies, []impl.Entry{hi}) || !sameDisk(w.Disk, keptFile(framesOf(hi))) {
		t.Fatalf("%s\nwant\n%s", toldWorld(w), toldProxy(want))
	}
	// The power goes, twice: in 11 the thing is fresh still, in 14 it is so no more.
	w = wantCodes(t, "the power goes", append(events, fallEvent(), askEvent(1, "/a"), leaveEvent(3)), 0, 0, 0, 0, 0, 0, 0, 0, 1, 0, 0, 0, 0, 1)
	want = impl.Proxy{Now: 11, Hits: 1, Entries: []impl.Entry{hi}, Policy: staying("/a", ""), Clients: []impl.Client{answered(1, "/a", 5, "hi", 6)}}
	want.Policy.Sketch = bumpByRule(bumpByRule(want.Policy.Sketch, "/a"), "/a")
	if !sameProxy(w.Proxy, want) || !slices.Equal(w.Bodies, []impl.Entry{hi}) || !sameDisk(w.Disk, keptFile(framesOf(hi))) {
		t.Fatalf("%s\nwant\n%s", toldWorld(w), toldProxy(want))
	}
	w = wantCodes(t, "the power goes late", append(events, passEvent(3), fallEvent(9, 9, 9, 9)), 0, 0, 0, 0, 0, 0, 0, 0, 1, 0, 0, 0, 0)
	if !sameProxy(w.Proxy, newProxyByRule(14)) || !slices.Equal(w.Bodies, []impl.Entry{hi}) || !sameDisk(w.Disk, keptFile("")) {
		t.Fatalf("%s", toldWorld(w))
	}
}

// What AskFor answers is the code: 0, 1 and 2.
func TestCodesOfAsks(t *testing.T) {
	wantCodes(t, "wrong ones", []impl.Event{askEvent(0, "/a"), askEvent(10, "/a"), askEvent(30, "/a"), askEvent(1, ""), askEvent(1, letters(31)), askEvent(1, letters(60)), askEvent(1, letters(30)), askEvent(9, "\x00")}, 1, 1, 1, 1, 1, 1, 0, 0)
	wantCodes(t, "one who is there", []impl.Event{askEvent(1, "/a"), askEvent(1, "/a"), askEvent(1, "/b"), closeEvent(0, 5), askEvent(1, "/a"), leaveEvent(1), askEvent(1, "/a")}, 0, 1, 1, 0, 1, 0, 0)
	var six []impl.Event
	for id := range 6 {
		six = append(six, askEvent(id+2, "/a"))
	}
	wantCodes(t, "a seventh", append(six, askEvent(1, "/a"), askEvent(9, "/b"), leaveEvent(4), askEvent(9, "/b"), askEvent(1, "/b"), fallEvent(), askEvent(1, "/b")), 0, 0, 0, 0, 0, 0, 1, 1, 0, 0, 1, 0, 0)
	var events []impl.Event
	codes := []int{}
	for i, key := range twoLetters(20) {
		events = append(events, askEvent(i%9+1, key), leaveEvent(i%9+1))
		codes = append(codes, 0, 0)
		if i == 3 {
			events = append(events, partEvent(3, "three"), closeEvent(3, 900))
			codes = append(codes, 0, 0)
		}
	}
	keys := twoLetters(21)
	events = append(events,
		askEvent(1, keys[20]), askEvent(2, keys[19]), askEvent(1, keys[3]), askEvent(3, keys[20]), askEvent(0, keys[20]), askEvent(2, keys[20]),
		breakEvent(5), askEvent(4, keys[5]), askEvent(4, keys[6]), passEvent(900), askEvent(5, keys[3]), fallEvent(), askEvent(5, keys[20]))
	codes = append(codes, 2, 0, 0, 2, 1, 1, 0, 2, 0, 0, 2, 0, 0)
	wantCodes(t, "no room for a fetch", events, codes...)
}

// Of a fetch that is open, of one that is not, of a place that there is not, and of a text that StreamPut would refuse.
func TestCodesOfFetches(t *testing.T) {
	two := []impl.Event{askEvent(1, "/a"), askEvent(2, "/b")}
	for _, act := range []func(at int) impl.Event{
		func(at int) impl.Event { return partEvent(at, "x") },
		func(at int) impl.Event { return closeEvent(at, 0) },
		func(at int) impl.Event { return closeEvent(at, 7) },
		breakEvent,
	} {
		for at := range 31 {
			code := 1
			if at < 2 {
				code = 0
			}
			wantCodes(t, "open ones", append(slices.Clone(two), act(at)), 0, 0, code)
			wantCodes(t, "done ones", append(slices.Clone(two), closeEvent(0, 5), closeEvent(1, 0), act(at)), 0, 0, 0, 0, 1)
			wantCodes(t, "broken ones", append(slices.Clone(two), breakEvent(0), breakEvent(1), act(at)), 0, 0, 0, 0, 1)
			wantCodes(t, "none any more", append(slices.Clone(two), fallEvent(), act(at)), 0, 0, 0, 1)
		}
	}
	for _, size := range []int{0, 1, 2, 39, 40, 41, 42, 60} {
		code := 1
		if size > 0 && size < 41 {
			code = 0
		}
		w := wantCodes(t, "a part", append(slices.Clone(two), partEvent(1, drawn(size, 3))), 0, 0, code)
		if code == 0 && (w.Proxy.Clients[1].Got != drawn(size, 3) || w.Proxy.Clients[0].Got != "") {
			t.Errorf("%d bytes came: %s", size, toldProxy(w.Proxy))
		}
	}
}

// A body of just MaxBody bytes takes no more; it is stored, kept and found as it came.
func TestLifeOfTheLongestBody(t *testing.T) {
	body := drawn(400, 77)
	events, codes := []impl.Event{askEvent(1, letters(30))}, []int{0}
	for at := 0; at < 400; at += 40 {
		events, codes = append(events, partEvent(0, body[at:at+40])), append(codes, 0)
	}
	events = append(events, partEvent(0, "x"), partEvent(0, letters(40)), closeEvent(0, 999999), passEvent(999), fallEvent(), askEvent(2, letters(30)))
	w := wantCodes(t, "the longest body", events, append(codes, 1, 1, 0, 0, 0, 0)...)
	if w.Proxy.Clients[0].Got != body || w.Proxy.Clients[0].Age != 999 || w.Proxy.Hits != 1 {
		t.Errorf("%s", toldProxy(w.Proxy))
	}
}

// As many of the longest bodies as a life has room for: all of them are in the file.
func TestLifeOfManyLongBodies(t *testing.T) {
	var events []impl.Event
	for at, key := range []string{"a", "b", "c", "d", "e"} {
		events = append(events, askEvent(at+1, key))
		for n := range 10 {
			events = append(events, partEvent(at, drawn(40, uint32(n+10*at))))
		}
		events = append(events, closeEvent(at, 999999))
	}
	w := wantLifeThrough(t, "long bodies", append(events, passEvent(999), fallEvent(), passEvent(5), fallEvent(7))...)
	if len(w.Bodies) != 5 || !slices.Equal(w.Bodies, w.Proxy.Entries) {
		t.Errorf("%s", toldWorld(w))
	}
}

// The Life is N modulo 1000000: what is stored is behind Bodies and in the file; what lives for no time adds nothing.
func TestLifeOfClosed(t *testing.T) {
	for _, c := range []struct{ n, life int }{
		{0, 0}, {1, 1}, {2, 2}, {999998, 999998}, {999999, 999999}, {1000000, 0}, {1000001, 1}, {1000009, 9}, {1999999, 999999}, {2000000, 0}, {2000003, 3},
		{1 << 32, 967296}, {1<<32 - 1, 967295}, {1000000000, 0}, {math.MaxInt, 775807}, {math.MaxInt - 775807, 0}, {math.MaxInt - 775808, 999999},
	} {
		w := wantCodes(t, "a close", []impl.Event{passEvent(6), askEvent(1, "/a"), partEvent(0, "hi"), closeEvent(0, c.n)}, 0, 0, 0, 0)
		if w.Proxy.Fetches[0] != fetched("/a", "hi", 2, c.life, 7) || w.Proxy.Clients[0] != client(1, "/a", 1, 2, "hi") {
			t.Fatalf("N of %d: %s", c.n, toldProxy(w.Proxy))
		}
		if c.life == 0 {
			if len(w.Bodies) > 0 || len(w.Disk.Files) > 0 || len(w.Proxy.Entries) > 0 {
				t.Fatalf("N of %d stores nothing: %s", c.n, toldWorld(w))
			}
			continue
		}
		stored := entry("/a", 7, c.life, "hi")
		if !slices.Equal(w.Bodies, []impl.Entry{stored}) || !slices.Equal(w.Proxy.Entries, w.Bodies) || !sameDisk(w.Disk, keptFile(framesOf(stored))) {
			t.Fatalf("N of %d stores %s: %s", c.n, toldEntry(stored), toldWorld(w))
		}
	}
}

// What is refused stores nothing, also where the fetch at this place was stored, or one of its Key is there.
func TestRefusedClosesStoreNothing(t *testing.T) {
	events := append(storedOnes(entry("/a", 1, 9, "hi")), closeEvent(0, 9), closeEvent(0, 5), closeEvent(1, 9), closeEvent(30, 9), breakEvent(0), closeEvent(0, 9))
	w := wantCodes(t, "closed again", events, 0, 0, 0, 0, 1, 1, 1, 1, 1, 1)
	if stored := []impl.Entry{entry("/a", 1, 9, "hi")}; !slices.Equal(w.Bodies, stored) || !sameDisk(w.Disk, keptFile(framesOf(stored...))) {
		t.Errorf("%s", toldWorld(w))
	}
	w = wantCodes(t, "broken, then closed", []impl.Event{askEvent(1, "/a"), partEvent(0, "hi"), breakEvent(0), closeEvent(0, 9)}, 0, 0, 0, 1)
	if len(w.Bodies) > 0 || len(w.Disk.Files) > 0 {
		t.Errorf("%s", toldWorld(w))
	}
}

// Bodies are all that were stored, in order, also of one Key, also what is out or fresh no more, also ahead of a fall.
func TestBodiesInOrder(t *testing.T) {
	events := append(storedEvents(0, "b", "first", 2), storedEvents(1, "a", "", 5)...)
	events = append(events, passEvent(2))
	events = append(events, storedEvents(2, "b", "first", 2)...)
	events = append(events, storedEvents(3, "c", "nothing", 0)...)
	events = append(events, fallEvent())
	events = append(events, storedEvents(0, "c", "later", 3)...)
	events = append(events, passEvent(2), fallEvent(), askEvent(1, "b"), closeEvent(0, 1))
	w := wantLifeThrough(t, "several", events...)
	want := []impl.Entry{entry("b", 1, 2, "first"), entry("a", 1, 5, ""), entry("b", 3, 2, "first"), entry("c", 3, 3, "later"), entry("b", 5, 1, "")}
	if !slices.Equal(w.Bodies, want) {
		t.Errorf("%s; want %s", toldEntries(w.Bodies), toldEntries(want))
	}
	// In 5 a (stored in 1, for 5) and c (in 3, for 3) were fresh still, so they were laid anew; b came behind them.
	if left := []impl.Entry{want[1], want[3], want[4]}; !sameDisk(w.Disk, keptFile(framesOf(left...))) || !slices.Equal(w.Proxy.Entries, lastByRule(left)) {
		t.Errorf("%s", toldWorld(w))
	}
}

func TestCodesOfTime(t *testing.T) {
	for _, c := range []struct{ n, more int }{{0, 0}, {1, 1}, {998, 998}, {999, 999}, {1000, 0}, {1001, 1}, {1999, 999}, {2000, 0}, {1000000, 0}, {1000999, 999}, {1 << 32, 296}, {math.MaxInt, 807}} {
		w := wantCodes(t, "time passes", []impl.Event{passEvent(c.n), askEvent(1, "/a"), closeEvent(0, 5), passEvent(c.n), passEvent(2)}, 0, 0, 0, 0, 0)
		if w.Proxy.Now != 3+2*c.more || w.Bodies[0].Stored != 1+c.more {
			t.Errorf("N of %d: %s", c.n, toldWorld(w))
		}
	}
	if w := wantLife(t, "as late as it gets", slices.Repeat([]impl.Event{passEvent(999)}, 70)...); w.Proxy.Now != 69931 {
		t.Errorf("now is %d", w.Proxy.Now)
	}
}

func TestCodesOfLeaving(t *testing.T) {
	for id := range 31 {
		code := 1
		if id == 4 || id == 9 {
			code = 0
		}
		w := wantCodes(t, "one leaves", []impl.Event{askEvent(9, "/a"), askEvent(4, "/b"), leaveEvent(id), leaveEvent(id)}, 0, 0, code, 1)
		if len(w.Proxy.Clients) != 1+code || len(w.Proxy.Fetches) != 2 {
			t.Errorf("%d leaves: %s", id, toldProxy(w.Proxy))
		}
	}
	wantCodes(t, "nobody is there behind a fall", []impl.Event{askEvent(9, "/a"), fallEvent(), leaveEvent(9), leaveEvent(0)}, 0, 0, 1, 1)
	// Who waited, who got it and who failed leave alike.
	wantCodes(t, "each", []impl.Event{
		askEvent(1, "/a"), askEvent(2, "/b"), askEvent(3, "/c"), closeEvent(0, 9), breakEvent(1), askEvent(4, "/a"),
		leaveEvent(4), leaveEvent(3), leaveEvent(2), leaveEvent(1), leaveEvent(1), leaveEvent(4),
	}, 0, 0, 0, 0, 0, 0, 0, 0, 0, 0, 1, 1)
}

func someLefts() [][]int {
	return [][]int{nil, {}, {0}, {1}, {7}, {-1}, {math.MinInt}, {math.MaxInt}, {20000, 5}, {3, 2, 1}, {0, 0, 0, 0}, {-1, -2, -3, -4}, {9, 9, 9, 9}, {math.MaxInt, math.MinInt, 0, 1}}
}

// Whatever Left tells: all that a life did to its disk is kept.
func TestFallsLoseNothing(t *testing.T) {
	ahead := append(storedOnes(entry("b", 1, 50, "B"), entry("a", 1, 50, drawn(40, 1))), askEvent(5, "c"), partEvent(2, "never"), askEvent(6, "b"), passEvent(9))
	for _, left := range someLefts() {
		w := wantLifeThrough(t, "a fall", append(slices.Clone(ahead), fallEvent(left...))...)
		want := []impl.Entry{entry("a", 1, 50, drawn(40, 1)), entry("b", 1, 50, "B")}
		if !slices.Equal(w.Proxy.Entries, want) || !sameDisk(w.Disk, keptFile(framesOf(want...))) {
			t.Fatalf("%v: %s", left, toldWorld(w))
		}
		wantSeats(t, "two", w.Proxy, "a b", "")
		if p := w.Proxy; p.Now != 10 || p.Hits != 0 || len(p.Fetches) > 0 || len(p.Clients) > 0 {
			t.Fatalf("the proxy behind a fall: %s", toldProxy(p))
		}
		again := wantLifeThrough(t, "two falls", append(slices.Clone(ahead), fallEvent(left...), fallEvent(left...))...)
		if !sameProxy(again.Proxy, w.Proxy) || !sameDisk(again.Disk, w.Disk) || !slices.Equal(again.Bodies, w.Bodies) {
			t.Fatalf("a second fall changes more: %s", toldWorld(again))
		}
	}
}

func TestFallsOfDisksWithoutEntries(t *testing.T) {
	for _, left := range someLefts() {
		for _, ahead := range [][]impl.Event{nil, {passEvent(7)}, {askEvent(1, "/a"), partEvent(0, "hi")}, {askEvent(1, "/a"), partEvent(0, "hi"), closeEvent(0, 0)}, {askEvent(1, "/a"), closeEvent(0, 3), passEvent(3)}, {fallEvent(left...)}, {askEvent(1, "/a"), breakEvent(0), fallEvent(), passEvent(2)}} {
			w := wantLifeThrough(t, "nothing is there", append(slices.Clone(ahead), fallEvent(left...))...)
			if !sameDisk(w.Disk, keptFile("")) || !sameProxy(w.Proxy, newProxyByRule(w.Proxy.Now)) {
				t.Fatalf("%v: %s", left, toldWorld(w))
			}
		}
	}
}

// Each entry is there as long as its Life, and in the file no longer than till the next fall.
func TestFallsByTime(t *testing.T) {
	ahead := storedOnes(entry("a", 1, 1, "A"), entry("b", 1, 3, "B"), entry("c", 1, 2, "C"), entry("d", 1, 999999, "D"))
	for passed := range 6 {
		w := wantLifeThrough(t, "a fall later", append(slices.Clone(ahead), passEvent(passed), fallEvent(3), passEvent(1), askEvent(1, "c"))...)
		keys := []string{"abcd", "bcd", "bd", "d", "d", "d"}[passed]
		if got := strings.Join(keysOfEntries(impl.FindKept(w.Disk)), ""); got != keys {
			t.Errorf("behind %d the file has %q: %s", passed, got, toldWorld(w))
		}
		if hit := w.Proxy.Hits == 1; hit != (passed == 0) || len(w.Bodies) != 4 {
			t.Errorf("behind %d: %s", passed, toldWorld(w))
		}
	}
}

// Of one Key the last one that was stored is found again, also where it lives no longer than the one ahead of it.
func TestFallsOfOneKeyTwice(t *testing.T) {
	twice := append(storedEvents(0, "a", "old", 1), passEvent(1))
	twice = append(twice, storedEvents(1, "a", "new", 2)...)
	w := wantLifeThrough(t, "stored twice", append(slices.Clone(twice), fallEvent())...)
	if want := []impl.Entry{entry("a", 2, 2, "new")}; !slices.Equal(w.Proxy.Entries, want) || !sameDisk(w.Disk, keptFile(framesOf(want...))) {
		t.Errorf("%s", toldWorld(w))
	}
	// The first c is out, though fresh, when the second comes; the second is over ahead of the fall, and the first stays gone.
	out := append(storedOnes(lettersDown(1, 900)...), storedEvents(7, "c", "late", 1)...)
	w = wantLifeThrough(t, "out, and back", append(out, passEvent(1), fallEvent())...)
	if got := strings.Join(keysOfEntries(impl.FindKept(w.Disk)), ""); got != "abdefg" || len(w.Bodies) != 8 || w.Bodies[7] != entry("c", 1, 1, "late") {
		t.Errorf("the file has %q: %s", got, toldWorld(w))
	}
}

// lettersDown are seven entries from g to a: one more than there is room for.
func lettersDown(stored, life int) []impl.Entry {
	var list []impl.Entry
	for _, key := range []string{"g", "f", "e", "d", "c", "b", "a"} {
		list = append(list, entry(key, stored, life, key+key))
	}
	return list
}

// More entries than there is room for: each is stored in order, and who is out is gone; the file has them all.
func TestFallsWithoutRoom(t *testing.T) {
	list := lettersDown(1, 900)
	ahead := storedOnes(list...)
	w := wantLifeThrough(t, "seven", ahead...)
	wantSeats(t, "as they came", w.Proxy, "b a", "g f e d")
	w = wantLifeThrough(t, "seven, and a fall", append(slices.Clone(ahead), fallEvent())...)
	wantSeats(t, "by their Keys", w.Proxy, "f g", "a b c d")
	if got := strings.Join(keysOfEntries(impl.FindKept(w.Disk)), ""); got != "abcdefg" || len(w.Bodies) != 7 {
		t.Errorf("the file has %q: %s", got, toldWorld(w))
	}
	// What is over makes room for who was out.
	list[5].Life = 3
	ahead = append(storedOnes(list...), passEvent(3), fallEvent())
	w = wantLifeThrough(t, "one of seven is over", ahead...)
	wantSeats(t, "without b", w.Proxy, "f g", "a c d e")
	// A file of 15 entries, all of them fresh.
	var many []impl.Event
	for at := range 15 {
		many = append(many, askEvent(at%9+1, string([]byte{byte('o' - at)})), closeEvent(at, 900), leaveEvent(at%9+1))
	}
	w = wantLifeThrough(t, "fifteen", append(many, fallEvent(), passEvent(4), fallEvent(1))...)
	if len(impl.FindKept(w.Disk)) != 15 || len(w.Proxy.Entries) != 6 || !impl.ProxyOk(w.Proxy) {
		t.Errorf("%s", toldWorld(w))
	}
}

func TestRestoredKnown(t *testing.T) {
	if got := impl.Restored(1, nil); !sameProxy(got, impl.ProxyNew()) {
		t.Errorf("of nothing: %s", toldProxy(got))
	}
	b, a := entry("b", 3, 9, "B"), entry("a", 5, 1, "")
	want := newProxyByRule(5)
	want.Entries = []impl.Entry{a, b}
	want.Policy.Window = []string{"b", "a"}
	want.Policy.Sketch = bumpByRule(bumpByRule(want.Policy.Sketch, "b"), "a")
	if got := wantRestored(t, "two", 5, b, a); !sameProxy(got, want) {
		t.Errorf("%s", toldProxy(got))
	}
	want = newProxyByRule(6)
	want.Entries, want.Policy.Window = []impl.Entry{b}, []string{"b"}
	want.Policy.Sketch = bumpByRule(want.Policy.Sketch, "b")
	if got := wantRestored(t, "one is over", 6, b, a); !sameProxy(got, want) {
		t.Errorf("%s", toldProxy(got))
	}
	if got := wantRestored(t, "none yet", 2, b, a); !sameProxy(got, newProxyByRule(2)) {
		t.Errorf("%s", toldProxy(got))
	}
}

// Whatever the moment: Now is it, and just what is fresh then is there.
func TestRestoredOfEachMoment(t *testing.T) {
	list := []impl.Entry{entry("a", 0, 1, "A"), entry("b", 0, 2, "B"), entry("c", 1, 1, "C"), entry("d", impl.MaxNumber, 1, "D"), entry("e", impl.MaxNumber-1, 2, "E"), entry("f", impl.MaxNumber-1, 1, "F"), entry("g", impl.MaxNumber-5, 999999, "G")}
	for _, c := range []struct {
		now  int
		keys string
	}{
		{0, "ab"}, {1, "bc"}, {2, ""}, {impl.MaxNumber - 6, ""}, {impl.MaxNumber - 5, "g"}, {impl.MaxNumber - 1, "efg"}, {impl.MaxNumber, "deg"},
		{impl.MaxNumber + 1, ""}, {impl.MaxNumber + 2, ""}, {-1, ""}, {-2, ""}, {-impl.MaxNumber, ""}, {math.MinInt, ""}, {math.MinInt + 1, ""}, {math.MaxInt, ""}, {math.MaxInt - 1, ""}, {1 << 32, ""},
	} {
		p := wantRestored(t, "a moment", c.now, list...)
		if got := strings.Join(keysOfEntries(p.Entries), ""); got != c.keys || p.Now != c.now {
			t.Errorf("at %d: %s; want %q", c.now, toldProxy(p), c.keys)
		}
		if ok := c.now >= 1 && c.now <= impl.MaxNumber; impl.ProxyOk(p) != ok {
			t.Errorf("at %d ProxyOk is %v: %s", c.now, !ok, toldProxy(p))
		}
		if none := wantRestored(t, "no entries", c.now); !sameProxy(none, newProxyByRule(c.now)) {
			t.Errorf("at %d: %s", c.now, toldProxy(none))
		}
	}
}

// One Key twice: the later one is there, in the place of the first one among the entries, and last among the seats.
func TestRestoredOfOneKeyTwice(t *testing.T) {
	first, other, second := entry("b", 1, 9, "first"), entry("a", 2, 9, "A"), entry("b", 3, 8, "second")
	p := wantRestored(t, "twice", 4, first, other, second)
	if !slices.Equal(p.Entries, []impl.Entry{other, second}) {
		t.Errorf("%s", toldProxy(p))
	}
	wantSeats(t, "twice", p, "a b", "")
	if got := numbersOf(p.Policy.Sketch, "b"); slices.Min(got) != 2 || p.Policy.Sketch.Added != 3 {
		t.Errorf("b is counted %v: %s", got, toldProxy(p))
	}
	// One that is fresh no more, or not right, does not take the place of one that is.
	for _, passed := range []impl.Entry{entry("b", 1, 3, "over"), entry("b", 5, 9, "not yet"), entry("b", 3, 0, "no life"), entry("b", -1, 9, "wrong"), entry("b", 3, 1000000, "wrong"), entry("b", 3, 9, letters(401))} {
		for _, list := range [][]impl.Entry{{first, passed, other}, {passed, first, other}, {first, other, passed}} {
			p := wantRestored(t, "passed by", 4, list...)
			if !slices.Equal(p.Entries, []impl.Entry{other, first}) || p.Policy.Sketch.Added != 2 {
				t.Errorf("%s of %s", toldProxy(p), toldEntries(list))
			}
		}
	}
	p = wantRestored(t, "often", 4, slices.Repeat([]impl.Entry{first, second}, 40)...)
	if !slices.Equal(p.Entries, []impl.Entry{second}) {
		t.Errorf("%s", toldProxy(p))
	}
}

// Entries that are not right are passed by, as if they were not there.
func TestRestoredOfWrongEntries(t *testing.T) {
	a, b := entry("a", 3, 9, "A"), entry("b", 4, 9, "B")
	want := restoredByRule(5, []impl.Entry{b, a})
	for _, wrong := range wrongEntries() {
		for _, list := range [][]impl.Entry{{wrong, b, a}, {b, wrong, a}, {b, a, wrong}, {wrong, b, wrong, a, wrong}} {
			if got := wantRestored(t, "one that is not right", 5, list...); !sameProxy(got, want) {
				t.Fatalf("%s: %s", toldEntry(wrong), toldProxy(got))
			}
		}
		for _, now := range []int{0, 1, 5, impl.MaxNumber} {
			if got := wantRestored(t, "it alone", now, wrong); !sameProxy(got, newProxyByRule(now)) {
				t.Fatalf("%s: %s", toldEntry(wrong), toldProxy(got))
			}
		}
	}
	for _, right := range rightEntries() {
		p := wantRestored(t, "right ones", right.Stored, right)
		if !slices.Equal(p.Entries, []impl.Entry{right}) {
			t.Errorf("%s", toldProxy(p))
		}
	}
}

// More than there is room for: who is out is gone, whether that is one who came just now or one who was there for long.
func TestRestoredWithoutRoom(t *testing.T) {
	var list []impl.Entry
	for _, key := range strings.Split("abcdefghij", "") {
		list = append(list, entry(key, 1, 9, "body of "+key))
	}
	for _, c := range []struct {
		count        int
		window, main string
	}{
		{0, "", ""}, {1, "a", ""}, {2, "a b", ""}, {3, "b c", "a"}, {4, "c d", "a b"}, {5, "d e", "a b c"}, {6, "e f", "a b c d"},
		{7, "f g", "a b c d"}, {8, "g h", "a b c d"}, {9, "h i", "a b c d"}, {10, "i j", "b c d h"},
	} {
		p := wantRestored(t, "letters", 2, list[:c.count]...)
		wantSeats(t, fmt.Sprintf("%d letters", c.count), p, c.window, c.main)
		if !impl.ProxyOk(p) {
			t.Errorf("%d letters: not right: %s", c.count, toldProxy(p))
		}
	}
	turned := slices.Clone(list[:7])
	slices.Reverse(turned)
	wantSeats(t, "the other way round", wantRestored(t, "turned", 2, turned...), "b a", "g f e d")
	// One who is out comes again: it is there again, with what it has now.
	back := append(slices.Clone(list[:7]), entry("e", 2, 5, "back"))
	p := wantRestored(t, "back again", 2, back...)
	wantSeats(t, "back again", p, "g e", "a b c d")
	if i := slices.Index(p.Entries, entry("e", 2, 5, "back")); i < 0 {
		t.Errorf("%s", toldProxy(p))
	}
	for _, count := range []int{20, 63, 64, 65, 200} {
		var many []impl.Entry
		for i, key := range twoLetters(count) {
			many = append(many, entry(key, i%3, i%4+1, drawn(i%5, uint32(i))))
		}
		for now := range 5 {
			if p := wantRestored(t, "many", now, many...); len(p.Entries) > 6 || now > 0 && !impl.ProxyOk(p) {
				t.Errorf("of %d: %s", count, toldProxy(p))
			}
		}
	}
}

// What a life comes to behind a fall is Restored of what is in its file.
func TestFallIsRestored(t *testing.T) {
	for seed := range uint32(40) {
		events := drawnLife(seed*53+5, 69)
		w := wantLife(t, "ahead of a fall", events...)
		fallen := wantLife(t, "a fall", append(slices.Clone(events), fallEvent(3))...)
		now := w.Proxy.Now
		for _, p := range []impl.Proxy{impl.Restored(now, impl.FindKept(w.Disk)), impl.Restored(now, impl.FindKept(fallen.Disk))} {
			if !sameProxy(p, fallen.Proxy) {
				t.Fatalf("%s\nbehind the fall\n%s", toldProxy(p), toldWorld(fallen))
			}
		}
		if !slices.Equal(fallen.Bodies, w.Bodies) {
			t.Fatalf("a fall stores something: %s, %s", toldEntries(w.Bodies), toldEntries(fallen.Bodies))
		}
	}
}

// The power goes while an entry is kept, or the file laid anew: that is not in a life, but what is done then is the same. The last entry may be lost, the others stay.
func TestRestoredOfWhatIsLeft(t *testing.T) {
	base := storedOnes(entry("b", 1, 50, "B"), entry("a", 1, 2, "A"), entry("c", 1, 50, "C"))
	w := wantLife(t, "three", base...)
	last := entry("b", 2, 40, "the last one")
	acts, _ := impl.KeepActs(last)
	lost, kept := 0, 0
	cutAnywhere(t, w.Disk, acts, func(cut impl.Disk, whole int) {
		now := 4
		p := wantRestored(t, "cut", now, impl.FindKept(cut)...)
		old := []impl.Entry{entry("b", 1, 50, "B"), entry("c", 1, 50, "C")}
		switch {
		case slices.Equal(p.Entries, old) && whole < 2:
			lost++
		case slices.Equal(p.Entries, []impl.Entry{last, old[1]}) && whole > 0:
			kept++
		default:
			t.Fatalf("%d whole acts: %s", whole, toldProxy(p))
		}
		laid, _ := impl.AnewActs(cut, p.Entries)
		cutAnywhere(t, cut, laid, func(again impl.Disk, whole int) {
			if found := wantRestored(t, "cut again", now, impl.FindKept(again)...); !sameProxy(found, p) {
				t.Fatalf("%d whole acts: %s\nbut ahead\n%s", whole, toldProxy(found), toldProxy(p))
			}
		})
	})
	if lost == 0 || kept == 0 {
		t.Errorf("%d lost, %d kept: the cuts tell too little", lost, kept)
	}
}

// Each order of a few events, from nothing on, and behind some that were.
func TestEveryOrderOfEvents(t *testing.T) {
	some := []impl.Event{askEvent(1, "a"), askEvent(2, "a"), partEvent(0, "x"), closeEvent(0, 2), closeEvent(0, 1000000), breakEvent(0), passEvent(1), leaveEvent(1), fallEvent(1)}
	for _, picks := range everyTurns(4, len(some)) {
		var events []impl.Event
		for _, pick := range picks {
			events = append(events, some[pick])
		}
		wantLife(t, "an order", events...)
	}
	ahead := []impl.Event{askEvent(1, "a"), askEvent(3, "b"), partEvent(0, "first"), closeEvent(0, 2), closeEvent(1, 5), leaveEvent(3)}
	later := []impl.Event{askEvent(2, "a"), askEvent(3, "b"), partEvent(2, "next"), closeEvent(2, 3), closeEvent(0, 3), passEvent(2), leaveEvent(2), fallEvent(0, 9)}
	for _, picks := range everyTurns(4, len(later)) {
		events := slices.Clone(ahead)
		for _, pick := range picks {
			events = append(events, later[pick])
		}
		wantLife(t, "an order behind others", events...)
	}
}

// drawnEvent is most often one that may be done where the life stands.
func drawnEvent(draws string, p impl.Proxy, keys int, lives []int) impl.Event {
	n, m := int(draws[1]), int(draws[2])
	key := []string{"a", "b", "c", "d", "e", "f", "g", "h", "i", "\x00", "\xff", letters(30)}[m%keys]
	var open []int
	for at, f := range p.Fetches {
		if f.State == 1 {
			open = append(open, at)
		}
	}
	at := n % 31
	if len(open) > 0 && m%8 > 0 {
		at = open[n%len(open)]
	}
	id := n%9 + 1
	if len(p.Clients) > 0 && m%8 > 0 {
		id = p.Clients[n%len(p.Clients)].Id
	}
	switch kind := draws[0] % 64; {
	case kind < 20:
		return askEvent(n%9+1, key)
	case kind < 26:
		return partEvent(at, drawn(m%44, uint32(n)))
	case kind < 40:
		return closeEvent(at, lives[m%len(lives)])
	case kind < 42:
		return breakEvent(at)
	case kind < 46:
		return passEvent(n % 4)
	case kind < 58:
		return leaveEvent(id)
	case kind < 61:
		return fallEvent([]int{n, m, -n, 0}[:n%5]...)
	}
	return impl.Event{Kind: n%7 + 1, Id: m % 31, Text: drawn(n%61, uint32(m)), N: n * m * 31, Left: []int{m, n, 5}[:n%4]}
}

// drawnStores stores things of many keys, most of which live long: so there is often no room for all behind a fall.
func drawnStores(seed uint32, size int) []impl.Event {
	l := newLifeByRule()
	var events []impl.Event
	for _, draw := range []byte(drawn(size, seed)) {
		key := "abcdefghijklm"[draw%13:][:1]
		block := []impl.Event{askEvent(1, key), closeEvent(len(l.world.Proxy.Fetches), []int{3, 30, 900, 900}[draw/13%4]), leaveEvent(1)}
		switch {
		case draw%11 == 0:
			block = []impl.Event{fallEvent(int(draw)), passEvent(int(draw) / 11 % 3)}
		case draw%4 == 0:
			block = slices.Insert(block, 1, partEvent(len(l.world.Proxy.Fetches), key+key))
		}
		for _, e := range block[:min(len(block), size-len(events))] {
			l.happens(e)
			events = append(events, e)
		}
	}
	return events
}

func drawnLife(seed uint32, size int) []impl.Event {
	if seed%3 == 0 {
		return drawnStores(seed, size)
	}
	draws := drawn(3*size, seed)
	lives := [][]int{{0, 1, 2, 5, 1000000}, {5, 20, 1000003}, {900, 999999, 1999999}, {0, 3, 900}}[seed%4]
	keys := []int{12, 4, 12, 8}[seed/4%4]
	l := newLifeByRule()
	var events []impl.Event
	for i := 0; i < len(draws); i += 3 {
		e := drawnEvent(draws[i:i+3], l.world.Proxy, keys, lives)
		l.happens(e)
		events = append(events, e)
	}
	return events
}

// Promise 17: in a drawn life codes are what the document tells.
func TestDrawnLives(t *testing.T) {
	codes, hits, full, over, often := map[string]int{}, 0, 0, 0, 0
	for seed := range uint32(600) {
		events := drawnLife(seed*67+seed%16, []int{70, 70, 70, 69, 40, 12, 3}[seed%7])
		var w impl.World
		if seed%8 == 0 {
			w = wantLifeThrough(t, "drawn", events...)
		} else {
			w = wantLife(t, "drawn", events...)
		}
		hits += w.Proxy.Hits
		for i, e := range events {
			codes[fmt.Sprintf("%d %d", e.Kind, w.Codes[i])]++
		}
		l := newLifeByRule()
		for _, e := range events {
			kept := lastByRule(l.kept)
			l.happens(e)
			if e.Kind != 7 {
				continue
			}
			if len(l.kept) > 6 {
				full++
			}
			if len(l.kept) < len(kept) {
				over++
			}
			if len(l.kept) > 0 && len(l.kept) < 7 {
				often++
			}
		}
	}
	for _, what := range []string{"1 0", "1 1", "2 0", "2 1", "3 0", "3 1", "4 0", "4 1", "5 0", "6 0", "6 1", "7 0"} {
		if codes[what] < 100 {
			t.Errorf("kind and code %s: %d times: the draws tell too little", what, codes[what])
		}
	}
	if hits < 200 || full < 40 || over < 100 || often < 200 {
		t.Errorf("%d hits; falls with no room for all: %d, with some that are over: %d, with some: %d: the draws tell too little", hits, full, over, often)
	}
	if codes["5 1"]+codes["7 1"]+codes["6 2"] > 0 {
		t.Errorf("codes that are none: %v", codes)
	}
}

// Lives in which fetches are begun and not ended: the code 2 comes, too.
func TestDrawnLivesWithoutRoom(t *testing.T) {
	twos := 0
	for seed := range uint32(60) {
		var events []impl.Event
		for i, draw := range []byte(drawn(70, seed*71+9)) {
			id := i%9 + 1
			switch key := twoLetters(60)[draw%60]; {
			case draw%16 == 0:
				events = append(events, closeEvent(int(draw)/16, int(draw)), partEvent(int(draw)/16+1, key))
			case draw%16 == 1:
				events = append(events, askEvent(id, key))
			default:
				events = append(events, askEvent(id, key), leaveEvent(id))
			}
		}
		w := wantLife(t, "many fetches", events[:70]...)
		for _, code := range w.Codes {
			if code == 2 {
				twos++
			}
		}
	}
	if twos < 100 {
		t.Errorf("%d times no room: the draws tell too little", twos)
	}
}

// drawnEntryList has entries of few keys, right and fresh or not.
func drawnEntryList(draws string) []impl.Entry {
	var list []impl.Entry
	for i := 0; i < len(draws); i += 3 {
		key := []string{"a", "b", "c", "d", "e", "f", "g", "h", "", letters(30), letters(31)}[draws[i]%11]
		list = append(list, entry(key, int(draws[i+1])%6-1, int(draws[i+1])/6%8, drawn(int(draws[i+2])%403, uint32(draws[i]))))
	}
	return list
}

func TestDrawnRestored(t *testing.T) {
	full, some := 0, 0
	for seed := range uint32(2000) {
		list := drawnEntryList(drawn(3*int(seed%40), seed*73+1))
		p := wantRestored(t, "drawn", int(seed%9)-1, list...)
		if len(p.Entries) == 6 {
			full++
		}
		if len(p.Entries) > 0 && len(p.Entries) < 6 {
			some++
		}
	}
	if full < 200 || some < 200 {
		t.Errorf("%d without room, %d with some entries: the draws tell too little", full, some)
	}
}

// eventsRoom are events with texts and lists of their own and room behind each, where nothing may be written.
type eventsRoom struct {
	events []impl.Event
	room   []impl.Event
	lefts  [][]int
}

func roomyEvents(events []impl.Event) eventsRoom {
	var r eventsRoom
	for _, e := range append(slices.Clone(events), impl.Event{Kind: -3, Id: -4, Text: "room", N: -5}, impl.Event{Kind: 5, N: 77}) {
		left := append(slices.Clone(e.Left), -71, -72)
		r.lefts = append(r.lefts, left)
		e.Text, e.Left = ownText(e.Text), left[:len(e.Left)]
		r.room = append(r.room, e)
	}
	r.events = r.room[:len(events)]
	return r
}

func sameEvent(a, b impl.Event) bool {
	return a.Kind == b.Kind && a.Id == b.Id && a.Text == b.Text && a.N == b.N && slices.Equal(a.Left, b.Left)
}

func (r eventsRoom) same(other eventsRoom) bool {
	return slices.EqualFunc(r.room, other.room, sameEvent) && slices.EqualFunc(r.lefts, other.lefts, slices.Equal[[]int]) && len(r.events) == len(other.events)
}

func (r eventsRoom) spoil() {
	for i := range r.room {
		r.room[i] = impl.Event{Kind: -97, Text: "spoilt"}
		for j := range r.lefts[i] {
			r.lefts[i][j] = -99
		}
	}
}

func textsOfEvents(events []impl.Event) []string {
	var texts []string
	for _, e := range events {
		texts = append(texts, e.Text)
	}
	return texts
}

func textsOfWorld(w impl.World) []string {
	return slices.Concat(textsOfProxy(w.Proxy), textsOfDisk(w.Disk), textsOfEntries(w.Bodies...))
}

// listsOfWorld spoil one list of a world each, and then let it be as in another one.
func listsOfWorld() []func(w *impl.World, want impl.World) {
	spoilNumbers := func(list []int) {
		for i := range list[:cap(list)] {
			list[:cap(list)][i] = -99
		}
	}
	return []func(w *impl.World, want impl.World){
		func(w *impl.World, want impl.World) { spoilNumbers(w.Codes); w.Codes = want.Codes },
		func(w *impl.World, want impl.World) { spoilEntries(w.Bodies); w.Bodies = want.Bodies },
		func(w *impl.World, want impl.World) {
			for i := range w.Disk.Files[:cap(w.Disk.Files)] {
				w.Disk.Files[:cap(w.Disk.Files)][i] = impl.File{Name: "spoilt", Text: "spoilt", Kept: -9}
			}
			w.Disk = want.Disk
		},
		func(w *impl.World, want impl.World) {
			spoilEntries(w.Proxy.Entries)
			w.Proxy.Entries = want.Proxy.Entries
		},
		func(w *impl.World, want impl.World) {
			spoilKeys(w.Proxy.Policy.Window)
			w.Proxy.Policy.Window = want.Proxy.Policy.Window
		},
		func(w *impl.World, want impl.World) {
			spoilKeys(w.Proxy.Policy.Main)
			w.Proxy.Policy.Main = want.Proxy.Policy.Main
		},
		func(w *impl.World, want impl.World) {
			spoilNumbers(w.Proxy.Policy.Sketch.Rows[0])
			w.Proxy.Policy.Sketch.Rows[0] = slices.Clone(want.Proxy.Policy.Sketch.Rows[0])
		},
		func(w *impl.World, want impl.World) {
			spoilNumbers(w.Proxy.Policy.Sketch.Rows[2])
			w.Proxy.Policy.Sketch.Rows[2] = slices.Clone(want.Proxy.Policy.Sketch.Rows[2])
		},
		func(w *impl.World, want impl.World) {
			spoilProxy(impl.Proxy{Fetches: w.Proxy.Fetches})
			w.Proxy.Fetches = want.Proxy.Fetches
		},
		func(w *impl.World, want impl.World) {
			spoilProxy(impl.Proxy{Clients: w.Proxy.Clients})
			w.Proxy.Clients = want.Proxy.Clients
		},
	}
}

func spoilWorld(w impl.World) {
	for _, spoil := range listsOfWorld() {
		spoil(&w, cloneWorld(w))
	}
	spoilProxy(w.Proxy)
}

// livesToTry are of all that a world can have.
func livesToTry() [][]impl.Event {
	six := storedOnes(entry("a", 1, 50, "A"), entry("b", 1, 2, "B"), entry("c", 1, 50, "C"), entry("d", 1, 50, "D"), entry("e", 1, 50, "E"), entry("f", 1, 50, "F"), entry("g", 1, 50, "G"))
	more := append(slices.Clone(six), askEvent(2, "a"), askEvent(3, "zz"), partEvent(7, "part"), askEvent(4, "zz"), askEvent(5, "y"), breakEvent(8), passEvent(2), leaveEvent(30))
	list := [][]impl.Event{nil, everyKindOfEvent(), six, more, append(slices.Clone(more), fallEvent(1, 2, 3, 4)), append(slices.Clone(more), fallEvent(), askEvent(1, "c"), askEvent(2, "q"), partEvent(0, "x"))}
	for seed := range uint32(12) {
		list = append(list, drawnLife(seed*79+3, 70))
	}
	return append(list, append(everyKindOfEvent(), impl.Event{}), slices.Repeat(everyKindOfEvent(), 11))
}

func TestLivesChangeNothing(t *testing.T) {
	for _, events := range livesToTry() {
		given, untouched := roomyEvents(events), roomyEvents(events)
		w, _ := impl.RunLife(given.events)
		for _, e := range given.events {
			impl.EventOk(e)
		}
		if !given.same(untouched) {
			t.Fatalf("what was handed in is changed:\n  %s\nit was\n  %s", toldEvents(given.events), toldEvents(events))
		}
		wantApart(t, "RunLife", textsOfWorld(w), textsOfEvents(given.events))
		want := cloneWorld(w)
		given.spoil()
		if !sameWorld(w, want) {
			t.Fatalf("what was handed in is spoilt, and so is the answer: %s", toldWorld(w))
		}
	}
}

func TestLifeAnswersReachNothing(t *testing.T) {
	for _, events := range livesToTry() {
		first, ok := impl.RunLife(events)
		again, okAgain := impl.RunLife(events)
		if !sameWorld(first, again) || ok != okAgain {
			t.Fatalf("%s:\nthe second answer is another one", toldEvents(events))
		}
		wantApart(t, "RunLife", textsOfWorld(first), textsOfWorld(again))
		want := cloneWorld(again)
		if ok {
			spoilWorld(first)
		}
		if third, _ := impl.RunLife(events); !sameWorld(again, want) || !sameWorld(third, want) {
			t.Fatalf("%s:\nan answer is spoilt, and so is another one", toldEvents(events))
		}
	}
}

// No two texts of one answer share memory, and no two lists do.
func TestWorldListsAreApart(t *testing.T) {
	for _, events := range livesToTry() {
		w, ok := impl.RunLife(events)
		if !ok {
			continue
		}
		texts := textsOfWorld(w)
		for i, text := range texts {
			wantApart(t, "one life", []string{text}, texts[i+1:])
		}
		for i, spoil := range listsOfWorld() {
			w, _ := impl.RunLife(events)
			want := cloneWorld(w)
			spoil(&w, want)
			if !sameWorld(w, want) {
				t.Fatalf("the list %d of a world is spoilt, and so is another: %s", i, toldWorld(w))
			}
		}
	}
}

func TestRestoredChangesNothing(t *testing.T) {
	lists := [][]impl.Entry{nil, rightEntries(), wrongEntries()[:40]}
	for seed := range uint32(30) {
		lists = append(lists, drawnEntryList(drawn(3*int(seed), seed*83+2)))
	}
	for _, list := range lists {
		for now := -1; now < 6; now++ {
			given, room := roomyEntries(list)
			ahead := slices.Clone(room)
			p, again := impl.Restored(now, given), impl.Restored(now, given)
			if !slices.Equal(room, ahead) || !sameProxy(p, again) {
				t.Fatalf("what was handed in is changed, or the second answer is another one: %s", toldEntries(given))
			}
			texts := textsOfProxy(p)
			wantApart(t, "Restored", texts, slices.Concat(textsOfEntries(given...), textsOfProxy(again)))
			for i, text := range texts {
				wantApart(t, "Restored", []string{text}, texts[i+1:])
			}
			wantListsApart(t, "Restored", impl.Restored(now, given).Policy)
			want := cloneProxy(p)
			spoilEntries(room)
			spoilProxy(again)
			if third := impl.Restored(now, list); !sameProxy(p, want) || !sameProxy(third, want) {
				t.Fatalf("what was handed in is spoilt, or an answer, and so is another one: %s", toldProxy(p))
			}
		}
	}
}

// Many lives may be run at the same time: each comes to what it comes to alone.
func TestLivesRunAtOnce(t *testing.T) {
	lives := livesToTry()
	list := rightEntries()
	faults := make([]string, len(lives))
	var all sync.WaitGroup
	for i, events := range lives {
		all.Go(func() {
			want, wantOk := worldByRule(events)
			restored := restoredByRule(i, list)
			for range 20 {
				if got, ok := impl.RunLife(events); ok != wantOk || !sameWorld(got, want) {
					faults[i] = toldWorld(got)
				}
				if got := impl.Restored(i, list); !sameProxy(got, restored) {
					faults[i] = toldProxy(got)
				}
			}
		})
	}
	all.Wait()
	for i, fault := range faults {
		if fault != "" {
			t.Errorf("the life %d at the same time as others: %s", i, fault)
		}
	}
}
