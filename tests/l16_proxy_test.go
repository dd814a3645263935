package tests

import (
	"fmt"
	"maps"
	"math"
	"slices"
	"strings"
	"sync"
	"testing"

	"loop.example/g00245/impl"
)

func fetched(key, text string, state, life, stored int) impl.Fetch {
	return impl.Fetch{Key: key, Text: text, State: state, Life: life, Stored: stored}
}

func begun(key, text string) impl.Fetch {
	return fetched(key, text, 1, 0, 0)
}

// client waits or waited for a fetch, told by 1 and its place.
func client(id int, key string, fetch, state int, got string) impl.Client {
	return impl.Client{Id: id, Key: key, Fetch: fetch, State: state, Got: got}
}

// answered got an entry.
func answered(id int, key string, from int, got string, age int) impl.Client {
	return impl.Client{Id: id, Key: key, From: from, State: 2, Got: got, Age: age}
}

func cloneProxy(p impl.Proxy) impl.Proxy {
	return impl.Proxy{
		Now: p.Now, Entries: slices.Clone(p.Entries), Policy: clonePolicy(p.Policy),
		Fetches: slices.Clone(p.Fetches), Clients: slices.Clone(p.Clients), Hits: p.Hits,
	}
}

func sameProxy(a, b impl.Proxy) bool {
	return a.Now == b.Now && slices.Equal(a.Entries, b.Entries) && samePolicy(a.Policy, b.Policy) &&
		slices.Equal(a.Fetches, b.Fetches) && slices.Equal(a.Clients, b.Clients) && a.Hits == b.Hits
}

func toldProxy(p impl.Proxy) string {
	var parts []string
	for i, f := range p.Fetches {
		parts = append(parts, fmt.Sprintf("[fetch %d: %.40q state %d life %d stored %d %d bytes %.20q]", i, f.Key, f.State, f.Life, f.Stored, len(f.Text), f.Text))
	}
	for _, c := range p.Clients {
		parts = append(parts, fmt.Sprintf("(client %d: %.40q fetch %d from %d state %d age %d %d bytes %.20q)", c.Id, c.Key, c.Fetch, c.From, c.State, c.Age, len(c.Got), c.Got))
	}
	return fmt.Sprintf("now %d, hits %d, entries %s, policy %s\n  %s", p.Now, p.Hits, toldEntries(p.Entries), toldPolicy(p.Policy), strings.Join(parts, "\n  "))
}

// proxyStep is one call on a proxy: n is the Id, the place of the fetch or the time.
type proxyStep struct {
	what string
	n    int
	text string
	life int
}

func askStep(id int, key string) proxyStep   { return proxyStep{what: "ask", n: id, text: key} }
func partStep(at int, part string) proxyStep { return proxyStep{what: "part", n: at, text: part} }
func closeStep(at, life int) proxyStep       { return proxyStep{what: "close", n: at, life: life} }
func breakStep(at int) proxyStep             { return proxyStep{what: "break", n: at} }
func passStep(n int) proxyStep               { return proxyStep{what: "pass", n: n} }
func awayStep(id int) proxyStep              { return proxyStep{what: "leave", n: id} }

func (step proxyStep) told() string {
	return fmt.Sprintf("%s %d %.50q %d", step.what, step.n, step.text, step.life)
}

// run answers 1 for a false.
func (step proxyStep) run(p impl.Proxy) (impl.Proxy, int) {
	ok := true
	switch step.what {
	case "ask":
		return impl.AskFor(p, step.n, step.text)
	case "part":
		p, ok = impl.PartOf(p, step.n, step.text)
	case "close":
		p, ok = impl.CloseFetch(p, step.n, step.life)
	case "break":
		p, ok = impl.BreakFetch(p, step.n)
	case "pass":
		p = impl.PassTime(p, step.n)
	case "leave":
		p = impl.LeaveClient(p, step.n)
	}
	if !ok {
		return p, 1
	}
	return p, 0
}

func fetchOkByRule(f impl.Fetch, now int) bool {
	return policyKeyOkByRule(f.Key) && len(f.Text) < 401 && 1 <= f.State && f.State <= 3 &&
		0 <= f.Life && f.Life < 1000000 && 0 <= f.Stored && f.Stored <= now
}

func clientOkByRule(c impl.Client, p impl.Proxy) bool {
	return 0 < c.Id && c.Id < 10 && policyKeyOkByRule(c.Key) && 1 <= c.State && c.State <= 3 && len(c.Got) < 401 &&
		0 <= c.Fetch && c.Fetch < len(p.Fetches)+1 && 0 <= c.From && c.From <= p.Now && -1 < c.Age
}

// proxyOkByRule is the document's sentence of ProxyOk.
func proxyOkByRule(p impl.Proxy) bool {
	ok := 1 <= p.Now && p.Now <= 1000000000 && 0 <= p.Hits && p.Hits <= 1000000000 && policyOkByRule(p.Policy) &&
		len(p.Fetches) < 21 && len(p.Clients) < 7
	var keys []string
	for _, e := range p.Entries {
		ok = ok && entryOkByRule(e) && (len(keys) == 0 || keys[len(keys)-1] < e.Key)
		keys = append(keys, e.Key)
	}
	there := slices.Concat(p.Policy.Window, p.Policy.Main)
	slices.Sort(there)
	ok = ok && slices.Equal(keys, there)
	opened := map[string]int{}
	for _, f := range p.Fetches {
		if f.State == 1 {
			opened[f.Key]++
		}
		ok = ok && fetchOkByRule(f, p.Now) && opened[f.Key] < 2
	}
	last := 0
	for _, c := range p.Clients {
		ok = ok && clientOkByRule(c, p) && last < c.Id
		last = c.Id
	}
	return ok
}

func withClient(p impl.Proxy, c impl.Client) impl.Proxy {
	next := cloneProxy(p)
	next.Clients = append(next.Clients, c)
	slices.SortStableFunc(next.Clients, func(a, b impl.Client) int { return a.Id - b.Id })
	return next
}

// askByRule is the document's text of AskFor.
func askByRule(p impl.Proxy, id int, key string) (impl.Proxy, int) {
	next := cloneProxy(p)
	there := false
	for _, c := range p.Clients {
		there = there || c.Id == id
	}
	if !proxyOkByRule(p) || id < 1 || id > 9 || !policyKeyOkByRule(key) || there || len(p.Clients) > 5 {
		return next, 1
	}
	next.Entries = nil
	for _, e := range p.Entries {
		if e.Key != key {
			next.Entries = append(next.Entries, e)
			continue
		}
		if freshByRule(e, p.Now) {
			next.Entries = slices.Clone(p.Entries)
			next.Policy, _ = touchByRule(p.Policy, key)
			next.Hits = min(p.Hits+1, 1000000000)
			return withClient(next, answered(id, key, e.Stored, e.Body, p.Now-e.Stored)), 0
		}
		next.Policy = dropByRule(p.Policy, key)
	}
	next.Policy.Sketch = bumpByRule(p.Policy.Sketch, key)
	for i, f := range p.Fetches {
		if f.Key == key && f.State == 1 {
			return withClient(next, client(id, key, i+1, 1, f.Text)), 0
		}
	}
	if len(p.Fetches) > 19 {
		return cloneProxy(p), 2
	}
	next.Fetches = append(next.Fetches, begun(key, ""))
	return withClient(next, client(id, key, len(next.Fetches), 1, "")), 0
}

// storeByRule is what CloseFetch does with a Life above 0.
func storeByRule(p impl.Proxy, e impl.Entry) impl.Proxy {
	next := cloneProxy(p)
	policy, out := touchByRule(p.Policy, e.Key)
	next.Policy = policy
	kept := map[string]impl.Entry{}
	for _, other := range p.Entries {
		kept[other.Key] = other
	}
	delete(kept, out)
	if slices.Contains(slices.Concat(policy.Window, policy.Main), e.Key) {
		kept[e.Key] = e
	}
	next.Entries = nil
	for _, key := range slices.Sorted(maps.Keys(kept)) {
		next.Entries = append(next.Entries, kept[key])
	}
	return next
}

// byRule is the document's text of the six that change proxies.
func (step proxyStep) byRule(p impl.Proxy) (impl.Proxy, int) {
	next := cloneProxy(p)
	switch step.what {
	case "ask":
		return askByRule(p, step.n, step.text)
	case "pass":
		for range moduloByRule(step.n, 1000) {
			next.Now++
		}
		next.Now = min(next.Now, 1000000000)
		return next, 0
	case "leave":
		next.Clients = nil
		for _, c := range p.Clients {
			if c.Id != step.n {
				next.Clients = append(next.Clients, c)
			}
		}
		return next, 0
	}
	if !proxyOkByRule(p) || step.n < 0 || step.n >= len(p.Fetches) || p.Fetches[step.n].State != 1 {
		return next, 1
	}
	f := &next.Fetches[step.n]
	switch step.what {
	case "part":
		f.Text += step.text
		if step.text == "" || len(step.text) > 40 || len(f.Text) > 400 {
			return cloneProxy(p), 1
		}
	case "close":
		if step.life < 0 || step.life > 999999 {
			return next, 1
		}
		f.State, f.Life, f.Stored = 2, step.life, p.Now
	case "break":
		f.State = 3
	}
	for i, c := range next.Clients {
		if c.State == 1 && c.Fetch == step.n+1 {
			next.Clients[i].State = f.State
			if step.what == "part" {
				next.Clients[i].Got = f.Text
			}
		}
	}
	if step.what == "close" && step.life > 0 {
		next = storeByRule(next, entry(f.Key, p.Now, step.life, f.Text))
	}
	return next, 0
}

// wantProxy holds a step against what is told, and answers the proxy behind it.
func wantProxy(t *testing.T, step proxyStep, p, want impl.Proxy, code int) impl.Proxy {
	t.Helper()
	// What is wanted may share its lists with what is handed in, which a fault could change.
	want = cloneProxy(want)
	ahead := cloneProxy(p)
	got, gotCode := step.run(p)
	if !sameProxy(got, want) || gotCode != code {
		t.Fatalf("%s of %s\n%d:\n%s\nwant %d:\n%s", step.told(), toldProxy(ahead), gotCode, toldProxy(got), code, toldProxy(want))
	}
	return got
}

func wantProxyRefused(t *testing.T, step proxyStep, p impl.Proxy, code int) {
	t.Helper()
	wantProxy(t, step, p, cloneProxy(p), code)
}

func wantProxyByRule(t *testing.T, step proxyStep, p impl.Proxy) (impl.Proxy, int) {
	t.Helper()
	want, code := step.byRule(p)
	return wantProxy(t, step, p, want, code), code
}

func wantProxyOk(t *testing.T, what string, p impl.Proxy, want bool) {
	t.Helper()
	if got := impl.ProxyOk(p); got != want {
		t.Errorf("%s: ProxyOk is %v of %s", what, got, toldProxy(p))
	}
}

// ranThrough takes steps that the rule holds, all of them with code 0.
func ranThrough(t *testing.T, p impl.Proxy, steps ...proxyStep) impl.Proxy {
	t.Helper()
	for _, step := range steps {
		after, code := wantProxyByRule(t, step, p)
		if code != 0 {
			t.Fatalf("%s: %d, of %s", step.told(), code, toldProxy(p))
		}
		p = after
	}
	return p
}

// busyProxy has entries that are fresh, that are so no more and that are not yet, fetches and clients in each state, and counts.
func busyProxy() impl.Proxy {
	return impl.Proxy{
		Now: 100,
		Entries: []impl.Entry{
			entry("a", 90, 20, "A"), entry("b", 50, 50, "old"), entry("c", 100, 1, ""), entry("d", 101, 9, "to come"),
		},
		Policy: withSketch(staying("a b", "c d"), drawnSketch(4, 20)),
		Fetches: []impl.Fetch{
			begun("b", "half"), fetched("a", "A", 2, 20, 90), fetched("e", "to", 3, 0, 0), begun("e", ""), fetched("f", "x", 1, 7, 50),
		},
		Clients: []impl.Client{
			client(2, "b", 1, 1, "half"), answered(3, "a", 90, "A", 4), client(4, "e", 3, 3, "to"), client(7, "e", 4, 1, ""),
		},
		Hits: 5,
	}
}

// fullProxy has as many entries, fetches and clients as there may be, of the longest texts and the greatest numbers.
func fullProxy() impl.Proxy {
	p := impl.Proxy{Now: impl.MaxNumber, Hits: impl.MaxNumber, Policy: impl.Policy{Sketch: filledSketch(15, 63)}}
	for i := range 6 {
		key := letters(29) + string([]byte{byte('a' + i)})
		p.Entries = append(p.Entries, entry(key, impl.MaxNumber-i, 999999, drawn(400, uint32(i))))
		if i < 2 {
			p.Policy.Window = append(p.Policy.Window, key)
		} else {
			p.Policy.Main = append(p.Policy.Main, key)
		}
		p.Clients = append(p.Clients, impl.Client{Id: i + 4, Key: key, Fetch: 20 - i, From: impl.MaxNumber - i, State: i%3 + 1, Got: drawn(400, uint32(i)), Age: math.MaxInt - i})
	}
	for i := range 20 {
		p.Fetches = append(p.Fetches, fetched(letters(29)+string([]byte{byte('A' + i)}), drawn(400, uint32(i)), i%3+1, 999999, impl.MaxNumber))
	}
	return p
}

// oddProxies are right, though no calls make them so.
func oddProxies() []impl.Proxy {
	there := busyProxy()
	there.Fetches[4].Key = "a"
	late := busyProxy()
	late.Clients = []impl.Client{client(1, "b", 2, 1, "x"), client(3, "zz", 1, 1, "other"), client(5, "b", 0, 1, "none"), client(6, "b", 1, 2, "early"), client(8, "b", 1, 3, "failed"), client(9, "e", 1, 1, letters(400))}
	kept := busyProxy()
	kept.Fetches = []impl.Fetch{begun("a", "new A"), begun("b", ""), begun("c", letters(400)), begun("d", "D")}
	kept.Clients = []impl.Client{client(1, "a", 4, 1, "")}
	window := impl.Proxy{Now: 1, Policy: staying("k", ""), Entries: []impl.Entry{entry("k", 0, 1, "")}}
	main := impl.Proxy{Now: 1, Policy: staying("", "k l m n"), Entries: []impl.Entry{entry("k", 1, 1, ""), entry("l", 0, 2, "l"), entry("m", 1000000000, 999999, "m"), entry("n", 1, 1, letters(400))}}
	return []impl.Proxy{there, late, kept, window, main}
}

// manyFetches has so many fetches behind those that are there, of keys that nobody else has; as told, each fourth is open.
func manyFetches(p impl.Proxy, count int, open bool) impl.Proxy {
	next := cloneProxy(p)
	for i := len(p.Fetches); i < count; i++ {
		f := fetched("many"+twoLetters(20)[i], "text", 2+i%2, i, min(i, p.Now))
		if open && i%4 == 3 {
			f.State = 1
		}
		next.Fetches = append(next.Fetches, f)
	}
	return next
}

func rightProxies() []impl.Proxy {
	list := []impl.Proxy{
		impl.ProxyNew(), busyProxy(), fullProxy(),
		manyFetches(impl.ProxyNew(), 19, false), manyFetches(impl.ProxyNew(), 20, false), manyFetches(impl.ProxyNew(), 20, true),
		manyFetches(busyProxy(), 19, true), manyFetches(busyProxy(), 20, true),
		ranOut(0, 15, 63), ranOut(15, 0, 0),
	}
	return append(list, oddProxies()...)
}

// ranOut has no seat free: six entries are there, three fetches are open, and it is told how often the first of Window and the first of Main were asked for.
func ranOut(window, main, added int) impl.Proxy {
	p := impl.Proxy{
		Now:     50,
		Policy:  countedPolicy([]string{"w", "x"}, []string{"m", "n", "o", "p"}, added, nil),
		Fetches: []impl.Fetch{begun("k", "body"), begun("l", ""), begun("w", "again")},
		Clients: []impl.Client{client(1, "k", 1, 1, "body"), client(5, "l", 2, 1, ""), client(6, "w", 3, 1, "again")},
	}
	p.Policy.Sketch = withNumbers(withNumbers(p.Policy.Sketch, "m", main, main, main), "w", window, window, window)
	for i, key := range []string{"m", "n", "o", "p", "w", "x"} {
		p.Entries = append(p.Entries, entry(key, 40+i, 100, "body of "+key))
	}
	return p
}

// changedProxy is one that may have been made wrong.
type changedProxy struct {
	what  string
	ok    bool
	proxy impl.Proxy
}

type proxyChanges struct{ list []changedProxy }

func (c *proxyChanges) add(what string, ok bool, base impl.Proxy, change func(p *impl.Proxy)) {
	p := cloneProxy(base)
	change(&p)
	c.list = append(c.list, changedProxy{what, ok, p})
}

// limit is a number, and whether it is accepted.
type limit struct {
	n  int
	ok bool
}

func limitsOf(least, most int) []limit {
	return []limit{
		{math.MinInt, false}, {least - 2, false}, {least - 1, false}, {least, true}, {least + 1, least < most}, {most - 1, least < most}, {most, true},
		{most + 1, false}, {most + 2, false}, {most + 1<<32, false}, {math.MaxInt, false},
	}
}

func keyLimits() []limit {
	return []limit{{0, false}, {1, true}, {2, true}, {29, true}, {30, true}, {31, false}, {32, false}, {286, false}, {20001, false}}
}

func bodyLimits() []limit {
	return []limit{{0, true}, {1, true}, {399, true}, {400, true}, {401, false}, {402, false}, {656, false}, {20001, false}}
}

func changedNumbers() []changedProxy {
	var c proxyChanges
	for _, base := range []impl.Proxy{impl.ProxyNew(), {Now: 7, Policy: staying("", "")}, manyFetches(impl.ProxyNew(), 1, false)} {
		for _, l := range limitsOf(1, impl.MaxNumber) {
			c.add("Now", l.ok, base, func(p *impl.Proxy) { p.Now = l.n })
		}
	}
	for _, base := range rightProxies() {
		c.add("Now of 0", false, base, func(p *impl.Proxy) { p.Now = 0 })
		c.add("Now of one more than the greatest", false, base, func(p *impl.Proxy) { p.Now = impl.MaxNumber + 1 })
		for _, l := range limitsOf(0, impl.MaxNumber) {
			c.add("Hits", l.ok, base, func(p *impl.Proxy) { p.Hits = l.n })
		}
	}
	return c.list
}

func changedEntries() []changedProxy {
	var c proxyChanges
	for _, base := range []impl.Proxy{busyProxy(), fullProxy(), ranOut(1, 2, 3)} {
		for i := range base.Entries {
			for _, l := range limitsOf(0, impl.MaxNumber) {
				c.add("Stored of an entry", l.ok, base, func(p *impl.Proxy) { p.Entries[i].Stored = l.n })
			}
			for _, l := range limitsOf(1, 999999) {
				c.add("Life of an entry", l.ok, base, func(p *impl.Proxy) { p.Entries[i].Life = l.n })
			}
			for _, l := range bodyLimits() {
				c.add("Body of an entry", l.ok, base, func(p *impl.Proxy) { p.Entries[i].Body = letters(l.n) })
			}
			c.add("another Key", false, base, func(p *impl.Proxy) { p.Entries[i].Key += "!" })
			c.add("an entry that is gone", false, base, func(p *impl.Proxy) { p.Entries = slices.Delete(p.Entries, i, i+1) })
			c.add("an entry twice", false, base, func(p *impl.Proxy) { p.Entries = slices.Insert(p.Entries, i, p.Entries[i]) })
			for k := range i {
				c.add("two that do not ascend", false, base, func(p *impl.Proxy) { p.Entries[i], p.Entries[k] = p.Entries[k], p.Entries[i] })
				c.add("two alike", false, base, func(p *impl.Proxy) { p.Entries[i] = p.Entries[k] })
				c.add("two alike, the other one", false, base, func(p *impl.Proxy) { p.Entries[k] = p.Entries[i] })
			}
		}
		c.add("no entries", false, base, func(p *impl.Proxy) { p.Entries = nil })
		c.add("one more at the end", false, base, func(p *impl.Proxy) { p.Entries = append(p.Entries, entry("\xff", 1, 1, "")) })
		c.add("one more at the beginning", false, base, func(p *impl.Proxy) { p.Entries = slices.Insert(p.Entries, 0, entry("\x00", 1, 1, "")) })
	}
	return c.list
}

func changedPolicies() []changedProxy {
	var c proxyChanges
	for _, base := range []impl.Proxy{busyProxy(), fullProxy(), oddProxies()[3], oddProxies()[4]} {
		for _, key := range textsOfPolicy(base.Policy) {
			c.add("a key that the Policy has not", false, base, func(p *impl.Proxy) { p.Policy = dropByRule(p.Policy, key) })
		}
		for place := range textsOfPolicy(base.Policy) {
			c.add("another key in the Policy", false, base, func(p *impl.Proxy) { p.Policy = withKeyAt(p.Policy, place, "\xfe") })
		}
		c.add("one more in Main", false, base, func(p *impl.Proxy) { p.Policy.Main = append(p.Policy.Main, "\xfe") })
		c.add("one more in Window", false, base, func(p *impl.Proxy) { p.Policy.Window = append(p.Policy.Window, "\xfe") })
		c.add("a new Policy", false, base, func(p *impl.Proxy) { p.Policy = staying("", "") })
		c.add("no Policy", false, base, func(p *impl.Proxy) { p.Policy = impl.Policy{} })
		for i, s := range wrongSketches() {
			if i%5 == 0 {
				c.add("a Sketch that is not right", false, base, func(p *impl.Proxy) { p.Policy.Sketch = cloneSketch(s) })
			}
		}
	}
	c.add("a key of no entries", false, impl.ProxyNew(), func(p *impl.Proxy) { p.Policy.Window = []string{"a"} })
	c.add("a key twice", false, oddProxies()[3], func(p *impl.Proxy) { p.Policy.Main = []string{"k"} })
	for _, policy := range append(rightPolicies(), wrongPolicies()...) {
		keys := slices.Sorted(slices.Values(textsOfPolicy(policy)))
		c.add("entries of the keys of a Policy", policyOkByRule(policy), impl.ProxyNew(), func(p *impl.Proxy) {
			p.Policy = clonePolicy(policy)
			for _, key := range slices.Compact(keys) {
				p.Entries = append(p.Entries, entry(key, 0, 1, ""))
			}
		})
	}
	return c.list
}

func changedFetches() []changedProxy {
	var c proxyChanges
	for _, base := range []impl.Proxy{busyProxy(), fullProxy(), manyFetches(busyProxy(), 20, false)} {
		for i, f := range base.Fetches {
			for _, l := range keyLimits() {
				c.add("Key of a fetch", l.ok, base, func(p *impl.Proxy) { p.Fetches[i].Key = drawn(l.n, 77) })
			}
			for _, l := range bodyLimits() {
				c.add("Text of a fetch", l.ok, base, func(p *impl.Proxy) { p.Fetches[i].Text = letters(l.n) })
			}
			for _, l := range limitsOf(1, 3) {
				twice := i == 2 && l.n == 1 && f.Key == "e"
				c.add("State of a fetch", l.ok && !twice, base, func(p *impl.Proxy) { p.Fetches[i].State = l.n })
			}
			for _, l := range limitsOf(0, 999999) {
				c.add("Life of a fetch", l.ok, base, func(p *impl.Proxy) { p.Fetches[i].Life = l.n })
			}
			for _, l := range limitsOf(0, base.Now) {
				c.add("Stored of a fetch", l.ok, base, func(p *impl.Proxy) { p.Fetches[i].Stored = l.n })
			}
			for k := range i {
				c.add("two of one Key that are open no more", true, base, func(p *impl.Proxy) {
					p.Fetches[i], p.Fetches[k] = fetched("same", "", 3-k%2, 0, 0), fetched("same", "", 2+i%2, 0, 0)
				})
				c.add("two open ones of one Key", false, base, func(p *impl.Proxy) {
					p.Fetches[i], p.Fetches[k] = begun("same", ""), begun("same", "")
				})
				c.add("an open one and another of one Key", true, base, func(p *impl.Proxy) {
					p.Fetches[i], p.Fetches[k] = begun("same", ""), fetched("same", "", 2+i%2, 0, 0)
				})
			}
		}
	}
	for count := range 24 {
		c.add("so many fetches", count < 21, impl.ProxyNew(), func(p *impl.Proxy) {
			p.Fetches = slices.Repeat([]impl.Fetch{fetched("k", "", 2, 0, 0)}, count)
		})
	}
	return c.list
}

func changedClients() []changedProxy {
	var c proxyChanges
	for _, base := range []impl.Proxy{busyProxy(), fullProxy(), oddProxies()[1]} {
		for i := range base.Clients {
			for _, l := range keyLimits() {
				c.add("Key of a client", l.ok, base, func(p *impl.Proxy) { p.Clients[i].Key = letters(l.n) })
			}
			for _, l := range bodyLimits() {
				c.add("Got of a client", l.ok, base, func(p *impl.Proxy) { p.Clients[i].Got = letters(l.n) })
			}
			for _, l := range limitsOf(1, 3) {
				c.add("State of a client", l.ok, base, func(p *impl.Proxy) { p.Clients[i].State = l.n })
			}
			for _, l := range limitsOf(0, len(base.Fetches)) {
				c.add("Fetch of a client", l.ok, base, func(p *impl.Proxy) { p.Clients[i].Fetch = l.n })
			}
			for _, l := range limitsOf(0, base.Now) {
				c.add("From of a client", l.ok, base, func(p *impl.Proxy) { p.Clients[i].From = l.n })
			}
			for _, l := range []limit{{math.MinInt, false}, {-2, false}, {-1, false}, {0, true}, {1, true}, {impl.MaxNumber + 1, true}, {math.MaxInt, true}} {
				c.add("Age of a client", l.ok, base, func(p *impl.Proxy) { p.Clients[i].Age = l.n })
			}
			for k := range i {
				c.add("clients that do not ascend", false, base, func(p *impl.Proxy) { p.Clients[i], p.Clients[k] = p.Clients[k], p.Clients[i] })
				c.add("two of one Id", false, base, func(p *impl.Proxy) { p.Clients[k].Id = p.Clients[i].Id })
			}
		}
	}
	for count := range 10 {
		for from := range 10 - count {
			c.add("so many clients", count < 7, impl.ProxyNew(), func(p *impl.Proxy) {
				for id := range count {
					p.Clients = append(p.Clients, client(from+id+1, "k", 0, 2, ""))
				}
			})
		}
	}
	for _, id := range []int{math.MinInt, -9, -1, 0, 1, 2, 9, 10, 11, 257, math.MaxInt} {
		c.add("one Id", 1 <= id && id <= 9, impl.ProxyNew(), func(p *impl.Proxy) { p.Clients = []impl.Client{client(id, "k", 0, 1, "")} })
		for other := -1; other < 12; other++ {
			c.add("two Ids", 1 <= id && id < other && other <= 9, busyProxy(), func(p *impl.Proxy) {
				p.Clients = []impl.Client{client(id, "k", 0, 1, ""), client(other, "k", 5, 3, "")}
			})
		}
	}
	c.add("one who waits, of no fetches", false, impl.ProxyNew(), func(p *impl.Proxy) { p.Clients = []impl.Client{client(1, "k", 1, 1, "")} })
	return c.list
}

func changedProxies() []changedProxy {
	return slices.Concat(changedNumbers(), changedEntries(), changedPolicies(), changedFetches(), changedClients())
}

// wrongProxies are some of each kind.
func wrongProxies() []impl.Proxy {
	list := []impl.Proxy{{}, {Now: 1}, {Policy: staying("", "")}}
	for i, c := range changedProxies() {
		if !c.ok && (i%23 == 0 || len(c.proxy.Fetches)+len(c.proxy.Clients) == 0 && i%7 == 0) {
			list = append(list, c.proxy)
		}
	}
	return list
}

func TestProxyConstants(t *testing.T) {
	got := [5]int{impl.MaxClients9, impl.MaxFetches, impl.ClientWaits, impl.ClientDone, impl.ClientFailed}
	if got != [5]int{6, 20, 1, 2, 3} {
		t.Errorf("how many clients and fetches, and the states: %v", got)
	}
}

func TestProxyNew(t *testing.T) {
	p := impl.ProxyNew()
	if want := (impl.Proxy{Now: 1, Policy: staying("", "")}); !sameProxy(p, want) {
		t.Errorf("ProxyNew: %s", toldProxy(p))
	}
	wantProxyOk(t, "a new one", p, true)
	for at := -1; at < 3; at++ {
		wantProxyRefused(t, partStep(at, "x"), p, 1)
		wantProxyRefused(t, closeStep(at, 1), p, 1)
		wantProxyRefused(t, breakStep(at), p, 1)
		wantProxy(t, awayStep(at), p, p, 0)
	}
}

func TestProxyOk(t *testing.T) {
	for _, p := range rightProxies() {
		wantProxyOk(t, "right", p, true)
		if !proxyOkByRule(p) {
			t.Fatalf("not right by the rule: %s", toldProxy(p))
		}
	}
	right, wrong := 0, 0
	for _, c := range changedProxies() {
		wantProxyOk(t, c.what, c.proxy, c.ok)
		if proxyOkByRule(c.proxy) != c.ok {
			t.Fatalf("%s: the rule says %v of %s", c.what, !c.ok, toldProxy(c.proxy))
		}
		if c.ok {
			right++
		} else {
			wrong++
		}
	}
	if right < 1000 || wrong < 1000 {
		t.Errorf("%d are right and %d are not", right, wrong)
	}
	for _, p := range wrongProxies() {
		wantProxyOk(t, "not right", p, false)
	}
}

// The life that the document's words tell, number by number.
func TestProxyLife(t *testing.T) {
	first := bumped(filledSketch(0, 0), "/a")
	second, third, fourth := bumped(first, "/a"), bumped(first, "/a", "/a"), bumped(first, "/a", "/a", "/a")
	want := impl.Proxy{Now: 1, Policy: withSketch(staying("", ""), first), Fetches: []impl.Fetch{begun("/a", "")}, Clients: []impl.Client{client(5, "/a", 1, 1, "")}}
	p := wantProxy(t, askStep(5, "/a"), impl.ProxyNew(), want, 0)
	want.Fetches[0].Text, want.Clients[0].Got = "hi", "hi"
	p = wantProxy(t, partStep(0, "hi"), p, want, 0)
	want.Policy.Sketch, want.Clients = second, []impl.Client{client(2, "/a", 1, 1, "hi"), client(5, "/a", 1, 1, "hi")}
	p = wantProxy(t, askStep(2, "/a"), p, want, 0)
	want.Fetches[0].Text, want.Clients[0].Got, want.Clients[1].Got = "hi!", "hi!", "hi!"
	p = wantProxy(t, partStep(0, "!"), p, want, 0)
	want.Now = 8
	p = wantProxy(t, passStep(7), p, want, 0)
	want.Fetches[0] = fetched("/a", "hi!", 2, 3, 8)
	want.Clients[0].State, want.Clients[1].State = 2, 2
	want.Policy = impl.Policy{Window: []string{"/a"}, Sketch: third}
	want.Entries = []impl.Entry{entry("/a", 8, 3, "hi!")}
	p = wantProxy(t, closeStep(0, 3), p, want, 0)
	want.Now = 10
	p = wantProxy(t, passStep(2), p, want, 0)
	want.Clients = append(want.Clients, answered(9, "/a", 8, "hi!", 2))
	want.Policy.Sketch, want.Hits = fourth, 1
	p = wantProxy(t, askStep(9, "/a"), p, want, 0)
	want.Clients = want.Clients[1:]
	p = wantProxy(t, awayStep(2), p, want, 0)
	want.Now = 11
	p = wantProxy(t, passStep(1), p, want, 0)
	want.Policy = withSketch(staying("", ""), bumped(fourth, "/a"))
	want.Entries, want.Fetches = nil, append(want.Fetches, begun("/a", ""))
	want.Clients = []impl.Client{client(2, "/a", 2, 1, ""), client(5, "/a", 1, 2, "hi!"), answered(9, "/a", 8, "hi!", 2)}
	p = wantProxy(t, askStep(2, "/a"), p, want, 0)
	want.Fetches[1].State, want.Clients[0].State = 3, 3
	p = wantProxy(t, breakStep(1), p, want, 0)
	wantProxyOk(t, "a life", p, true)
}

// hallWatch keeps what was begun and what came, apart from the proxy.
type hallWatch struct {
	proxy impl.Proxy
	begun []impl.Fetch
}

func (w *hallWatch) openOf(key string) int {
	for i, f := range w.begun {
		if f.Key == key && f.State == 1 {
			return i
		}
	}
	return -1
}

func (w *hallWatch) lastOf(key string) impl.Fetch {
	last := impl.Fetch{}
	for _, f := range w.begun {
		if f.Key == key {
			last = f
		}
	}
	return last
}

// does takes a step, holds it against the rule, and the promise against all that came so far.
func (w *hallWatch) does(t *testing.T, step proxyStep) int {
	t.Helper()
	ahead := w.proxy
	after, code := wantProxyByRule(t, step, ahead)
	w.proxy = after
	if code == 0 {
		w.note(t, step, ahead)
	}
	w.holds(t, step)
	return code
}

func (w *hallWatch) note(t *testing.T, step proxyStep, ahead impl.Proxy) {
	t.Helper()
	switch step.what {
	case "ask":
		w.noteAsked(t, step)
	case "part":
		w.begun[step.n].Text += step.text
	case "close":
		w.begun[step.n] = fetched(w.begun[step.n].Key, w.begun[step.n].Text, 2, step.life, ahead.Now)
	case "break":
		w.begun[step.n].State = 3
	}
}

// noteAsked: nothing is asked for that is fresh or open, and nothing is answered that is too old.
func (w *hallWatch) noteAsked(t *testing.T, step proxyStep) {
	t.Helper()
	at := slices.IndexFunc(w.proxy.Clients, func(c impl.Client) bool { return c.Id == step.n })
	if at < 0 {
		t.Fatalf("%s: there is no such client", step.told())
	}
	c, open := w.proxy.Clients[at], w.openOf(step.text)
	switch {
	case c.Fetch == 0:
		last := w.lastOf(step.text)
		if open >= 0 || last.State != 2 || c.Got != last.Text || c.From != last.Stored || c.State != 2 || w.proxy.Now-last.Stored >= last.Life || c.Age != w.proxy.Now-last.Stored {
			t.Fatalf("%s: answered %v where the last one is %v", step.told(), c, last)
		}
	case open >= 0:
		if c.Fetch != open+1 {
			t.Fatalf("%s: waits for %d, but %d is open", step.told(), c.Fetch-1, open)
		}
	default:
		if c.Fetch != len(w.begun)+1 {
			t.Fatalf("%s: waits for %d, but %d is new", step.told(), c.Fetch-1, len(w.begun))
		}
		w.begun = append(w.begun, begun(step.text, ""))
	}
}

func (w *hallWatch) holds(t *testing.T, step proxyStep) {
	t.Helper()
	p := w.proxy
	if !impl.ProxyOk(p) || !slices.Equal(p.Fetches, w.begun) {
		t.Fatalf("behind %s: begun were %v: %s", step.told(), w.begun, toldProxy(p))
	}
	for _, c := range p.Clients {
		if c.Fetch == 0 {
			continue
		}
		// The states of both have the same numbers; nothing comes behind an end.
		if f := w.begun[c.Fetch-1]; c.Key != f.Key || c.Got != f.Text || c.State != f.State {
			t.Fatalf("behind %s: %v is not as %v", step.told(), c, f)
		}
	}
	for _, e := range p.Entries {
		if f := w.lastOf(e.Key); f.State != 2 || f.Life < 1 || e != entry(f.Key, f.Stored, f.Life, f.Text) {
			t.Fatalf("behind %s: %s is not of %v", step.told(), toldEntry(e), f)
		}
	}
}

func newWatch() *hallWatch {
	return &hallWatch{proxy: impl.ProxyNew()}
}

func (w *hallWatch) doesAll(t *testing.T, steps ...proxyStep) {
	t.Helper()
	for _, step := range steps {
		if code := w.does(t, step); code != 0 {
			t.Fatalf("%s: %d", step.told(), code)
		}
	}
}

// One to six clients ask for one key, each of them ahead of another part or all at once: there is one fetch, and each gets all that comes.
func TestOneFetchForAll(t *testing.T) {
	for _, ids := range everyIds(6) {
		for _, turned := range []bool{false, true} {
			for between := range 3 {
				w := newWatch()
				if turned {
					ids = slices.Clone(ids)
					slices.Reverse(ids)
				}
				all := ""
				for i, id := range ids {
					w.doesAll(t, askStep(id, "k"))
					if between > 0 && i%between == 0 {
						w.doesAll(t, partStep(0, drawn(i+1, uint32(id))))
						all += drawn(i+1, uint32(id))
					}
				}
				if len(ids) == 0 {
					continue
				}
				w.doesAll(t, partStep(0, "last"))
				end := []proxyStep{closeStep(0, 0), closeStep(0, 9), breakStep(0)}[len(ids)%3]
				w.doesAll(t, end)
				for _, c := range w.proxy.Clients {
					if c.Got != all+"last" || c.Fetch != 1 {
						t.Fatalf("%v: %v got something else than %q", ids, c, all+"last")
					}
				}
				if len(w.proxy.Fetches) != 1 || len(w.proxy.Clients) != len(ids) || w.proxy.Hits != 0 {
					t.Fatalf("%v: %s", ids, toldProxy(w.proxy))
				}
			}
		}
	}
}

// Clients of different keys wait for different fetches, in the order in which they were begun; an end is one of its own clients alone.
func TestDifferentKeysWaitApart(t *testing.T) {
	for _, order := range everyOrder(4) {
		for end := range 3 {
			keys := []string{"b", "a", "\xff", "aa"}
			w := newWatch()
			for i, n := range order {
				w.doesAll(t, askStep(9-n, keys[n]))
				if f := w.proxy.Fetches[i]; f != begun(keys[n], "") || len(w.proxy.Fetches) != i+1 {
					t.Fatalf("%v: fetch %d is %v", order, i, f)
				}
			}
			w.doesAll(t, askStep(2, keys[order[1]]), partStep(1, "one"), partStep(2, "two"))
			w.doesAll(t, []proxyStep{closeStep(1, 5), closeStep(1, 0), breakStep(1)}[end])
			ended := []int{2, 2, 3}[end]
			for _, c := range w.proxy.Clients {
				want, got := 1, map[int]string{2: "one", 3: "two"}[c.Fetch]
				if c.Fetch == 2 {
					want = ended
				}
				if c.State != want || c.Got != got {
					t.Fatalf("%v, end %d: %v", order, end, c)
				}
			}
			for at, f := range w.proxy.Fetches {
				if at != 1 && f.State != 1 {
					t.Fatalf("%v, end %d: fetch %d is %v", order, end, at, f)
				}
			}
		}
	}
}

// Behind the end of a fetch its key is asked for again, behind all others, as long as nothing of it is kept.
func TestAskedForAgainBehindTheEnd(t *testing.T) {
	for _, end := range []proxyStep{closeStep(0, 0), breakStep(0)} {
		w := newWatch()
		w.doesAll(t, askStep(1, "k"), askStep(2, "other"), partStep(0, "first"), end, askStep(3, "k"))
		if got := w.proxy.Clients[2]; got != client(3, "k", 3, 1, "") || len(w.proxy.Fetches) != 3 {
			t.Fatalf("%s: %s", end.told(), toldProxy(w.proxy))
		}
		w.doesAll(t, partStep(2, "second"), askStep(4, "k"))
		w.doesAll(t, closeStep(2, 4), awayStep(2), passStep(3), askStep(5, "k"), passStep(1), askStep(2, "k"), breakStep(3), awayStep(1), askStep(6, "k"))
		if len(w.proxy.Fetches) != 5 || w.proxy.Hits != 1 || len(w.proxy.Entries) != 0 {
			t.Fatalf("%s: %s", end.told(), toldProxy(w.proxy))
		}
		for _, at := range []int{0, 2, 3} {
			wantProxyRefused(t, partStep(at, "late"), w.proxy, 1)
			wantProxyRefused(t, closeStep(at, 1), w.proxy, 1)
			wantProxyRefused(t, breakStep(at), w.proxy, 1)
		}
	}
}

// One who left does not bring the fetch to an end; who comes then waits for the same.
func TestAllLeaveAFetch(t *testing.T) {
	w := newWatch()
	w.doesAll(t, askStep(1, "k"), askStep(2, "k"), partStep(0, "one"), awayStep(1), awayStep(2), partStep(0, "two"), askStep(1, "k"))
	if got := w.proxy.Clients[0]; got != client(1, "k", 1, 1, "onetwo") || len(w.proxy.Fetches) != 1 {
		t.Fatalf("who came back: %s", toldProxy(w.proxy))
	}
	w.doesAll(t, awayStep(1), closeStep(0, 9), askStep(3, "k"))
	if got := w.proxy.Clients[0]; got != answered(3, "k", 1, "onetwo", 0) {
		t.Fatalf("who came behind the end: %s", toldProxy(w.proxy))
	}
}

// An entry of the key, at moments about the beginning and the end of its Life.
func TestAskForWhatIsKept(t *testing.T) {
	for _, life := range []int{1, 2, 5, 999999} {
		for _, stored := range []int{0, 1, 40, impl.MaxNumber - 999999, impl.MaxNumber - 5, impl.MaxNumber} {
			for _, now := range []int{1, stored - 1, stored, stored + 1, stored + life - 2, stored + life - 1, stored + life, stored + life + 1, impl.MaxNumber} {
				if now < 1 || now > impl.MaxNumber {
					continue
				}
				e := entry("k", stored, life, "body")
				p := impl.Proxy{Now: now, Entries: []impl.Entry{entry("a", 1, 1, "A"), e}, Policy: withSketch(staying("k a", ""), drawnSketch(3, 62)), Hits: 3}
				after, _ := wantProxyByRule(t, askStep(4, "k"), p)
				if stored <= now && now < stored+life {
					want := impl.Policy{Window: []string{"a", "k"}, Sketch: impl.SketchBump(p.Policy.Sketch, "k")}
					wantProxy(t, askStep(4, "k"), p, impl.Proxy{
						Now: now, Entries: p.Entries, Policy: want, Clients: []impl.Client{answered(4, "k", stored, "body", now-stored)}, Hits: 4,
					}, 0)
					continue
				}
				want := impl.Policy{Window: []string{"a"}, Sketch: impl.SketchBump(p.Policy.Sketch, "k")}
				wantProxy(t, askStep(4, "k"), p, impl.Proxy{
					Now: now, Entries: p.Entries[:1], Policy: want, Fetches: []impl.Fetch{begun("k", "")}, Clients: []impl.Client{client(4, "k", 1, 1, "")}, Hits: 3,
				}, 0)
				wantProxyOk(t, "behind the end of a Life", after, true)
			}
		}
	}
}

// Each key of each place of a policy, fresh or not, with an open fetch of it or without, and with room for one more or without.
func TestAskForEachPlace(t *testing.T) {
	kept, waited, begunOnes, noRoom := 0, 0, 0, 0
	for _, base := range []impl.Proxy{ranOut(3, 9, 63), ranOut(9, 3, 5), busyProxy(), oddProxies()[2], oddProxies()[4]} {
		for _, key := range append(textsOfPolicy(base.Policy), "k", "e", "f", "nobody", "\x00", letters(30)) {
			for _, count := range []int{0, 19, 20} {
				for _, now := range []int{base.Now, base.Now + 1, 139, 140, 141, 5000} {
					p := manyFetches(base, count, true)
					p.Now = now
					after, code := wantProxyByRule(t, askStep(8, key), p)
					switch {
					case code == 2:
						noRoom++
					case after.Hits > p.Hits:
						kept++
					case len(after.Fetches) > len(p.Fetches):
						begunOnes++
					default:
						waited++
					}
				}
			}
		}
	}
	if kept < 20 || waited < 20 || begunOnes < 20 || noRoom < 20 {
		t.Errorf("%d kept, %d waited, %d begun, %d without room: the proxies tell too little", kept, waited, begunOnes, noRoom)
	}
}

// An entry that is fresh no more is gone also where its key is waited for already.
func TestStaleWithAnOpenFetch(t *testing.T) {
	p := busyProxy()
	want := cloneProxy(p)
	want.Entries = []impl.Entry{p.Entries[0], p.Entries[2], p.Entries[3]}
	want.Policy = withSketch(staying("a", "c d"), impl.SketchBump(p.Policy.Sketch, "b"))
	want.Clients = slices.Insert(want.Clients, 0, client(1, "b", 1, 1, "half"))
	wantProxy(t, askStep(1, "b"), p, want, 0)
	full := manyFetches(p, 20, false)
	want.Fetches = full.Fetches
	wantProxy(t, askStep(1, "b"), full, want, 0)
	// With nothing open of it there is no room for one more: all stays, the entry too.
	full.Fetches[0].State = 2
	wantProxyRefused(t, askStep(1, "b"), full, 2)
	// What is fresh needs no fetch.
	after := wantProxy(t, askStep(1, "a"), full, func() impl.Proxy {
		want := cloneProxy(full)
		want.Policy, _ = impl.PolicyTouch(full.Policy, "a")
		want.Clients = slices.Insert(want.Clients, 0, answered(1, "a", 90, "A", 10))
		want.Hits = 6
		return want
	}(), 0)
	wantProxyOk(t, "full of fetches", after, true)
}

func TestHitsUpToTheEnd(t *testing.T) {
	for hits, want := range map[int]int{0: 1, 1: 2, impl.MaxNumber - 2: impl.MaxNumber - 1, impl.MaxNumber - 1: impl.MaxNumber, impl.MaxNumber: impl.MaxNumber} {
		p := busyProxy()
		p.Hits = hits
		after, code := impl.AskFor(p, 1, "a")
		if code != 0 || after.Hits != want || !impl.ProxyOk(after) {
			t.Errorf("%d hits and one more: %d, %s", hits, code, toldProxy(after))
		}
		after, code = impl.AskFor(p, 1, "z")
		if code != 0 || after.Hits != hits {
			t.Errorf("%d hits and none more: %d, %s", hits, code, toldProxy(after))
		}
	}
}

func TestAskForRefused(t *testing.T) {
	full, many := fullProxy(), manyFetches(busyProxy(), 20, false)
	for _, p := range []impl.Proxy{impl.ProxyNew(), busyProxy(), many, ranOut(1, 1, 1), full} {
		for _, id := range []int{math.MinInt, -1, 0, 10, 11, 257, 1 << 32, math.MaxInt} {
			for _, key := range []string{"a", "b", "z", ""} {
				wantProxyRefused(t, askStep(id, key), p, 1)
			}
		}
		for _, key := range wrongKeys() {
			for id := range 11 {
				wantProxyRefused(t, askStep(id, key), p, 1)
			}
		}
		for _, c := range p.Clients {
			for _, key := range append(policyKeys(), c.Key, "a", "b", "z") {
				wantProxyRefused(t, askStep(c.Id, key), p, 1)
			}
		}
	}
	// With six there is no room for one more, whatever they ask for and whatever they are.
	for id := -1; id < 12; id++ {
		for _, key := range []string{"a", "z", full.Entries[0].Key, full.Fetches[0].Key} {
			wantProxyRefused(t, askStep(id, key), full, 1)
		}
	}
	five := cloneProxy(full)
	five.Clients = five.Clients[:5]
	wantProxyRefused(t, askStep(1, "z"), five, 2)
	if after, code := wantProxyByRule(t, askStep(1, full.Entries[0].Key), five); code != 0 || len(after.Clients) != 6 {
		t.Errorf("the sixth: %d, %s", code, toldProxy(after))
	}
}

func TestAskForWithoutRoom(t *testing.T) {
	for _, base := range []impl.Proxy{impl.ProxyNew(), busyProxy(), ranOut(1, 2, 3)} {
		for _, open := range []bool{true, false} {
			for _, id := range []int{1, 8, 9} {
				for _, key := range append(policyKeys()[2:], "z", "many", "e2") {
					wantProxyRefused(t, askStep(id, key), manyFetches(base, 20, open), map[bool]int{true: 1, false: 2}[slices.ContainsFunc(base.Clients, func(c impl.Client) bool { return c.Id == id })])
					if after, code := wantProxyByRule(t, askStep(id, key), manyFetches(base, 19, open)); code == 0 && len(after.Fetches) != 20 {
						t.Errorf("the last one: %s", toldProxy(after))
					}
				}
			}
		}
		p := manyFetches(base, 20, true)
		for i, f := range p.Fetches {
			if f.State == 1 && !slices.Contains(textsOfPolicy(p.Policy), f.Key) {
				after, code := wantProxyByRule(t, askStep(9, f.Key), p)
				if last := after.Clients[len(after.Clients)-1]; code != 0 || last != client(9, f.Key, i+1, 1, f.Text) {
					t.Errorf("open at %d: %d, %v", i, code, last)
				}
			}
		}
	}
	// Both hold: the first counts.
	many := manyFetches(busyProxy(), 20, false)
	for _, id := range []int{2, 3, 4, 7, 0, 10} {
		wantProxyRefused(t, askStep(id, "z"), many, 1)
		wantProxyRefused(t, askStep(id, "b"), many, 1)
	}
	wantProxyRefused(t, askStep(1, ""), many, 1)
	wantProxyRefused(t, askStep(1, "z"), many, 2)
	many.Hits = -1
	wantProxyRefused(t, askStep(1, "z"), many, 1)
}

// A client comes to its place among the others, whatever Ids are there.
func TestClientsInOrder(t *testing.T) {
	for _, ids := range everyIds(5) {
		p := busyProxy()
		p.Clients = nil
		for _, id := range ids {
			p.Clients = append(p.Clients, client(id, "k", id%6, id%3+1, "x"))
		}
		for id := range 11 {
			for _, key := range []string{"a", "b", "z"} {
				after, code := wantProxyByRule(t, askStep(id, key), p)
				wantProxyOk(t, "in order", after, true)
				if (code == 0) != (1 <= id && id <= 9 && !slices.Contains(ids, id)) {
					t.Errorf("%d asks where %v are: %d", id, ids, code)
				}
			}
		}
	}
}

func TestPartOf(t *testing.T) {
	p := busyProxy()
	want := cloneProxy(p)
	want.Fetches[0].Text, want.Clients[0].Got = "halfmore", "halfmore"
	wantProxy(t, partStep(0, "more"), p, want, 0)
	want = cloneProxy(p)
	want.Fetches[3].Text, want.Clients[3].Got = "\xff", "\xff"
	wantProxy(t, partStep(3, "\xff"), p, want, 0)
	want = cloneProxy(p)
	want.Fetches[4].Text = "xy"
	wantProxy(t, partStep(4, "y"), p, want, 0)
	// Whoever waits has all of the Text then, also who had something else; who waits no more has what it had.
	late := oddProxies()[1]
	want = cloneProxy(late)
	want.Fetches[0].Text, want.Clients[1].Got, want.Clients[5].Got = "half!", "half!", "half!"
	wantProxy(t, partStep(0, "!"), late, want, 0)
	for size := range 43 {
		wantProxyByRule(t, partStep(0, drawn(size, 3)), p)
	}
	for _, there := range []int{0, 1, 359, 360, 361, 398, 399, 400} {
		p.Fetches[0].Text = letters(there)
		for _, size := range []int{0, 1, 2, 39, 40, 41} {
			_, code := wantProxyByRule(t, partStep(0, drawn(size, 3)), p)
			if ok := size > 0 && size < 41 && there+size < 401; ok != (code == 0) {
				t.Errorf("%d bytes and %d more: %d", there, size, code)
			}
		}
	}
}

// wrongPlaces are places where no open fetch is.
func wrongPlaces(p impl.Proxy) []int {
	places := []int{math.MinInt, -1 << 32, -21, -20, -2, -1, len(p.Fetches), len(p.Fetches) + 1, 20, 21, 256, 1 << 32, math.MaxInt}
	for i, f := range p.Fetches {
		places = append(places, -1-len(p.Fetches)-i)
		if f.State != 1 {
			places = append(places, i)
		}
	}
	return places
}

func TestWrongPlacesOfFetches(t *testing.T) {
	for _, p := range rightProxies() {
		for _, at := range wrongPlaces(p) {
			wantProxyRefused(t, partStep(at, "part"), p, 1)
			wantProxyRefused(t, closeStep(at, 0), p, 1)
			wantProxyRefused(t, closeStep(at, 9), p, 1)
			wantProxyRefused(t, breakStep(at), p, 1)
		}
	}
}

func TestWrongPartsAndLives(t *testing.T) {
	for _, p := range rightProxies() {
		for at := range p.Fetches {
			for _, part := range []string{"", letters(41), drawn(42, 3), letters(296), letters(401), letters(100000)} {
				wantProxyRefused(t, partStep(at, part), p, 1)
			}
			for _, life := range []int{math.MinInt, -999999, -2, -1, 1000000, 1000001, impl.MaxNumber, 1 << 32, 1<<32 + 5, math.MaxInt} {
				wantProxyRefused(t, closeStep(at, life), p, 1)
			}
		}
	}
}

func TestCloseFetchKnown(t *testing.T) {
	p := busyProxy()
	closed := func(at, life int) impl.Proxy {
		want := cloneProxy(p)
		want.Fetches[at].State, want.Fetches[at].Life, want.Fetches[at].Stored = 2, life, 100
		return want
	}
	// Of no Life nothing is kept, and what was kept of the key is left.
	want := closed(0, 0)
	want.Clients[0].State = 2
	wantProxy(t, closeStep(0, 0), p, want, 0)
	for _, life := range []int{1, 2, 999998, 999999} {
		want = closed(0, life)
		want.Clients[0].State = 2
		want.Entries[1] = entry("b", 100, life, "half")
		want.Policy = withSketch(staying("a b", "c d"), impl.SketchBump(p.Policy.Sketch, "b"))
		wantProxy(t, closeStep(0, life), p, want, 0)
		want = closed(3, life)
		want.Clients[3].State = 2
		want.Entries = append(want.Entries, entry("e", 100, life, ""))
		want.Policy = withSketch(staying("b e", "c d a"), impl.SketchBump(p.Policy.Sketch, "e"))
		wantProxy(t, closeStep(3, life), p, want, 0)
	}
	want = closed(4, 0)
	wantProxy(t, closeStep(4, 0), p, want, 0)
	// An open fetch of a key of which an entry is there that is fresh: what came takes its place.
	kept := oddProxies()[2]
	want = cloneProxy(kept)
	want.Fetches[0] = fetched("a", "new A", 2, 5, 100)
	want.Entries[0] = entry("a", 100, 5, "new A")
	want.Policy = withSketch(staying("b a", "c d"), impl.SketchBump(kept.Policy.Sketch, "a"))
	wantProxy(t, closeStep(0, 5), kept, want, 0)
	want = cloneProxy(kept)
	want.Fetches[0] = fetched("a", "new A", 2, 0, 100)
	wantProxy(t, closeStep(0, 0), kept, want, 0)
}

// With no seat free somebody is out: the first of Window, or the first of Main when that is asked for less often.
func TestCloseFetchWithoutRoom(t *testing.T) {
	for _, added := range []int{0, 5, 62, 63} {
		for window := range 16 {
			for main := range 16 {
				p := ranOut(window, main, added)
				for at, key := range []string{"k", "l", "w"} {
					after, code := wantProxyByRule(t, closeStep(at, 7), p)
					if code != 0 || len(after.Entries) != 6 || !there(after, key) {
						t.Fatalf("%s is closed: %d, %s", key, code, toldProxy(after))
					}
					out := 0
					for _, other := range textsOfPolicy(p.Policy) {
						if there(after, other) != impl.PolicyHas(after.Policy, other) {
							t.Fatalf("%s is closed, and %s is out: %s", key, other, toldProxy(after))
						}
						if !there(after, other) {
							out++
						}
					}
					if want := map[bool]int{true: 1, false: 0}[key != "w"]; out != want {
						t.Fatalf("%s is closed: %d are out: %s", key, out, toldProxy(after))
					}
				}
			}
		}
	}
	for _, c := range []struct {
		window, main int
		out, stays   string
	}{{9, 2, "m", "w"}, {2, 9, "w", "m"}, {5, 5, "w", "m"}} {
		after := ranThrough(t, ranOut(c.window, c.main, 0), closeStep(0, 7))
		if there(after, c.out) || !there(after, c.stays) {
			t.Errorf("w is guessed %d times, m %d times: %s is not out: %s", c.window, c.main, c.out, toldProxy(after))
		}
	}
}

func there(p impl.Proxy, key string) bool {
	return slices.ContainsFunc(p.Entries, func(e impl.Entry) bool { return e.Key == key })
}

// Who is closed with a Life is an entry of a new Window of two: it is never out itself. Each right policy, with each key.
func TestClosedIsKept(t *testing.T) {
	for i, policy := range rightPolicies() {
		if i%4 != 0 {
			continue
		}
		p := impl.Proxy{Now: 9, Policy: clonePolicy(policy)}
		for _, key := range slices.Sorted(slices.Values(textsOfPolicy(policy))) {
			p.Entries = append(p.Entries, entry(key, 3, 2, "old"))
		}
		for _, key := range append(textsOfPolicy(policy), "new", "\x00\x00", letters(30)) {
			p.Fetches = []impl.Fetch{begun(key, "body")}
			after, code := wantProxyByRule(t, closeStep(0, 8), p)
			if code != 0 || !slices.Contains(after.Entries, entry(key, 9, 8, "body")) || !impl.ProxyOk(after) {
				t.Fatalf("%q is closed: %d, %s", key, code, toldProxy(after))
			}
			wantProxyByRule(t, closeStep(0, 0), p)
			wantProxyByRule(t, askStep(1, key), p)
		}
	}
}

func TestBreakFetch(t *testing.T) {
	p := busyProxy()
	want := cloneProxy(p)
	want.Fetches[0].State, want.Clients[0].State = 3, 3
	wantProxy(t, breakStep(0), p, want, 0)
	want = cloneProxy(p)
	want.Fetches[3].State, want.Clients[3].State = 3, 3
	wantProxy(t, breakStep(3), p, want, 0)
	// What else is told of a fetch stays.
	want = cloneProxy(p)
	want.Fetches[4].State = 3
	wantProxy(t, breakStep(4), p, want, 0)
	late := oddProxies()[1]
	want = cloneProxy(late)
	want.Fetches[0].State, want.Clients[1].State, want.Clients[5].State = 3, 3, 3
	wantProxy(t, breakStep(0), late, want, 0)
	want.Fetches[0] = fetched("b", "half", 2, 0, 100)
	want.Clients[1].State, want.Clients[5].State = 2, 2
	wantProxy(t, closeStep(0, 0), late, want, 0)
}

func TestPassTime(t *testing.T) {
	for _, c := range []struct{ now, n, want int }{
		{1, 0, 1}, {1, 1, 2}, {1, 999, 1000}, {1, 1000, 1}, {1, 1001, 2}, {1, 2500, 501}, {1, 999999, 1000}, {1, 1000000, 1},
		{1, -1, 1000}, {1, -999, 2}, {1, -1000, 1}, {1, -1001, 1000}, {500, -1, 1499}, {500, -300, 1200}, {500, -2300, 1200},
		{1, math.MaxInt, 808}, {1, math.MinInt, 193}, {77, math.MinInt + 1, 270},
		{impl.MaxNumber, 0, impl.MaxNumber}, {impl.MaxNumber, 1, impl.MaxNumber}, {impl.MaxNumber, 999, impl.MaxNumber}, {impl.MaxNumber, -1, impl.MaxNumber}, {impl.MaxNumber, 1000, impl.MaxNumber},
		{impl.MaxNumber - 1, 0, impl.MaxNumber - 1}, {impl.MaxNumber - 1, 1, impl.MaxNumber}, {impl.MaxNumber - 1, 2, impl.MaxNumber},
		{impl.MaxNumber - 999, 998, impl.MaxNumber - 1}, {impl.MaxNumber - 999, 999, impl.MaxNumber}, {impl.MaxNumber - 998, 999, impl.MaxNumber}, {impl.MaxNumber - 1000, 999, impl.MaxNumber - 1}, {impl.MaxNumber - 999, 1000, impl.MaxNumber - 999},
	} {
		for _, base := range []impl.Proxy{impl.ProxyNew(), manyFetches(impl.ProxyNew(), 1, true)} {
			base.Now = c.now
			want := cloneProxy(base)
			want.Now = c.want
			after := wantProxy(t, passStep(c.n), base, want, 0)
			wantProxyOk(t, "behind some time", after, true)
		}
	}
	for _, p := range rightProxies() {
		for n := -2100; n < 2100; n += 13 {
			after, _ := wantProxyByRule(t, passStep(n), p)
			wantProxyOk(t, "behind some time", after, true)
		}
	}
	for n := -1500; n <= 1500; n++ {
		after := impl.PassTime(impl.ProxyNew(), n)
		if again := impl.PassTime(impl.ProxyNew(), n+1000); after.Now < 1 || after.Now > 1000 || again.Now != after.Now {
			t.Errorf("%d and 1000 more: %d, %d", n, after.Now, again.Now)
		}
	}
}

// A time that is not right is no other than the others: nothing is refused, and it stays within what an int has.
func TestPassTimeOfWrongNow(t *testing.T) {
	for _, c := range []struct{ now, n, want int }{
		{0, 0, 0}, {0, 1, 1}, {0, 999, 999}, {0, -1, 999}, {impl.MaxNumber + 1, 0, impl.MaxNumber}, {impl.MaxNumber + 1, 5, impl.MaxNumber},
		{math.MaxInt, 0, impl.MaxNumber}, {math.MaxInt, 999, impl.MaxNumber}, {math.MaxInt - 5, 10, impl.MaxNumber}, {math.MinInt, 0, math.MinInt}, {math.MinInt, 999, math.MinInt + 999},
		{-5, 3, -2}, {-5, 10, 5},
	} {
		p := busyProxy()
		p.Now = c.now
		want := cloneProxy(p)
		want.Now = c.want
		wantProxy(t, passStep(c.n), p, want, 0)
	}
}

func TestLeaveClient(t *testing.T) {
	p := busyProxy()
	for i, c := range p.Clients {
		want := cloneProxy(p)
		want.Clients = slices.Delete(want.Clients, i, i+1)
		after := wantProxy(t, awayStep(c.Id), p, want, 0)
		wantProxy(t, awayStep(c.Id), after, want, 0)
		back := ranThrough(t, after, askStep(c.Id, "z"))
		wantProxyOk(t, "who came back", back, true)
	}
	for _, p := range rightProxies() {
		for _, id := range []int{math.MinInt, -7, -1, 0, 1, 5, 6, 8, 9, 10, 256 + 2, 1<<32 + 2, math.MaxInt} {
			after, _ := wantProxyByRule(t, awayStep(id), p)
			wantProxyOk(t, "one who left", after, true)
		}
	}
	// Also where nothing is right, and of several with this Id each.
	twice := busyProxy()
	twice.Now, twice.Clients = -3, []impl.Client{client(12, "", -1, 9, ""), client(2, "k", 70, 1, "x"), client(12, "k", 0, 1, letters(600)), client(-4, "k", 1, 0, ""), client(2, "l", 1, 1, "")}
	want := cloneProxy(twice)
	want.Clients = []impl.Client{twice.Clients[1], twice.Clients[3], twice.Clients[4]}
	after := wantProxy(t, awayStep(12), twice, want, 0)
	want.Clients = []impl.Client{twice.Clients[3]}
	after = wantProxy(t, awayStep(2), after, want, 0)
	want.Clients = nil
	wantProxy(t, awayStep(-4), after, want, 0)
}

// stepsFor are those that may be done and those that may not, of each kind.
func stepsFor(p impl.Proxy) []proxyStep {
	steps := []proxyStep{askStep(0, "a"), askStep(1, ""), askStep(5, "a"), askStep(8, "b"), askStep(9, "z"), askStep(1, letters(31)), passStep(0), passStep(700), passStep(-1), awayStep(0), awayStep(5), awayStep(8)}
	for _, e := range p.Entries {
		steps = append(steps, askStep(1, e.Key), askStep(8, e.Key))
	}
	for _, c := range p.Clients {
		steps = append(steps, askStep(c.Id, c.Key), awayStep(c.Id))
	}
	for at := -1; at <= len(p.Fetches); at++ {
		steps = append(steps, partStep(at, "p"), partStep(at, letters(40)), partStep(at, ""), partStep(at, letters(41)), closeStep(at, -1), closeStep(at, 0), closeStep(at, 1), closeStep(at, 999999), closeStep(at, 1000000), breakStep(at))
	}
	for _, f := range p.Fetches {
		steps = append(steps, askStep(1, f.Key))
	}
	return steps
}

// What is not right is refused, whatever is asked; but time passes, and who leaves is gone.
func TestWrongProxies(t *testing.T) {
	for _, p := range wrongProxies() {
		for _, step := range stepsFor(p) {
			if step.what == "pass" && p.Now > impl.MaxNumber || step.what == "pass" && p.Now < 0 {
				continue
			}
			if step.what == "pass" || step.what == "leave" {
				wantProxyByRule(t, step, p)
			} else {
				wantProxyRefused(t, step, p, 1)
			}
		}
	}
}

func TestRightProxiesByRule(t *testing.T) {
	done, refused := map[string]int{}, map[string]int{}
	for _, p := range rightProxies() {
		for _, step := range stepsFor(p) {
			after, code := wantProxyByRule(t, step, p)
			wantProxyOk(t, step.told(), after, true)
			if code == 0 {
				done[step.what]++
			} else {
				refused[step.what]++
			}
		}
	}
	for _, what := range []string{"ask", "part", "close", "break"} {
		if done[what] < 20 || refused[what] < 20 {
			t.Errorf("%s is done %d times and refused %d times: the proxies tell too little", what, done[what], refused[what])
		}
	}
}

// everyWay takes each of the steps, and behind it each of them again, as deep as told.
func everyWay(t *testing.T, w *hallWatch, steps []proxyStep, deep int) {
	t.Helper()
	if deep == 0 {
		return
	}
	for _, step := range steps {
		next := &hallWatch{w.proxy, slices.Clone(w.begun)}
		next.does(t, step)
		everyWay(t, next, steps, deep-1)
	}
}

// Whatever is called in whatever order.
func TestEveryOrderOfCalls(t *testing.T) {
	everyWay(t, newWatch(), []proxyStep{askStep(1, "a"), askStep(2, "a"), askStep(3, "b"), partStep(0, "x"), closeStep(0, 2), breakStep(0), passStep(1), awayStep(1)}, 5)
	stale := newWatch()
	stale.doesAll(t, askStep(1, "a"), partStep(0, "first"), closeStep(0, 2), passStep(1))
	everyWay(t, stale, []proxyStep{askStep(2, "a"), askStep(3, "a"), partStep(1, "next"), closeStep(1, 1), closeStep(1, 0), breakStep(1), passStep(1), askStep(1, "a"), awayStep(1)}, 5)
}

func drawnProxyStep(draws string, fetches int, lives []int) proxyStep {
	keys := []string{"a", "b", "c", "d", "e", "f", "g", "h", "\x00", letters(30)}
	n := int(draws[1])
	at := max(0, fetches-1-n%4)
	switch kind := draws[0] % 64; {
	case kind < 20:
		return askStep(n%9+1, keys[int(draws[2])%len(keys)])
	case kind < 26:
		return partStep(at, drawn(int(draws[2])%41, uint32(draws[3])))
	case kind < 36:
		return closeStep(at, lives[int(draws[2])%len(lives)])
	case kind < 39:
		return breakStep(at)
	case kind < 44:
		return passStep(n % 4)
	case kind < 59:
		return awayStep(n%9 + 1)
	case kind < 60:
		return passStep(n*37 - 3000)
	case kind < 61:
		return askStep(n%14-2, letters(int(draws[2])%33))
	case kind < 62:
		return closeStep(n%30-4, int(draws[2])*8000-9)
	case kind < 63:
		return partStep(n%30-4, letters(int(draws[2])%80))
	}
	return breakStep(n%30 - 4)
}

func TestDrawnLivesOfProxies(t *testing.T) {
	hits, outs, full, again := 0, 0, 0, 0
	for seed := range uint32(400) {
		draws := drawn(4*200, seed*61+7)
		w := newWatch()
		lives := [][]int{{0, 1, 2, 5}, {5, 20, 999999}}[seed%2]
		for i := 0; i < len(draws); i += 4 {
			step := drawnProxyStep(draws[i:i+4], len(w.begun), lives)
			ahead := w.proxy
			code := w.does(t, step)
			if step.what == "close" && code == 0 && len(ahead.Entries) == 6 && !there(ahead, ahead.Fetches[step.n].Key) {
				outs++
			}
			if code == 2 {
				full++
			}
			if step.what == "ask" && code == 0 && there(ahead, step.text) && !there(w.proxy, step.text) {
				again++
			}
		}
		hits += w.proxy.Hits
	}
	if hits < 500 || outs < 100 || full < 100 || again < 100 {
		t.Errorf("%d hits, %d without a seat, %d without room, %d fresh no more: the draws tell too little", hits, outs, full, again)
	}
}

// drawnProxy is right or nearly so.
func drawnProxy(draws string) impl.Proxy {
	pick := func(i int, numbers ...int) int { return numbers[int(draws[i])%len(numbers)] }
	p := impl.Proxy{Now: pick(0, 1, 2, 5, 50, 1000, impl.MaxNumber-1, impl.MaxNumber), Hits: pick(1, 0, 1, 5, impl.MaxNumber-1, impl.MaxNumber)}
	keys := []string{"a", "b", "c", "d", "e", "f"}
	p.Policy = impl.Policy{Sketch: drawnSketch(uint32(draws[2]), pick(3, 0, 5, 62, 63))}
	for i, key := range keys[:pick(4, 0, 1, 3, 5, 6, 6)] {
		stored := max(0, p.Now-pick(5+i, 0, 1, 2, 5, 6, 40))
		p.Entries = append(p.Entries, entry(key, stored, pick(11+i, 1, 2, 5, 6, 40, 999999), "body "+key))
		if len(p.Policy.Window) < 2 && (draws[17+i]%3 == 0 || len(p.Policy.Main) == 4) {
			p.Policy.Window = append(p.Policy.Window, key)
		} else {
			p.Policy.Main = slices.Insert(p.Policy.Main, int(draws[23+i])%(len(p.Policy.Main)+1), key)
		}
	}
	for i := range pick(29, 0, 1, 3, 5, 8, 19, 20) {
		state := pick(30+i, 1, 2, 3)
		key := []string{"a", "c", "e", "f", "g", "h", "i", "j"}[int(draws[50+i])%8]
		p.Fetches = append(p.Fetches, fetched(key, drawn(pick(30+i, 0, 3, 361, 400), uint32(i)), state, i, min(i, p.Now)))
	}
	id := 0
	for i := range pick(70, 0, 1, 3, 5, 6) {
		id += int(draws[71+i])%2 + 1
		p.Clients = append(p.Clients, impl.Client{Id: id, Key: keys[int(draws[77+i])%6], Fetch: int(draws[83+i]) % (len(p.Fetches) + 1), From: p.Now / 2, State: pick(71+i, 1, 1, 2, 3), Got: "got", Age: i})
	}
	return p
}

// withoutTwins closes each open fetch but the first of its Key.
func withoutTwins(p impl.Proxy) impl.Proxy {
	seen := map[string]bool{}
	for i, f := range p.Fetches {
		if f.State == 1 && seen[f.Key] {
			p.Fetches[i].State = 2
		}
		seen[f.Key] = seen[f.Key] || f.State == 1
	}
	return p
}

func TestDrawnProxiesByRule(t *testing.T) {
	right, wrong, codes, lives := 0, 0, map[string]int{}, []int{0, 1, 2, 5, 20, 999999}
	for seed := range uint32(3000) {
		draws := drawn(120, seed*59+31)
		p := drawnProxy(draws)
		if seed%4 != 0 {
			p = withoutTwins(p)
		}
		ok := proxyOkByRule(p)
		wantProxyOk(t, "drawn", p, ok)
		if ok {
			right++
		} else {
			wrong++
		}
		for i := 92; i < 120; i += 4 {
			_, code := wantProxyByRule(t, drawnProxyStep(draws[i:i+4], len(p.Fetches), lives), p)
			codes[fmt.Sprintf("%s %d", drawnProxyStep(draws[i:i+4], len(p.Fetches), lives).what, code)]++
		}
	}
	if right < 1000 || wrong < 300 {
		t.Errorf("%d are right and %d are not: the draws tell too little", right, wrong)
	}
	for _, what := range []string{"ask 0", "ask 1", "ask 2", "part 0", "part 1", "close 0", "close 1", "break 0", "break 1"} {
		if codes[what] < 50 {
			t.Errorf("%s: %d times: the draws tell too little", what, codes[what])
		}
	}
}

// proxyRoom is a proxy with texts of its own and room behind each of its lists, where nothing may be written.
type proxyRoom struct {
	proxy   impl.Proxy
	entries []impl.Entry
	policy  policyRoom
	fetches []impl.Fetch
	clients []impl.Client
}

func roomyProxy(p impl.Proxy) proxyRoom {
	r := proxyRoom{policy: roomyPolicy(p.Policy)}
	list, entries := roomyEntries(p.Entries)
	r.entries = entries
	for _, f := range append(slices.Clone(p.Fetches), fetched("room", "room", -7, -8, -9), fetched("more", "", -1, -2, -3)) {
		f.Key, f.Text = ownText(f.Key), ownText(f.Text)
		r.fetches = append(r.fetches, f)
	}
	for _, c := range append(slices.Clone(p.Clients), client(-7, "room", -8, -9, "room"), client(-1, "", -2, -3, "")) {
		c.Key, c.Got = ownText(c.Key), ownText(c.Got)
		r.clients = append(r.clients, c)
	}
	r.proxy = impl.Proxy{Now: p.Now, Entries: list, Policy: r.policy.policy, Fetches: r.fetches[:len(p.Fetches)], Clients: r.clients[:len(p.Clients)], Hits: p.Hits}
	return r
}

// same tells whether all is as in another one, the room too.
func (r proxyRoom) same(other proxyRoom) bool {
	texts, numbers := r.policy.whole()
	otherTexts, otherNumbers := other.policy.whole()
	return sameProxy(r.proxy, other.proxy) && slices.Equal(r.entries, other.entries) && slices.Equal(r.fetches, other.fetches) &&
		slices.Equal(r.clients, other.clients) && slices.Equal(texts, otherTexts) && slices.Equal(numbers, otherNumbers)
}

func spoilProxy(p impl.Proxy) {
	spoilEntries(p.Entries)
	spoilPolicy(p.Policy)
	fetches := p.Fetches[:cap(p.Fetches)]
	for i := range fetches {
		fetches[i] = fetched("spoilt", "spoilt", -97, -98, -99)
	}
	clients := p.Clients[:cap(p.Clients)]
	for i := range clients {
		clients[i] = client(-97, "spoilt", -98, -99, "spoilt")
	}
}

func textsOfProxy(p impl.Proxy) []string {
	texts := append(textsOfPolicy(p.Policy), textsOfEntries(p.Entries...)...)
	for _, f := range p.Fetches {
		texts = append(texts, f.Key, f.Text)
	}
	for _, c := range p.Clients {
		texts = append(texts, c.Key, c.Got)
	}
	return texts
}

// someProxies are right and wrong ones, none of them with very long texts.
func someProxies() []impl.Proxy {
	list := rightProxies()
	for i, p := range wrongProxies() {
		if i%6 == 0 && !slices.ContainsFunc(textsOfProxy(p), func(text string) bool { return len(text) > 700 }) {
			list = append(list, p)
		}
	}
	return list
}

func TestProxiesChangeNothing(t *testing.T) {
	for _, p := range someProxies() {
		given, untouched := roomyProxy(p), roomyProxy(p)
		for _, step := range stepsFor(p) {
			step.text = ownText(step.text)
			text := strings.Clone(step.text)
			after, _ := step.run(given.proxy)
			impl.ProxyOk(given.proxy)
			if !given.same(untouched) || step.text != text {
				t.Fatalf("%s: what was handed in is changed: %s", step.told(), toldProxy(given.proxy))
			}
			wantApart(t, step.told(), textsOfProxy(after), append(textsOfProxy(given.proxy), step.text))
			want := cloneProxy(after)
			spoilProxy(given.proxy)
			if !sameProxy(after, want) {
				t.Fatalf("%s: what was handed in is spoilt, and so is the answer: %s", step.told(), toldProxy(after))
			}
			given = roomyProxy(p)
		}
	}
}

func TestProxyAnswersReachNothing(t *testing.T) {
	for _, p := range someProxies() {
		given, untouched := roomyProxy(p), roomyProxy(p)
		for _, step := range stepsFor(p) {
			first, code := step.run(given.proxy)
			again, codeAgain := step.run(given.proxy)
			if !sameProxy(first, again) || code != codeAgain {
				t.Fatalf("%s of %s: the second answer is another one", step.told(), toldProxy(p))
			}
			wantApart(t, step.told(), textsOfProxy(first), textsOfProxy(again))
			want := cloneProxy(again)
			spoilProxy(first)
			if !sameProxy(again, want) || !given.same(untouched) {
				t.Fatalf("%s of %s: an answer is spoilt, and so is another one, or what was handed in", step.told(), toldProxy(p))
			}
		}
	}
	one, other := impl.ProxyNew(), impl.ProxyNew()
	spoilProxy(one)
	if want := (impl.Proxy{Now: 1, Policy: staying("", "")}); !sameProxy(other, want) || !sameProxy(impl.ProxyNew(), want) {
		t.Errorf("a new one is spoilt, and so is another one: %s", toldProxy(other))
	}
}

// No two texts of one answer share memory, and no two lists do.
func TestProxyListsAreApart(t *testing.T) {
	for _, p := range someProxies() {
		for _, step := range stepsFor(p) {
			after, _ := step.run(p)
			texts := textsOfProxy(after)
			for i, text := range texts {
				wantApart(t, step.told(), []string{text}, texts[i+1:])
			}
			wantListsApart(t, step.told(), after.Policy)
		}
	}
	// Also where what is handed in is of one text and one list.
	row, text := slices.Repeat([]int{3}, 16), "kkkkkkkkkk"
	keys := []string{text[:1], text[:2], text[:3], text[:4]}
	p := impl.Proxy{Now: 9, Policy: impl.Policy{Window: keys[:1], Main: keys[1:3], Sketch: impl.Sketch{Rows: [][]int{row, row, row}}}}
	for _, key := range keys[:3] {
		p.Entries = append(p.Entries, entry(key, 8, len(key), text))
	}
	p.Fetches = []impl.Fetch{begun(keys[0], text), begun(keys[3], text)}
	p.Clients = []impl.Client{client(1, keys[3], 2, 1, text), client(2, keys[0], 1, 1, text)}
	for _, step := range append(stepsFor(p), askStep(3, text[:4]), partStep(1, text), closeStep(1, 5)) {
		after, code := wantProxyByRule(t, step, p)
		texts := textsOfProxy(after)
		for i, text := range texts {
			wantApart(t, step.told(), []string{text}, append(texts[i+1:], keys[3]))
		}
		want := cloneProxy(after)
		spoilProxy(after)
		if again, codeAgain := wantProxyByRule(t, step, p); code != codeAgain || !sameProxy(again, want) {
			t.Fatalf("%s: what was handed in is spoilt: %s", step.told(), toldProxy(p))
		}
	}
}

// An answer that is handed in again is left as it is, too: lives that part do not meet again.
func TestProxiesThatPart(t *testing.T) {
	base := ranThrough(t, busyProxy(), askStep(1, "c"), partStep(3, "abc"), closeStep(3, 8))
	want := cloneProxy(base)
	for _, step := range stepsFor(base) {
		once, _ := step.run(base)
		kept := cloneProxy(once)
		for _, other := range stepsFor(base) {
			other.run(once)
			other.run(base)
		}
		if !sameProxy(base, want) || !sameProxy(once, kept) {
			t.Fatalf("%s: %s and %s", step.told(), toldProxy(base), toldProxy(once))
		}
	}
}

// Many may ask of one proxy at the same time: each gets what it would get alone.
func TestProxiesAskedAtOnce(t *testing.T) {
	given, untouched := roomyProxy(busyProxy()), roomyProxy(busyProxy())
	steps := stepsFor(given.proxy)
	faults := make([]string, len(steps))
	var all sync.WaitGroup
	for i, step := range steps {
		all.Go(func() {
			want, wantCode := step.byRule(given.proxy)
			for range 50 {
				if got, code := step.run(given.proxy); !sameProxy(got, want) || code != wantCode {
					faults[i] = toldProxy(got)
				}
			}
		})
	}
	all.Wait()
	for i, fault := range faults {
		if fault != "" {
			t.Errorf("%s at the same time as others: %s", steps[i].told(), fault)
		}
	}
	if !given.same(untouched) {
		t.Errorf("what was handed in is changed: %s", toldProxy(given.proxy))
	}
}
