package tests

import (
	"math"
	"regexp"
	"slices"
	"strconv"
	"strings"
	"testing"

	"loop.example/g00245/impl"
)

// nothingTold is what a value tells in which no part is known.
var nothingTold = impl.Control{MaxAge: -1, Shared: -1}

// The rules of chapter 10 as patterns over a whole value, a rune a byte (oneRune). The first `.*` takes as much as it can: so the last one of several is found.
var (
	storePattern  = controlPattern(`(no-store|private)`)
	cachePattern  = controlPattern(`(no-cache)`)
	agePattern    = controlPattern(`max-age=([0-9]{1,6})`)
	sharedPattern = controlPattern(`s-maxage=([0-9]{1,6})`)
)

func controlPattern(part string) *regexp.Regexp {
	return regexp.MustCompile(`(?is)\A(?:.*,)? *` + part + ` *(?:,.*)?\z`)
}

func numberByPattern(pattern *regexp.Regexp, value string) int {
	found := pattern.FindStringSubmatch(oneRune(value))
	if found == nil {
		return -1
	}
	n, _ := strconv.Atoi(found[1])
	return n
}

func controlByRule(value string) impl.Control {
	seen := oneRune(value)
	return impl.Control{
		NoStore: storePattern.MatchString(seen),
		NoCache: cachePattern.MatchString(seen),
		MaxAge:  numberByPattern(agePattern, value),
		Shared:  numberByPattern(sharedPattern, value),
	}
}

func wantControl(t *testing.T, value string, want impl.Control) {
	t.Helper()
	if got := impl.ControlOf(value); got != want {
		t.Errorf("ControlOf %q: %+v; want %+v", value, got, want)
	}
}

func wantNothingTold(t *testing.T, value string) {
	t.Helper()
	wantControl(t, value, nothingTold)
}

func wantControlByRule(t *testing.T, value string) {
	t.Helper()
	wantControl(t, value, controlByRule(value))
}

func age(n int) impl.Control {
	return impl.Control{MaxAge: n, Shared: -1}
}

func shared(n int) impl.Control {
	return impl.Control{MaxAge: -1, Shared: n}
}

// directive is a part and what it tells alone.
type directive struct {
	part string
	told impl.Control
}

func directives() []directive {
	return []directive{
		{"no-store", impl.Control{NoStore: true, MaxAge: -1, Shared: -1}},
		{"no-cache", impl.Control{NoCache: true, MaxAge: -1, Shared: -1}},
		{"private", impl.Control{NoStore: true, MaxAge: -1, Shared: -1}},
		{"max-age=70", age(70)},
		{"s-maxage=8", shared(8)},
	}
}

// together is what parts tell of which no two tell of one number.
func together(list []directive) impl.Control {
	all := nothingTold
	for _, d := range list {
		all.NoStore = all.NoStore || d.told.NoStore
		all.NoCache = all.NoCache || d.told.NoCache
		all.MaxAge = max(all.MaxAge, d.told.MaxAge)
		all.Shared = max(all.Shared, d.told.Shared)
	}
	return all
}

func joinedParts(list []directive, between string) string {
	var parts []string
	for _, d := range list {
		parts = append(parts, d.part)
	}
	return strings.Join(parts, between)
}

// orders has each choice of the list's members in each order.
func orders(list []directive) [][]directive {
	all := [][]directive{nil}
	for i, first := range list {
		rest := slices.Concat(list[:i], list[i+1:])
		for _, order := range orders(rest) {
			all = append(all, slices.Concat([]directive{first}, order))
		}
	}
	return all
}

func everyOneByte() []string {
	var list []string
	for i := range 256 {
		list = append(list, string([]byte{byte(i)}))
	}
	return list
}

func TestControlOfOne(t *testing.T) {
	wantNothingTold(t, "")
	wantControl(t, "no-store", impl.Control{NoStore: true, MaxAge: -1, Shared: -1})
	wantControl(t, "private", impl.Control{NoStore: true, MaxAge: -1, Shared: -1})
	wantControl(t, "no-cache", impl.Control{NoCache: true, MaxAge: -1, Shared: -1})
	wantControl(t, "max-age=0", age(0))
	wantControl(t, "max-age=60", age(60))
	wantControl(t, "s-maxage=0", shared(0))
	wantControl(t, "s-maxage=999999", shared(999999))
	wantControl(t, "no-cache, Max-Age=7", impl.Control{NoCache: true, MaxAge: 7, Shared: -1})
	wantControl(t, " PRIVATE ,x,s-maxage=3,max-age=4", impl.Control{NoStore: true, MaxAge: 4, Shared: 3})
}

func TestControlOfMany(t *testing.T) {
	seen := 0
	for _, order := range orders(directives()) {
		want := together(order)
		for _, between := range []string{",", ", ", " ,", "   ,    ", ",,", ", ,", ",x,", ",max-age=,s-maxage=,no-,"} {
			text := joinedParts(order, between)
			wantControl(t, text, want)
			wantControl(t, strings.ToUpper(text), want)
			wantControl(t, ","+text+",", want)
			wantControl(t, "  "+text+"   ", want)
		}
		seen++
	}
	if seen != 326 {
		t.Errorf("%d orders, not 326", seen)
	}
}

// Each letter of a part is great or small, in every mix.
func TestControlLetters(t *testing.T) {
	for _, d := range directives() {
		texts := []string{""}
		for _, letter := range strings.Split(d.part, "") {
			var longer []string
			for _, text := range texts {
				longer = append(longer, text+letter)
				if great := strings.ToUpper(letter); great != letter {
					longer = append(longer, text+great)
				}
			}
			texts = longer
		}
		for _, text := range texts {
			wantControl(t, text, d.told)
		}
		if len(texts) < 64 {
			t.Errorf("%q: %d texts alone", d.part, len(texts))
		}
	}
}

func TestControlBlanks(t *testing.T) {
	counts := []int{0, 1, 2, 3, 20, 1000}
	for _, d := range directives() {
		for _, ahead := range counts {
			for _, behind := range counts {
				text := strings.Repeat(" ", ahead) + d.part + strings.Repeat(" ", behind)
				for _, value := range []string{text, "," + text, text + ",", "x," + text + ",y", " , " + text + " , "} {
					wantControl(t, value, d.told)
				}
			}
		}
		for at := 1; at < len(d.part); at++ {
			for _, count := range []int{1, 2, 5} {
				wantNothingTold(t, d.part[:at]+strings.Repeat(" ", count)+d.part[at:])
			}
		}
	}
	for _, count := range counts {
		wantNothingTold(t, strings.Repeat(" ", count))
		wantNothingTold(t, strings.Repeat(" ,", count))
	}
}

// Other blanks than the byte 32 are parts of a part.
func TestControlOtherBlanks(t *testing.T) {
	others := []string{"\t", "\n", "\v", "\f", "\r", "\r\n", "\x00", "\x1f", "\x7f", "\x85", "\xa0", "\u0085", "\u00a0", "\u1680", "\u2003", "\u2028", "\u200b", "\u3000", "\ufeff"}
	for _, d := range directives() {
		for _, blank := range others {
			for _, text := range []string{blank + d.part, d.part + blank, blank + d.part + blank, " " + blank + d.part, d.part + blank + " ", blank + " " + d.part, d.part + " " + blank} {
				wantNothingTold(t, text)
				wantNothingTold(t, "x,"+text+",y")
				wantControl(t, text+","+d.part, d.told)
			}
			wantControl(t, d.part+","+blank, d.told)
			wantControl(t, blank+", "+d.part+" ,"+blank, d.told)
		}
	}
}

func numberNames() map[string]func(int) impl.Control {
	return map[string]func(int) impl.Control{"max-age=": age, "s-maxage=": shared}
}

func TestControlNumbers(t *testing.T) {
	for name, told := range numberNames() {
		for n := range 1000000 {
			if n > 2000 && n%83 != 0 && n < 998000 {
				continue
			}
			figures := strconv.Itoa(n)
			wantControl(t, name+figures, told(n))
			for size := len(figures) + 1; size <= 9; size++ {
				long := strings.Repeat("0", size-len(figures)) + figures
				if size <= 6 {
					wantControl(t, name+long, told(n))
				} else {
					wantNothingTold(t, name+long)
				}
			}
		}
	}
}

func TestControlNumbersTooLong(t *testing.T) {
	for name, told := range numberNames() {
		for _, figure := range []string{"0", "1", "7", "9"} {
			for size := range 40 {
				figures := strings.Repeat(figure, size)
				n, _ := strconv.Atoi("0" + figures)
				if size >= 1 && size <= 6 {
					wantControl(t, name+figures, told(n))
					wantControl(t, " "+name+figures+"  ", told(n))
				} else {
					wantNothingTold(t, name+figures)
					wantNothingTold(t, " "+name+figures+"  ")
				}
			}
		}
		for _, figures := range []string{"1000000", "1000001", "0000001", "0000000", "9223372036854775808", "18446744073709551617", "4294967297", strings.Repeat("9", 5000)} {
			wantNothingTold(t, name+figures)
		}
	}
}

// A byte that is no figure ahead of, within or behind the figures: just a blank at the end is about the part, and a `,` ends it.
func TestControlNumbersWithOthers(t *testing.T) {
	for name, told := range numberNames() {
		for i, one := range everyOneByte() {
			switch {
			case i >= '0' && i <= '9':
				wantControl(t, name+one, told(i-'0'))
				wantControl(t, name+one+"5", told(10*(i-'0')+5))
				wantControl(t, name+"5"+one, told(50+i-'0'))
				wantControl(t, name+"5"+one+"5", told(505+10*(i-'0')))
			case i == ',':
				wantNothingTold(t, name+one)
				wantNothingTold(t, name+one+"5")
				wantControl(t, name+"5"+one, told(5))
				wantControl(t, name+"5"+one+"5", told(5))
			default:
				wantNothingTold(t, name+one)
				wantNothingTold(t, name+one+"5")
				wantNothingTold(t, name+"5"+one+"5")
				wantControl(t, name+"5"+one, map[bool]impl.Control{true: told(5), false: nothingTold}[i == ' '])
			}
		}
		for _, wrong := range []string{"+5", "-5", "-0", "5-", "5+", "--5", "0x5", "5e1", "5.0", ".5", "5_0", "1_000", "=5", "5=", "5=5", "\"5\"", "'5'", " 5", "  5", "5 5", "5;", "5;x", "5x", "x5", "0b1", "0o7", "\u0665", "\uff15", "5\u0665", "\u00b2", "5\u00b2", "\u0661\u0662\u0663"} {
			wantNothingTold(t, name+wrong)
			wantControl(t, name+wrong+","+name+"5", told(5))
			wantControl(t, name+"5,"+name+wrong, told(5))
		}
	}
	for _, wrong := range []string{"max-age", "max-age:5", "max-age 5", "max-age =5", "max-age= 5", "max-age==5", "max_age=5", "maxage=5", "max-ages=5", "xmax-age=5", "s-max-age=5", "smaxage=5", "s-maxage", "s-maxage =5", "s-maxage= 5", "ss-maxage=5", "s-maxages=5", "-maxage=5", "=5", "5"} {
		wantNothingTold(t, wrong)
	}
}

// Of several the last one that has 1 to 6 figures counts: another one tells nothing, so nothing of what stands ahead of it is undone.
func TestControlOfSeveral(t *testing.T) {
	for name, told := range numberNames() {
		wantControl(t, name+"5,"+name+"6", told(6))
		wantControl(t, name+"6,"+name+"5", told(5))
		wantControl(t, name+"5,"+name+"0", told(0))
		wantControl(t, name+"0,"+name+"5", told(5))
		wantControl(t, name+"1,"+name+"2,"+name+"3", told(3))
		wantControl(t, name+"3,"+name+"1,"+name+"2", told(2))
		wantControl(t, name+"1,x,"+strings.ToUpper(name)+"999999 ,no", told(999999))
		for _, wrong := range []string{"", "1234567", "0000006", "-6", "+6", " 6", "6x", "x", strings.Repeat("6", 30)} {
			wantControl(t, name+"5,"+name+wrong, told(5))
			wantControl(t, name+wrong+","+name+"5", told(5))
			wantControl(t, name+"4,"+name+wrong+","+name+"5", told(5))
			wantControl(t, name+"4,"+name+"5,"+name+wrong, told(5))
			wantNothingTold(t, name+wrong+","+name+wrong)
		}
	}
	wantControl(t, "max-age=1,s-maxage=2,max-age=3,s-maxage=4", impl.Control{MaxAge: 3, Shared: 4})
	wantControl(t, "s-maxage=4,max-age=3,s-maxage=2,max-age=1", impl.Control{MaxAge: 1, Shared: 2})
	wantControl(t, "max-age=1,s-maxage=2,max-age=1234567,s-maxage=", impl.Control{MaxAge: 1, Shared: 2})
	wantControl(t, "no-store,no-store,private,no-cache,no-cache", impl.Control{NoStore: true, NoCache: true, MaxAge: -1, Shared: -1})
}

func TestControlCommas(t *testing.T) {
	for _, value := range []string{",", ",,", ",,,", " ,", ", ", " , ", " , , ", strings.Repeat(",", 1000)} {
		wantNothingTold(t, value)
		for _, d := range directives() {
			wantControl(t, value+d.part, d.told)
			wantControl(t, value+d.part+value, d.told)
			wantControl(t, d.part+value, d.told)
			wantControl(t, d.part+value+d.part, d.told)
		}
	}
	for _, d := range directives() {
		for at := 1; at < len(d.part); at++ {
			if d.part[:at] != "max-age=7" {
				wantNothingTold(t, d.part[:at]+","+d.part[at:])
			}
		}
		for _, other := range []string{";", ".", "\n", "\r\n", "&", "|", "\uff0c", "\u060c", "\u201a", "\x00"} {
			wantNothingTold(t, d.part+other+d.part)
		}
	}
	wantControl(t, "max-age=7,0", age(7))
}

// A part that only begins or ends like one that is told is another one.
func TestControlParts(t *testing.T) {
	for _, d := range directives() {
		last := d.part[len(d.part)-1]
		for cut := range len(d.part) {
			if d.part[:cut] != "max-age=7" {
				wantNothingTold(t, d.part[:cut])
			}
			if cut > 0 {
				wantNothingTold(t, d.part[cut:])
			}
			if d.part[:cut]+d.part[cut+1:] != "max-age=0" && d.part[:cut]+d.part[cut+1:] != "max-age=7" {
				wantNothingTold(t, d.part[:cut]+d.part[cut+1:])
			}
		}
		for i, one := range everyOneByte() {
			if i == ' ' || i == ',' {
				continue
			}
			wantNothingTold(t, one+d.part)
			if figure := i >= '0' && i <= '9'; !figure || last < '0' || last > '9' {
				wantNothingTold(t, d.part+one)
			}
		}
		wantNothingTold(t, d.part+"="+d.part)
		wantNothingTold(t, d.part+d.part)
		wantNothingTold(t, d.part+" "+d.part)
		wantNothingTold(t, "\""+d.part+"\"")
	}
	for _, other := range []string{"public", "no-transform", "must-revalidate", "immutable", "only-if-cached", "max-stale=5", "min-fresh=5", "no-store=1", "no-store=", "private=x", "private=\"a, b\"", "no-cache=\"a\"", "no_store", "nostore", "no store", "no--store", "x-private", "privat", "privates", "store", "cache", "no-", "no", "-"} {
		wantNothingTold(t, other)
		wantControl(t, other+",no-store,"+other, impl.Control{NoStore: true, MaxAge: -1, Shared: -1})
	}
	// Quotes keep nothing together: what stands between two `,` is a part.
	wantControl(t, "private=\"a, no-store, b\"", impl.Control{NoStore: true, MaxAge: -1, Shared: -1})
}

// Signs that become one of a-z by another way than A-Z, bytes above 126, and bytes that are no whole runes.
func TestControlRunes(t *testing.T) {
	signs := []string{"\u017f", "\u212a", "\u0130", "\u0131", "\u00aa", "\u00ba", "\u0430", "\u0441", "\u043e", "\u0435", "\uff53", "\uff2e", "\uff0d", "\u2010", "\u2212", "\u00ad", "\U0001d5ba", "\ufffd", "\x7f", "\x80", "\xbf", "\xc3", "\xe2\x84", "\xf0\x9f", "\xff", "\xed\xa0\x80", "\xc0\xad", "\xc0\xae"}
	for _, d := range directives() {
		for _, sign := range signs {
			for at := range len(d.part) + 1 {
				wantNothingTold(t, d.part[:at]+sign+d.part[at:])
				if at < len(d.part) {
					wantNothingTold(t, d.part[:at]+sign+d.part[at+1:])
				}
			}
			// Bytes that begin a longer rune don't swallow what comes behind them.
			wantControl(t, sign+","+d.part, d.told)
			wantControl(t, d.part+","+sign, d.told)
			wantControl(t, sign+","+d.part+","+sign, d.told)
			wantControl(t, sign+" , "+d.part+" , "+sign, d.told)
		}
		for _, swallowed := range []string{"\xe2\x84,", "\xf0,", "\xc3,", "\xf0\x9f\x98,", "\xe2,"} {
			wantControl(t, swallowed+d.part, d.told)
		}
	}
	// Of the numbers of these runes the lowest byte is that of `,`, of the blank, of `5` and of `n`: cut down to it they would be such signs.
	for _, sign := range []string{"\u012c", "\u2c2c", "\U0001042c", "\u0120", "\u3120"} {
		wantNothingTold(t, "no"+sign+"no-store")
		wantNothingTold(t, sign+"max-age=5")
		wantNothingTold(t, "max-age=5"+sign)
	}
	for _, value := range []string{"max-age=\u0135", "s-maxage=5\u0135", "\u016eo-store", "\u014eo-store"} {
		wantNothingTold(t, value)
	}
	for _, value := range []string{"no-\u017ftore", "\u017f-maxage=5", "\u017f-MAXAGE=5", "NO-\u017fTORE", "pr\u0131vate", "PR\u0130VATE", "max\u2010age=5"} {
		wantNothingTold(t, value)
	}
}

// Each byte of a value is every other byte once, is left out, and is doubled.
func TestTurnedControls(t *testing.T) {
	for _, value := range []string{"no-store", "Private", "no-cache", "max-age=123456", "s-maxage=7", "no-store, no-cache", "max-age=1, max-age=2", "s-maxage=3,max-age=4 , private"} {
		for at := range len(value) {
			for _, one := range everyOneByte() {
				wantControlByRule(t, value[:at]+one+value[at+1:])
				wantControlByRule(t, value[:at]+one+value[at:])
			}
			wantControlByRule(t, value[:at]+value[at+1:])
		}
	}
}

// Every value of up to five pieces, of those that matter.
func TestEveryShortControl(t *testing.T) {
	pieces := []string{",", " ", "no-store", "PRIVATE", "no-cache", "max-age=", "s-maxage=", "0", "123456", "\xe2"}
	values := []string{""}
	for range 5 {
		var longer []string
		for _, value := range values {
			for _, piece := range pieces {
				longer = append(longer, value+piece)
			}
		}
		values = longer
		for i, value := range values {
			if len(values) <= 10000 || i%7 == 0 {
				wantControlByRule(t, value)
			}
		}
	}
}

// drawnControl puts pieces together that begin, go on and end parts.
func drawnControl(draws string) string {
	pieces := []string{
		",", ",", ",", ", ", " , ", " ", "no-store", "No-Cache", "private", "max-age=", "max-age=5", "MAX-AGE=77", "s-maxage=", "s-maxage=3", "S-MaxAge=123456",
		"0", "9", "00", "-", "=", "x", "\t", "\x00", "\xff", "\u017f", "no-", "store", "max-age=1234567", "s-maxage=0", "max-age=-1",
	}
	value := ""
	for i := range int(draws[0]) % 14 {
		value += pieces[int(draws[1+i])%len(pieces)]
		if draws[1+i] >= 100 {
			value += ","
		}
	}
	return value
}

func TestDrawnControls(t *testing.T) {
	stores, caches, ages, shares := 0, 0, 0, 0
	for seed := range uint32(30000) {
		value := drawnControl(drawn(16, seed*71+9))
		wantControlByRule(t, value)
		want := controlByRule(value)
		if want.NoStore {
			stores++
		}
		if want.NoCache {
			caches++
		}
		if want.MaxAge >= 0 {
			ages++
		}
		if want.Shared >= 0 {
			shares++
		}
	}
	for _, count := range []int{stores, caches, ages, shares} {
		if count < 1000 || count > 29000 {
			t.Errorf("%d, %d, %d, %d of 30000: the draws tell too little", stores, caches, ages, shares)
		}
	}
}

func TestLongControls(t *testing.T) {
	for _, piece := range []string{",", " ", "x", "0", "no-store", "\xff", "\u017f", "max-age=", " , "} {
		long := strings.Repeat(piece, 200000)
		wantNothingTold(t, long)
		wantControl(t, long+",max-age=5", age(5))
		wantControl(t, "max-age=5,"+long, age(5))
	}
	wantControl(t, strings.Repeat("max-age=4,", 100000)+"max-age=3", age(3))
}

// mixedControls has each mix of flags with each two of the numbers.
func mixedControls(numbers []int) []impl.Control {
	var list []impl.Control
	for _, noStore := range []bool{false, true} {
		for _, noCache := range []bool{false, true} {
			for _, maxAge := range numbers {
				for _, s := range numbers {
					list = append(list, impl.Control{NoStore: noStore, NoCache: noCache, MaxAge: maxAge, Shared: s})
				}
			}
		}
	}
	return list
}

func edgeNumbers() []int {
	return []int{math.MinInt, -1000000, -999999, -2, -1, 0, 1, 7, 10, 99999, 100000, 999998, 999999, 1000000, 1000001, 1000000000, math.MaxInt}
}

func controlTextByRule(c impl.Control) string {
	text := ""
	if c.NoStore {
		text += ", no-store"
	}
	if c.NoCache {
		text += ", no-cache"
	}
	if c.MaxAge >= 0 && c.MaxAge < 1000000 {
		text += ", max-age=" + strconv.Itoa(c.MaxAge)
	}
	if c.Shared >= 0 && c.Shared < 1000000 {
		text += ", s-maxage=" + strconv.Itoa(c.Shared)
	}
	return strings.TrimPrefix(text, ", ")
}

func wantControlText(t *testing.T, c impl.Control, want string) {
	t.Helper()
	if text := impl.ControlText(c); text != want {
		t.Errorf("ControlText of %+v: %q; want %q", c, text, want)
	}
}

func TestControlText(t *testing.T) {
	wantControlText(t, nothingTold, "")
	wantControlText(t, impl.Control{}, "max-age=0, s-maxage=0")
	wantControlText(t, impl.Control{NoStore: true, MaxAge: -1, Shared: -1}, "no-store")
	wantControlText(t, impl.Control{NoCache: true, MaxAge: -1, Shared: -1}, "no-cache")
	wantControlText(t, impl.Control{NoStore: true, NoCache: true, MaxAge: -1, Shared: -1}, "no-store, no-cache")
	wantControlText(t, impl.Control{NoCache: true, MaxAge: 7, Shared: -1}, "no-cache, max-age=7")
	wantControlText(t, impl.Control{NoStore: true, NoCache: true, MaxAge: 10, Shared: 999999}, "no-store, no-cache, max-age=10, s-maxage=999999")
	for n, want := range map[int]string{math.MinInt: "", -2: "", -1: "", 0: "max-age=0", 999999: "max-age=999999", 1000000: "", math.MaxInt: ""} {
		wantControlText(t, age(n), want)
		wantControlText(t, shared(n), strings.Replace(want, "max-age", "s-maxage", 1))
	}
	for _, c := range mixedControls(edgeNumbers()) {
		wantControlText(t, c, controlTextByRule(c))
	}
}

// What is written is read back; numbers that are not written are not told.
func TestControlTextReadBack(t *testing.T) {
	for _, c := range mixedControls([]int{-1, 0, 1, 9, 10, 123456, 999998, 999999}) {
		wantControl(t, impl.ControlText(c), c)
		wantControl(t, strings.ToUpper(impl.ControlText(c)), c)
	}
	for _, c := range mixedControls(edgeNumbers()) {
		want := c
		if c.MaxAge < 0 || c.MaxAge > 999999 {
			want.MaxAge = -1
		}
		if c.Shared < 0 || c.Shared > 999999 {
			want.Shared = -1
		}
		wantControl(t, impl.ControlText(c), want)
	}
	// What was read, written and read again is the same.
	for seed := range uint32(3000) {
		c := impl.ControlOf(drawnControl(drawn(16, seed*43+1)))
		wantControl(t, impl.ControlText(c), c)
	}
}

func wantLifetime(t *testing.T, c impl.Control, want int) {
	t.Helper()
	if life := impl.Lifetime(c); life != want {
		t.Errorf("Lifetime of %+v: %d; want %d", c, life, want)
	}
}

func TestLifetime(t *testing.T) {
	wantLifetime(t, nothingTold, 0)
	wantLifetime(t, impl.Control{}, 0)
	wantLifetime(t, age(7), 7)
	wantLifetime(t, shared(8), 8)
	wantLifetime(t, impl.Control{MaxAge: 7, Shared: 8}, 8)
	wantLifetime(t, impl.Control{MaxAge: 8, Shared: 7}, 7)
	wantLifetime(t, impl.Control{MaxAge: 7, Shared: 0}, 0)
	wantLifetime(t, impl.Control{MaxAge: 0, Shared: 7}, 7)
	wantLifetime(t, impl.Control{MaxAge: -5, Shared: -6}, 0)
	wantLifetime(t, impl.Control{MaxAge: 7, Shared: -6}, 7)
	for _, c := range mixedControls(edgeNumbers()) {
		want := 0
		if c.MaxAge > 0 {
			want = c.MaxAge
		}
		if c.Shared > -1 {
			want = c.Shared
		}
		if c.NoStore || c.NoCache {
			want = 0
		}
		wantLifetime(t, c, want)
	}
}

func request(texts ...string) impl.Head {
	return head("GET /a HTTP/1.1", texts...)
}

func response(texts ...string) impl.Head {
	return head("HTTP/1.1 200 ok", texts...)
}

// keptFive is a response that may be kept when its request does not forbid it.
func keptFive() impl.Head {
	return response("cache-control", "max-age=5")
}

func wantStorable(t *testing.T, request, response impl.Head, want bool) {
	t.Helper()
	if impl.Storable(request, response) != want {
		t.Errorf("Storable of %q and %q: %v", request, response, !want)
	}
}

func TestStorable(t *testing.T) {
	wantStorable(t, request(), keptFive(), true)
	wantStorable(t, keptFive(), keptFive(), false)
	wantStorable(t, request(), request(), false)
	wantStorable(t, keptFive(), request(), false)
	wantStorable(t, impl.Head{}, impl.Head{}, false)
	wantStorable(t, request("host", "b", "cache-control", "x"), response("x", "y", "cache-control", "S-MaxAge=5"), true)
	wantStorable(t, request(), response(), false)
}

func TestStorableTarget(t *testing.T) {
	for line, want := range map[string]bool{
		"GET / HTTP/1.1": true, "GET /abc HTTP/1.1": true, "GET /" + strings.Repeat("b", 19) + " HTTP/1.1": true,
		"GET /" + strings.Repeat("b", 20) + " HTTP/1.1": false, "POST /a HTTP/1.1": false, "HEAD /a HTTP/1.1": false, "GET a HTTP/1.1": false, "GET /a HTTP/1.0": false,
		"get /a HTTP/1.1": false, "GET /a": false, "GET /a b HTTP/1.1": false, "": false, "HTTP/1.1 200 ok": false, "GET /\x7f HTTP/1.1": false,
	} {
		wantStorable(t, head(line), keptFive(), want)
		wantStorable(t, head(line, "host", "b"), keptFive(), want)
	}
}

func TestStorableStatus(t *testing.T) {
	for n := range 1000 {
		figures := strconv.Itoa(n + 1000)[1:]
		for _, behind := range []string{" ", " ok", " 200 "} {
			wantStorable(t, request(), head("HTTP/1.1 "+figures+behind, "cache-control", "max-age=5"), n == 200)
		}
	}
	for _, line := range []string{"", "HTTP/1.1 200", "HTTP/1.0 200 ok", "200 ok", "HTTP/1.1  200 ok", "HTTP/1.1 2000 ok", "HTTP/1.1 304 200 ", "http/1.1 200 ok", "GET /a HTTP/1.1"} {
		wantStorable(t, request(), head(line, "cache-control", "max-age=5"), false)
	}
}

// What forbids it is asked of the request and of the response.
func TestStorableNoStore(t *testing.T) {
	for _, value := range []string{"no-store", "private", "NO-STORE", "Private", "max-age=5, no-store", "private , max-age=5", "x,no-store,y", "no-store, private", "s-maxage=5,no-store", "no-cache, no-store"} {
		wantStorable(t, request("cache-control", value), keptFive(), false)
		wantStorable(t, request(), response("cache-control", value), false)
		wantStorable(t, request(), response("cache-control", value+", max-age=5"), false)
		wantStorable(t, request(), response("cache-control", "s-maxage=5, "+value), false)
		wantStorable(t, request("cache-control", value), response("cache-control", value), false)
	}
	// Of the request nothing else is asked.
	for _, value := range []string{"", "no-cache", "max-age=0", "s-maxage=0", "no-cache, max-age=0", "nostore", "no-store=1", "xprivate", "no-\u017ftore", "max-age=1234567"} {
		wantStorable(t, request("cache-control", value), keptFive(), true)
	}
	wantStorable(t, request("cache-control", "max-age=5"), response(), false)
	wantStorable(t, request("cache-control", "max-age=5"), response("cache-control", "max-age=0"), false)
}

func TestStorableSecret(t *testing.T) {
	for _, value := range []string{"", "x", "Basic abc", " "} {
		wantStorable(t, request("authorization", value), keptFive(), false)
		wantStorable(t, request("host", "b", "authorization", value, "x", "y"), keptFive(), false)
		wantStorable(t, request("authorization", value, "authorization", ""), keptFive(), false)
		wantStorable(t, request("authorization", value), response("cache-control", "s-maxage=5"), false)
		// Of the response it is not asked.
		wantStorable(t, request(), response("authorization", value, "cache-control", "max-age=5"), true)
	}
	for _, name := range []string{"Authorization", "AUTHORIZATION", "authorizatio", "authorizations", "proxy-authorization", " authorization", ""} {
		wantStorable(t, request(name, "x"), keptFive(), true)
	}
}

func TestStorableLifetime(t *testing.T) {
	for value, want := range map[string]bool{
		"": false, "x": false, "no-cache": false, "max-age=5, no-cache": false, "no-cache,s-maxage=5": false,
		"max-age=0": false, "max-age=1": true, "max-age=000001": true, "max-age=000000": false, "max-age=999999": true, "max-age=1000000": false, "max-age=0000001": false, "max-age=": false, "max-age=-1": false,
		"s-maxage=0": false, "s-maxage=1": true, "s-maxage=999999": true, "s-maxage=1000000": false, "s-maxage=": false,
		"max-age=5, s-maxage=0": false, "s-maxage=0, max-age=5": false, "max-age=0, s-maxage=5": true, "s-maxage=5, max-age=0": true,
		"max-age=5, max-age=0": false, "max-age=0, max-age=5": true, "max-age=5, max-age=1234567": true, "max-age=5, s-maxage=1234567": true, "s-maxage=1234567": false,
	} {
		wantStorable(t, request(), response("cache-control", value), want)
		wantStorable(t, request(), response("x", "y", "cache-control", value, "z", ""), want)
	}
}

// Of fields with one name the first counts (FieldOf), and none whose name has other letters.
func TestStorableFields(t *testing.T) {
	wantStorable(t, request(), response("cache-control", "max-age=5", "cache-control", "no-store"), true)
	wantStorable(t, request(), response("cache-control", "max-age=5", "cache-control", "max-age=0"), true)
	wantStorable(t, request(), response("cache-control", "no-store", "cache-control", "max-age=5"), false)
	wantStorable(t, request(), response("cache-control", "", "cache-control", "max-age=5"), false)
	wantStorable(t, request("cache-control", "x", "cache-control", "no-store"), keptFive(), true)
	wantStorable(t, request("cache-control", "no-store", "cache-control", "x"), keptFive(), false)
	for _, name := range []string{"Cache-Control", "CACHE-CONTROL", "cache-controls", "cache-contro", "cache_control", "cachecontrol", " cache-control", "cache-control ", "", "pragma", "expires"} {
		wantStorable(t, request(), response(name, "max-age=5"), false)
		wantStorable(t, request(name, "no-store"), keptFive(), true)
		wantStorable(t, request(), response(name, "no-store", "cache-control", "max-age=5"), true)
	}
}

// Heads that are not right are asked in the same way: no sentence wants them right.
func TestStorableOfWrongHeads(t *testing.T) {
	many := manyFields(12)
	long := fields("x", strings.Repeat("v", 500), "", "\n", "Q", "\x00")
	for _, more := range [][]impl.Field{many, long, make([]impl.Field, 1000)} {
		ask, answer := request(), keptFive()
		ask.Fields = more
		answer.Fields = slices.Concat(more, answer.Fields)
		if impl.HeadOk(ask) || impl.HeadOk(answer) {
			t.Fatalf("%q, %q are right", ask, answer)
		}
		wantStorable(t, ask, keptFive(), true)
		wantStorable(t, request(), answer, true)
		wantStorable(t, ask, answer, true)
		ask.Fields = slices.Concat(more, fields("authorization", ""))
		wantStorable(t, ask, answer, false)
		ask.Fields = slices.Concat(more, fields("cache-control", "private"))
		wantStorable(t, ask, answer, false)
	}
	wide := strings.Repeat("x,", 5000) + "max-age=5"
	wantStorable(t, request(), response("cache-control", wide), true)
	wantStorable(t, request("cache-control", wide+",no-store"), response("cache-control", wide), false)
	wantStorable(t, request("cache-control", "\x00\xff,\r\n"), response("cache-control", "\xe2\x84, max-age=5 ,\n"), true)
	wantStorable(t, request(), head("HTTP/1.1 200 \x00\xff\r\n"+strings.Repeat("x", 400), "cache-control", "max-age=5"), true)
}

// Each mix of what the rule asks is kept just when all of it holds.
func TestStorableMixes(t *testing.T) {
	type half struct {
		head  impl.Head
		right bool
	}
	var asks, answers []half
	for line, lineOk := range map[string]bool{"GET /a HTTP/1.1": true, "PUT /a HTTP/1.1": false} {
		for _, secret := range []bool{false, true} {
			for value, valueOk := range map[string]bool{"": true, "no-cache": true, "no-store": false, "x, Private": false} {
				h := head(line, "host", "b", "cache-control", value)
				if secret {
					h.Fields = append(h.Fields, impl.Field{Name: "authorization", Value: "x"})
				}
				asks = append(asks, half{h, lineOk && valueOk && !secret})
			}
		}
	}
	for line, lineOk := range map[string]bool{"HTTP/1.1 200 ok": true, "HTTP/1.1 206 ok": false} {
		for value, valueOk := range map[string]bool{"max-age=5": true, "max-age=0,s-maxage=1": true, "": false, "max-age=5,s-maxage=0": false, "max-age=5,no-cache": false, "s-maxage=5,no-store": false, "max-age=1234567": false} {
			answers = append(answers, half{head(line, "cache-control", value), lineOk && valueOk})
		}
	}
	for _, ask := range asks {
		for _, answer := range answers {
			wantStorable(t, ask.head, answer.head, ask.right && answer.right)
		}
	}
}

// As they come over the wire: names in great letters are read as small ones.
func TestStorableFromTheWire(t *testing.T) {
	read := func(text string) impl.Head {
		h, _, code := impl.ReadHead(text)
		if code != 0 {
			t.Fatalf("ReadHead of %q: %d", text, code)
		}
		return h
	}
	plain := read(lines("GET /a HTTP/1.1", "Host: b", ""))
	secret := read(lines("GET /a HTTP/1.1", "Authorization:", ""))
	forbids := read(lines("GET /a HTTP/1.1", "CACHE-CONTROL: No-Store", ""))
	kept := read(lines("HTTP/1.1 200 ok", "Cache-Control:  max-age=5 , x ", ""))
	wantStorable(t, plain, kept, true)
	wantStorable(t, secret, kept, false)
	wantStorable(t, forbids, kept, false)
	// What ControlText writes is a value that goes over the wire.
	for _, c := range mixedControls([]int{-1, 0, 1, 999999}) {
		text, ok := impl.HeadText(response("cache-control", impl.ControlText(c)))
		if !ok {
			t.Fatalf("%+v makes no head", c)
		}
		wantStorable(t, plain, read(text), impl.Lifetime(c) > 0)
	}
}

// roomyHead is the same head in memory of its own, with fields in the spare room behind it; and all of that room.
func roomyHead(h impl.Head) (impl.Head, []impl.Field) {
	room := append(slices.Clone(h.Fields), fields("authorization", "x", "cache-control", "no-store")...)
	return impl.Head{Line: ownText(h.Line), Fields: room[:len(h.Fields)]}, room
}

func TestControlsChangeNothing(t *testing.T) {
	heads := []impl.Head{request(), keptFive(), response(), {}, request("cache-control", "no-store"), response("Cache-Control", " MAX-AGE=5 , X"), request("authorization", "")}
	for _, first := range heads {
		for _, second := range heads {
			ask, askRoom := roomyHead(first)
			answer, answerRoom := roomyHead(second)
			askAhead, answerAhead := slices.Clone(askRoom), slices.Clone(answerRoom)
			got := impl.Storable(ask, answer)
			if !sameHead(ask, first) || !sameHead(answer, second) || !slices.Equal(askRoom, askAhead) || !slices.Equal(answerRoom, answerAhead) {
				t.Errorf("%q and %q are changed: %q, %q", first, second, askRoom, answerRoom)
			}
			// What is answered hangs on what was handed in alone, not on the room behind it.
			if impl.Storable(ask, answer) != got || impl.Storable(first, second) != got {
				t.Errorf("%q and %q: not the same answer twice", first, second)
			}
		}
	}
	for _, value := range []string{" No-Store , MAX-AGE=5 ", "s-maxage=7", "\xffX,private", ""} {
		given := ownText(value)
		first := impl.ControlOf(given)
		if given != value || impl.ControlOf(given) != first {
			t.Errorf("%q is changed, or answered in two ways: %q", value, given)
		}
		ahead := first
		text := impl.ControlText(first)
		impl.Lifetime(first)
		if first != ahead {
			t.Errorf("%+v is changed: %+v", ahead, first)
		}
		wantApart(t, "ControlText", []string{text}, []string{given})
	}
}
