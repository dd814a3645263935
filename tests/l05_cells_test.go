package tests

import (
	"math"
	"math/big"
	"slices"
	"testing"

	"loop.example/g00245/impl"
)

// cellsOfLength has a number of its own at each place.
func cellsOfLength(size int) []int {
	list := make([]int, size)
	for i := range list {
		list[i] = 1000 + i*7
	}
	return list
}

func withCell(list []int, at, n int) []int {
	out := slices.Clone(list)
	out[at] = n
	return out
}

func cellLists() [][]int {
	return [][]int{
		nil, {}, {5}, {0}, {impl.MaxNumber}, {-1}, {impl.MaxNumber + 1},
		{1, 2, 3}, {7, 7, 7, 7}, {0, impl.MaxNumber, -1, impl.MaxNumber + 1, 5},
		{math.MinInt, math.MaxInt, math.MinInt + 1, math.MaxInt - 1},
		cellsOfLength(impl.MaxCells - 1), cellsOfLength(impl.MaxCells), cellsOfLength(impl.MaxCells + 1),
		cellsOfLength(2*impl.MaxCells - 1), cellsOfLength(2 * impl.MaxCells), cellsOfLength(2*impl.MaxCells + 1), cellsOfLength(1000),
	}
}

func cellNumbers() []int {
	return []int{
		0, 1, 2, 9, -1, -2, -9, 1000, 1007,
		impl.MaxNumber - 1, impl.MaxNumber, impl.MaxNumber + 1, impl.MaxNumber + 2,
		-impl.MaxNumber + 1, -impl.MaxNumber, -impl.MaxNumber - 1, -impl.MaxNumber - 2,
		2*impl.MaxNumber + 1, 2*impl.MaxNumber + 2, -2*impl.MaxNumber - 2, -2*impl.MaxNumber - 3,
		math.MaxInt32, math.MaxInt32 + 1, math.MaxUint32, math.MaxUint32 + 1, math.MinInt32, math.MinInt32 - 1,
		math.MaxInt, math.MaxInt - 1, math.MaxInt - impl.MaxNumber, math.MaxInt - impl.MaxNumber + 1,
		math.MinInt, math.MinInt + 1, math.MinInt + impl.MaxNumber,
	}
}

func placesOf(list []int) []int {
	last := len(list) - 1
	places := []int{math.MinInt, -impl.MaxCells, -2, -1, last + 1, last + 2, last + impl.MaxCells, math.MaxInt}
	for _, at := range []int{0, 1, last / 2, impl.MaxCells - 1, impl.MaxCells, impl.MaxCells + 1, last - 1, last} {
		if at >= 0 && at <= last {
			places = append(places, at)
		}
	}
	return places
}

func hasPlace(list []int, at int) bool {
	return at >= 0 && at < len(list)
}

func inNumbers(n int) bool {
	return 0 <= n && n <= 1000000000
}

func wantCells(t *testing.T, what string, got []int, ok bool, want []int, wantOk bool) {
	t.Helper()
	if !slices.Equal(got, want) || ok != wantOk {
		t.Errorf("%s: %v, %v; want %v, %v", what, got, ok, want, wantOk)
	}
}

func wantAdded(t *testing.T, list []int, at, n, there int) {
	t.Helper()
	got, was := impl.AddCell(list, at, n)
	if want := withCell(list, at, there); !slices.Equal(got, want) || was != list[at] {
		t.Errorf("%d added at %d of %v: %v, %d; want %v, %d", n, at, list, got, was, want, list[at])
	}
}

// sumByRule reckons with numbers of any size, so that no sum goes round but at MaxNumber.
func sumByRule(a, b int) int {
	sum := new(big.Int).Add(big.NewInt(int64(a)), big.NewInt(int64(b)))
	return int(sum.Mod(sum, big.NewInt(1000000001)).Int64())
}

func TestMaxCells(t *testing.T) {
	if impl.MaxCells != 80 {
		t.Errorf("MaxCells is %d", impl.MaxCells)
	}
}

func TestCellsOk(t *testing.T) {
	full := cellsOfLength(80)
	right := [][]int{{0}, {1}, {999999999}, {1000000000}, {0, 1000000000, 5}, {3, 3, 3}, full[:79], full, make([]int, 80), withCell(full, 79, 1000000000)}
	for _, list := range right {
		if !impl.CellsOk(list) {
			t.Errorf("%v is not ok", list)
		}
	}
	wrong := [][]int{nil, {}, cellsOfLength(81), make([]int, 81), cellsOfLength(160), make([]int, 100000)}
	for _, n := range []int{-1, -2, 1000000001, 1000000002, math.MinInt, math.MaxInt, -1000000000, math.MaxUint32 + 1} {
		wrong = append(wrong, []int{n}, []int{n, 1, 2}, []int{1, n, 2}, []int{1, 2, n}, withCell(full, 0, n), withCell(full, 40, n), withCell(full, 79, n))
	}
	for _, list := range wrong {
		if impl.CellsOk(list) {
			t.Errorf("%v is ok", list)
		}
	}
}

func TestLoadCell(t *testing.T) {
	list := []int{4, 0, 1000000000, 9}
	for at, want := range list {
		if n, ok := impl.LoadCell(list, at); n != want || !ok {
			t.Errorf("at %d: %d, %v", at, n, ok)
		}
	}
	if n, ok := impl.LoadCell([]int{6}, 0); n != 6 || !ok {
		t.Errorf("of one cell: %d, %v", n, ok)
	}
}

func TestLoadCellWhereNoneIs(t *testing.T) {
	for _, list := range cellLists() {
		for _, at := range placesOf(list) {
			n, ok := impl.LoadCell(list, at)
			if want := hasPlace(list, at); ok != want || !want && n != 0 || want && n != list[at] {
				t.Errorf("of %d cells, at %d: %d, %v", len(list), at, n, ok)
			}
		}
	}
	spare := cellsOfLength(5)
	if n, ok := impl.LoadCell(spare[:2], 2); n != 0 || ok {
		t.Errorf("in the spare room: %d, %v", n, ok)
	}
}

func TestStoreCell(t *testing.T) {
	got, ok := impl.StoreCell([]int{1, 2, 3}, 0, 9)
	wantCells(t, "the first", got, ok, []int{9, 2, 3}, true)
	got, ok = impl.StoreCell([]int{1, 2, 3}, 1, 0)
	wantCells(t, "a middle one", got, ok, []int{1, 0, 3}, true)
	got, ok = impl.StoreCell([]int{1, 2, 3}, 2, 1000000000)
	wantCells(t, "the last", got, ok, []int{1, 2, 1000000000}, true)
	got, ok = impl.StoreCell([]int{1}, 0, 1)
	wantCells(t, "what is there", got, ok, []int{1}, true)
	got, ok = impl.StoreCell([]int{1, 2, 3}, 3, 9)
	wantCells(t, "one behind", got, ok, []int{1, 2, 3}, false)
	got, ok = impl.StoreCell([]int{1, 2, 3}, -1, 9)
	wantCells(t, "one below", got, ok, []int{1, 2, 3}, false)
	got, ok = impl.StoreCell([]int{1, 2, 3}, 1, -1)
	wantCells(t, "a number below 0", got, ok, []int{1, 2, 3}, false)
	got, ok = impl.StoreCell([]int{1, 2, 3}, 1, 1000000001)
	wantCells(t, "a number too great", got, ok, []int{1, 2, 3}, false)
	got, ok = impl.StoreCell(nil, 0, 1)
	wantCells(t, "of no cell", got, ok, nil, false)
}

func TestStoredIsLoaded(t *testing.T) {
	for _, list := range cellLists() {
		for _, at := range placesOf(list) {
			for _, n := range cellNumbers() {
				got, ok := impl.StoreCell(list, at, n)
				if !hasPlace(list, at) || !inNumbers(n) {
					wantCells(t, "refused", got, ok, list, false)
					continue
				}
				wantCells(t, "stored", got, ok, withCell(list, at, n), true)
				if loaded, there := impl.LoadCell(got, at); loaded != n || !there {
					t.Errorf("%d is loaded as %d, %v", n, loaded, there)
				}
			}
		}
	}
}

func TestStoreCellAtEachPlace(t *testing.T) {
	for _, size := range []int{1, 2, 80, 81, 161} {
		list := cellsOfLength(size)
		for at := range size {
			got, ok := impl.StoreCell(list, at, 5)
			wantCells(t, "stored", got, ok, withCell(list, at, 5), true)
		}
	}
}

func TestSwapCell(t *testing.T) {
	got, ok := impl.SwapCell([]int{1, 2, 3}, 1, 2, 9)
	wantCells(t, "it is there", got, ok, []int{1, 9, 3}, true)
	got, ok = impl.SwapCell([]int{1, 2, 3}, 1, 3, 9)
	wantCells(t, "it is somewhere else", got, ok, []int{1, 2, 3}, false)
	got, ok = impl.SwapCell([]int{1, 2, 3}, 1, 9, 2)
	wantCells(t, "what comes is there", got, ok, []int{1, 2, 3}, false)
	got, ok = impl.SwapCell([]int{1, 2, 3}, 1, 2, 2)
	wantCells(t, "itself", got, ok, []int{1, 2, 3}, true)
	got, ok = impl.SwapCell([]int{2, 2, 2}, 2, 2, 0)
	wantCells(t, "one of several alike", got, ok, []int{2, 2, 0}, true)
	got, ok = impl.SwapCell([]int{0}, 0, 0, 1000000000)
	wantCells(t, "the least and the greatest", got, ok, []int{1000000000}, true)
	got, ok = impl.SwapCell([]int{1000000000}, 0, 1000000000, 0)
	wantCells(t, "the greatest and the least", got, ok, []int{0}, true)
	got, ok = impl.SwapCell([]int{1, 2, 3}, 1, 2, -1)
	wantCells(t, "a number below 0", got, ok, []int{1, 2, 3}, false)
	got, ok = impl.SwapCell([]int{1, 2, 3}, 1, 2, 1000000001)
	wantCells(t, "a number too great", got, ok, []int{1, 2, 3}, false)
	got, ok = impl.SwapCell([]int{0, 0}, 2, 0, 1)
	wantCells(t, "one behind", got, ok, []int{0, 0}, false)
	got, ok = impl.SwapCell([]int{0, 0}, -1, 0, 1)
	wantCells(t, "one below", got, ok, []int{0, 0}, false)
	got, ok = impl.SwapCell(nil, 0, 0, 1)
	wantCells(t, "of no cell", got, ok, nil, false)
}

// The old number is not asked to be in 0 .. MaxNumber: it is there, or it is not.
func TestSwapCellOfAnyOldNumber(t *testing.T) {
	for _, old := range cellNumbers() {
		got, ok := impl.SwapCell([]int{1, old, 3}, 1, old, 4)
		wantCells(t, "it is there", got, ok, []int{1, 4, 3}, true)
		got, ok = impl.SwapCell([]int{1, old, 3}, 1, old, -1)
		wantCells(t, "by none", got, ok, []int{1, old, 3}, false)
		for _, far := range []int{1, -1, 1 << 8, 1 << 16, 1 << 32, -1 << 32, 1 << 62, math.MinInt, 1000000001} {
			got, ok = impl.SwapCell([]int{1, old, 3}, 1, old+far, 4)
			wantCells(t, "it is not there", got, ok, []int{1, old, 3}, false)
		}
	}
}

func TestSwappedJustWhenToldRight(t *testing.T) {
	for _, list := range cellLists() {
		for _, at := range placesOf(list) {
			olds := []int{0, -1, 1007, impl.MaxNumber}
			if hasPlace(list, at) {
				olds = append(olds, list[at])
			}
			for _, old := range olds {
				for _, n := range cellNumbers() {
					got, ok := impl.SwapCell(list, at, old, n)
					if !hasPlace(list, at) || !inNumbers(n) || list[at] != old {
						wantCells(t, "not swapped", got, ok, list, false)
						continue
					}
					wantCells(t, "swapped", got, ok, withCell(list, at, n), true)
				}
			}
		}
	}
}

func TestAddCell(t *testing.T) {
	wantAdded(t, []int{5}, 0, 3, 8)
	wantAdded(t, []int{5, 6, 7}, 0, 0, 5)
	wantAdded(t, []int{5, 6, 7}, 1, 10, 16)
	wantAdded(t, []int{5, 6, 7}, 2, -3, 4)
	wantAdded(t, []int{5, 6, 7}, 2, -7, 0)
	wantAdded(t, cellsOfLength(80), 79, 1, 1554)
	wantAdded(t, cellsOfLength(81), 80, 1, 1561)
}

func TestAddCellGoesRound(t *testing.T) {
	wantAdded(t, []int{999999999}, 0, 1, 1000000000)
	wantAdded(t, []int{1000000000}, 0, 0, 1000000000)
	wantAdded(t, []int{1000000000}, 0, 1, 0)
	wantAdded(t, []int{1000000000}, 0, 2, 1)
	wantAdded(t, []int{1}, 0, 1000000000, 0)
	wantAdded(t, []int{1000000000}, 0, 1000000000, 999999999)
	wantAdded(t, []int{5}, 0, 1000000001, 5)
	wantAdded(t, []int{5}, 0, 5000000006, 6)
	wantAdded(t, []int{0}, 0, -1, 1000000000)
	wantAdded(t, []int{5}, 0, -6, 1000000000)
	wantAdded(t, []int{0}, 0, -1000000000, 1)
	wantAdded(t, []int{0}, 0, -1000000001, 0)
	wantAdded(t, []int{0}, 0, -1000000002, 1000000000)
	wantAdded(t, []int{1000000000}, 0, -1000000000, 0)
}

// The sum itself does not go round at the greatest int: 2^63 is 631403781 modulo MaxNumber and 1.
func TestAddCellOfTheGreatestInts(t *testing.T) {
	wantAdded(t, []int{0}, 0, math.MaxInt, 631403780)
	wantAdded(t, []int{1000000000}, 0, math.MaxInt, 631403779)
	wantAdded(t, []int{0}, 0, math.MinInt, 368596220)
	wantAdded(t, []int{1000000000}, 0, math.MinInt, 368596219)
}

// What is there is not asked to be right: it is told as it was, and what stands there behind it is in 0 .. MaxNumber.
func TestAddCellToAnyNumber(t *testing.T) {
	wantAdded(t, []int{-1}, 0, 0, 1000000000)
	wantAdded(t, []int{1000000001}, 0, 0, 0)
	wantAdded(t, []int{math.MaxInt}, 0, math.MaxInt, 262807559)
	wantAdded(t, []int{math.MinInt}, 0, math.MinInt, 737192440)
	wantAdded(t, []int{math.MinInt}, 0, math.MaxInt, 1000000000)
	for _, a := range cellNumbers() {
		for _, b := range cellNumbers() {
			wantAdded(t, []int{8, a, 9}, 1, b, sumByRule(a, b))
		}
	}
}

func TestAddCellOfLists(t *testing.T) {
	for _, list := range cellLists() {
		for _, at := range placesOf(list) {
			for _, n := range cellNumbers() {
				if hasPlace(list, at) {
					wantAdded(t, list, at, n, sumByRule(list[at], n))
				} else if got, was := impl.AddCell(list, at, n); !slices.Equal(got, list) || was != 0 {
					t.Errorf("at %d of %v: %v, %d", at, list, got, was)
				}
			}
		}
	}
}

func TestAddedAndTakenAwayAgain(t *testing.T) {
	for _, a := range []int{0, 1, 500, impl.MaxNumber - 1, impl.MaxNumber} {
		for _, n := range cellNumbers() {
			if n == math.MinInt {
				continue // there is no int that takes it away
			}
			more, was := impl.AddCell([]int{a}, 0, n)
			back, between := impl.AddCell(more, 0, -n)
			if was != a || between != more[0] || back[0] != a || !impl.CellsOk(more) {
				t.Errorf("%d, and %d added and taken away: %v, %v", a, n, more, back)
			}
		}
	}
}

// A life of drawn changes, held against a list that is changed in place; each list is the one that was answered ahead of it.
func TestDrawnChangesOfCells(t *testing.T) {
	numbers := append(cellNumbers(), 0, 1, 2, 3, 4, 5, 6, 7)
	for seed := range uint32(60) {
		draws := drawn(4*300, seed+500)
		list := make([]int, []int{1, 2, 5, 80, 81}[seed%5])
		model := slices.Clone(list)
		for i := 0; i < len(draws); i += 4 {
			at := int(draws[i])%(len(list)+2) - 1
			n, old := numbers[int(draws[i+1])%len(numbers)], numbers[int(draws[i+2])%len(numbers)]
			there := hasPlace(model, at)
			if there && draws[i+3]%2 == 0 {
				old = model[at]
			}
			ok, wantOk, was, wantWas := false, there && inNumbers(n), 0, 0
			switch draws[i+3] / 2 % 3 {
			case 0:
				list, ok = impl.StoreCell(list, at, n)
			case 1:
				wantOk = wantOk && model[at] == old
				list, ok = impl.SwapCell(list, at, old, n)
			case 2:
				list, was = impl.AddCell(list, at, n)
				wantOk = false
				if there {
					wantWas = model[at]
					model[at] = sumByRule(model[at], n)
				}
			}
			if wantOk {
				model[at] = n
			}
			if !slices.Equal(list, model) || ok != wantOk || was != wantWas || !inNumbers(list[0]) {
				t.Fatalf("life %d, change %d: %v, %v, %d; want %v, %v, %d", seed, i/4, list, ok, was, model, wantOk, wantWas)
			}
		}
	}
}

// cellChanges has each change at a place of the list, and what was refused of each.
func cellChanges(list []int, at int) map[string][]int {
	answers := map[string][]int{}
	answers["stored"], _ = impl.StoreCell(list, at, 7)
	answers["stored as it was"], _ = impl.StoreCell(list, at, list[at])
	answers["not stored: the number"], _ = impl.StoreCell(list, at, -1)
	answers["not stored: the place"], _ = impl.StoreCell(list, len(list), 7)
	answers["swapped"], _ = impl.SwapCell(list, at, list[at], 7)
	answers["swapped by itself"], _ = impl.SwapCell(list, at, list[at], list[at])
	answers["not swapped: the old one"], _ = impl.SwapCell(list, at, list[at]+1, 7)
	answers["not swapped: the number"], _ = impl.SwapCell(list, at, list[at], -1)
	answers["not swapped: the place"], _ = impl.SwapCell(list, -1, list[at], 7)
	answers["added"], _ = impl.AddCell(list, at, 7)
	answers["added nothing"], _ = impl.AddCell(list, at, 0)
	answers["not added: the place"], _ = impl.AddCell(list, len(list), 7)
	return answers
}

func TestCellsShareNothing(t *testing.T) {
	for _, size := range []int{1, 3, 79, 80, 81, 160} {
		room := cellsOfLength(size + 4)
		list := room[:size]
		for _, at := range []int{0, size / 2, size - 1} {
			answers := cellChanges(list, at)
			if !slices.Equal(room, cellsOfLength(size+4)) {
				t.Fatalf("the list that was handed in, or the room behind it, is changed: %v", room)
			}
			impl.CellsOk(list)
			impl.LoadCell(list, at)
			for what, got := range answers {
				ahead := slices.Clone(got)
				for i := range list {
					list[i] = -5
				}
				if !slices.Equal(got, ahead) {
					t.Errorf("%s: the answer changes with the list", what)
				}
				copy(room, cellsOfLength(size+4))
				got = append(got, 99)
				for i := range got {
					got[i] = -6
				}
				if !slices.Equal(room, cellsOfLength(size+4)) {
					t.Errorf("%s: the list changes with the answer", what)
				}
			}
		}
	}
}

func TestCellsAnswerAlike(t *testing.T) {
	list := cellsOfLength(80)
	first, second := cellChanges(list, 40), cellChanges(list, 40)
	for what, got := range first {
		if !slices.Equal(got, second[what]) {
			t.Errorf("%s: %v, then %v", what, got, second[what])
		}
	}
}
