package tests

import (
	"fmt"
	"math"
	"slices"
	"testing"

	"loop.example/g00245/impl"
)

// goneList has nodes that are gone, told as node and epoch, one behind the other.
func goneList(numbers ...int) []impl.Gone {
	var list []impl.Gone
	for i := 0; i < len(numbers); i += 2 {
		list = append(list, impl.Gone{Node: numbers[i], Epoch: numbers[i+1]})
	}
	return list
}

// epochsAt has the pins, and the nodes that are gone as goneList tells them.
func epochsAt(now int, pins []int, gone ...int) impl.Epochs {
	return impl.Epochs{Now: now, Pins: pins, Gone: goneList(gone...)}
}

func pins(list ...int) []int {
	return list
}

func sameEpochs(a, b impl.Epochs) bool {
	return a.Now == b.Now && slices.Equal(a.Pins, b.Pins) && slices.Equal(a.Gone, b.Gone)
}

func cloneEpochs(e impl.Epochs) impl.Epochs {
	return impl.Epochs{Now: e.Now, Pins: slices.Clone(e.Pins), Gone: slices.Clone(e.Gone)}
}

// manyGone has nodes that are gone in this epoch, in turn from node 1 on.
func manyGone(count, epoch int) []impl.Gone {
	var list []impl.Gone
	for i := range count {
		list = append(list, impl.Gone{Node: i%20 + 1, Epoch: epoch})
	}
	return list
}

// epochStep is one call on epochs; those that free nothing answer a flag, the one that frees answers nodes.
type epochStep struct {
	what string
	n    int
}

func (s epochStep) run(e impl.Epochs) (impl.Epochs, bool, []int) {
	switch s.what {
	case "pin":
		after, ok := impl.PinLook(e, s.n)
		return after, ok, nil
	case "unpin":
		after, ok := impl.UnpinLook(e, s.n)
		return after, ok, nil
	case "retire":
		after, ok := impl.RetireNode(e, s.n)
		return after, ok, nil
	case "advance":
		after, ok := impl.AdvanceEpoch(e)
		return after, ok, nil
	}
	after, nodes := impl.FreeNodes(e)
	return after, false, nodes
}

// epochsOkByRule is the document's sentence of EpochsOk.
func epochsOkByRule(e impl.Epochs) bool {
	ok := 2 <= e.Now && e.Now <= 1000000000 && len(e.Gone) <= 40
	ok = ok && (len(e.Pins) == 1 || len(e.Pins) == 2 || len(e.Pins) == 3 || len(e.Pins) == 4)
	for _, pin := range e.Pins {
		ok = ok && slices.Contains([]int{0, e.Now, e.Now + 1}, pin)
	}
	for _, gone := range e.Gone {
		ok = ok && 0 < gone.Node && gone.Node < 21 && -1 < gone.Epoch && gone.Epoch <= e.Now
	}
	return ok
}

// byRule is the document's text of the five that change epochs.
func (s epochStep) byRule(e impl.Epochs) (impl.Epochs, bool, []int) {
	next := cloneEpochs(e)
	if !epochsOkByRule(e) {
		return next, false, nil
	}
	there := s.n >= 0 && s.n < len(e.Pins)
	switch s.what {
	case "pin":
		if there && e.Pins[s.n] == 0 {
			next.Pins[s.n] = e.Now + 1
			return next, true, nil
		}
	case "unpin":
		if there && e.Pins[s.n] != 0 {
			next.Pins[s.n] = 0
			return next, true, nil
		}
	case "retire":
		known := false
		for _, gone := range e.Gone {
			known = known || gone.Node == s.n
		}
		if s.n >= 1 && s.n <= 20 && !known && len(e.Gone) < 40 {
			next.Gone = append(next.Gone, impl.Gone{Node: s.n, Epoch: e.Now})
			return next, true, nil
		}
	case "advance":
		held := false
		for _, pin := range e.Pins {
			held = held || pin == e.Now
		}
		if !held && e.Now != 1000000000 {
			next.Now = e.Now + 1
			return next, true, nil
		}
	case "free":
		var nodes []int
		next.Gone = nil
		for _, gone := range e.Gone {
			if e.Now-gone.Epoch >= 2 {
				nodes = append(nodes, gone.Node)
				continue
			}
			next.Gone = append(next.Gone, gone)
		}
		return next, false, nodes
	}
	return next, false, nil
}

// epochSteps are all calls, with the edges of who and node and numbers far beyond them.
func epochSteps() []epochStep {
	steps := []epochStep{{what: "advance"}, {what: "free"}}
	for _, who := range []int{math.MinInt, -1000, -2, -1, 0, 1, 2, 3, 4, 5, 6, 1000, math.MaxInt} {
		steps = append(steps, epochStep{"pin", who}, epochStep{"unpin", who})
	}
	for _, node := range []int{math.MinInt, -20, -1, 0, 1, 2, 3, 4, 19, 20, 21, 22, 40, 41, 1000, math.MaxInt} {
		steps = append(steps, epochStep{"retire", node})
	}
	return steps
}

func wantEpochStep(t *testing.T, step epochStep, e, want impl.Epochs, wantOk bool, wantNodes []int) impl.Epochs {
	t.Helper()
	after, ok, nodes := step.run(e)
	if !sameEpochs(after, want) || ok != wantOk || !slices.Equal(nodes, wantNodes) {
		t.Errorf("%v of %+v: %+v, %v, %v; want %+v, %v, %v", step, e, after, ok, nodes, want, wantOk, wantNodes)
	}
	return after
}

func wantStepDone(t *testing.T, what string, n int, e, want impl.Epochs) impl.Epochs {
	t.Helper()
	return wantEpochStep(t, epochStep{what, n}, e, want, true, nil)
}

func wantStepRefused(t *testing.T, what string, n int, e impl.Epochs) {
	t.Helper()
	wantEpochStep(t, epochStep{what, n}, e, e, false, nil)
}

func wantFree(t *testing.T, e, want impl.Epochs, nodes ...int) impl.Epochs {
	t.Helper()
	return wantEpochStep(t, epochStep{what: "free"}, e, want, false, nodes)
}

func wantStepsByRule(t *testing.T, e impl.Epochs) {
	t.Helper()
	if ok := impl.EpochsOk(e); ok != epochsOkByRule(e) {
		t.Errorf("EpochsOk of %+v: %v", e, ok)
	}
	for _, step := range epochSteps() {
		want, ok, nodes := step.byRule(e)
		wantEpochStep(t, step, e, want, ok, nodes)
	}
}

// rightEpochs have every limit met on its own, and ordinary ones beside them.
func rightEpochs() []impl.Epochs {
	list := []impl.Epochs{
		epochsAt(2, pins(0)), epochsAt(2, pins(2)), epochsAt(2, pins(3)), epochsAt(3, pins(0)),
		epochsAt(5, pins(0, 5)), epochsAt(5, pins(6, 0, 5)), epochsAt(5, pins(6, 5, 5, 6)), epochsAt(5, pins(0, 0, 0, 0)),
		epochsAt(5, pins(0, 0, 0, 5)), epochsAt(5, pins(0, 0, 0, 6)), epochsAt(5, pins(5, 0, 0, 0)), epochsAt(5, pins(6, 0, 0, 0)),
		epochsAt(5, pins(0), 1, 0), epochsAt(5, pins(0), 20, 5), epochsAt(5, pins(6), 7, 3, 4, 4, 20, 0, 1, 5),
		epochsAt(2, pins(0, 2), 1, 0, 2, 1, 3, 2), epochsAt(5, pins(0), 3, 1, 3, 1, 3, 4, 3, 0),
	}
	for _, now := range []int{impl.MaxNumber - 1, impl.MaxNumber} {
		list = append(list,
			epochsAt(now, pins(0)), epochsAt(now, pins(now)), epochsAt(now, pins(now+1)), epochsAt(now, pins(0, now+1, now, 0)),
			epochsAt(now, pins(0), 1, now, 2, now-1, 3, now-2, 4, now-3, 19, 0))
	}
	for _, count := range []int{19, 20, 21, 38, 39, 40} {
		for _, epoch := range []int{0, 7, 8, 9} {
			list = append(list, impl.Epochs{Now: 9, Pins: pins(0, 10), Gone: manyGone(count, epoch)})
		}
	}
	// Two nodes fill all rooms, so a third one may be asked for that is not there.
	for _, count := range []int{39, 40} {
		var gone []impl.Gone
		for i := range count {
			gone = append(gone, impl.Gone{Node: i%2 + 5, Epoch: i % 10})
		}
		list = append(list, impl.Epochs{Now: 9, Pins: pins(0, 10), Gone: gone})
	}
	return list
}

func wrongByNow() []impl.Epochs {
	list := []impl.Epochs{{}}
	for _, now := range []int{math.MinInt, math.MinInt + 1, -impl.MaxNumber, -2, -1, 0, 1, impl.MaxNumber + 1, impl.MaxNumber + 2, math.MaxInt - 1, math.MaxInt} {
		list = append(list, epochsAt(now, pins(0)), epochsAt(now, pins(now)), epochsAt(now, pins(now+1, 0)), epochsAt(now, pins(0, 0), 3, 0))
	}
	return list
}

func wrongByPins() []impl.Epochs {
	list := []impl.Epochs{
		epochsAt(5, nil), epochsAt(5, []int{}), epochsAt(5, nil, 3, 1), epochsAt(5, pins(0, 0, 0, 0, 0)), epochsAt(5, pins(6, 6, 6, 6, 6)),
		epochsAt(5, pins(0, 0, 0, 0, 0), 3, 1), {Now: 5, Pins: make([]int, 100)}, {Now: impl.MaxNumber, Pins: make([]int, 5)},
	}
	for _, pin := range []int{math.MinInt, -6, -5, -1, 1, 2, 3, 4, 7, 8, 1000, impl.MaxNumber, math.MaxInt} {
		for size := 1; size <= 4; size++ {
			for place := range size {
				wrong := epochsAt(5, slices.Repeat(pins(6), size), 3, 3)
				wrong.Pins[place] = pin
				list = append(list, wrong)
			}
		}
	}
	return append(list, epochsAt(2, pins(1)), epochsAt(2, pins(4)), epochsAt(impl.MaxNumber, pins(impl.MaxNumber+2)), epochsAt(impl.MaxNumber, pins(impl.MaxNumber-1)))
}

func wrongByGone() []impl.Epochs {
	list := []impl.Epochs{
		{Now: 9, Pins: pins(0), Gone: manyGone(41, 3)}, {Now: 9, Pins: pins(0), Gone: manyGone(41, 9)}, {Now: 9, Pins: pins(0), Gone: manyGone(500, 0)},
		epochsAt(2, pins(0), 1, 3), epochsAt(impl.MaxNumber, pins(0), 1, impl.MaxNumber+1),
	}
	var faults []impl.Gone
	for _, node := range []int{math.MinInt, -1, 0, 21, 22, 1000, math.MaxInt} {
		faults = append(faults, impl.Gone{Node: node, Epoch: 3})
	}
	for _, epoch := range []int{math.MinInt, -1000, -1, 6, 7, impl.MaxNumber, math.MaxInt} {
		faults = append(faults, impl.Gone{Node: 3, Epoch: epoch})
	}
	for _, fault := range faults {
		for size := 1; size <= 3; size++ {
			for place := range size {
				wrong := epochsAt(5, pins(0, 6), 7, 2, 8, 3, 9, 5)
				wrong.Gone = wrong.Gone[:size]
				wrong.Gone[place] = fault
				list = append(list, wrong)
			}
		}
	}
	return list
}

func wrongEpochs() []impl.Epochs {
	return slices.Concat(wrongByNow(), wrongByPins(), wrongByGone())
}

func TestEpochsNew(t *testing.T) {
	if impl.MaxLooks != 4 {
		t.Errorf("MaxLooks is %d", impl.MaxLooks)
	}
	sizes := map[int]int{
		math.MinInt: 1, -1000: 1, -4: 1, -1: 1, 0: 1, 1: 1, 2: 2, 3: 3, 4: 4, 5: 4, 6: 4, 1000: 4, math.MaxInt: 4,
	}
	for n, size := range sizes {
		e := impl.EpochsNew(n)
		if !sameEpochs(e, epochsAt(2, make([]int, size))) || !impl.EpochsOk(e) {
			t.Errorf("EpochsNew(%d): %+v", n, e)
		}
	}
}

func TestEpochsOk(t *testing.T) {
	for _, e := range rightEpochs() {
		if !impl.EpochsOk(e) {
			t.Errorf("%+v is not right", e)
		}
	}
	for _, e := range wrongEpochs() {
		if impl.EpochsOk(e) {
			t.Errorf("%+v is right", e)
		}
	}
}

// Every step of those that are right, at the limits and beside them, is as the text tells.
func TestStepsOfRightEpochs(t *testing.T) {
	for _, e := range rightEpochs() {
		wantStepsByRule(t, e)
	}
}

func TestStepsOfWrongEpochs(t *testing.T) {
	for _, e := range wrongEpochs() {
		for _, step := range epochSteps() {
			wantEpochStep(t, step, e, e, false, nil)
		}
	}
}

func TestPinLook(t *testing.T) {
	e := impl.EpochsNew(4)
	e = wantStepDone(t, "pin", 0, e, epochsAt(2, pins(3, 0, 0, 0)))
	wantStepRefused(t, "pin", 0, e)
	e = wantStepDone(t, "pin", 3, e, epochsAt(2, pins(3, 0, 0, 3)))
	e = wantStepDone(t, "advance", 0, e, epochsAt(3, pins(3, 0, 0, 3)))
	wantStepRefused(t, "pin", 0, e)
	wantStepRefused(t, "pin", 3, e)
	e = wantStepDone(t, "pin", 1, e, epochsAt(3, pins(3, 4, 0, 3)))
	e = wantStepDone(t, "pin", 2, e, epochsAt(3, pins(3, 4, 4, 3)))
	for _, who := range []int{math.MinInt, -1, 0, 1, 2, 3, 4, math.MaxInt} {
		wantStepRefused(t, "pin", who, e)
	}
	wantStepDone(t, "pin", 0, epochsAt(impl.MaxNumber, pins(0), 3, 4), epochsAt(impl.MaxNumber, pins(impl.MaxNumber+1), 3, 4))
	for size := 1; size <= 4; size++ {
		for _, who := range []int{-size, -1, size, size + 1, 4, 5} {
			wantStepRefused(t, "pin", who, impl.EpochsNew(size))
		}
	}
}

func TestUnpinLook(t *testing.T) {
	e := epochsAt(5, pins(6, 0, 5, 6), 3, 1, 4, 5)
	wantStepRefused(t, "unpin", 1, e)
	e = wantStepDone(t, "unpin", 0, e, epochsAt(5, pins(0, 0, 5, 6), 3, 1, 4, 5))
	wantStepRefused(t, "unpin", 0, e)
	e = wantStepDone(t, "unpin", 2, e, epochsAt(5, pins(0, 0, 0, 6), 3, 1, 4, 5))
	e = wantStepDone(t, "unpin", 3, e, epochsAt(5, pins(0, 0, 0, 0), 3, 1, 4, 5))
	for _, who := range []int{math.MinInt, -1, 0, 1, 2, 3, 4, math.MaxInt} {
		wantStepRefused(t, "unpin", who, e)
	}
	for size := 1; size <= 4; size++ {
		all := epochsAt(5, slices.Repeat(pins(5), size))
		for _, who := range []int{-size, -1, size, size + 1, 4, 5} {
			wantStepRefused(t, "unpin", who, all)
		}
		for who := range size {
			less := cloneEpochs(all)
			less.Pins[who] = 0
			wantStepDone(t, "unpin", who, all, less)
			wantStepDone(t, "pin", who, less, epochsAt(5, slices.Replace(slices.Repeat(pins(5), size), who, who+1, 6)))
		}
	}
}

func TestRetireNode(t *testing.T) {
	e := impl.EpochsNew(2)
	e = wantStepDone(t, "retire", 4, e, epochsAt(2, pins(0, 0), 4, 2))
	wantStepRefused(t, "retire", 4, e)
	e = wantStepDone(t, "retire", 1, e, epochsAt(2, pins(0, 0), 4, 2, 1, 2))
	e = wantStepDone(t, "advance", 0, e, epochsAt(3, pins(0, 0), 4, 2, 1, 2))
	wantStepRefused(t, "retire", 4, e)
	wantStepRefused(t, "retire", 1, e)
	e = wantStepDone(t, "retire", 20, e, epochsAt(3, pins(0, 0), 4, 2, 1, 2, 20, 3))
	e = wantStepDone(t, "retire", 2, e, epochsAt(3, pins(0, 0), 4, 2, 1, 2, 20, 3, 2, 3))
	for _, node := range []int{math.MinInt, -1, 0, 21, 22, math.MaxInt, 4, 1, 20, 2} {
		wantStepRefused(t, "retire", node, e)
	}
	wantStepDone(t, "retire", 3, epochsAt(impl.MaxNumber, pins(0)), epochsAt(impl.MaxNumber, pins(0), 3, impl.MaxNumber))
}

func TestRetireAllNodes(t *testing.T) {
	e := epochsAt(9, pins(0, 10))
	for node := 20; node >= 1; node-- {
		more := cloneEpochs(e)
		more.Gone = append(more.Gone, impl.Gone{Node: node, Epoch: 9})
		e = wantStepDone(t, "retire", node, e, more)
	}
	for node := -1; node <= 22; node++ {
		wantStepRefused(t, "retire", node, e)
	}
}

// Of 40 rooms two nodes fill 38, 39 or all: a third node, which is not there, is refused for want of room alone.
func TestRetireBeyondTheRooms(t *testing.T) {
	var gone []impl.Gone
	for i := range 40 {
		gone = append(gone, impl.Gone{Node: i%2 + 5, Epoch: i % 10})
	}
	for _, count := range []int{38, 39} {
		e := impl.Epochs{Now: 9, Pins: pins(0), Gone: gone[:count:count]}
		want := cloneEpochs(e)
		want.Gone = append(want.Gone, impl.Gone{Node: 7, Epoch: 9})
		wantStepDone(t, "retire", 7, e, want)
		wantStepRefused(t, "retire", 5, e)
	}
	full := impl.Epochs{Now: 9, Pins: pins(0), Gone: gone}
	wantStepRefused(t, "retire", 7, full)
	after, nodes := impl.FreeNodes(full)
	if len(nodes) != 32 || len(after.Gone) != 8 {
		t.Errorf("of 40: %v, %v", nodes, after.Gone)
	}
	if _, ok := impl.RetireNode(after, 7); !ok {
		t.Error("a room that is free again is not taken")
	}
}

func TestAdvanceEpoch(t *testing.T) {
	e := epochsAt(2, pins(0, 0), 3, 1)
	for now := 3; now < 30; now++ {
		e = wantStepDone(t, "advance", 0, e, epochsAt(now, pins(0, 0), 3, 1))
	}
	wantStepDone(t, "advance", 0, epochsAt(5, pins(6, 6, 0, 6)), epochsAt(6, pins(6, 6, 0, 6)))
	for place := range 4 {
		held := epochsAt(5, pins(6, 6, 0, 6), 3, 1)
		held.Pins[place] = 5
		wantStepRefused(t, "advance", 0, held)
		held.Pins[place] = 6
		wantStepDone(t, "advance", 0, held, epochsAt(6, held.Pins, 3, 1))
		held.Pins[place] = 0
		wantStepDone(t, "advance", 0, held, epochsAt(6, held.Pins, 3, 1))
	}
	last := wantStepDone(t, "advance", 0, epochsAt(impl.MaxNumber-1, pins(0, impl.MaxNumber)), epochsAt(impl.MaxNumber, pins(0, impl.MaxNumber)))
	wantStepRefused(t, "advance", 0, last)
	wantStepRefused(t, "advance", 0, epochsAt(impl.MaxNumber, pins(0)))
	wantStepRefused(t, "advance", 0, epochsAt(impl.MaxNumber, pins(impl.MaxNumber+1)))
}

func TestFreeNodes(t *testing.T) {
	wantFree(t, epochsAt(5, pins(0)), epochsAt(5, pins(0)))
	wantFree(t, epochsAt(5, pins(0), 7, 3), epochsAt(5, pins(0)), 7)
	wantFree(t, epochsAt(5, pins(0), 7, 4), epochsAt(5, pins(0), 7, 4))
	wantFree(t, epochsAt(5, pins(0), 7, 2), epochsAt(5, pins(0)), 7)
	wantFree(t, epochsAt(5, pins(0), 7, 5), epochsAt(5, pins(0), 7, 5))
	wantFree(t, epochsAt(2, pins(0), 7, 0, 6, 1, 5, 2), epochsAt(2, pins(0), 6, 1, 5, 2), 7)
	mixed := epochsAt(5, pins(6, 0, 5), 9, 5, 7, 3, 20, 4, 4, 0, 1, 5, 2, 3, 3, 4, 8, 1)
	rest := wantFree(t, mixed, epochsAt(5, pins(6, 0, 5), 9, 5, 20, 4, 1, 5, 3, 4), 7, 4, 2, 8)
	wantFree(t, rest, rest)
	now := impl.MaxNumber
	wantFree(t, epochsAt(now, pins(now), 1, now, 2, now-1, 3, now-2, 4, now-3), epochsAt(now, pins(now), 1, now, 2, now-1), 3, 4)
	// A node that stands there several times is told as often.
	wantFree(t, epochsAt(5, pins(0), 3, 1, 3, 4, 3, 3, 3, 5), epochsAt(5, pins(0), 3, 4, 3, 5), 3, 3)
	for count := range 41 {
		e := impl.Epochs{Now: 9, Pins: pins(0), Gone: manyGone(count, 7)}
		var nodes []int
		for _, gone := range e.Gone {
			nodes = append(nodes, gone.Node)
		}
		wantFree(t, e, epochsAt(9, pins(0)), nodes...)
		e.Gone = manyGone(count, 8)
		wantFree(t, e, e)
	}
}

// A node is free when Now is two epochs beyond, neither ahead of that nor a second time.
func TestFreeOnce(t *testing.T) {
	e := epochsAt(2, pins(0), 4, 2, 9, 2)
	wantFree(t, e, e)
	e = wantStepDone(t, "advance", 0, e, epochsAt(3, pins(0), 4, 2, 9, 2))
	wantFree(t, e, e)
	e = wantStepDone(t, "retire", 6, e, epochsAt(3, pins(0), 4, 2, 9, 2, 6, 3))
	e = wantStepDone(t, "advance", 0, e, epochsAt(4, pins(0), 4, 2, 9, 2, 6, 3))
	e = wantFree(t, e, epochsAt(4, pins(0), 6, 3), 4, 9)
	wantFree(t, e, e)
	e = wantStepDone(t, "retire", 4, e, epochsAt(4, pins(0), 6, 3, 4, 4))
	e = wantStepDone(t, "advance", 0, e, epochsAt(5, pins(0), 6, 3, 4, 4))
	e = wantFree(t, e, epochsAt(5, pins(0), 4, 4), 6)
	e = wantStepDone(t, "advance", 0, e, epochsAt(6, pins(0), 4, 4))
	e = wantFree(t, e, epochsAt(6, pins(0)), 4)
	wantFree(t, e, e)
}

// Who looks from the epoch Now on lets it go on once, and holds it from then on, whoever else comes or goes.
func TestLateLook(t *testing.T) {
	for first := range 6 {
		for size := 1; size <= 4; size++ {
			for who := range size {
				e := impl.EpochsNew(size)
				for range first {
					e, _ = impl.AdvanceEpoch(e)
				}
				e, _ = impl.PinLook(e, who)
				e, ok := impl.AdvanceEpoch(e)
				if !ok {
					t.Fatalf("%d of %d from %d on: the next epoch is held", who, size, first+2)
				}
				for other := range size {
					wantStepRefused(t, "advance", 0, e)
					e, _ = impl.PinLook(e, other)
				}
				wantStepRefused(t, "advance", 0, e)
				e, _ = impl.UnpinLook(e, who)
				if _, ok = impl.AdvanceEpoch(e); !ok {
					t.Errorf("%d of %d from %d on: held by nobody", who, size, first+2)
				}
			}
		}
	}
}

// tried advances and frees many times, and answers all that was free.
func tried(e impl.Epochs, times int) (impl.Epochs, []int) {
	var free, nodes []int
	for range times {
		e, _ = impl.AdvanceEpoch(e)
		e, nodes = impl.FreeNodes(e)
		free = append(free, nodes...)
	}
	return e, free
}

// What is retired while somebody looks is not free till they do not, however often it is tried; late ones hold what comes after them alone.
func TestNotFreeWhileLooked(t *testing.T) {
	for between := range 2 {
		e, _ := impl.PinLook(impl.EpochsNew(3), 1)
		e, _ = tried(e, between)
		e, _ = impl.RetireNode(e, 7)
		e, free := tried(e, 50)
		if len(free) != 0 {
			t.Fatalf("retired %d epochs behind the look: %v is free", between, free)
		}
		e, _ = impl.PinLook(e, 2)
		e, _ = impl.UnpinLook(e, 1)
		e, free = tried(e, 50)
		if want := []int{7}[between:]; !slices.Equal(free, want) {
			t.Errorf("retired %d epochs behind the look, one looks late: %v is free; want %v", between, free, want)
		}
		e, _ = impl.UnpinLook(e, 2)
		e, free = tried(e, 2)
		if want := []int{7}[:between]; !slices.Equal(free, want) || len(e.Gone) != 0 {
			t.Errorf("nobody looks any more: %v is free, %+v", free, e)
		}
	}
}

func TestRetiredAheadOfALook(t *testing.T) {
	e, _ := impl.RetireNode(impl.EpochsNew(2), 7)
	e, _ = impl.AdvanceEpoch(e)
	e, _ = impl.RetireNode(e, 3)
	e, _ = impl.PinLook(e, 0)
	e, _ = impl.RetireNode(e, 12)
	e, free := tried(e, 20)
	if !slices.Equal(free, []int{7}) {
		t.Errorf("one looks: %v is free", free)
	}
	e, _ = impl.UnpinLook(e, 0)
	e, _ = impl.RetireNode(e, 7)
	e, free = tried(e, 1)
	if !slices.Equal(free, []int{3, 12}) {
		t.Errorf("one looked: %v is free", free)
	}
	if _, free = tried(e, 1); !slices.Equal(free, []int{7}) {
		t.Errorf("retired behind the look: %v is free", free)
	}
}

// Though there is always somebody who looks, what is retired is free in the end, if each one looks for a while alone.
func TestOneLooksAfterTheOther(t *testing.T) {
	e, _ := impl.PinLook(impl.EpochsNew(2), 0)
	var retired, free []int
	for round := range 40 {
		e, _ = impl.RetireNode(e, round%20+1)
		retired = append(retired, round%20+1)
		var ok bool
		if e, ok = impl.AdvanceEpoch(e); !ok {
			t.Fatalf("round %d: %+v is held", round, e)
		}
		e, _ = impl.PinLook(e, (round+1)%2)
		e, _ = impl.UnpinLook(e, round%2)
		var nodes []int
		e, nodes = impl.FreeNodes(e)
		free = append(free, nodes...)
		if !slices.Equal(free, retired[:round]) {
			t.Fatalf("round %d: %v is free of %v", round, free, retired)
		}
	}
}

// everyEpochs has all pins of up to four, right ones and some that are not, with each list of nodes.
func everyEpochs(now int, lists [][]impl.Gone) []impl.Epochs {
	var all []impl.Epochs
	choices := []int{0, now, now + 1, now - 1, 1}
	rows := [][]int{{}}
	for range 4 {
		var longer [][]int
		for _, row := range rows {
			for _, pin := range choices {
				longer = append(longer, append(slices.Clone(row), pin))
			}
		}
		rows = longer
		for _, row := range rows {
			for _, list := range lists {
				all = append(all, impl.Epochs{Now: now, Pins: row, Gone: list})
			}
		}
	}
	return all
}

func TestEveryPins(t *testing.T) {
	for _, now := range []int{2, 3, 4, 7, impl.MaxNumber - 1, impl.MaxNumber} {
		lists := [][]impl.Gone{nil, goneList(1, now-2, 20, now, 3, now-1, 2, 0), goneList(4, now)}
		for _, e := range everyEpochs(now, lists) {
			wantStepsByRule(t, e)
		}
	}
}

// In the end: whoever looks does so no more, two epochs go by, and all is free, in order.
func TestFreeInTheEnd(t *testing.T) {
	for _, e := range rightEpochs() {
		if e.Now > impl.MaxNumber-2 {
			continue
		}
		for who := range e.Pins {
			e, _ = impl.UnpinLook(e, who)
		}
		var want []int
		for _, gone := range e.Gone {
			want = append(want, gone.Node)
		}
		e, _ = impl.AdvanceEpoch(e)
		e, _ = impl.AdvanceEpoch(e)
		wantFree(t, e, impl.Epochs{Now: e.Now, Pins: e.Pins}, want...)
	}
}

// lookers is who looks at what: of each node that is retired and not yet free those who looked when it was.
type lookers struct {
	looking map[int]bool
	held    map[int]map[int]bool
	order   []int
}

func (l *lookers) done(step epochStep) {
	switch step.what {
	case "pin":
		l.looking[step.n] = true
	case "unpin":
		delete(l.looking, step.n)
		for _, by := range l.held {
			delete(by, step.n)
		}
	case "retire":
		by := map[int]bool{}
		for who := range l.looking {
			by[who] = true
		}
		l.held[step.n] = by
		l.order = append(l.order, step.n)
	}
}

// freed takes nodes out that are free, and tells what is wrong with that: looked at, not retired, or ahead of one that went earlier.
func (l *lookers) freed(nodes []int) string {
	for _, node := range nodes {
		by, gone := l.held[node]
		if !gone {
			return fmt.Sprintf("node %d is free, but is not gone", node)
		}
		if len(by) > 0 {
			return fmt.Sprintf("node %d is free, but looked at by %v", node, by)
		}
		if l.order[0] != node {
			return fmt.Sprintf("node %d is free ahead of %d", node, l.order[0])
		}
		delete(l.held, node)
		l.order = l.order[1:]
	}
	return ""
}

func drawnEpochStep(kind, n byte) epochStep {
	switch kind % 8 {
	case 0, 1:
		return epochStep{"pin", int(n) % 5}
	case 2, 3:
		return epochStep{"unpin", int(n) % 5}
	case 4, 5:
		return epochStep{"retire", int(n) % 22}
	case 6:
		return epochStep{what: "advance"}
	}
	return epochStep{what: "free"}
}

func TestDrawnEpochs(t *testing.T) {
	inLife := 0
	for seed := range uint32(400) {
		draws := drawn(500, seed*41+9)
		e := impl.EpochsNew(int(seed%4) + 1)
		l := lookers{map[int]bool{}, map[int]map[int]bool{}, nil}
		for i := 0; i < len(draws); i += 2 {
			step := drawnEpochStep(draws[i], draws[i+1])
			want, wantOk, wantNodes := step.byRule(e)
			e = wantEpochStep(t, step, e, want, wantOk, wantNodes)
			if wantOk {
				l.done(step)
			}
			if wrong := l.freed(wantNodes); wrong != "" || !impl.EpochsOk(e) {
				t.Fatalf("life %d, step %d: %s; %+v", seed, i/2, wrong, e)
			}
			inLife += len(wantNodes)
		}
		for who := range l.looking {
			e, _ = impl.UnpinLook(e, who)
		}
		e, nodes := tried(e, 2)
		if !slices.Equal(nodes, l.order) || len(e.Gone) != 0 {
			t.Fatalf("life %d: %v is free in the end; want %v", seed, nodes, l.order)
		}
	}
	if inLife < 2000 {
		t.Errorf("%d nodes were free within the lives: the draws tell too little", inLife)
	}
}

// roomyEpochs has room behind its lists, where nothing may be written.
func roomyEpochs(e impl.Epochs) (impl.Epochs, []int, []impl.Gone) {
	pinRoom := append(slices.Clone(e.Pins), -71, -72, -73, -74, -75)
	goneRoom := append(slices.Clone(e.Gone), goneList(-81, -82, -83, -84, -85, -86)...)
	return impl.Epochs{Now: e.Now, Pins: pinRoom[:len(e.Pins)], Gone: goneRoom[:len(e.Gone)]}, pinRoom, goneRoom
}

func spoil(e impl.Epochs, nodes []int) {
	for _, list := range [][]int{e.Pins[:cap(e.Pins)], nodes[:cap(nodes)]} {
		for i := range list {
			list[i] = -99
		}
	}
	room := e.Gone[:cap(e.Gone)]
	for i := range room {
		room[i] = impl.Gone{Node: -99, Epoch: -98}
	}
}

func TestEpochsShareNothing(t *testing.T) {
	for _, e := range slices.Concat(rightEpochs(), wrongEpochs()) {
		for _, step := range epochSteps() {
			given, pinRoom, goneRoom := roomyEpochs(e)
			wholePins, wholeGone := slices.Clone(pinRoom), slices.Clone(goneRoom)
			after, _, nodes := step.run(given)
			impl.EpochsOk(given)
			if !slices.Equal(pinRoom, wholePins) || !slices.Equal(goneRoom, wholeGone) {
				t.Fatalf("%v changes what was handed in: %v, %v", step, pinRoom, goneRoom)
			}
			ahead, nodesAhead := cloneEpochs(after), slices.Clone(nodes)
			spoil(impl.Epochs{Pins: pinRoom, Gone: goneRoom}, nil)
			if !sameEpochs(after, ahead) || !slices.Equal(nodes, nodesAhead) {
				t.Fatalf("%v of %+v: the answer changes with what was handed in", step, e)
			}
			copy(pinRoom, wholePins)
			copy(goneRoom, wholeGone)
			spoil(after, nodes)
			if !slices.Equal(pinRoom, wholePins) || !slices.Equal(goneRoom, wholeGone) {
				t.Fatalf("%v of %+v: what was handed in changes with the answer", step, e)
			}
		}
	}
}

func TestAnswersShareNothing(t *testing.T) {
	for _, e := range slices.Concat(rightEpochs(), wrongEpochs()) {
		after, nodes := impl.FreeNodes(e)
		nodesAhead, pinsAhead := slices.Clone(nodes), slices.Clone(after.Pins)
		spoil(impl.Epochs{Pins: after.Pins}, nil)
		if !slices.Equal(nodes, nodesAhead) {
			t.Fatalf("%+v: the nodes change with the Pins", e)
		}
		copy(after.Pins, pinsAhead)
		spoil(impl.Epochs{}, nodes)
		if !slices.Equal(after.Pins, pinsAhead) {
			t.Fatalf("%+v: the Pins change with the nodes", e)
		}
	}
	for n := range 5 {
		one, other := impl.EpochsNew(n), impl.EpochsNew(n)
		spoil(one, nil)
		if !sameEpochs(other, epochsAt(2, make([]int, max(n, 1)))) {
			t.Fatalf("EpochsNew(%d): two answers share memory", n)
		}
	}
}
