package tests

import (
	"fmt"
	"math"
	"slices"
	"strings"
	"sync"
	"testing"

	"loop.example/g00245/impl"
)

// readersAt has readers, told as Id and At, one behind the other.
func readersAt(numbers ...int) []impl.Reader {
	var list []impl.Reader
	for i := 0; i < len(numbers); i += 2 {
		list = append(list, impl.Reader{Id: numbers[i], At: numbers[i+1]})
	}
	return list
}

// streamOf has the readers as readersAt tells them.
func streamOf(state int, text string, readers ...int) impl.Stream {
	return impl.Stream{State: state, Text: text, Readers: readersAt(readers...)}
}

func cloneStream(s impl.Stream) impl.Stream {
	return impl.Stream{State: s.State, Text: s.Text, Readers: slices.Clone(s.Readers)}
}

func sameStream(a, b impl.Stream) bool {
	return a.State == b.State && a.Text == b.Text && slices.Equal(a.Readers, b.Readers)
}

func toldStream(s impl.Stream) string {
	return fmt.Sprintf("state %d, %d bytes %.30q, readers %v", s.State, len(s.Text), s.Text, s.Readers)
}

func withState(s impl.Stream, state int) impl.Stream {
	next := cloneStream(s)
	next.State = state
	return next
}

func withReaders(s impl.Stream, readers ...impl.Reader) impl.Stream {
	return impl.Stream{State: s.State, Text: s.Text, Readers: slices.Clone(readers)}
}

// streamStep is one call on a stream; those that read nothing answer no text, and the one that leaves answers no flag.
type streamStep struct {
	what string
	n    int
	most int
	part string
}

func putStep(part string) streamStep   { return streamStep{what: "put", part: part} }
func joinStep(id int) streamStep       { return streamStep{what: "join", n: id} }
func readStep(id, most int) streamStep { return streamStep{what: "read", n: id, most: most} }
func leaveStep(id int) streamStep      { return streamStep{what: "leave", n: id} }
func doneStep() streamStep             { return streamStep{what: "done"} }
func brokenStep() streamStep           { return streamStep{what: "broken"} }

func (step streamStep) told() string {
	return fmt.Sprintf("%s %d %d %.50q", step.what, step.n, step.most, step.part)
}

func (step streamStep) run(s impl.Stream) (impl.Stream, string, bool) {
	switch step.what {
	case "put":
		after, ok := impl.StreamPut(s, step.part)
		return after, "", ok
	case "join":
		after, ok := impl.StreamJoin(s, step.n)
		return after, "", ok
	case "read":
		return impl.StreamRead(s, step.n, step.most)
	case "leave":
		return impl.StreamLeave(s, step.n), "", false
	}
	after, ok := impl.StreamEnd(s, step.what == "broken")
	return after, "", ok
}

// streamOkByRule is the document's sentence of StreamOk.
func streamOkByRule(s impl.Stream) bool {
	ok := slices.Contains([]int{1, 2, 3}, s.State) && len(s.Text) < 401 && len(s.Readers) < 7
	for i, reader := range s.Readers {
		ok = ok && 0 < reader.Id && reader.Id < 10 && -1 < reader.At && reader.At <= len(s.Text)
		for _, ahead := range s.Readers[:i] {
			ok = ok && ahead.Id < reader.Id
		}
	}
	return ok
}

// byRule is the document's text of the five that change streams.
func (step streamStep) byRule(s impl.Stream) (impl.Stream, string, bool) {
	next := cloneStream(s)
	if step.what == "leave" {
		next.Readers = nil
		for _, reader := range s.Readers {
			if reader.Id != step.n {
				next.Readers = append(next.Readers, reader)
			}
		}
		return next, "", false
	}
	if !streamOkByRule(s) {
		return next, "", false
	}
	switch step.what {
	case "put":
		next.Text = s.Text + step.part
		if s.State != 1 || len(step.part) < 1 || len(step.part) > 40 || len(next.Text) > 400 {
			return s, "", false
		}
		return next, "", true
	case "join":
		return joinByRule(s, step.n)
	case "read":
		return readByteByByte(s, step.n, step.most)
	}
	if s.State != 1 {
		return next, "", false
	}
	next.State = map[string]int{"done": 2, "broken": 3}[step.what]
	return next, "", true
}

func joinByRule(s impl.Stream, id int) (impl.Stream, string, bool) {
	next := cloneStream(s)
	next.Readers = append(next.Readers, impl.Reader{Id: id})
	slices.SortStableFunc(next.Readers, func(a, b impl.Reader) int { return a.Id - b.Id })
	if !streamOkByRule(next) {
		return s, "", false
	}
	return next, "", true
}

func readByteByByte(s impl.Stream, id, most int) (impl.Stream, string, bool) {
	next, text := cloneStream(s), ""
	for i := range next.Readers {
		reader := &next.Readers[i]
		if reader.Id != id {
			continue
		}
		for reader.At < len(s.Text) && most > len(text) {
			text += s.Text[reader.At : reader.At+1]
			reader.At++
		}
		return next, text, true
	}
	return next, "", false
}

// wantStream holds a step against what is told, and answers the stream behind it.
func wantStream(t *testing.T, step streamStep, s, want impl.Stream, wantText string, wantOk bool) impl.Stream {
	t.Helper()
	// What is wanted may share its readers with what is handed in, which a fault could change.
	want = cloneStream(want)
	got, text, ok := step.run(s)
	if !sameStream(got, want) || text != wantText || ok != wantOk {
		t.Fatalf("%s of %s:\n%s, %q, %v; want\n%s, %q, %v", step.told(), toldStream(s), toldStream(got), text, ok, toldStream(want), wantText, wantOk)
	}
	return got
}

func wantStreamDone(t *testing.T, step streamStep, s, want impl.Stream) impl.Stream {
	t.Helper()
	return wantStream(t, step, s, want, "", true)
}

// wantStreamRefused: as it is, every field, nothing, and false.
func wantStreamRefused(t *testing.T, step streamStep, s impl.Stream) {
	t.Helper()
	wantStream(t, step, s, cloneStream(s), "", false)
}

func wantStreamByRule(t *testing.T, step streamStep, s impl.Stream) (impl.Stream, string, bool) {
	t.Helper()
	want, text, ok := step.byRule(s)
	return wantStream(t, step, s, want, text, ok), text, ok
}

func wantStreamOk(t *testing.T, s impl.Stream, want bool) {
	t.Helper()
	if got := impl.StreamOk(s); got != want {
		t.Errorf("StreamOk of %s: %v", toldStream(s), got)
	}
}

func streamSteps() []streamStep {
	steps := []streamStep{doneStep(), brokenStep()}
	for _, size := range []int{0, 1, 2, 39, 40, 41, 400, 401} {
		steps = append(steps, putStep(drawn(size, uint32(size))))
	}
	for _, id := range []int{math.MinInt, -1, 0, 1, 2, 3, 5, 8, 9, 10, 11, math.MaxInt} {
		steps = append(steps, joinStep(id), leaveStep(id))
		for _, most := range []int{math.MinInt, -1, 0, 1, 2, 7, 399, 400, 401, math.MaxInt} {
			steps = append(steps, readStep(id, most))
		}
	}
	return steps
}

// everyIds has each choice of Ids in 1 .. 9, ascending, of at most so many.
func everyIds(most int) [][]int {
	var lists [][]int
	for choice := range 1 << 9 {
		var ids []int
		for id := 1; id <= 9; id++ {
			if choice>>(id-1)&1 == 1 {
				ids = append(ids, id)
			}
		}
		if len(ids) <= most {
			lists = append(lists, ids)
		}
	}
	return lists
}

// readersOf are at places of their own, in 0 .. size.
func readersOf(ids []int, size int) []impl.Reader {
	var list []impl.Reader
	for i, id := range ids {
		list = append(list, impl.Reader{Id: id, At: (id*7 + i) % (size + 1)})
	}
	return list
}

func rightStreams() []impl.Stream {
	var list []impl.Stream
	for state := 1; state <= 3; state++ {
		for _, size := range []int{0, 1, 5, 359, 360, 361, 399, 400} {
			text := drawn(size, uint32(size)+3)
			list = append(list,
				streamOf(state, text),
				streamOf(state, text, 1, 0),
				streamOf(state, text, 9, size),
				streamOf(state, text, 2, size, 5, 0),
				streamOf(state, text, 1, size, 3, size/2, 5, 0, 8, size, 9, size),
				streamOf(state, text, 1, 0, 2, size, 3, size/2, 5, 0, 8, size, 9, 0),
				streamOf(state, text, 4, size, 5, size, 6, size, 7, size, 8, size, 9, size))
		}
	}
	return list
}

func wrongByState() []impl.Stream {
	var list []impl.Stream
	for _, state := range []int{math.MinInt, -3, -2, -1, 0, 4, 5, 257, 1 << 32, math.MaxInt} {
		list = append(list, streamOf(state, ""), streamOf(state, "abc", 1, 2, 3, 3), streamOf(state, drawn(400, 5), 2, 400))
	}
	return append(list, impl.Stream{})
}

func wrongByText() []impl.Stream {
	var list []impl.Stream
	for state := 1; state <= 3; state++ {
		for _, size := range []int{401, 402, 440, 656, 20001} {
			list = append(list, streamOf(state, drawn(size, 7)), streamOf(state, drawn(size, 7), 1, 0, 5, 400, 9, size))
		}
	}
	return list
}

func wrongByIds() []impl.Stream {
	var list []impl.Stream
	for _, id := range []int{math.MinInt, -1, 0, 10, 11, 257, math.MaxInt} {
		list = append(list, streamOf(1, "abc", id, 1), streamOf(2, "abc", id, 1, 5, 2), streamOf(3, "abc", 5, 2, id, 1), streamOf(1, "abc", 2, 0, id, 1, 8, 3))
	}
	return append(list,
		streamOf(1, "abc", 1, 0, 1, 0), streamOf(1, "abc", 1, 0, 1, 3), streamOf(1, "abc", 9, 3, 9, 0), streamOf(2, "abc", 5, 1, 5, 2, 5, 3),
		streamOf(1, "abc", 2, 0, 1, 0), streamOf(3, "abc", 9, 0, 1, 0), streamOf(1, "abc", 1, 0, 3, 0, 2, 0), streamOf(1, "abc", 2, 0, 1, 0, 3, 0),
		streamOf(1, "abc", 1, 0, 2, 0, 1, 1), streamOf(1, "abc", 1, 1, 2, 0, 2, 1, 3, 0), streamOf(1, "abc", 1, 0, 2, 0, 3, 0, 4, 0, 6, 0, 5, 0),
		streamOf(1, "abc", 1, 0, 2, 0, 3, 0, 4, 0, 5, 0, 5, 0), streamOf(1, "", 3, 0, 3, 0), streamOf(1, "abc", 5, 0, 2, 1, 5, 2, 8, 3, 5, 1))
}

func wrongByAts() []impl.Stream {
	var list []impl.Stream
	for _, size := range []int{0, 1, 3, 399, 400} {
		for _, at := range []int{math.MinInt, -2, -1, size + 1, size + 2, 1000, math.MaxInt} {
			text := drawn(size, 9)
			list = append(list, streamOf(1, text, 1, at), streamOf(2, text, 1, at, 5, 0), streamOf(3, text, 2, 0, 5, at), streamOf(1, text, 1, 0, 2, size, 5, at, 9, 0))
		}
	}
	return list
}

func wrongByCount() []impl.Stream {
	var list []impl.Stream
	for state := 1; state <= 3; state++ {
		for count := 7; count <= 9; count++ {
			list = append(list, impl.Stream{State: state, Text: "abcd", Readers: readersOf([]int{1, 2, 3, 4, 5, 6, 7, 8, 9}[:count], 4)})
			list = append(list, impl.Stream{State: state, Text: "abcd", Readers: readersOf([]int{1, 2, 3, 4, 5, 6, 7, 8, 9}[9-count:], 4)})
		}
	}
	return append(list, withReaders(impl.StreamNew(), slices.Repeat(readersAt(3, 0), 50)...))
}

func wrongStreams() []impl.Stream {
	return slices.Concat(wrongByState(), wrongByText(), wrongByIds(), wrongByAts(), wrongByCount())
}

func TestStreamConstants(t *testing.T) {
	got := [4]int{impl.StreamOpen, impl.StreamDone, impl.StreamBroken, impl.MaxPart9}
	if got != [4]int{1, 2, 3, 40} {
		t.Errorf("the states and the longest part: %v", got)
	}
}

func TestStreamNew(t *testing.T) {
	s := impl.StreamNew()
	if !sameStream(s, streamOf(1, "")) {
		t.Errorf("StreamNew: %s", toldStream(s))
	}
	wantStreamOk(t, s, true)
	for id := range 11 {
		wantStreamRefused(t, readStep(id, 5), s)
		wantStream(t, leaveStep(id), s, s, "", false)
	}
}

func TestStreamLife(t *testing.T) {
	s := wantStreamDone(t, joinStep(3), impl.StreamNew(), streamOf(1, "", 3, 0))
	s = wantStreamDone(t, putStep("hello"), s, streamOf(1, "hello", 3, 0))
	s = wantStream(t, readStep(3, 2), s, streamOf(1, "hello", 3, 2), "he", true)
	s = wantStreamDone(t, joinStep(1), s, streamOf(1, "hello", 1, 0, 3, 2))
	s = wantStreamDone(t, putStep(", you"), s, streamOf(1, "hello, you", 1, 0, 3, 2))
	s = wantStream(t, readStep(1, 7), s, streamOf(1, "hello, you", 1, 7, 3, 2), "hello, ", true)
	s = wantStream(t, readStep(3, 99), s, streamOf(1, "hello, you", 1, 7, 3, 10), "llo, you", true)
	s = wantStreamDone(t, doneStep(), s, streamOf(2, "hello, you", 1, 7, 3, 10))
	wantStreamRefused(t, putStep("!"), s)
	s = wantStream(t, readStep(1, 99), s, streamOf(2, "hello, you", 1, 10, 3, 10), "you", true)
	s = wantStream(t, readStep(1, 99), s, s, "", true)
	s = wantStream(t, leaveStep(1), s, streamOf(2, "hello, you", 3, 10), "", false)
	wantStreamRefused(t, readStep(1, 99), s)
	s = wantStreamDone(t, joinStep(1), s, streamOf(2, "hello, you", 1, 0, 3, 10))
	wantStream(t, readStep(1, 99), s, streamOf(2, "hello, you", 1, 10, 3, 10), "hello, you", true)
}

func TestStreamOk(t *testing.T) {
	for _, s := range rightStreams() {
		wantStreamOk(t, s, true)
	}
	for _, s := range wrongStreams() {
		wantStreamOk(t, s, false)
	}
}

func TestStreamOkEdges(t *testing.T) {
	for state, ok := range map[int]bool{-1: false, 0: false, 1: true, 2: true, 3: true, 4: false} {
		wantStreamOk(t, streamOf(state, "abc", 2, 3), ok)
		wantStreamOk(t, streamOf(state, ""), ok)
		for size, short := range map[int]bool{0: true, 1: true, 399: true, 400: true, 401: false} {
			wantStreamOk(t, streamOf(state, letters(size), 2, 0, 3, size), ok && short)
		}
	}
	for id, ok := range map[int]bool{math.MinInt: false, -1: false, 0: false, 1: true, 2: true, 8: true, 9: true, 10: false, 11: false, math.MaxInt: false} {
		wantStreamOk(t, streamOf(1, "abc", id, 1), ok)
	}
	for at, ok := range map[int]bool{math.MinInt: false, -1: false, 0: true, 1: true, 2: true, 3: true, 4: false, math.MaxInt: false} {
		wantStreamOk(t, streamOf(1, "abc", 5, at), ok)
		for place := range 6 {
			s := streamOf(3, "abc", 1, 0, 2, 3, 4, 1, 6, 3, 7, 0, 9, 2)
			s.Readers[place].At = at
			wantStreamOk(t, s, ok)
		}
	}
	for count := range 10 {
		ids := []int{1, 2, 3, 4, 5, 6, 7, 8, 9}
		for from := range 10 - count {
			wantStreamOk(t, withReaders(streamOf(1, "abc"), readersOf(ids[from:from+count], 3)...), count <= 6)
		}
	}
}

// Of every two, and of every three, just those that ascend are right.
func TestStreamOkOrders(t *testing.T) {
	for a := -1; a <= 11; a++ {
		for b := -1; b <= 11; b++ {
			wantStreamOk(t, streamOf(1, "ab", a, 0, b, 1), 1 <= a && a < b && b <= 9)
			for c := -1; c <= 11; c++ {
				wantStreamOk(t, streamOf(2, "ab", a, 2, b, 0, c, 1), 1 <= a && a < b && b < c && c <= 9)
			}
		}
	}
	for _, order := range everyOrder(6) {
		var readers []impl.Reader
		for _, n := range order {
			readers = append(readers, impl.Reader{Id: n + 2, At: n})
		}
		wantStreamOk(t, withReaders(streamOf(1, "abcdef"), readers...), slices.IsSorted(order))
	}
}

func TestPutOfEachSize(t *testing.T) {
	for size := range 60 {
		part := drawn(size, uint32(size)+1)
		for _, s := range []impl.Stream{impl.StreamNew(), streamOf(1, "", 2, 0, 4, 0), streamOf(1, "abc", 2, 0, 4, 3), streamOf(1, drawn(300, 2), 9, 150)} {
			if size < 1 || size > 40 {
				wantStreamRefused(t, putStep(part), s)
				continue
			}
			after := cloneStream(s)
			after.Text = s.Text + part
			wantStreamDone(t, putStep(part), s, after)
		}
	}
	for _, size := range []int{80, 256, 257, 296, 297, 400, 401, 100000} {
		wantStreamRefused(t, putStep(letters(size)), impl.StreamNew())
	}
}

func TestPutUpToTheEnd(t *testing.T) {
	for size := 1; size <= 40; size++ {
		part := drawn(size, uint32(size))
		for _, there := range []int{400 - size - 1, 400 - size, 400 - size + 1, 399, 400} {
			s := streamOf(1, drawn(there, 6), 1, there, 3, 0)
			if there+size > 400 {
				wantStreamRefused(t, putStep(part), s)
				continue
			}
			after := wantStreamDone(t, putStep(part), s, streamOf(1, s.Text+part, 1, there, 3, 0))
			wantStreamOk(t, after, true)
		}
	}
	s := impl.StreamNew()
	for i := range 10 {
		s = wantStreamDone(t, putStep(drawn(40, uint32(i))), s, streamOf(1, s.Text+drawn(40, uint32(i))))
	}
	wantStreamRefused(t, putStep("x"), s)
}

func TestPutOfEveryByte(t *testing.T) {
	s, all := streamOf(1, "", 5, 0), ""
	for _, part := range everyOneByte() {
		all += part
		s = wantStreamDone(t, putStep(part), s, streamOf(1, all, 5, 0))
	}
	wantStream(t, readStep(5, 400), s, streamOf(1, all, 5, len(all)), all, true)
	for at := range len(all) {
		wantStream(t, readStep(5, 1), streamOf(1, all, 5, at), streamOf(1, all, 5, at+1), all[at:at+1], true)
	}
}

// Just an open one is put to, and ended.
func TestPutAndEndInEachState(t *testing.T) {
	for _, s := range rightStreams() {
		for _, step := range []streamStep{putStep("x"), putStep(letters(40)), doneStep(), brokenStep()} {
			if s.State != impl.StreamOpen {
				wantStreamRefused(t, step, s)
			}
		}
		open := withState(s, 1)
		done := wantStreamDone(t, doneStep(), open, withState(s, 2))
		broken := wantStreamDone(t, brokenStep(), open, withState(s, 3))
		for _, ended := range []impl.Stream{done, broken} {
			wantStreamRefused(t, doneStep(), ended)
			wantStreamRefused(t, brokenStep(), ended)
			wantStreamRefused(t, putStep("x"), ended)
		}
	}
}

// Every choice of readers, and every Id.
func TestJoinAndLeaveOfEveryIds(t *testing.T) {
	for _, ids := range everyIds(6) {
		for state := 1; state <= 3; state++ {
			s := withReaders(streamOf(state, "abcde"), readersOf(ids, 5)...)
			for id := -1; id <= 11; id++ {
				there := slices.Contains(ids, id)
				wantStreamByRule(t, leaveStep(id), s)
				if there || id < 1 || id > 9 || len(ids) == 6 {
					wantStreamRefused(t, joinStep(id), s)
					continue
				}
				joined := wantJoined(t, s, id)
				wantStream(t, leaveStep(id), joined, s, "", false)
			}
		}
	}
}

// wantJoined: all others are as they were, and the new one is at 0, between the lesser and the greater ones.
func wantJoined(t *testing.T, s impl.Stream, id int) impl.Stream {
	t.Helper()
	var readers []impl.Reader
	for n := 1; n <= 9; n++ {
		for _, reader := range s.Readers {
			if reader.Id == n {
				readers = append(readers, reader)
			}
		}
		if n == id {
			readers = append(readers, impl.Reader{Id: id})
		}
	}
	joined := wantStreamDone(t, joinStep(id), s, withReaders(s, readers...))
	wantStreamOk(t, joined, true)
	return joined
}

func TestJoinEdges(t *testing.T) {
	for state := 1; state <= 3; state++ {
		wantStreamDone(t, joinStep(2), streamOf(state, "abc", 5, 3), streamOf(state, "abc", 2, 0, 5, 3))
		wantStreamDone(t, joinStep(9), streamOf(state, "abc", 5, 3), streamOf(state, "abc", 5, 3, 9, 0))
		wantStreamDone(t, joinStep(4), streamOf(state, "abc", 3, 1, 5, 3), streamOf(state, "abc", 3, 1, 4, 0, 5, 3))
		five := streamOf(state, "abc", 1, 1, 2, 2, 4, 3, 6, 0, 8, 1)
		wantStreamDone(t, joinStep(9), five, streamOf(state, "abc", 1, 1, 2, 2, 4, 3, 6, 0, 8, 1, 9, 0))
		wantStreamRefused(t, joinStep(8), five)
		six := streamOf(state, "abc", 1, 1, 2, 2, 4, 3, 6, 0, 8, 1, 9, 2)
		for _, id := range []int{math.MinInt, -1, 0, 1, 3, 5, 7, 9, 10, math.MaxInt} {
			wantStreamRefused(t, joinStep(id), six)
		}
		for _, id := range []int{math.MinInt, -1, 0, 10, 11, 265, math.MaxInt} {
			wantStreamRefused(t, joinStep(id), streamOf(state, "abc"))
			wantStreamRefused(t, joinStep(id), five)
		}
	}
}

// mostsOf are below 0, few, just as many as there are, one less and more, and very many.
func mostsOf(rest int) []int {
	return []int{math.MinInt, -400, -1, 0, 1, rest - 1, rest, rest + 1, 400, 401, math.MaxInt - 1, math.MaxInt}
}

func TestReadOfEachSize(t *testing.T) {
	for state := 1; state <= 3; state++ {
		for _, size := range []int{0, 1, 2, 5, 41, 399, 400} {
			text := drawn(size, uint32(size))
			for at := range size + 1 {
				for _, most := range mostsOf(size - at) {
					count := max(0, min(most, size-at))
					s := streamOf(state, text, 2, size, 4, at, 7, 0)
					wantStream(t, readStep(4, most), s, streamOf(state, text, 2, size, 4, at+count, 7, 0), text[at:at+count], true)
				}
			}
		}
	}
}

func TestReadEdges(t *testing.T) {
	for _, c := range []struct {
		at, most int
		want     string
	}{
		{0, -1, ""}, {0, 0, ""}, {0, 1, "h"}, {0, 4, "hell"}, {0, 5, "hello"}, {0, 6, "hello"}, {0, math.MaxInt, "hello"},
		{2, -1, ""}, {2, 0, ""}, {2, 1, "l"}, {2, 2, "ll"}, {2, 3, "llo"}, {2, 4, "llo"}, {2, math.MaxInt, "llo"}, {2, math.MinInt, ""},
		{5, -1, ""}, {5, 0, ""}, {5, 1, ""}, {5, 5, ""}, {5, math.MaxInt, ""},
	} {
		for state := 1; state <= 3; state++ {
			wantStream(t, readStep(6, c.most), streamOf(state, "hello", 6, c.at), streamOf(state, "hello", 6, c.at+len(c.want)), c.want, true)
		}
	}
}

// Each reader of six has a place of its own: who reads goes on, all others stay.
func TestReadOfEachReader(t *testing.T) {
	text := drawn(50, 4)
	for _, ids := range everyIds(6) {
		s := withReaders(streamOf(1, text), readersOf(ids, 50)...)
		for place, id := range ids {
			after := cloneStream(s)
			from := s.Readers[place].At
			to := min(from+9, 50)
			after.Readers[place].At = to
			wantStream(t, readStep(id, 9), s, after, text[from:to], true)
		}
		for id := -1; id <= 11; id++ {
			if !slices.Contains(ids, id) {
				wantStreamRefused(t, readStep(id, 9), s)
			}
		}
	}
}

func TestReadOfNobody(t *testing.T) {
	for _, s := range rightStreams() {
		for _, id := range []int{math.MinInt, -1, 0, 10, 11, 257, math.MaxInt} {
			for _, most := range mostsOf(len(s.Text)) {
				wantStreamRefused(t, readStep(id, most), s)
			}
		}
	}
}

func TestReadersAtTheEnd(t *testing.T) {
	for _, size := range []int{0, 1, 7, 360, 399} {
		text := drawn(size, 8)
		s := streamOf(1, text, 3, size, 6, 0)
		for _, most := range mostsOf(0) {
			s = wantStream(t, readStep(3, most), s, streamOf(1, text, 3, size, 6, 0), "", true)
		}
		s = wantStreamDone(t, putStep("\xfe"), s, streamOf(1, text+"\xfe", 3, size, 6, 0))
		s = wantStream(t, readStep(3, 0), s, s, "", true)
		s = wantStream(t, readStep(3, 9), s, streamOf(1, text+"\xfe", 3, size+1, 6, 0), "\xfe", true)
		s = wantStream(t, readStep(3, 9), s, s, "", true)
		for state, step := range map[int]streamStep{2: doneStep(), 3: brokenStep()} {
			ended := wantStreamDone(t, step, s, withState(s, state))
			ended = wantStream(t, readStep(3, 9), ended, ended, "", true)
			ended = wantStream(t, readStep(6, size), ended, streamOf(state, text+"\xfe", 3, size+1, 6, size), text, true)
			ended = wantStream(t, readStep(6, 9), ended, streamOf(state, text+"\xfe", 3, size+1, 6, size+1), "\xfe", true)
			ended = wantStream(t, readStep(6, 9), ended, ended, "", true)
			ended = wantStreamDone(t, joinStep(4), ended, streamOf(state, text+"\xfe", 3, size+1, 4, 0, 6, size+1))
			wantStream(t, readStep(4, 400), ended, streamOf(state, text+"\xfe", 3, size+1, 4, size+1, 6, size+1), text+"\xfe", true)
		}
	}
}

// Who leaves and joins again begins again.
func TestJoinAgain(t *testing.T) {
	s := streamOf(1, "abcdef", 2, 4, 5, 6)
	s = wantStream(t, leaveStep(2), s, streamOf(1, "abcdef", 5, 6), "", false)
	s = wantStream(t, leaveStep(2), s, s, "", false)
	s = wantStreamDone(t, joinStep(2), s, streamOf(1, "abcdef", 2, 0, 5, 6))
	wantStream(t, readStep(2, 3), s, streamOf(1, "abcdef", 2, 3, 5, 6), "abc", true)
}

func TestLeave(t *testing.T) {
	wrong := drawn(500, 1)
	for _, c := range []struct {
		s     impl.Stream
		id    int
		after impl.Stream
	}{
		{streamOf(1, "abc", 2, 1, 5, 2, 8, 3), 2, streamOf(1, "abc", 5, 2, 8, 3)},
		{streamOf(2, "abc", 2, 1, 5, 2, 8, 3), 5, streamOf(2, "abc", 2, 1, 8, 3)},
		{streamOf(3, "abc", 2, 1, 5, 2, 8, 3), 8, streamOf(3, "abc", 2, 1, 5, 2)},
		{streamOf(1, "abc", 2, 1, 5, 2, 8, 3), 4, streamOf(1, "abc", 2, 1, 5, 2, 8, 3)},
		{streamOf(1, "abc", 2, 1, 5, 2, 8, 3), 0, streamOf(1, "abc", 2, 1, 5, 2, 8, 3)},
		{streamOf(1, "abc", 4, 3), 4, streamOf(1, "abc")},
		{streamOf(1, "abc"), 4, streamOf(1, "abc")},
		{streamOf(1, "abc", 4, 1, 4, 2, 4, 3), 4, streamOf(1, "abc")},
		{streamOf(1, "abc", 4, 1, 6, 2, 4, 3), 4, streamOf(1, "abc", 6, 2)},
		{streamOf(1, "abc", 6, 1, 4, 2, 3, 3, 4, 0, 9, 1, 4, 1), 4, streamOf(1, "abc", 6, 1, 3, 3, 9, 1)},
		{streamOf(1, "abc", 6, 1, 6, 1, 3, 3), 3, streamOf(1, "abc", 6, 1, 6, 1)},
		{streamOf(1, "abc", 1, 0, 2, 0, 3, 0, 4, 0, 5, 0, 6, 0, 7, 0), 7, streamOf(1, "abc", 1, 0, 2, 0, 3, 0, 4, 0, 5, 0, 6, 0)},
		{streamOf(0, wrong, 0, -1, 12, 600), 0, streamOf(0, wrong, 12, 600)},
		{streamOf(9, wrong, 0, -1, 12, 600, -3, 1), -3, streamOf(9, wrong, 0, -1, 12, 600)},
		{streamOf(-1, wrong, math.MaxInt, math.MinInt, 3, 3), math.MaxInt, streamOf(-1, wrong, 3, 3)},
		{streamOf(4, "", 3, 3), 4, streamOf(4, "", 3, 3)},
		{impl.Stream{}, 0, impl.Stream{}},
	} {
		wantStream(t, leaveStep(c.id), c.s, c.after, "", false)
	}
}

// What is not right is refused, whatever is asked; but who leaves is gone.
func TestWrongStreams(t *testing.T) {
	for _, s := range wrongStreams() {
		for _, step := range streamSteps() {
			if step.what == "leave" {
				wantStreamByRule(t, step, s)
			} else {
				wantStreamRefused(t, step, s)
			}
		}
		for _, reader := range s.Readers {
			for _, most := range []int{-1, 0, 1, math.MaxInt} {
				wantStreamRefused(t, readStep(reader.Id, most), s)
			}
			wantStreamRefused(t, joinStep(reader.Id), s)
			wantStreamByRule(t, leaveStep(reader.Id), s)
		}
	}
}

func TestRightStreamsByRule(t *testing.T) {
	done := map[string]int{}
	for _, s := range rightStreams() {
		for _, step := range streamSteps() {
			after, _, ok := wantStreamByRule(t, step, s)
			wantStreamOk(t, after, true)
			if ok {
				done[step.what]++
			}
		}
	}
	for _, what := range []string{"put", "join", "read", "done", "broken"} {
		if done[what] < 8 {
			t.Errorf("%s is done %d times: the streams tell too little", what, done[what])
		}
	}
}

// streamWatch keeps what was written, and what each reader got since it joined.
type streamWatch struct {
	stream  impl.Stream
	written string
	got     map[int]string
}

func watched(t *testing.T, ids ...int) streamWatch {
	t.Helper()
	w := streamWatch{impl.StreamNew(), "", map[int]string{}}
	for _, id := range ids {
		w.does(t, joinStep(id))
	}
	return w
}

// does takes a step, and holds the promise against all that was written and got so far.
func (w *streamWatch) does(t *testing.T, step streamStep) {
	t.Helper()
	after, text, ok := step.run(w.stream)
	w.stream = after
	switch {
	case step.what == "leave":
		delete(w.got, step.n)
	case !ok:
	case step.what == "put":
		w.written += step.part
	case step.what == "join":
		w.got[step.n] = ""
	case step.what == "read":
		left := len(w.written) - len(w.got[step.n])
		w.got[step.n] += text
		if len(text) != max(0, min(step.most, left)) {
			t.Fatalf("%s: %d bytes where %d are left: %q", step.told(), len(text), left, text)
		}
	}
	w.holds(t, step)
}

func (w *streamWatch) holds(t *testing.T, step streamStep) {
	t.Helper()
	if w.stream.Text != w.written || !impl.StreamOk(w.stream) || len(w.stream.Readers) != len(w.got) {
		t.Fatalf("behind %s: %q was written: %s", step.told(), w.written, toldStream(w.stream))
	}
	for _, reader := range w.stream.Readers {
		got, there := w.got[reader.Id]
		if !there || !strings.HasPrefix(w.written, got) || reader.At != len(got) {
			t.Fatalf("behind %s: %d got %q of %q: %s", step.told(), reader.Id, got, w.written, toldStream(w.stream))
		}
	}
}

// readOut: in the end each one gets all that was written.
func (w *streamWatch) readOut(t *testing.T) {
	t.Helper()
	for id := range w.got {
		for most := 1; len(w.got[id]) < len(w.written); most++ {
			w.does(t, readStep(id, most))
		}
		w.does(t, readStep(id, math.MaxInt))
		if w.got[id] != w.written {
			t.Fatalf("%d got %q of %q in the end", id, w.got[id], w.written)
		}
	}
}

// everyTurns has each list of so many numbers below kinds.
func everyTurns(count, kinds int) [][]int {
	lists := [][]int{{}}
	for range count {
		var longer [][]int
		for _, list := range lists {
			for n := range kinds {
				longer = append(longer, append(slices.Clone(list), n))
			}
		}
		lists = longer
	}
	return lists
}

// Turn 0 puts a part, turn n has the n-th reader read; each order of these, with small and great reads.
func TestEveryOrderOfPutsAndReads(t *testing.T) {
	parts := []string{"a", "\x7f\x80\xff", "\u00e9z", drawn(40, 3), "\x00", "\xff\xff"}
	for _, c := range []struct {
		ids   []int
		count int
	}{{[]int{5}, 9}, {[]int{2, 7}, 7}, {[]int{1, 2, 4, 5, 8, 9}, 4}} {
		for _, most := range []int{0, 1, 2, 5, 400} {
			for _, turns := range everyTurns(c.count, len(c.ids)+1) {
				w := watched(t, c.ids...)
				for i, turn := range turns {
					if turn == 0 {
						w.does(t, putStep(parts[i%len(parts)]))
					} else {
						w.does(t, readStep(c.ids[turn-1], most+turn-1))
					}
				}
				w.readOut(t)
			}
		}
	}
}

// A reader joins ahead of each turn, and behind the end: it gets all from the beginning on.
func TestReadersThatJoinLate(t *testing.T) {
	turns := []streamStep{putStep("abc"), readStep(4, 2), putStep("\xfe\xff"), readStep(4, 9), putStep("d"), readStep(4, 0)}
	for _, end := range []streamStep{doneStep(), brokenStep()} {
		for when := range len(turns) + 2 {
			for _, id := range []int{1, 6, 9} {
				w := watched(t, 4)
				for i, step := range append(slices.Clone(turns), end) {
					if i == when {
						w.does(t, joinStep(id))
					}
					w.does(t, step)
				}
				w.does(t, joinStep(id))
				w.does(t, putStep("none"))
				w.readOut(t)
				if w.written != "abc\xfe\xffd" || w.got[id] != w.written || w.got[4] != w.written {
					t.Errorf("who joined ahead of turn %d got %q of %q", when, w.got[id], w.written)
				}
			}
		}
	}
}

func drawnStreamStep(draws string) streamStep {
	n := int(draws[1]) % 11
	switch kind := draws[0] % 32; {
	case kind < 12:
		return putStep(drawn(int(draws[2])%43, uint32(draws[3])))
	case kind < 24:
		return readStep(n, int(draws[2])%48-3)
	case kind < 29:
		return joinStep(n)
	case kind < 31:
		return leaveStep(n)
	case draws[2] < 64:
		return doneStep()
	case draws[2] < 128:
		return brokenStep()
	}
	return readStep(n, math.MaxInt)
}

func TestDrawnLivesOfStreams(t *testing.T) {
	full, ended := 0, 0
	for seed := range uint32(300) {
		draws := drawn(4*80, seed*37+5)
		w := watched(t)
		for i := 0; i < len(draws); i += 4 {
			step := drawnStreamStep(draws[i : i+4])
			wantStreamByRule(t, step, w.stream)
			w.does(t, step)
		}
		if len(w.written) > 360 {
			full++
		}
		if w.stream.State != impl.StreamOpen {
			ended++
		}
		w.readOut(t)
	}
	if full < 50 || ended < 50 {
		t.Errorf("%d are full and %d ended: the draws tell too little", full, ended)
	}
}

// drawnStream is right or nearly so.
func drawnStream(draws string) impl.Stream {
	sizes := []int{0, 1, 3, 20, 359, 360, 361, 399, 400, 401}
	s := impl.Stream{State: int(draws[0])%5 + int(draws[1])%2, Text: drawn(sizes[int(draws[2])%len(sizes)], uint32(draws[3]))}
	id := 0
	for i := range int(draws[4]) % 8 {
		id += int(draws[5+i])%3 + 1
		if draws[5+i] > 250 {
			id -= 2
		}
		s.Readers = append(s.Readers, impl.Reader{Id: id, At: int(draws[13+i]) * (len(s.Text) + 1) / 255})
	}
	return s
}

func TestDrawnStreamsByRule(t *testing.T) {
	right, wrong := 0, 0
	for seed := range uint32(6000) {
		draws := drawn(40, seed*53+17)
		s := drawnStream(draws)
		wantStreamOk(t, s, streamOkByRule(s))
		for i := 24; i < 40; i += 4 {
			wantStreamByRule(t, drawnStreamStep(draws[i:i+4]), s)
		}
		if streamOkByRule(s) {
			right++
		} else {
			wrong++
		}
	}
	if right < 1000 || wrong < 1000 {
		t.Errorf("%d are right and %d are not: the draws tell too little", right, wrong)
	}
}

// roomyStream has a text of its own, and room behind its readers, where nothing may be written.
func roomyStream(s impl.Stream) (impl.Stream, []impl.Reader) {
	room := append(slices.Clone(s.Readers), readersAt(-71, -72, -73, -74, -75, -76)...)
	return impl.Stream{State: s.State, Text: ownText(s.Text), Readers: room[:len(s.Readers)]}, room
}

func spoilStream(s impl.Stream) {
	room := s.Readers[:cap(s.Readers)]
	for i := range room {
		room[i] = impl.Reader{Id: -99, At: -98}
	}
}

// someStreams are right and wrong ones, of each kind some.
func someStreams() []impl.Stream {
	var list []impl.Stream
	for i, s := range slices.Concat(rightStreams(), wrongStreams()) {
		if i%3 == 0 && len(s.Text) < 500 {
			list = append(list, s)
		}
	}
	return append(list, impl.StreamNew(), streamOf(1, "", 5, 0), streamOf(1, "abc", 5, 1), streamOf(1, "abc", 1, 0, 2, 1, 5, 2))
}

func stepsToTry(s impl.Stream) []streamStep {
	steps := []streamStep{doneStep(), brokenStep(), putStep("part"), putStep("p"), putStep(""), putStep(letters(41)), joinStep(4), joinStep(10), leaveStep(4), readStep(4, 2)}
	for _, reader := range s.Readers {
		steps = append(steps, readStep(reader.Id, 2), readStep(reader.Id, 400), readStep(reader.Id, 0), leaveStep(reader.Id), joinStep(reader.Id))
	}
	return steps
}

func TestStreamsChangeNothing(t *testing.T) {
	for _, s := range someStreams() {
		for _, step := range stepsToTry(s) {
			given, room := roomyStream(s)
			ahead := slices.Clone(room)
			step.part = ownText(step.part)
			part := strings.Clone(step.part)
			after, text, _ := step.run(given)
			impl.StreamOk(given)
			if !slices.Equal(room, ahead) || given.Text != s.Text || given.State != s.State || step.part != part {
				t.Fatalf("%s: what was handed in is changed: %s, %v", step.told(), toldStream(given), room)
			}
			wantApart(t, step.told(), []string{after.Text, text}, []string{given.Text, step.part})
			want := cloneStream(after)
			spoilStream(given)
			if !sameStream(after, want) {
				t.Fatalf("%s: what was handed in is spoilt, and so is the answer: %s", step.told(), toldStream(after))
			}
		}
	}
}

func TestStreamAnswersReachNothing(t *testing.T) {
	for _, s := range someStreams() {
		for _, step := range stepsToTry(s) {
			given, room := roomyStream(s)
			ahead := slices.Clone(room)
			first, text, ok := step.run(given)
			again, textAgain, okAgain := step.run(given)
			if !sameStream(first, again) || text != textAgain || ok != okAgain {
				t.Fatalf("%s of %s: the second answer is another one", step.told(), toldStream(s))
			}
			wantApart(t, step.told(), []string{text}, []string{first.Text, textAgain, again.Text})
			wantApart(t, step.told(), []string{first.Text}, []string{textAgain, again.Text})
			want := cloneStream(again)
			spoilStream(first)
			if !sameStream(again, want) || !slices.Equal(room, ahead) {
				t.Fatalf("%s of %s: an answer is spoilt, and so is %s, or %v", step.told(), toldStream(s), toldStream(again), room)
			}
		}
	}
	one, other := impl.StreamNew(), impl.StreamNew()
	spoilStream(one)
	if !sameStream(other, streamOf(1, "")) || !sameStream(impl.StreamNew(), streamOf(1, "")) {
		t.Errorf("a new one is spoilt, and so is another one: %s", toldStream(other))
	}
}

// An answer that is handed in again is left as it is, too: lives that part do not meet again.
func TestStreamsThatPart(t *testing.T) {
	base, _ := impl.StreamPut(streamOf(1, "", 2, 0, 5, 0), "abcdef")
	want := cloneStream(base)
	for _, step := range stepsToTry(base) {
		once, _, _ := step.run(base)
		keep := cloneStream(once)
		for _, other := range stepsToTry(base) {
			other.run(once)
			other.run(base)
		}
		if !sameStream(base, want) || !sameStream(once, keep) {
			t.Fatalf("%s: %s and %s", step.told(), toldStream(base), toldStream(once))
		}
	}
}

// Many may ask of one stream at the same time: each gets what it would get alone.
func TestStreamsAskedAtOnce(t *testing.T) {
	s, room := roomyStream(streamOf(1, drawn(100, 3), 1, 0, 2, 10, 4, 50, 6, 99, 8, 100, 9, 7))
	ahead := slices.Clone(room)
	steps := stepsToTry(s)
	faults := make([]string, len(steps))
	var all sync.WaitGroup
	for i, step := range steps {
		all.Go(func() {
			want, wantText, wantOk := step.byRule(s)
			for range 200 {
				got, text, ok := step.run(s)
				if !sameStream(got, want) || text != wantText || ok != wantOk {
					faults[i] = toldStream(got)
				}
			}
		})
	}
	all.Wait()
	for i, fault := range faults {
		if fault != "" {
			t.Errorf("%s at the same time as others: %s", steps[i].told(), fault)
		}
	}
	if !slices.Equal(room, ahead) {
		t.Errorf("what was handed in is changed: %v", room)
	}
}
