package tests

import (
	"fmt"
	"maps"
	"math"
	"runtime"
	"slices"
	"testing"
	"time"

	"loop.example/g00245/impl"
)

// inNodes hands each task a node of its own, from node 1 on.
func inNodes(tasks ...impl.Task) []impl.Task {
	for i := range tasks {
		tasks[i].Node = i + 1
	}
	return tasks
}

// span is a call of this task from one number to another.
func span(task impl.Task, answer, begin, end int) impl.Call {
	return impl.Call{Task: doneWith(task, answer), Begin: begin, End: end}
}

// pairList has pairs of a key and a value, told one behind the other.
func pairList(numbers ...int) []impl.Pair {
	var list []impl.Pair
	for i := 0; i < len(numbers); i += 2 {
		list = append(list, impl.Pair{Key: numbers[i], Val: numbers[i+1]})
	}
	return list
}

// moduloByRule counts up or down in whole rounds, in many at once, as the greatest numbers have too many of them.
func moduloByRule(n, round int) int {
	n -= n / round * round
	if n < 0 {
		n += round
	}
	return n
}

// runByRule is the document's text of RunTasks, on the text's own steps.
func runByRule(tasks []impl.Task, picks []int) ([]int, []impl.Call) {
	list, calls, number := make([]int, 63), make([]impl.Call, len(tasks)), 0
	for i, task := range tasks {
		calls[i].Task = task
	}
	stepAt := func(place int) {
		number++
		if calls[place].Task.Done {
			return
		}
		list, calls[place].Task = stepByRule(list, calls[place].Task)
		if calls[place].Begin == 0 {
			calls[place].Begin = number
		}
		calls[place].End = number
	}
	for _, pick := range picks {
		stepAt(moduloByRule(pick, len(tasks)))
	}
	for range 400 {
		for place := range calls {
			stepAt(place)
		}
	}
	return list, calls
}

func ranWell(t *testing.T, what string, tasks []impl.Task, picks []int) ([]int, []impl.Call) {
	t.Helper()
	list, calls, ok := impl.RunTasks(tasks, picks)
	if !ok {
		t.Fatalf("%s: %+v with %v is refused", what, tasks, picks)
	}
	return list, calls
}

func wantRun(t *testing.T, what string, tasks []impl.Task, picks []int, wantList []int, want []impl.Call) {
	t.Helper()
	list, calls := ranWell(t, what, tasks, picks)
	if !slices.Equal(calls, want) {
		t.Errorf("%s, picks %v: %+v; want %+v", what, picks, calls, want)
	}
	if !slices.Equal(list, wantList) {
		t.Errorf("%s, picks %v: the list is %v; want %v", what, picks, list, wantList)
	}
}

// wantSpans asks just for answers and numbers, told as answer, Begin, End of each.
func wantSpans(t *testing.T, what string, tasks []impl.Task, picks []int, want ...[3]int) {
	t.Helper()
	_, calls := ranWell(t, what, tasks, picks)
	var got [][3]int
	for i, call := range calls {
		got = append(got, [3]int{call.Task.Answer, call.Begin, call.End})
		begun := impl.TaskNew(call.Task.Kind, call.Task.Key, call.Task.Val, call.Task.Node)
		if !call.Task.Done || begun != tasks[i] {
			t.Errorf("%s: the call at %d is of %+v", what, i, call.Task)
		}
	}
	if !slices.Equal(got, want) {
		t.Errorf("%s, picks %v: %v; want %v", what, picks, got, want)
	}
}

func wantRefused(t *testing.T, what string, tasks []impl.Task, picks []int) {
	t.Helper()
	if list, calls, ok := impl.RunTasks(tasks, picks); len(list) != 0 || len(calls) != 0 || ok {
		t.Errorf("%s: %v, %+v, %v", what, list, calls, ok)
	}
}

// everyOrder has all orders of 0 .. n - 1.
func everyOrder(n int) [][]int {
	if n == 0 {
		return [][]int{{}}
	}
	var orders [][]int
	for _, order := range everyOrder(n - 1) {
		for place := 0; place < n; place++ {
			orders = append(orders, slices.Insert(slices.Clone(order), place, n-1))
		}
	}
	return orders
}

// endsByRule has, for each order in which the calls may have been done, the pairs that are there in the end.
func endsByRule(calls []impl.Call) []map[int]int {
	var ends []map[int]int
	for _, order := range everyOrder(len(calls)) {
		pairs, fits := map[int]int{}, true
		for i, place := range order {
			for _, later := range order[i+1:] {
				fits = fits && calls[later].End >= calls[place].Begin
			}
			fits = fits && doneAlone(pairs, calls[place].Task) == calls[place].Task.Answer
		}
		if fits {
			ends = append(ends, pairs)
		}
	}
	return ends
}

func pairsOf(list []int) map[int]int {
	pairs := map[int]int{}
	for _, key := range impl.KeysOf(list) {
		pairs[key] = impl.ValueOf(list, key) - 1
	}
	return pairs
}

// wantSomeOrder asks for the promise: an order that could have been, with these answers, and this list in the end.
func wantSomeOrder(t *testing.T, tasks []impl.Task, picks []int) {
	t.Helper()
	list, calls := ranWell(t, "in some order", tasks, picks)
	for i, call := range calls {
		if !call.Task.Done || call.Begin < 1 || call.End < call.Begin {
			t.Errorf("%+v, picks %v: the call at %d is %+v", tasks, picks, i, call)
		}
	}
	if !impl.InSomeOrder(calls) {
		t.Errorf("%+v, picks %v: in no order: %+v", tasks, picks, calls)
	}
	there := pairsOf(list)
	if !slices.ContainsFunc(endsByRule(calls), func(end map[int]int) bool { return maps.Equal(end, there) }) {
		t.Errorf("%+v, picks %v: no order leads to %v", tasks, picks, there)
	}
}

func drawnTasks(draws string, keys int) []impl.Task {
	var tasks []impl.Task
	for i := range draws {
		n := int(draws[i])
		tasks = append(tasks, impl.TaskNew(n%3+1, n/3%keys+1, n%100, 20-i))
	}
	return tasks
}

func drawnPicks(draws string) []int {
	var picks []int
	for i := range draws {
		picks = append(picks, int(draws[i])-100)
	}
	return picks
}

func TestRunOneTask(t *testing.T) {
	wantRun(t, "a put alone", inNodes(put(5, 7, 0)), nil, listWith(2, node{1, 5, 7, 0}),
		[]impl.Call{span(at(put(5, 7, 1), 4, 0, 0, 0, 0), 1, 1, 3)})
	wantRun(t, "a put in the last node", []impl.Task{put(99, 0, 20)}, []int{}, listWith(40, node{20, 99, 0, 0}),
		[]impl.Call{span(at(put(99, 0, 20), 4, 0, 0, 0, 0), 1, 1, 3)})
	for _, task := range []impl.Task{find(5), take(5), find(1), take(99)} {
		wantRun(t, "nobody is there", []impl.Task{task}, nil, make([]int, 63), []impl.Call{span(at(task, 1, 0, 0, 0, 0), 0, 1, 2)})
	}
	for count := 0; count <= 10; count++ {
		picks := slices.Repeat([]int{0}, count)
		wantSpans(t, "a put alone", inNodes(put(5, 7, 0)), picks, [3]int{1, 1, 3})
		wantSpans(t, "a find alone", inNodes(find(5)), picks, [3]int{0, 1, 2})
		wantSpans(t, "a take alone", inNodes(take(5)), picks, [3]int{0, 1, 2})
	}
}

// Behind a put that is done a task of its key has four steps, or six to take it.
func TestRunOneBehindTheOther(t *testing.T) {
	tasks := inNodes(put(5, 7, 0), find(5), put(5, 8, 0), take(5), find(5), put(5, 9, 0))
	picks := slices.Concat([]int{0, 0, 0}, []int{1, 1, 1, 1}, []int{2, 2, 2, 2}, []int{3, 3, 3, 3, 3, 3}, []int{4, 4}, []int{5, 5, 5})
	wantSpans(t, "six, each alone", tasks, picks, [3]int{1, 1, 3}, [3]int{8, 4, 7}, [3]int{0, 8, 11}, [3]int{1, 12, 17}, [3]int{0, 18, 19}, [3]int{1, 20, 22})
	list, calls := ranWell(t, "six, each alone", tasks, picks)
	wantPairs(t, "six, each alone", list, map[int]int{5: 9})
	if !impl.InSomeOrder(calls) {
		t.Errorf("in no order: %+v", calls)
	}
	for i := range calls {
		for _, other := range []int{-1, 1, 2} {
			changed := slices.Clone(calls)
			changed[i].Task.Answer += other
			if impl.InSomeOrder(changed) {
				t.Errorf("the answer %d of %+v is as good", changed[i].Task.Answer, calls[i])
			}
		}
	}
}

func TestRunCountsEachPick(t *testing.T) {
	tasks := inNodes(put(5, 7, 0), take(5))
	wantSpans(t, "in turn", tasks, []int{0, 1, 0, 1}, [3]int{1, 1, 5}, [3]int{0, 2, 4})
	wantSpans(t, "done within the picks", tasks, []int{0, 0, 0, 1, 1, 1, 1, 1, 1}, [3]int{1, 1, 3}, [3]int{1, 4, 9})
	wantSpans(t, "more picks of one that is done", tasks, []int{0, 0, 0, 0, 0, 1, 0, 1, 1, 0, 1, 1, 1, 1, 0}, [3]int{1, 1, 3}, [3]int{1, 6, 13})
	wantSpans(t, "one is done within the picks, one behind them", tasks, []int{0, 0, 0, 0, 0, 1}, [3]int{1, 1, 3}, [3]int{1, 6, 16})
	wantSpans(t, "begun behind picks of one that is done", tasks, []int{1, 1, 1, 1}, [3]int{1, 5, 9}, [3]int{0, 1, 2})
	wantSpans(t, "the last pick ends it", tasks, []int{1, 0, 1, 0, 0}, [3]int{1, 2, 5}, [3]int{0, 1, 3})
}

func TestRunCountsEachTurn(t *testing.T) {
	wantSpans(t, "two", inNodes(find(5), put(6, 1, 0)), nil, [3]int{0, 1, 3}, [3]int{1, 2, 6})
	wantSpans(t, "three", inNodes(find(5), put(6, 1, 0), find(7)), nil, [3]int{0, 1, 4}, [3]int{1, 2, 8}, [3]int{0, 3, 6})
	wantSpans(t, "behind a pick", inNodes(find(5), put(6, 1, 0)), []int{0}, [3]int{0, 1, 2}, [3]int{1, 3, 7})
	wantSpans(t, "six that look", inNodes(find(1), find(2), take(3), find(4), take(5), find(6)), nil,
		[3]int{0, 1, 7}, [3]int{0, 2, 8}, [3]int{0, 3, 9}, [3]int{0, 4, 10}, [3]int{0, 5, 11}, [3]int{0, 6, 12})
	// The second can't hang in in its third turn, and begins again: four more turns to meet the first, or five to hang in ahead of it.
	wantSpans(t, "two puts of one key", inNodes(put(5, 7, 0), put(5, 8, 0)), nil, [3]int{1, 1, 5}, [3]int{0, 2, 14})
	wantSpans(t, "two puts of two keys", inNodes(put(5, 7, 0), put(4, 8, 0)), nil, [3]int{1, 1, 5}, [3]int{1, 2, 16})
}

func TestSamePicksInOtherOrders(t *testing.T) {
	tasks := inNodes(put(5, 7, 0), take(5))
	answers := map[[2]int]int{}
	for bits := range 1 << 9 {
		picks := make([]int, 9)
		ones := 0
		for i := range picks {
			picks[i] = bits >> i & 1
			ones += picks[i]
		}
		if ones != 6 {
			continue
		}
		_, calls := ranWell(t, "in each order", tasks, picks)
		answers[[2]int{calls[0].Task.Answer, calls[1].Task.Answer}]++
	}
	if len(answers) != 2 || answers[[2]int{1, 0}] == 0 || answers[[2]int{1, 1}] == 0 {
		t.Errorf("answers of a put and a take: %v", answers)
	}
}

func TestPicksModulo(t *testing.T) {
	all := inNodes(put(5, 7, 0), put(4, 1, 0), take(5), find(4), put(5, 8, 0), take(4))
	for count := 1; count <= 6; count++ {
		tasks := all[:count]
		near := []int{0, 1, 2, 3, 4, 5, 6, 7, 8, 11, 12, 13, 59, 60, 61, -1, -2, -3, -4, -5, -6, -7, -8, -11, -12, -13, -60}
		var within []int
		for _, pick := range near {
			within = append(within, moduloByRule(pick, count))
		}
		list, calls := ranWell(t, "within", tasks, within)
		wantRun(t, "beyond", tasks, near, list, calls)
	}
	two := inNodes(find(1), find(2))
	wantSpans(t, "-1 of two", two, []int{-1, -1}, [3]int{0, 3, 5}, [3]int{0, 1, 2})
	wantSpans(t, "-2 of two", two, []int{-2, -2}, [3]int{0, 1, 2}, [3]int{0, 4, 6})
	three := inNodes(find(1), find(2), find(3))
	wantSpans(t, "-1 of three", three, []int{-1, -1}, [3]int{0, 3, 6}, [3]int{0, 4, 7}, [3]int{0, 1, 2})
	wantSpans(t, "-4 of three", three, []int{-4, -4}, [3]int{0, 3, 6}, [3]int{0, 4, 7}, [3]int{0, 1, 2})
	wantSpans(t, "-2 of three", three, []int{-2, -2}, [3]int{0, 3, 6}, [3]int{0, 1, 2}, [3]int{0, 5, 8})
	// The greatest int is 1 and the least one is 1 beyond a whole number of threes; the greatest is odd, the least even.
	wantSpans(t, "the greatest of three", three, []int{math.MaxInt, math.MaxInt}, [3]int{0, 3, 6}, [3]int{0, 1, 2}, [3]int{0, 5, 8})
	wantSpans(t, "the least of three", three, []int{math.MinInt, math.MinInt}, [3]int{0, 3, 6}, [3]int{0, 1, 2}, [3]int{0, 5, 8})
	wantSpans(t, "the greatest of two", two, []int{math.MaxInt, math.MaxInt}, [3]int{0, 3, 5}, [3]int{0, 1, 2})
	wantSpans(t, "the least of two", two, []int{math.MinInt, math.MinInt}, [3]int{0, 1, 2}, [3]int{0, 4, 6})
	wantSpans(t, "any of one", two[:1], []int{math.MinInt, math.MaxInt, -1, 9}, [3]int{0, 1, 2})
}

func TestDrawnRunsByRule(t *testing.T) {
	for seed := range uint32(1500) {
		draws := drawn(240, seed*17+3)
		tasks := drawnTasks(draws[:1+seed%6], 1+int(draws[6])%4)
		picks := drawnPicks(draws[20 : 20+int(draws[7])%201])
		list, calls := runByRule(tasks, picks)
		wantRun(t, fmt.Sprintf("draw %d, %+v", seed, tasks), tasks, picks, list, calls)
	}
}

// Every order of the first steps of two tasks behind every beginning that a put of one key may have made.
func TestEveryOrderOfTwo(t *testing.T) {
	for kinds := range 9 {
		for _, key := range []int{4, 5, 6} {
			tasks := inNodes(impl.TaskNew(kinds%3+1, 5, 7, 0), impl.TaskNew(kinds/3+1, key, 8, 0), put(5, 9, 0))
			for ahead := range 4 {
				for bits := range 1 << 9 {
					picks := slices.Repeat([]int{2}, ahead)
					for i := range 9 {
						picks = append(picks, bits>>i&1)
					}
					wantSomeOrder(t, tasks, picks)
				}
			}
		}
	}
}

func TestDrawnRunsInSomeOrder(t *testing.T) {
	for seed := range uint32(1200) {
		draws := drawn(240, seed*29+11)
		tasks := drawnTasks(draws[:1+seed%6], 1+int(draws[6])%3)
		for _, count := range []int{0, 5, 20, 60} {
			wantSomeOrder(t, tasks, drawnPicks(draws[20:20+count]))
		}
	}
	for seed := range uint32(60) {
		draws := drawn(240, seed*31+7)
		wantSomeOrder(t, drawnTasks(draws[:6], 1), drawnPicks(draws[20:220]))
	}
}

func TestEdgesOfRuns(t *testing.T) {
	seven := inNodes(put(1, 1, 0), put(2, 2, 0), put(3, 3, 0), put(4, 4, 0), put(5, 5, 0), put(6, 6, 0), put(7, 7, 0))
	picks := make([]int, 201)
	for i := range picks {
		picks[i] = i % 5
	}
	wantRefused(t, "no tasks", nil, nil)
	wantRefused(t, "no tasks", []impl.Task{}, []int{0, 1})
	wantRefused(t, "seven tasks", seven, nil)
	wantRefused(t, "a thousand tasks", slices.Repeat(seven[:1], 1000), nil)
	wantRefused(t, "201 picks", seven[:6], picks)
	wantRefused(t, "201 picks of one", seven[:1], picks)
	wantRefused(t, "many picks", seven[:2], make([]int, 5000))
	for count := 1; count <= 6; count++ {
		for _, size := range []int{0, 1, 199, 200} {
			list, calls := ranWell(t, "the edges", seven[:count], picks[:size])
			wantList, want := runByRule(seven[:count], picks[:size])
			if !slices.Equal(list, wantList) || !slices.Equal(calls, want) || len(impl.KeysOf(list)) != count {
				t.Errorf("%d tasks, %d picks: %+v at %v", count, size, calls, list)
			}
		}
	}
	// The sixth is begun behind all picks, so its numbers tell that each of 200 was counted.
	_, calls := ranWell(t, "200 picks", seven[:6], picks[:200])
	if calls[5].Begin != 206 {
		t.Errorf("the sixth: %+v", calls[5])
	}
}

func TestTwoTasksOfOneNode(t *testing.T) {
	for first := impl.TaskFind; first <= impl.TaskTake; first++ {
		for second := impl.TaskFind; second <= impl.TaskTake; second++ {
			a, b := impl.TaskNew(first, 5, 7, 3), impl.TaskNew(second, 6, 8, 3)
			wantRefused(t, "one node", []impl.Task{a, b}, nil)
			wantRefused(t, "one node", []impl.Task{a, put(9, 9, 1), b}, []int{0, 1, 2})
			wantRefused(t, "one node", []impl.Task{put(1, 1, 1), put(2, 2, 2), put(3, 3, 20), put(4, 4, 4), a, b}, nil)
			wantRefused(t, "one node", []impl.Task{a, put(2, 2, 2), put(4, 3, 20), put(4, 4, 4), put(5, 5, 5), b}, nil)
			b.Node = 4
			ranWell(t, "two nodes", []impl.Task{a, b}, nil)
		}
	}
	same := put(5, 7, 3)
	wantRefused(t, "the same twice", []impl.Task{same, same}, nil)
}

func TestTasksThatMayNotRun(t *testing.T) {
	wrong := wrongTasks()
	for _, task := range rightTasks() {
		if task != impl.TaskNew(task.Kind, task.Key, task.Val, task.Node) {
			wrong = append(wrong, task)
		}
	}
	for _, begun := range []impl.Task{{Pc: 1}, {Pc: 6}, {Prev: 1}, {Cur: 1}, {Next: 1}, {Mark: 1}, {Done: true}, {Answer: 1}, {Answer: -1}, {Done: true, Answer: 1}} {
		begun.Kind, begun.Key, begun.Val, begun.Node = impl.TaskPut, 5, 7, 3
		wrong = append(wrong, begun)
	}
	_, once := impl.StepTask(impl.ListNew(), put(5, 7, 3))
	wrong = append(wrong, once)
	for _, task := range wrong {
		wantRefused(t, "alone", []impl.Task{task}, nil)
		wantRefused(t, "the first", []impl.Task{task, find(8)}, []int{1, 1, 1})
		wantRefused(t, "the last", []impl.Task{put(6, 7, 2), put(5, 7, 4), task}, []int{1, 1, 1})
	}
	for _, task := range rightTasks() {
		task = impl.TaskNew(task.Kind, task.Key, task.Val, task.Node)
		ranWell(t, "right", []impl.Task{task}, nil)
	}
}

func wantDone(t *testing.T, list []impl.Pair, task impl.Task, want []impl.Pair, answer int) {
	t.Helper()
	got, n := impl.DoTask(list, task)
	if !slices.Equal(got, want) || n != answer {
		t.Errorf("%+v of %v: %v, %d; want %v, %d", task, list, got, n, want, answer)
	}
}

func TestDoTask(t *testing.T) {
	three := pairList(3, 30, 5, 50, 8, 80)
	wantDone(t, nil, find(5), nil, 0)
	wantDone(t, nil, take(5), nil, 0)
	wantDone(t, nil, put(5, 7, 1), pairList(5, 7), 1)
	wantDone(t, []impl.Pair{}, put(5, 0, 1), pairList(5, 0), 1)
	for i, pair := range three {
		wantDone(t, three, find(pair.Key), three, pair.Val+1)
		wantDone(t, three, put(pair.Key, 99, 1), three, 0)
		wantDone(t, three, take(pair.Key), slices.Concat(three[:i], three[i+1:]), 1)
		wantDone(t, three[i:i+1], find(pair.Key), three[i:i+1], pair.Val+1)
		wantDone(t, three[i:i+1], put(pair.Key, 99, 1), three[i:i+1], 0)
		wantDone(t, three[i:i+1], take(pair.Key), nil, 1)
	}
	for _, key := range []int{1, 2, 4, 6, 7, 9, 99} {
		wantDone(t, three, find(key), three, 0)
		wantDone(t, three, take(key), three, 0)
	}
	for place, keys := range [][]int{{1, 2}, {4}, {6, 7}, {9, 99}} {
		for _, key := range keys {
			wantDone(t, three, put(key, 44, 1), slices.Insert(slices.Clone(three), place, impl.Pair{Key: key, Val: 44}), 1)
		}
	}
	wantDone(t, three[:1], put(2, 1, 1), pairList(2, 1, 3, 30), 1)
	wantDone(t, three[:1], put(4, 1, 1), pairList(3, 30, 4, 1), 1)
	wantDone(t, pairList(4, 0), find(4), pairList(4, 0), 1)
}

// Just Kind is asked for; what else a task has is taken as it is, and its other fields are not looked at.
func TestDoTaskOfAnyTask(t *testing.T) {
	three := pairList(3, 30, 5, 50, 8, 80)
	for _, kind := range []int{math.MinInt, -1, 0, 4, 5, 6, math.MaxInt} {
		for _, key := range []int{1, 3, 5, 9} {
			wantDone(t, three, impl.TaskNew(kind, key, 7, 1), three, 0)
			wantDone(t, three, doneWith(impl.TaskNew(kind, key, 7, 1), 9), three, 0)
			wantDone(t, nil, impl.TaskNew(kind, key, 7, 1), nil, 0)
		}
	}
	for _, key := range []int{math.MinInt, -1, 0, 100, math.MaxInt} {
		place := 0
		if key > 8 {
			place = 3
		}
		more := slices.Insert(slices.Clone(three), place, impl.Pair{Key: key, Val: -4})
		wantDone(t, three, put(key, -4, 1), more, 1)
		wantDone(t, more, find(key), more, -3)
		wantDone(t, more, put(key, 1, 1), more, 0)
		wantDone(t, more, take(key), three, 1)
	}
	for _, task := range []impl.Task{doneWith(find(5), 3), at(find(5), 9, 99, -1, 50, 7), impl.TaskNew(impl.TaskFind, 5, -9, 0)} {
		wantDone(t, three, task, three, 51)
	}
	wantDone(t, three, doneWith(put(4, 1, 500), 0), pairList(3, 30, 4, 1, 5, 50, 8, 80), 1)
	wantDone(t, three, doneWith(take(8), 0), three[:2], 1)
}

// A list that is not ascending is looked through whole, and of two alike the first is meant; a pair comes ahead of the first greater one.
func TestDoTaskOfAnyList(t *testing.T) {
	odd := pairList(8, 80, 3, 30, 8, 81, 5, 50)
	wantDone(t, odd, find(8), odd, 81)
	wantDone(t, odd, find(5), odd, 51)
	wantDone(t, odd, put(5, 1, 1), odd, 0)
	wantDone(t, odd, take(8), odd[1:], 1)
	wantDone(t, odd, take(5), odd[:3], 1)
	wantDone(t, odd, put(4, 1, 1), slices.Insert(slices.Clone(odd), 0, impl.Pair{Key: 4, Val: 1}), 1)
	wantDone(t, odd, put(9, 1, 1), append(slices.Clone(odd), impl.Pair{Key: 9, Val: 1}), 1)
}

// What a task does alone to pairs is what it does, step by step, to a list.
func TestDrawnDoTask(t *testing.T) {
	for seed := range uint32(60) {
		draws := drawn(100, seed+300)
		var pairs []impl.Pair
		model := map[int]int{}
		for i := range draws {
			task := impl.TaskNew(int(draws[i])%3+1, int(draws[i])/3%9+1, i, 1)
			want := doneAlone(model, task)
			got, answer := impl.DoTask(pairs, task)
			if answer != want || len(got) != len(model) {
				t.Fatalf("life %d: %+v of %v: %v, %d; want %d", seed, task, pairs, got, answer, want)
			}
			for j, pair := range got {
				if val, there := model[pair.Key]; !there || val != pair.Val || j > 0 && got[j-1].Key >= pair.Key {
					t.Fatalf("life %d: %+v of %v: %v", seed, task, pairs, got)
				}
			}
			pairs = got
		}
	}
}

func wantOrder(t *testing.T, what string, want bool, calls ...impl.Call) {
	t.Helper()
	for _, order := range everyOrder(min(len(calls), 4)) {
		turned := slices.Clone(calls)
		for i, place := range order {
			turned[i] = calls[place]
		}
		if got := impl.InSomeOrder(turned); got != want {
			t.Errorf("%s: %v for %+v", what, got, turned)
		}
	}
}

func TestOneCallInSomeOrder(t *testing.T) {
	wantOrder(t, "none", true)
	for answer := -1; answer <= 9; answer++ {
		wantOrder(t, "a put", answer == 1, span(put(5, 7, 1), answer, 1, 3))
		wantOrder(t, "a find", answer == 0, span(find(5), answer, 1, 2))
		wantOrder(t, "a take", answer == 0, span(take(5), answer, 1, 2))
		wantOrder(t, "none of the three", answer == 0, span(impl.TaskNew(4, 5, 7, 1), answer, 1, 2))
		wantOrder(t, "none of the three", answer == 0, span(impl.Task{}, answer, 0, 0))
	}
}

func TestCallsThatOverlap(t *testing.T) {
	putting := span(put(5, 7, 1), 1, 10, 20)
	for _, at := range [][2]int{{1, 9}, {1, 10}, {5, 15}, {10, 20}, {12, 18}, {1, 99}, {19, 30}, {20, 30}, {21, 30}, {9, 9}, {10, 10}, {20, 20}, {21, 21}} {
		behind, ahead := at[1] >= 10, at[0] <= 20
		wantOrder(t, "found", behind, putting, span(find(5), 8, at[0], at[1]))
		wantOrder(t, "not found", ahead, putting, span(find(5), 0, at[0], at[1]))
		wantOrder(t, "another value", false, putting, span(find(5), 9, at[0], at[1]))
		wantOrder(t, "taken", behind, putting, span(take(5), 1, at[0], at[1]))
		wantOrder(t, "nothing to take", ahead, putting, span(take(5), 0, at[0], at[1]))
		wantOrder(t, "two puts that both did", false, putting, span(put(5, 8, 1), 1, at[0], at[1]))
		wantOrder(t, "a put that did not", behind, putting, span(put(5, 8, 1), 0, at[0], at[1]))
		wantOrder(t, "two puts that did not", false, span(put(5, 7, 1), 0, 10, 20), span(put(5, 8, 1), 0, at[0], at[1]))
		wantOrder(t, "another key", true, putting, span(put(6, 8, 1), 1, at[0], at[1]))
		wantOrder(t, "another key", false, putting, span(find(6), 8, at[0], at[1]))
	}
}

func TestCallsInOneOrderOnly(t *testing.T) {
	calls := []impl.Call{
		span(put(5, 1, 1), 1, 1, 99), span(find(5), 2, 1, 99), span(take(5), 1, 1, 99),
		span(put(5, 2, 2), 1, 1, 99), span(put(5, 3, 3), 0, 1, 99), span(find(5), 3, 1, 99),
	}
	wantOrder(t, "one put is first, one is last but one", true, calls...)
	wantOrder(t, "a value that was never there", false, append(slices.Clone(calls[:5]), span(find(5), 4, 1, 99))...)
	wantOrder(t, "as many takes as puts", true, append(slices.Clone(calls[:5]), span(take(5), 1, 1, 99))...)
	wantOrder(t, "one take too many", false, append(slices.Clone(calls[:4]), span(take(5), 1, 1, 99), span(take(5), 1, 1, 99))...)
	// find 1, take, find 2: the finds tell the order of the puts about the take.
	wantOrder(t, "the other value first", true, span(find(5), 3, 1, 9), span(take(5), 1, 1, 20), span(find(5), 2, 10, 20), calls[0], calls[3])
	wantOrder(t, "a value that is gone", false, span(find(5), 3, 1, 9), span(find(5), 2, 10, 20), span(find(5), 3, 21, 30), calls[0], calls[3], calls[2])
	wantOrder(t, "a put that ended must have come ahead", false, span(put(5, 1, 1), 1, 1, 3), span(take(5), 0, 4, 6), span(find(5), 2, 7, 9))
	wantOrder(t, "all of it one behind the other", true, span(put(5, 1, 1), 1, 1, 3), span(take(5), 1, 4, 6), span(find(5), 0, 7, 9))
	wantOrder(t, "the take is first to begin, last to be done", true, span(take(5), 1, 1, 9), span(put(5, 1, 1), 1, 2, 4), span(find(5), 2, 5, 7))
	wantOrder(t, "the take is done ahead of the find", false, span(take(5), 1, 1, 4), span(put(5, 1, 1), 1, 2, 4), span(find(5), 2, 5, 7))
}

// Begin and End are looked at just in one way: of one call against another.
func TestCallsWithOddNumbers(t *testing.T) {
	wantOrder(t, "an End below its own Begin", true, span(put(5, 7, 1), 1, 9, 1))
	wantOrder(t, "an End below its own Begin", true, span(put(5, 7, 1), 1, 9, 1), span(find(5), 8, 0, 9))
	wantOrder(t, "each ended ahead of the other", false, span(put(5, 7, 1), 1, 9, 1), span(put(6, 7, 2), 1, 9, 1))
	wantOrder(t, "each ended ahead of the other", false, span(put(5, 7, 1), 1, 5, 3), span(put(6, 7, 2), 1, 4, 4))
	wantOrder(t, "three round", false, span(find(5), 0, 2, 0), span(find(6), 0, 1, 1), span(find(7), 0, 3, 1))
	wantOrder(t, "numbers below 0", true, span(put(5, 7, 1), 1, -9, -7), span(find(5), 8, -6, -5))
	wantOrder(t, "numbers below 0", false, span(put(5, 7, 1), 1, -9, -7), span(find(5), 0, -6, -5))
	wantOrder(t, "the bounds of int", true, span(put(5, 7, 1), 1, math.MinInt, math.MinInt), span(find(5), 8, math.MaxInt, math.MaxInt))
	wantOrder(t, "the bounds of int", false, span(put(5, 7, 1), 1, math.MinInt, math.MinInt), span(find(5), 0, math.MaxInt, math.MaxInt))
	wantOrder(t, "tasks that are not done or not right", true, impl.Call{Task: at(find(5), 99, -1, 50, 3, 2)}, impl.Call{Task: impl.TaskNew(impl.TaskTake, 1000, -5, -5)})
}

func TestSixCallsAndSeven(t *testing.T) {
	var calls []impl.Call
	for i := range 7 {
		calls = append(calls, span(find(i+1), 0, 1, 9))
	}
	for count := range 7 {
		wantOrder(t, "at most six", true, calls[:count]...)
	}
	wantOrder(t, "seven", false, calls...)
	wantOrder(t, "many", false, slices.Repeat(calls, 100)...)
	// The last that is tried is the only order.
	var back []impl.Call
	for i := range 6 {
		back = append(back, span(put(5, i, 1), 0, 1, 9))
	}
	back[5].Task.Answer = 1
	wantOrder(t, "the last one is first", true, back...)
	back[5].Begin, back[5].End = 10, 12
	wantOrder(t, "the last one may not be first", false, back...)
}

func TestDrawnCallsByRule(t *testing.T) {
	fits := 0
	for seed := range uint32(4000) {
		draws := drawn(40, seed*13+1)
		var calls []impl.Call
		for i, task := range drawnTasks(draws[:seed%6], 1+int(draws[6])%2) {
			task.Val %= 3
			begin := int(draws[10+i]) % 12
			calls = append(calls, span(task, int(draws[20+i])%2, begin, begin+int(draws[30+i])%12-1))
		}
		want := len(endsByRule(calls)) > 0
		if want {
			fits++
		}
		if got := impl.InSomeOrder(calls); got != want {
			t.Errorf("draw %d: %v for %+v", seed, got, calls)
		}
	}
	if fits < 400 || fits > 3600 {
		t.Errorf("%d of 4000 fit: the draws tell too little", fits)
	}
}

// Runs whose answers or numbers are changed are held against the rule as well: they are nearly right.
func TestChangedRunsByRule(t *testing.T) {
	wrong := 0
	for seed := range uint32(500) {
		draws := drawn(80, seed*37+5)
		_, calls := ranWell(t, "to be changed", drawnTasks(draws[:2+seed%4], 1+int(draws[6])%2), drawnPicks(draws[20:60]))
		place := int(draws[10]) % len(calls)
		switch draws[11] % 3 {
		case 0:
			calls[place].Task.Answer = 1 - min(calls[place].Task.Answer, 1)
		case 1:
			calls[place].End = calls[place].Begin
		case 2:
			calls[place].Begin, calls[place].End = calls[place].End+1, calls[place].End+2
		}
		want := len(endsByRule(calls)) > 0
		if !want {
			wrong++
		}
		if got := impl.InSomeOrder(calls); got != want {
			t.Errorf("draw %d: %v for %+v", seed, got, calls)
		}
	}
	if wrong < 50 || wrong > 450 {
		t.Errorf("%d of 500 fit no more: the draws tell too little", wrong)
	}
}

func TestRunSharesNothing(t *testing.T) {
	tasks := append(inNodes(put(5, 7, 0), take(5), find(5)), put(9, 9, 9), put(8, 8, 8))
	picks := []int{0, 1, 2, 0, 1, 2, -1, 99, 77}
	wholeTasks, wholePicks := slices.Clone(tasks), slices.Clone(picks)
	list, calls := ranWell(t, "to be changed", tasks[:3], picks[:7])
	wantList, want := slices.Clone(list), slices.Clone(calls)
	for range 3 {
		again, others := ranWell(t, "again", tasks[:3], picks[:7])
		if !slices.Equal(again, wantList) || !slices.Equal(others, want) {
			t.Fatalf("another answer: %v, %+v", again, others)
		}
		for i := range again {
			again[i] = -7
		}
		clear(others)
	}
	if !slices.Equal(list, wantList) || !slices.Equal(calls, want) {
		t.Error("two answers share memory")
	}
	wantRefused(t, "refused", append(tasks[:3:3], tasks[0]), picks)
	if !slices.Equal(tasks, wholeTasks) || !slices.Equal(picks, wholePicks) {
		t.Fatalf("what was handed in is changed: %+v, %v", tasks, picks)
	}
	clear(tasks)
	clear(picks)
	if !slices.Equal(list, wantList) || !slices.Equal(calls, want) {
		t.Error("the answer changes with what was handed in")
	}
}

func TestDoTaskSharesNothing(t *testing.T) {
	room := pairList(3, 30, 5, 50, 8, 80, 70, 71, 72, 73)
	whole := slices.Clone(room)
	for _, size := range []int{0, 1, 3} {
		for _, task := range []impl.Task{find(5), find(4), put(1, 1, 1), put(4, 1, 1), put(5, 1, 1), put(9, 1, 1), take(3), take(5), take(9), {}, impl.TaskNew(4, 5, 6, 7)} {
			got, _ := impl.DoTask(room[:size], task)
			ahead := slices.Clone(got)
			if !slices.Equal(room, whole) {
				t.Fatalf("%+v changes the list that was handed in: %v", task, room)
			}
			clear(room)
			if !slices.Equal(got, ahead) {
				t.Errorf("%+v: the answer changes with the list", task)
			}
			copy(room, whole)
			got = append(got, impl.Pair{Key: 1, Val: 2})
			clear(got[:cap(got)])
			if !slices.Equal(room, whole) {
				t.Fatalf("%+v: the list changes with the answer", task)
			}
		}
	}
}

func TestInSomeOrderChangesNothing(t *testing.T) {
	room := []impl.Call{
		span(put(5, 1, 1), 1, 1, 99), span(put(5, 3, 3), 0, 1, 99), span(find(5), 3, 1, 99), span(take(5), 1, 1, 99),
		span(put(5, 2, 2), 1, 1, 99), span(find(5), 2, 1, 99), span(find(9), 9, 1, 99), span(find(9), 0, 1, 99),
	}
	whole := slices.Clone(room)
	for size := range len(room) + 1 {
		impl.InSomeOrder(room[:size])
		if !slices.Equal(room, whole) {
			t.Fatalf("of %d: %+v", size, room)
		}
	}
}

// Nobody goes on when a run has answered; one who has just ended may still be counted for a moment.
func TestNobodyGoesOn(t *testing.T) {
	ahead := runtime.NumGoroutine()
	tasks := inNodes(put(5, 7, 0), take(5), find(5))
	for range 200 {
		impl.RunTasks(tasks, []int{0, 1, 2})
		impl.RunTasks(tasks, make([]int, 201))
		impl.RunTasks(append(tasks, tasks...), nil)
	}
	for range 1000 {
		if runtime.NumGoroutine() <= ahead {
			return
		}
		time.Sleep(time.Millisecond)
	}
	t.Errorf("%d go on, where there were %d", runtime.NumGoroutine(), ahead)
}
