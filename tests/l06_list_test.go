package tests

import (
	"fmt"
	"maps"
	"math"
	"slices"
	"testing"

	"loop.example/g00245/impl"
)

// node has what stands in the cells of one node.
type node struct{ at, key, val, word int }

// listWith has these nodes; nothing but their own cells is written, so that any list can be told.
func listWith(head int, nodes ...node) []int {
	list := make([]int, 63)
	list[0] = head
	for _, n := range nodes {
		list[3*n.at], list[3*n.at+1], list[3*n.at+2] = n.key, n.val, n.word
	}
	return list
}

// chain has a node for each key, from node 1 on; its value is the key and 100.
func chain(keys ...int) []int {
	list := make([]int, 63)
	word := 0
	for i, key := range keys {
		list[word] = 2 * (i + 1)
		list[3*i+3], list[3*i+4] = key, key+100
		word = 3*i + 5
	}
	return list
}

// goneAt has the mark in the word of the node.
func goneAt(list []int, node int) []int {
	return withCell(list, 3*node+2, list[3*node+2]|1)
}

// wordPlace is the cell of a node's word; without a node it is the head's.
func wordPlace(node int) int {
	if node == 0 {
		return 0
	}
	return 3*node + 2
}

func ascending(keys []int) bool {
	for i := 1; i < len(keys); i++ {
		if keys[i-1] >= keys[i] {
			return false
		}
	}
	return true
}

// chainByRule has the nodes from the head on, gone or not, by halves of words that are not below 0.
func chainByRule(list []int) []int {
	var nodes []int
	for n := list[0] / 2; n >= 1 && n <= 20 && len(nodes) < 20; n = list[3*n+2] / 2 {
		nodes = append(nodes, n)
	}
	return nodes
}

func keysByRule(list []int) []int {
	var keys []int
	for _, n := range chainByRule(list) {
		if list[3*n+2]%2 == 0 {
			keys = append(keys, list[3*n])
		}
	}
	return keys
}

func valueByRule(list []int, key int) int {
	for _, n := range chainByRule(list) {
		if list[3*n+2]%2 == 0 && list[3*n] == key {
			return list[3*n+1] + 1
		}
	}
	return 0
}

// stepByRule is the document's text of one step, sentence by sentence, on a list that is changed in place.
func stepByRule(given []int, t impl.Task) ([]int, impl.Task) {
	l := slices.Clone(given)
	word := func(n int) *int { return &l[wordPlace(n)] }
	half := func(w int) int {
		if w/2 > 20 {
			return 0
		}
		return w / 2
	}
	nobody := func() {
		if t.Kind == impl.TaskFind || t.Kind == impl.TaskTake {
			t.Done, t.Answer = true, 0
			return
		}
		l[3*t.Node], l[3*t.Node+1], l[3*t.Node+2] = t.Key, t.Val, 2*t.Cur
		t.Pc = 4
	}
	switch t.Pc {
	case 0:
		t.Prev, t.Cur, t.Pc = 0, half(l[0]), 1
	case 1:
		if t.Cur == 0 {
			nobody()
		} else {
			t.Next, t.Mark, t.Pc = half(l[3*t.Cur+2]), l[3*t.Cur+2]%2, 2
		}
	case 2:
		if t.Mark == 1 {
			if *word(t.Prev) == 2*t.Cur {
				*word(t.Prev) = 2 * t.Next
				t.Cur, t.Pc = t.Next, 1
			} else {
				t.Pc = 0
			}
		} else if l[3*t.Cur] < t.Key {
			t.Prev, t.Cur, t.Pc = t.Cur, t.Next, 1
		} else {
			t.Pc = 3
		}
	case 3:
		if l[3*t.Cur] == t.Key {
			switch t.Kind {
			case impl.TaskFind:
				t.Done, t.Answer = true, l[3*t.Cur+1]+1
			case impl.TaskPut:
				t.Done, t.Answer = true, 0
			case impl.TaskTake:
				t.Pc = 5
			}
		} else {
			nobody()
		}
	case 4:
		if *word(t.Prev) == 2*t.Cur {
			*word(t.Prev) = 2 * t.Node
			t.Done, t.Answer = true, 1
		} else {
			t.Pc = 0
		}
	case 5:
		if *word(t.Cur) == 2*t.Next {
			*word(t.Cur) = 2*t.Next + 1
			t.Pc = 6
		} else {
			t.Pc = 0
		}
	case 6:
		if *word(t.Prev) == 2*t.Cur {
			*word(t.Prev) = 2 * t.Next
		}
		t.Done, t.Answer = true, 1
	}
	return l, t
}

func wantStep(t *testing.T, what string, list []int, task impl.Task, wantList []int, want impl.Task) {
	t.Helper()
	gotList, got := impl.StepTask(list, task)
	if got != want {
		t.Errorf("%s: %+v; want %+v", what, got, want)
	}
	if !slices.Equal(gotList, wantList) {
		t.Errorf("%s: the list is %v; want %v", what, gotList, wantList)
	}
}

func wantAsItIs(t *testing.T, what string, list []int, task impl.Task) {
	t.Helper()
	wantStep(t, what, list, task, list, task)
}

// alone steps the task till it is done; behind each step the keys are in order.
func alone(t *testing.T, list []int, task impl.Task) ([]int, impl.Task) {
	t.Helper()
	for range 500 {
		if task.Done {
			return list, task
		}
		list, task = impl.StepTask(list, task)
		if !ascending(impl.KeysOf(list)) || !impl.CellsOk(list) || !impl.TaskOk(task) {
			t.Fatalf("%+v: the list is %v, its keys %v", task, list, impl.KeysOf(list))
		}
	}
	t.Fatalf("never done: %+v at %v", task, list)
	return nil, impl.Task{}
}

func stepped(list []int, task impl.Task, times int) ([]int, impl.Task) {
	for range times {
		list, task = impl.StepTask(list, task)
	}
	return list, task
}

// put, find and take are at no step yet.
func put(key, val, node int) impl.Task {
	return impl.TaskNew(impl.TaskPut, key, val, node)
}

func find(key int) impl.Task {
	return impl.TaskNew(impl.TaskFind, key, 0, 1)
}

func take(key int) impl.Task {
	return impl.TaskNew(impl.TaskTake, key, 0, 1)
}

// at is the task at a step, with what it has seen by then.
func at(task impl.Task, pc, prev, cur, next, mark int) impl.Task {
	task.Pc, task.Prev, task.Cur, task.Next, task.Mark = pc, prev, cur, next, mark
	return task
}

func doneWith(task impl.Task, answer int) impl.Task {
	task.Done, task.Answer = true, answer
	return task
}

func everyKind() []impl.Task {
	return []impl.Task{find(5), put(5, 7, 9), take(5)}
}

func TestListConstants(t *testing.T) {
	if impl.MaxNodes != 20 || impl.TaskFind != 1 || impl.TaskPut != 2 || impl.TaskTake != 3 {
		t.Error("another constant")
	}
}

func TestListNew(t *testing.T) {
	list := impl.ListNew()
	if !slices.Equal(list, make([]int, 63)) || !impl.CellsOk(list) || len(impl.KeysOf(list)) != 0 {
		t.Errorf("a new list: %v", list)
	}
	list[0] = 9
	if second := impl.ListNew(); second[0] != 0 {
		t.Error("two new lists share their cells")
	}
}

func TestTaskNew(t *testing.T) {
	for _, n := range []int{math.MinInt, -1, 0, 1, 2, 3, 4, 20, 21, 99, 100, math.MaxInt} {
		for _, want := range []impl.Task{{Kind: n, Key: 1, Val: 2, Node: 3}, {Kind: 1, Key: n, Val: 2, Node: 3}, {Kind: 1, Key: 2, Val: n, Node: 3}, {Kind: 1, Key: 2, Val: 3, Node: n}} {
			if got := impl.TaskNew(want.Kind, want.Key, want.Val, want.Node); got != want {
				t.Errorf("%+v; want %+v", got, want)
			}
		}
	}
}

type bound struct {
	field *int
	low   int
	high  int
}

// taskBounds has each field that TaskOk looks at, with its least and greatest number.
func taskBounds(task *impl.Task) []bound {
	return []bound{
		{&task.Kind, 1, 3}, {&task.Key, 1, 99}, {&task.Val, 0, 99}, {&task.Node, 1, 20}, {&task.Pc, 0, 6},
		{&task.Prev, 0, 20}, {&task.Cur, 0, 20}, {&task.Next, 0, 20}, {&task.Mark, 0, 1},
	}
}

func rightTasks() []impl.Task {
	low := impl.Task{Kind: 1, Key: 1, Node: 1}
	high := impl.Task{Kind: 3, Key: 99, Val: 99, Node: 20, Pc: 6, Prev: 20, Cur: 20, Next: 20, Mark: 1}
	mid := impl.Task{Kind: 2, Key: 50, Val: 50, Node: 10, Pc: 3, Prev: 4, Cur: 5, Next: 6}
	tasks := []impl.Task{low, high, mid}
	for _, answer := range []int{math.MinInt, -1, 0, 1, math.MaxInt} {
		for _, done := range []bool{false, true} {
			task := mid
			task.Done, task.Answer = done, answer
			tasks = append(tasks, task)
		}
	}
	for _, base := range []impl.Task{low, high, mid} {
		for i, b := range taskBounds(&base) {
			for n := b.low; n <= b.high; n++ {
				task := base
				*taskBounds(&task)[i].field = n
				tasks = append(tasks, task)
			}
		}
	}
	return tasks
}

func wrongTasks() []impl.Task {
	var tasks []impl.Task
	for _, base := range []impl.Task{{Kind: 1, Key: 1, Node: 1}, {Kind: 2, Key: 50, Val: 50, Node: 10, Pc: 3, Prev: 4, Cur: 5, Next: 6}, {Kind: 3, Key: 99, Val: 99, Node: 20, Pc: 6, Prev: 20, Cur: 20, Next: 20, Mark: 1}} {
		for i, b := range taskBounds(&base) {
			for _, n := range []int{math.MinInt, b.low - 2, b.low - 1, b.high + 1, b.high + 2, 1000, math.MaxInt} {
				task := base
				*taskBounds(&task)[i].field = n
				tasks = append(tasks, task)
			}
		}
	}
	return append(tasks, impl.Task{}, impl.Task{Done: true, Answer: 1})
}

func TestTaskOk(t *testing.T) {
	for _, task := range rightTasks() {
		if !impl.TaskOk(task) {
			t.Errorf("%+v is not ok", task)
		}
	}
	for _, task := range wrongTasks() {
		if impl.TaskOk(task) {
			t.Errorf("%+v is ok", task)
		}
	}
}

func TestStepAtHead(t *testing.T) {
	for _, task := range everyKind() {
		for head, cur := range map[int]int{0: 0, 1: 0, 2: 1, 3: 1, 4: 2, 38: 19, 40: 20, 41: 20, 42: 0, 43: 0, 44: 0, 1000: 0, impl.MaxNumber: 0} {
			list := listWith(head, node{1, 5, 6, 0})
			wantStep(t, "from the head", list, task, list, at(task, 1, 0, cur, 0, 0))
			wantStep(t, "again, from the head", list, at(task, 0, 7, 8, 9, 1), list, at(task, 1, 0, cur, 9, 1))
		}
	}
}

func TestStepReadWord(t *testing.T) {
	for _, task := range everyKind() {
		for _, cur := range []int{1, 2, 19, 20} {
			for word, next := range map[int]int{0: 0, 1: 0, 2: 1, 3: 1, 38: 19, 39: 19, 40: 20, 41: 20, 42: 0, 43: 0, 999999999: 0, impl.MaxNumber: 0} {
				list := listWith(40, node{cur, 5, 6, word})
				for _, prev := range []int{0, 1, cur} {
					wantStep(t, "what comes behind", list, at(task, 1, prev, cur, 13, 0), list, at(task, 2, prev, cur, next, word%2))
					wantStep(t, "what comes behind", list, at(task, 1, prev, cur, 13, 1), list, at(task, 2, prev, cur, next, word%2))
				}
			}
		}
	}
}

func TestStepReadWordOfNobody(t *testing.T) {
	list := chain(2, 3)
	for _, prev := range []int{0, 2, 20} {
		for _, mark := range []int{0, 1} {
			for _, task := range []impl.Task{find(5), take(5)} {
				task = at(task, 1, prev, 0, 4, mark)
				task.Answer = 77
				wantStep(t, "nobody is there", list, task, list, doneWith(task, 0))
			}
			for _, n := range []int{3, 20} {
				task := at(put(5, 7, n), 1, prev, 0, 4, mark)
				wantStep(t, "nobody is there", list, task, listWith(2, node{1, 2, 102, 4}, node{2, 3, 103, 0}, node{n, 5, 7, 0}), at(task, 4, prev, 0, 4, mark))
			}
		}
	}
	// What the node had is written over.
	old := listWith(0, node{9, 44, 45, 47})
	wantStep(t, "a node of old", old, at(put(99, 0, 9), 1, 0, 0, 0, 0), listWith(0, node{9, 99, 0, 0}), at(put(99, 0, 9), 4, 0, 0, 0, 0))
}

func TestStepPassesOneThatIsGone(t *testing.T) {
	for _, task := range everyKind() {
		list := listWith(2, node{1, 4, 6, 5}, node{2, 5, 8, 0})
		wantStep(t, "behind the head", list, at(task, 2, 0, 1, 2, 1), withCell(list, 0, 4), at(task, 1, 0, 2, 2, 1))
		list = listWith(2, node{1, 4, 6, 4}, node{2, 5, 8, 7}, node{3, 9, 9, 0})
		wantStep(t, "behind a node", list, at(task, 2, 1, 2, 3, 1), withCell(list, 5, 6), at(task, 1, 1, 3, 3, 1))
		wantStep(t, "the last of all", list, at(task, 2, 1, 2, 0, 1), withCell(list, 5, 0), at(task, 1, 1, 0, 0, 1))
		wantStep(t, "its key is not looked at", withCell(list, 6, 99), at(task, 2, 1, 2, 3, 1), withCell(withCell(list, 6, 99), 5, 6), at(task, 1, 1, 3, 3, 1))
		for _, word := range []int{0, 2, 3, 5, 6, 8, 42, impl.MaxNumber} {
			other := withCell(list, 5, word)
			wantStep(t, "somebody came between", other, at(task, 2, 1, 2, 3, 1), other, at(task, 0, 1, 2, 3, 1))
		}
		for _, word := range []int{0, 1, 3, 4, 5, 6, 42, impl.MaxNumber} {
			other := withCell(list, 0, word)
			wantStep(t, "somebody came between, at the head", other, at(task, 2, 0, 1, 3, 1), other, at(task, 0, 0, 1, 3, 1))
		}
	}
	// Cur 0: the head's word leads nowhere, so it is 2 Cur.
	wantStep(t, "nobody that is gone", listWith(0), at(find(5), 2, 0, 0, 3, 1), listWith(6), at(find(5), 1, 0, 3, 3, 1))
	wantStep(t, "nobody that is gone", listWith(1), at(find(5), 2, 0, 0, 3, 1), listWith(1), at(find(5), 0, 0, 0, 3, 1))
	wantStep(t, "nobody behind a node", listWith(2, node{1, 4, 6, 0}), at(find(5), 2, 1, 0, 3, 1), listWith(2, node{1, 4, 6, 6}), at(find(5), 1, 1, 3, 3, 1))
}

func TestStepPassesLesserKeys(t *testing.T) {
	for _, task := range everyKind() {
		for _, prev := range []int{0, 1, 3} {
			for _, next := range []int{0, 3, 20} {
				for _, key := range []int{0, 1, 4, 5, 6, 99, 100, impl.MaxNumber} {
					list := listWith(2, node{1, 2, 6, 4}, node{2, key, 8, 7})
					want := at(task, 3, prev, 2, next, 0)
					if key < 5 {
						want = at(task, 1, 2, next, next, 0)
					}
					wantStep(t, "held against its key", list, at(task, 2, prev, 2, next, 0), list, want)
				}
			}
		}
	}
	// Cur 0: cell 0 is the key.
	wantStep(t, "a lesser head", listWith(4), at(find(5), 2, 1, 0, 3, 0), listWith(4), at(find(5), 1, 0, 3, 3, 0))
	wantStep(t, "an equal head", listWith(5), at(find(5), 2, 1, 0, 3, 0), listWith(5), at(find(5), 3, 1, 0, 3, 0))
	wantStep(t, "a greater head", listWith(6), at(find(5), 2, 1, 0, 3, 0), listWith(6), at(find(5), 3, 1, 0, 3, 0))
}

func TestStepMeets(t *testing.T) {
	for _, cur := range []int{1, 2, 20} {
		for _, val := range []int{0, 8, 99, 100, impl.MaxNumber} {
			list := listWith(2, node{cur, 5, val, 7})
			for _, mark := range []int{0, 1} {
				task := at(find(5), 3, 3, cur, 4, mark)
				wantStep(t, "found", list, task, list, doneWith(task, val+1))
				task = at(put(5, 7, 9), 3, 3, cur, 4, mark)
				task.Answer = 77
				wantStep(t, "there already", list, task, list, doneWith(task, 0))
				wantStep(t, "to be taken", list, at(take(5), 3, 3, cur, 4, mark), list, at(take(5), 5, 3, cur, 4, mark))
			}
		}
	}
	// Cur 0: cell 0 is the key, cell 1 the value.
	list := withCell(listWith(5, node{1, 6, 7, 0}), 1, 30)
	task := at(find(5), 3, 1, 0, 2, 0)
	wantStep(t, "found at the head", list, task, list, doneWith(task, 31))
	task = at(put(5, 7, 9), 3, 1, 0, 2, 0)
	wantStep(t, "there already, at the head", list, task, list, doneWith(task, 0))
	wantStep(t, "to be taken, at the head", list, at(take(5), 3, 1, 0, 2, 0), list, at(take(5), 5, 1, 0, 2, 0))
}

func TestStepMeetsNobody(t *testing.T) {
	for _, cur := range []int{0, 1, 2, 20} {
		for _, key := range []int{0, 1, 4, 6, 99, impl.MaxNumber} {
			list := withCell(listWith(2), 3*cur, key)
			for _, task := range []impl.Task{find(5), take(5)} {
				task = at(task, 3, 3, cur, 4, 1)
				task.Answer = 77
				wantStep(t, "nobody is there", list, task, list, doneWith(task, 0))
			}
			want := slices.Clone(list)
			want[27], want[28], want[29] = 5, 7, 2*cur
			wantStep(t, "nobody is there yet", list, at(put(5, 7, 9), 3, 3, cur, 4, 1), want, at(put(5, 7, 9), 4, 3, cur, 4, 1))
		}
	}
	// Its own node as Cur: what is asked is asked ahead of what is written.
	wantStep(t, "itself", listWith(2, node{1, 6, 60, 0}), at(put(5, 7, 1), 3, 0, 1, 0, 0), listWith(2, node{1, 5, 7, 2}), at(put(5, 7, 1), 4, 0, 1, 0, 0))
	for _, val := range []int{0, 99} {
		for _, key := range []int{1, 99} {
			wantStep(t, "the bounds", listWith(2, node{1, 50, 0, 0}), at(put(key, val, 20), 3, 0, 1, 0, 0), listWith(2, node{1, 50, 0, 0}, node{20, key, val, 2}), at(put(key, val, 20), 4, 0, 1, 0, 0))
		}
	}
}

func TestStepHangs(t *testing.T) {
	for _, kind := range everyKind() {
		kind.Node = 9
		for _, cur := range []int{0, 1, 2, 20} {
			for _, prev := range []int{0, 3, 19} {
				place := wordPlace(prev)
				list := listWith(14, node{3, 4, 5, 16}, node{19, 6, 7, 18}, node{9, 5, 7, 2 * cur})
				task := at(kind, 4, prev, cur, 7, 1)
				wantStep(t, "hung in", withCell(list, place, 2*cur), task, withCell(list, place, 18), doneWith(task, 1))
				for _, word := range []int{2*cur + 1, 2*cur + 2, 18, 42, impl.MaxNumber} {
					if word == 2*cur {
						continue
					}
					other := withCell(list, place, word)
					wantStep(t, "somebody came between", other, task, other, at(kind, 0, prev, cur, 7, 1))
				}
			}
		}
	}
}

func TestStepMarks(t *testing.T) {
	for _, kind := range everyKind() {
		for _, cur := range []int{0, 1, 2, 20} {
			place := wordPlace(cur)
			for _, next := range []int{0, 1, 3, 20} {
				list := listWith(14, node{1, 4, 5, 16}, node{2, 6, 7, 18})
				task := at(kind, 5, 1, cur, next, 0)
				wantStep(t, "marked", withCell(list, place, 2*next), task, withCell(list, place, 2*next+1), at(kind, 6, 1, cur, next, 0))
				task.Mark = 1
				wantStep(t, "its Mark is not looked at", withCell(list, place, 2*next), task, withCell(list, place, 2*next+1), at(kind, 6, 1, cur, next, 1))
				for _, word := range []int{2*next + 1, 2*next + 2, 42, 43, impl.MaxNumber} {
					other := withCell(list, place, word)
					wantStep(t, "somebody came between", other, task, other, at(kind, 0, 1, cur, next, 1))
				}
			}
		}
	}
}

func TestStepLifts(t *testing.T) {
	for _, kind := range everyKind() {
		for _, cur := range []int{0, 1, 2, 20} {
			for _, prev := range []int{0, 3, 19} {
				place := wordPlace(prev)
				for _, next := range []int{0, 5, 20} {
					list := listWith(14, node{3, 4, 5, 16}, node{19, 6, 7, 18})
					task := at(kind, 6, prev, cur, next, 0)
					wantStep(t, "taken out", withCell(list, place, 2*cur), task, withCell(list, place, 2*next), doneWith(task, 1))
					for _, word := range []int{2*cur + 1, 2*cur + 2, 43, impl.MaxNumber} {
						other := withCell(list, place, word)
						wantStep(t, "somebody came between", other, task, other, doneWith(task, 1))
					}
				}
			}
		}
	}
}

// Each step of one put, one find and one take, told one by one.
func TestLifeOfOneKey(t *testing.T) {
	list, task := impl.ListNew(), put(5, 7, 3)
	follow := func(what string, wantList []int, want impl.Task) {
		t.Helper()
		wantStep(t, what, list, task, wantList, want)
		list, task = wantList, want
	}
	hung := listWith(6, node{3, 5, 7, 0})
	follow("put: from the head", list, at(task, 1, 0, 0, 0, 0))
	follow("put: nobody is there", listWith(0, node{3, 5, 7, 0}), at(task, 4, 0, 0, 0, 0))
	follow("put: hung in", hung, doneWith(task, 1))
	task = find(5)
	follow("find: from the head", hung, at(task, 1, 0, 3, 0, 0))
	follow("find: its word", hung, at(task, 2, 0, 3, 0, 0))
	follow("find: its key", hung, at(task, 3, 0, 3, 0, 0))
	follow("find: found", hung, doneWith(task, 8))
	task = take(5)
	follow("take: from the head", hung, at(task, 1, 0, 3, 0, 0))
	follow("take: its word", hung, at(task, 2, 0, 3, 0, 0))
	follow("take: its key", hung, at(task, 3, 0, 3, 0, 0))
	follow("take: found", hung, at(task, 5, 0, 3, 0, 0))
	follow("take: marked", listWith(6, node{3, 5, 7, 1}), at(task, 6, 0, 3, 0, 0))
	follow("take: taken out", listWith(0, node{3, 5, 7, 1}), doneWith(task, 1))
}

// doneAlone is what a task does to pairs of keys and values.
func doneAlone(pairs map[int]int, task impl.Task) int {
	val, there := pairs[task.Key]
	switch {
	case task.Kind == impl.TaskFind && there:
		return val + 1
	case task.Kind == impl.TaskPut && !there:
		pairs[task.Key] = task.Val
		return 1
	case task.Kind == impl.TaskTake && there:
		delete(pairs, task.Key)
		return 1
	}
	return 0
}

func wantPairs(t *testing.T, what string, list []int, pairs map[int]int) {
	t.Helper()
	keys := slices.Sorted(maps.Keys(pairs))
	if got := impl.KeysOf(list); !slices.Equal(got, keys) {
		t.Errorf("%s: keys %v; want %v", what, got, keys)
	}
	for key := -1; key <= 101; key++ {
		want := 0
		if val, there := pairs[key]; there {
			want = val + 1
		}
		if got := impl.ValueOf(list, key); got != want {
			t.Errorf("%s: the value of %d: %d; want %d", what, key, got, want)
		}
	}
}

func TestTasksAlone(t *testing.T) {
	for _, keys := range [][]int{{}, {1}, {5}, {99}, {2, 4}, {1, 5, 99}, {10, 20, 30, 40, 50}, {1, 2, 3, 4, 5, 6, 7, 8, 9, 10, 11, 12, 13, 14, 15, 16, 17, 18, 19}} {
		for key := 1; key <= 99; key++ {
			for _, val := range []int{0, 1, 99} {
				for kind := impl.TaskFind; kind <= impl.TaskTake; kind++ {
					pairs := map[int]int{}
					for _, k := range keys {
						pairs[k] = k + 100
					}
					task := impl.TaskNew(kind, key, val, 20)
					want := doneAlone(pairs, task)
					list, got := alone(t, chain(keys...), task)
					what := fmt.Sprintf("kind %d, key %d, in %v", kind, key, keys)
					if got.Answer != want || got.Kind != kind || got.Key != key || got.Val != val || got.Node != 20 {
						t.Errorf("%s: %+v; want the answer %d", what, got, want)
					}
					wantPairs(t, what, list, pairs)
				}
			}
		}
	}
}

// Twenty nodes are put in from behind, from the front and mixed, and are taken again.
func TestFullList(t *testing.T) {
	for _, order := range []func(int) int{
		func(i int) int { return i + 1 },
		func(i int) int { return 99 - i },
		func(i int) int { return (i*7)%20*5 + 1 },
	} {
		list, pairs := impl.ListNew(), map[int]int{}
		do := func(task impl.Task) {
			t.Helper()
			want := doneAlone(pairs, task)
			list, task = alone(t, list, task)
			if task.Answer != want {
				t.Errorf("%+v; want the answer %d", task, want)
			}
			wantPairs(t, "a full list", list, pairs)
		}
		for i := range 20 {
			do(put(order(i), i, i+1))
		}
		for i := range 20 {
			do(find(order(i)))
			do(put(order(i), 99, 20))
			do(take(order(i)))
			do(take(order(i)))
			do(find(order(i)))
		}
		if list[0] != 0 {
			t.Errorf("behind the last one: %v", list)
		}
	}
}

// A node of a key that was taken may be put again.
func TestDrawnTasksAlone(t *testing.T) {
	for seed := range uint32(40) {
		draws := drawn(3*200, seed+900)
		list, pairs, rooms := impl.ListNew(), map[int]int{}, map[int]int{}
		for i := 0; i < len(draws); i += 3 {
			key, val, room := int(draws[i])%12+1, int(draws[i+1])%100, 1
			for slices.Contains(slices.Collect(maps.Values(rooms)), room) {
				room++
			}
			task := impl.TaskNew(int(draws[i+2])%3+1, key, val, room)
			want := doneAlone(pairs, task)
			list, task = alone(t, list, task)
			if task.Kind == impl.TaskPut && task.Answer == 1 {
				rooms[key] = room
			}
			if task.Kind == impl.TaskTake {
				delete(rooms, key)
			}
			if task.Answer != want {
				t.Fatalf("life %d, task %d: %+v; want the answer %d", seed, i/3, task, want)
			}
			wantPairs(t, "a drawn life", list, pairs)
		}
	}
}

// Both puts see the empty list; the second to hang in begins again and meets the first.
func TestTwoPutsAtOnce(t *testing.T) {
	list, first, second := impl.ListNew(), put(5, 7, 1), put(5, 8, 2)
	for range 2 {
		list, first = impl.StepTask(list, first)
		list, second = impl.StepTask(list, second)
	}
	list, second = impl.StepTask(list, second)
	list, first = impl.StepTask(list, first)
	if !second.Done || second.Answer != 1 || first.Done || first.Pc != 0 {
		t.Fatalf("%+v, %+v", first, second)
	}
	list, first = alone(t, list, first)
	if first.Answer != 0 {
		t.Errorf("%+v", first)
	}
	wantPairs(t, "two puts", list, map[int]int{5: 8})
}

// One takes the node behind which another would hang in: nothing is hung in behind a node that is gone.
func TestPutBehindOneThatIsGone(t *testing.T) {
	list, putting, taking := chain(3), put(5, 7, 2), take(3)
	for putting.Pc != 4 {
		list, putting = impl.StepTask(list, putting)
	}
	for taking.Pc != 6 {
		list, taking = impl.StepTask(list, taking)
	}
	wantPairs(t, "marked", list, nil)
	list, putting = impl.StepTask(list, putting)
	if putting.Done || putting.Pc != 0 {
		t.Fatalf("hung in behind one that is gone: %+v at %v", putting, list)
	}
	list, putting = alone(t, list, putting)
	if putting.Answer != 1 || list[0] != 4 {
		t.Errorf("%+v at %v", putting, list)
	}
	list, taking = alone(t, list, taking)
	if taking.Answer != 1 {
		t.Errorf("%+v", taking)
	}
	wantPairs(t, "in the end", list, map[int]int{5: 7})
}

func TestTwoTakesAtOnce(t *testing.T) {
	list, first, second := chain(3, 5, 8), take(5), take(5)
	for first.Pc != 5 {
		list, first = impl.StepTask(list, first)
		list, second = impl.StepTask(list, second)
	}
	list, first = impl.StepTask(list, first)
	list, second = impl.StepTask(list, second)
	if first.Pc != 6 || second.Pc != 0 {
		t.Fatalf("%+v, %+v", first, second)
	}
	list, second = alone(t, list, second)
	if second.Answer != 0 || list[5] != 6 {
		t.Errorf("the second: %+v at %v", second, list)
	}
	ahead := slices.Clone(list)
	list, first = alone(t, list, first)
	if first.Answer != 1 || !slices.Equal(list, ahead) {
		t.Errorf("the first: %+v at %v", first, list)
	}
}

// Several in turn, in drawn orders: keys stay in order behind each step, and for each key there is one more put than there are takes, or as many.
func TestSeveralInTurn(t *testing.T) {
	for seed := range uint32(400) {
		draws := drawn(400, seed+77)
		list, tasks := impl.ListNew(), []impl.Task{}
		for i := range 6 {
			tasks = append(tasks, impl.TaskNew(int(draws[i])%3+1, int(draws[6+i])%3+4, i, i+1))
		}
		for i := 12; i < 700; i++ {
			at := i % 6
			if i < len(draws) {
				at = int(draws[i]) % 6
			}
			list, tasks[at] = impl.StepTask(list, tasks[at])
			if !ascending(impl.KeysOf(list)) || !impl.CellsOk(list) {
				t.Fatalf("order %d, step %d: keys %v at %v", seed, i, impl.KeysOf(list), list)
			}
		}
		there := map[int]int{}
		for _, task := range tasks {
			if !task.Done {
				t.Fatalf("order %d: never done: %+v", seed, task)
			}
			if task.Kind == impl.TaskPut {
				there[task.Key] += task.Answer
			}
			if task.Kind == impl.TaskTake {
				there[task.Key] -= task.Answer
			}
		}
		for key := 4; key <= 6; key++ {
			want := 0
			if slices.Contains(impl.KeysOf(list), key) {
				want = 1
			}
			if there[key] != want {
				t.Errorf("order %d: key %d: %d more puts than takes, keys %v", seed, key, there[key], impl.KeysOf(list))
			}
		}
	}
}

func TestNodesThatAreGone(t *testing.T) {
	keys := []int{10, 20, 30, 40, 50}
	for gone := range 1 << len(keys) {
		list, pairs := chain(keys...), map[int]int{}
		for i, key := range keys {
			if gone>>i&1 == 1 {
				list = goneAt(list, i+1)
			} else {
				pairs[key] = key + 100
			}
		}
		wantPairs(t, "some are gone", list, pairs)
		for kind := impl.TaskFind; kind <= impl.TaskTake; kind++ {
			for _, key := range []int{5, 10, 25, 30, 50, 60} {
				task, after := impl.TaskNew(kind, key, 3, 20), maps.Clone(pairs)
				want := doneAlone(after, task)
				got, end := alone(t, list, task)
				if end.Answer != want {
					t.Errorf("gone %05b: %+v; want the answer %d", gone, end, want)
				}
				wantPairs(t, "behind a task", got, after)
				// Whoever is gone and was passed by hangs there no more.
				for n := got[0] / 2; n != 0 && got[3*n] < key; n = got[3*n+2] / 2 {
					if got[3*n+2]%2 == 1 {
						t.Errorf("gone %05b: node %d is still there behind %+v", gone, n, end)
					}
				}
			}
		}
	}
}

func TestKeysAndValues(t *testing.T) {
	wantPairs(t, "none", chain(), nil)
	wantPairs(t, "one", chain(7), map[int]int{7: 107})
	wantPairs(t, "several", chain(1, 50, 99), map[int]int{1: 101, 50: 150, 99: 199})
	apart := listWith(38, node{19, 3, 30, 2}, node{1, 4, 40, 40}, node{20, 6, 60, 0}, node{2, 5, 50, 0})
	wantPairs(t, "nodes in any order, and one that nobody leads to", apart, map[int]int{3: 30, 4: 40, 6: 60})
	// The keys are told as they stand, and of two alike the first one's value.
	odd := listWith(2, node{1, 9, 1, 4}, node{2, 4, 2, 6}, node{3, 9, 3, 8}, node{4, 0, 0, 10}, node{5, 100, impl.MaxNumber, 0})
	if got := impl.KeysOf(odd); !slices.Equal(got, []int{9, 4, 9, 0, 100}) {
		t.Errorf("keys as they stand: %v", got)
	}
	for key, want := range map[int]int{9: 2, 4: 3, 0: 1, 100: impl.MaxNumber + 1, 5: 0, -1: 0, math.MaxInt: 0, math.MinInt: 0} {
		if got := impl.ValueOf(odd, key); got != want {
			t.Errorf("the value of %d: %d; want %d", key, got, want)
		}
	}
	if got := impl.ValueOf(goneAt(odd, 1), 9); got != 4 {
		t.Errorf("the first is gone: %d", got)
	}
	if got := impl.KeysOf(withCell(odd, 0, 3)); !slices.Equal(got, []int{9, 4, 9, 0, 100}) {
		t.Errorf("a head that is gone: %v", got)
	}
}

func TestWordsThatLeadNowhere(t *testing.T) {
	for word, last := range map[int]int{40: 20, 41: 20, 42: 0, 43: 0, 44: 0, 60: 0, 62: 0, 64: 0, 126: 0, 999999999: 0, impl.MaxNumber: 0} {
		list := listWith(word, node{20, 8, 9, 0})
		var want []int
		value := 0
		if last == 20 {
			want, value = []int{8}, 10
		}
		if got := impl.KeysOf(list); !slices.Equal(got, want) {
			t.Errorf("the head's word %d: keys %v", word, got)
		}
		if got := impl.ValueOf(list, 8); got != value {
			t.Errorf("the head's word %d: value %d", word, got)
		}
		list = listWith(2, node{1, 7, 9, word}, node{20, 8, 9, 0})
		if word%2 == 0 {
			want = append([]int{7}, want...)
		}
		if got := impl.KeysOf(list); !slices.Equal(got, want) {
			t.Errorf("a node's word %d: keys %v; want %v", word, got, want)
		}
		if got := impl.ValueOf(list, 8); got != value {
			t.Errorf("a node's word %d: value %d; want %d", word, got, value)
		}
	}
	// A task goes no further there, and never hangs in, as the word is no word to nobody.
	list, task := stepped(listWith(2, node{1, 3, 9, 42}), put(5, 7, 2), 100)
	if task.Done || list[5] != 42 {
		t.Errorf("%+v at %v", task, list)
	}
	_, task = alone(t, listWith(2, node{1, 3, 9, 42}), find(5))
	if task.Answer != 0 {
		t.Errorf("%+v", task)
	}
}

func TestListsThatLeadRound(t *testing.T) {
	self := listWith(2, node{1, 4, 6, 2})
	if got := impl.KeysOf(self); !slices.Equal(got, slices.Repeat([]int{4}, 20)) {
		t.Errorf("a node that leads to itself: %v", got)
	}
	if impl.ValueOf(self, 4) != 7 || impl.ValueOf(self, 5) != 0 {
		t.Error("values of a node that leads to itself")
	}
	three := listWith(2, node{1, 4, 6, 4}, node{2, 5, 7, 7}, node{3, 6, 8, 2})
	if got := impl.KeysOf(three); !slices.Equal(got, append(slices.Repeat([]int{4, 6}, 6), 4)) {
		t.Errorf("three, of which one is gone: %v", got)
	}
	gone := listWith(2, node{1, 4, 6, 3})
	if len(impl.KeysOf(gone)) != 0 || impl.ValueOf(gone, 4) != 0 {
		t.Error("one that is gone and leads to itself")
	}
	if list, task := stepped(self, find(99), 1000); task.Done || !slices.Equal(list, self) {
		t.Errorf("a round has no end: %+v at %v", task, list)
	}
	if _, task := stepped(self, find(2), 10); !task.Done || task.Answer != 0 {
		t.Errorf("a key ahead of the round: %+v", task)
	}
	if _, task := stepped(self, find(4), 10); !task.Done || task.Answer != 7 {
		t.Errorf("a key of the round: %+v", task)
	}
}

// Nodes that are gone are looked at as well: behind twenty of any kind nobody is.
func TestTwentyAreLookedAt(t *testing.T) {
	list := listWith(2)
	for n := 1; n <= 19; n++ {
		list[3*n], list[3*n+1], list[3*n+2] = n, n, 2*(n+1)+1
	}
	list[60], list[61], list[62] = 20, 70, 40
	if got := impl.KeysOf(list); !slices.Equal(got, []int{20}) || impl.ValueOf(list, 20) != 71 {
		t.Errorf("the twentieth alone is there: %v", got)
	}
	list[59] = 38
	if got := impl.KeysOf(list); !slices.Equal(got, []int{19, 19}) || impl.ValueOf(list, 20) != 0 {
		t.Errorf("two looks are left for the nineteenth: %v", got)
	}
	first := listWith(4, node{2, 6, 7, 3}, node{1, 5, 8, 5})
	if got := impl.KeysOf(first); len(got) != 0 {
		t.Errorf("a round of such as are gone: %v", got)
	}
}

// wrongLists have not as many cells, or not the right numbers in them.
func wrongLists() [][]int {
	list := chain(1, 5, 9)
	lists := [][]int{nil, {}, {2}, list[:1], list[:3], list[:61], list[:62], append(slices.Clone(list), 0), append(slices.Clone(list), list...), make([]int, 80), make([]int, 81), make([]int, 1000)}
	for _, place := range []int{0, 1, 2, 3, 4, 5, 9, 11, 33, 60, 61, 62} {
		for _, n := range []int{-1, -2, -3, impl.MaxNumber + 1, impl.MaxNumber + 2, math.MinInt, math.MinInt + 1, math.MaxInt, math.MaxInt - 1} {
			lists = append(lists, withCell(list, place, n))
		}
	}
	return lists
}

func TestStepsAsItIs(t *testing.T) {
	list := chain(1, 5, 9)
	for _, task := range wrongTasks() {
		wantAsItIs(t, "a task that is not right", list, task)
	}
	for _, task := range rightTasks() {
		task.Done, task.Answer = true, 55
		wantAsItIs(t, "a task that is done", list, task)
		wantAsItIs(t, "a task that is done, of a new list", impl.ListNew(), task)
	}
	for _, wrong := range wrongLists() {
		for pc := 0; pc <= 6; pc++ {
			for _, task := range everyKind() {
				wantAsItIs(t, "a wrong list", wrong, at(task, pc, 0, 1, 2, 0))
				wantAsItIs(t, "a wrong list", wrong, at(task, pc, 1, 2, 3, 1))
				wantAsItIs(t, "a wrong list", wrong, at(task, pc, 3, 0, 0, 0))
			}
		}
		wantAsItIs(t, "a wrong list, and a wrong task", wrong, impl.Task{})
	}
}

// A list that has as many cells is told, whatever its numbers are; a word below 0 leads nowhere, and has the mark when it is odd.
func TestKeysOfWrongLists(t *testing.T) {
	for _, size := range []int{0, 1, 3, 61, 62, 64, 66, 80, 1000} {
		list := append(chain(1, 5, 9), make([]int, 1000)...)[:size]
		if len(impl.KeysOf(list)) != 0 || impl.ValueOf(list, 1) != 0 || impl.ValueOf(list, 0) != 0 {
			t.Errorf("of %d cells: %v", size, impl.KeysOf(list))
		}
	}
	want := func(list, keys []int) {
		t.Helper()
		if got := impl.KeysOf(list); !slices.Equal(got, keys) {
			t.Errorf("%v: keys %v; want %v", list, got, keys)
		}
	}
	list := chain(1, 5, 9)
	for _, n := range []int{-1, -2, impl.MaxNumber + 1, math.MinInt, math.MaxInt} {
		want(withCell(list, 3, n), []int{n, 5, 9})
		want(withCell(list, 9, n), []int{1, 5, n})
		want(withCell(list, 4, n), []int{1, 5, 9})
		want(withCell(list, 62, n), []int{1, 5, 9})
		want(withCell(list, 1, n), []int{1, 5, 9})
		want(withCell(list, 0, n), nil)
		if got := impl.ValueOf(withCell(list, 6, n), n); got != 106 {
			t.Errorf("the value of %d: %d", n, got)
		}
		if got := impl.ValueOf(withCell(list, 7, n), 5); got != n+1 {
			t.Errorf("the value %d: %d", n, got)
		}
	}
	for _, word := range []int{-2, -4, -42, math.MinInt, math.MaxInt - 1, impl.MaxNumber + 2} {
		want(withCell(list, 8, word), []int{1, 5})
	}
	for _, word := range []int{-1, -3, -41, math.MinInt + 1, math.MaxInt, impl.MaxNumber + 1} {
		want(withCell(list, 8, word), []int{1})
	}
}

// drawnList has words that lead anywhere, mostly to nodes, some of them gone or beyond the last node.
func drawnList(draws string) []int {
	list := make([]int, 63)
	for i := range list {
		list[i] = int(draws[i]) % 50
		if draws[63+i] < 8 {
			list[i] = []int{0, 1, 40, 41, 42, 43, 999999999, impl.MaxNumber}[draws[63+i]]
		}
	}
	return list
}

func drawnTask(draws string) impl.Task {
	task := impl.TaskNew(int(draws[0])%3+1, int(draws[1])%49+1, int(draws[2])%100, int(draws[3])%20+1)
	task = at(task, int(draws[4])%7, int(draws[5])%21, int(draws[6])%21, int(draws[7])%21, int(draws[8])%2)
	if draws[5] < 60 {
		task.Prev = 0
	}
	if draws[6] < 30 {
		task.Cur = 0
	}
	task.Answer = int(draws[9]) % 3
	return task
}

// Drawn lists and tasks are seldom as a life would make them; each step is held against the document's rule, also where its words are what the task was told.
func TestDrawnStepsByRule(t *testing.T) {
	for seed := range uint32(3000) {
		draws := drawn(140, seed*31+5)
		list, task := drawnList(draws), drawnTask(draws[126:])
		switch draws[136] % 4 {
		case 1:
			list[wordPlace(task.Prev)] = 2 * task.Cur
		case 2:
			list[wordPlace(task.Cur)] = 2 * task.Next
		case 3:
			list[3*task.Cur] = task.Key
		}
		for range 8 {
			wantList, want := stepByRule(list, task)
			wantStep(t, fmt.Sprintf("draw %d", seed), list, task, wantList, want)
			if want.Done {
				break
			}
			list, task = wantList, want
		}
		if got, want := impl.KeysOf(list), keysByRule(list); !slices.Equal(got, want) {
			t.Errorf("draw %d: keys %v; want %v", seed, got, want)
		}
		for key := range 51 {
			if got, want := impl.ValueOf(list, key), valueByRule(list, key); got != want {
				t.Errorf("draw %d: the value of %d: %d; want %d", seed, key, got, want)
			}
		}
	}
}

func TestListSharesNothing(t *testing.T) {
	room := append(chain(3, 5, 8), 71, 72, 73)
	whole := slices.Clone(room)
	list := room[:63]
	tasks := append(wrongTasks()[:5], doneWith(find(5), 6))
	for pc := 0; pc <= 6; pc++ {
		for _, task := range everyKind() {
			tasks = append(tasks, at(task, pc, 0, 1, 2, 0), at(task, pc, 1, 2, 3, 1), at(task, pc, 2, 3, 0, 0), at(task, pc, 3, 0, 0, 0))
		}
	}
	for _, task := range tasks {
		for _, size := range []int{63, 62, 64, 1} {
			got, _ := impl.StepTask(room[:size], task)
			ahead := slices.Clone(got)
			if !slices.Equal(room, whole) {
				t.Fatalf("%+v changes the list that was handed in: %v", task, room)
			}
			for i := range room {
				room[i] = -5
			}
			if !slices.Equal(got, ahead) {
				t.Errorf("%+v: the answer changes with the list", task)
			}
			copy(room, whole)
			got = append(got, 99)
			for i := range got {
				got[i] = -6
			}
			if !slices.Equal(room, whole) {
				t.Fatalf("%+v: the list changes with the answer", task)
			}
		}
	}
	keys := impl.KeysOf(list)
	keys = append(keys, 99)
	keys[0] = 98
	impl.ValueOf(list, 5)
	if !slices.Equal(room, whole) {
		t.Error("the list changes with its keys")
	}
}
