package tests

import (
	"fmt"
	"math"
	"slices"
	"strings"
	"testing"

	"loop.example/g00245/impl"
)

func disk(files ...impl.File) impl.Disk {
	return impl.Disk{Files: files}
}

func add(name, text string) impl.Act {
	return impl.Act{Kind: impl.ActAdd, Name: name, Text: text}
}

func keep(name string) impl.Act {
	return impl.Act{Kind: impl.ActKeep, Name: name}
}

func move(name, to string) impl.Act {
	return impl.Act{Kind: impl.ActMove, Name: name, To: to}
}

func drop(name string) impl.Act {
	return impl.Act{Kind: impl.ActDrop, Name: name}
}

func sameDisk(a, b impl.Disk) bool {
	return slices.Equal(a.Files, b.Files)
}

// told is a disk for a message, long texts cut short.
func told(d impl.Disk) string {
	var parts []string
	for _, file := range d.Files {
		parts = append(parts, fmt.Sprintf("{%q %.20q, kept %d of %d}", file.Name, file.Text, file.Kept, len(file.Text)))
	}
	return strings.Join(parts, " ")
}

// twoLetters are so many Names, ascending.
func twoLetters(count int) []string {
	var names []string
	for i := range count {
		names = append(names, string([]byte{byte('a' + i/26), byte('a' + i%26)}))
	}
	return names
}

func fullDisk(count int) impl.Disk {
	var d impl.Disk
	for i, name := range twoLetters(count) {
		d.Files = append(d.Files, impl.File{Name: name, Text: drawn(i+1, uint32(i)), Kept: i / 2})
	}
	return d
}

// rightDisks are ordinary ones, and those that meet a limit exactly.
func rightDisks() []impl.Disk {
	long := drawn(impl.MaxText, 21)
	return []impl.Disk{
		{},
		{Files: []impl.File{}},
		disk(impl.File{Name: "a"}),
		disk(impl.File{Name: "a", Text: "123"}),
		disk(impl.File{Name: "a", Text: "123", Kept: 1}),
		disk(impl.File{Name: "a", Text: "123", Kept: 3}),
		disk(impl.File{Name: "\x00"}, impl.File{Name: "\x00\x00"}, impl.File{Name: "\x7f"}, impl.File{Name: "\x80"}, impl.File{Name: "\xff"}),
		disk(impl.File{Name: "B", Text: "x"}, impl.File{Name: "a", Text: "yz", Kept: 2}, impl.File{Name: "ab"}),
		disk(impl.File{Name: "12345678", Text: everyByte(), Kept: 100}),
		disk(impl.File{Name: "1234567", Text: long}, impl.File{Name: "12345678", Text: long, Kept: impl.MaxText}),
		fullDisk(impl.MaxFiles - 1),
		fullDisk(impl.MaxFiles),
	}
}

// wrongDisks break the rule in one way each.
func wrongDisks() []impl.Disk {
	long := drawn(impl.MaxText+1, 22)
	last := fullDisk(impl.MaxFiles)
	last.Files[impl.MaxFiles-1].Kept = -1
	return []impl.Disk{
		disk(impl.File{}),
		disk(impl.File{Text: "123", Kept: 3}),
		disk(impl.File{}, impl.File{Name: "a"}),
		disk(impl.File{Name: "a"}, impl.File{}),
		disk(impl.File{Name: "123456789"}),
		disk(impl.File{Name: "a"}, impl.File{Name: "a"}),
		disk(impl.File{Name: "a", Text: "1"}, impl.File{Name: "b"}, impl.File{Name: "b", Text: "2"}),
		disk(impl.File{Name: "b"}, impl.File{Name: "a"}),
		disk(impl.File{Name: "ab"}, impl.File{Name: "a"}),
		disk(impl.File{Name: "a"}, impl.File{Name: "c"}, impl.File{Name: "b"}),
		disk(impl.File{Name: "a"}, impl.File{Name: "b"}, impl.File{Name: "a"}),
		disk(impl.File{Name: "\xff"}, impl.File{Name: "\x7f"}),
		disk(impl.File{Name: "a", Text: long}),
		disk(impl.File{Name: "a", Text: long, Kept: impl.MaxText + 1}),
		disk(impl.File{Name: "a", Kept: 1}),
		disk(impl.File{Name: "a", Kept: -1}),
		disk(impl.File{Name: "a", Text: "123", Kept: 4}),
		disk(impl.File{Name: "a", Text: "123", Kept: -1}),
		disk(impl.File{Name: "a", Text: "123", Kept: math.MinInt}),
		disk(impl.File{Name: "a", Text: "123", Kept: math.MaxInt}),
		fullDisk(impl.MaxFiles + 1),
		last,
	}
}

// refused says that an act on a disk is false, and leaves nothing.
func refused(t *testing.T, d impl.Disk, a impl.Act) {
	t.Helper()
	if got, ok := impl.DoAct(d, a); ok || len(got.Files) != 0 {
		t.Errorf("DoAct of kind %d, %q to %q with %d bytes = %d files, %v; want none, false", a.Kind, a.Name, a.To, len(a.Text), len(got.Files), ok)
	}
	if got, n := impl.DoActs(d, []impl.Act{a, a}); n != 0 || !sameDisk(got, d) {
		t.Errorf("DoActs of kind %d, %q to %q with %d bytes: %d done, or another disk", a.Kind, a.Name, a.To, len(a.Text), n)
	}
}

func does(t *testing.T, d impl.Disk, a impl.Act, want impl.Disk) {
	t.Helper()
	if got, ok := impl.DoAct(d, a); !ok || !sameDisk(got, want) {
		t.Errorf("DoAct of kind %d, %q to %q with %d bytes = %s, %v; want %s, true", a.Kind, a.Name, a.To, len(a.Text), told(got), ok, told(want))
	}
	if got, n := impl.DoActs(d, []impl.Act{a}); n != 1 || !sameDisk(got, want) {
		t.Errorf("DoActs of kind %d, %q to %q with %d bytes: %d done, %s; want %s", a.Kind, a.Name, a.To, len(a.Text), n, told(got), told(want))
	}
}

func TestDiskOk(t *testing.T) {
	for i, d := range rightDisks() {
		if !impl.DiskOk(d) {
			t.Errorf("right disk %d is told wrong", i)
		}
	}
	for i, d := range wrongDisks() {
		if impl.DiskOk(d) {
			t.Errorf("wrong disk %d is told right", i)
		}
	}
}

func TestFileAt(t *testing.T) {
	for i, d := range rightDisks() {
		for _, file := range d.Files {
			if got, ok := impl.FileAt(d, file.Name); !ok || got != file.Text {
				t.Errorf("FileAt of disk %d, %q: %d bytes, %v", i, file.Name, len(got), ok)
			}
		}
		for _, name := range []string{"", "A", "c", "aaa", "\x01", "123456789", "zz"} {
			if got, ok := impl.FileAt(d, name); ok || got != "" {
				t.Errorf("FileAt of disk %d, %q: %d bytes, %v", i, name, len(got), ok)
			}
		}
	}
}

// The chapter does not ask for a right disk here: a file is found wherever it stands.
func TestFileAtOfAnyDisk(t *testing.T) {
	d := disk(impl.File{Name: "b", Text: "2"}, impl.File{Name: "123456789", Text: "9"}, impl.File{Name: "a", Text: "1", Kept: -1}, impl.File{Text: "0"})
	for name, want := range map[string]string{"b": "2", "123456789": "9", "a": "1", "": "0"} {
		if got, ok := impl.FileAt(d, name); !ok || got != want {
			t.Errorf("FileAt(%q) = %q, %v; want %q, true", name, got, ok, want)
		}
	}
	if got, ok := impl.FileAt(disk(impl.File{Name: "a", Text: "1"}, impl.File{Name: "a", Text: "2"}), "a"); !ok || got != "1" {
		t.Errorf("of two alike: %q, %v; want the first, true", got, ok)
	}
}

func TestAdd(t *testing.T) {
	d := disk(impl.File{Name: "b", Text: "12", Kept: 1}, impl.File{Name: "d"})
	does(t, d, add("b", "3"), disk(impl.File{Name: "b", Text: "123", Kept: 1}, impl.File{Name: "d"}))
	does(t, d, add("b", ""), d)
	does(t, d, add("d", "\x00\xff"), disk(impl.File{Name: "b", Text: "12", Kept: 1}, impl.File{Name: "d", Text: "\x00\xff"}))
	does(t, d, add("a", "new"), disk(impl.File{Name: "a", Text: "new"}, d.Files[0], d.Files[1]))
	does(t, d, add("c", ""), disk(d.Files[0], impl.File{Name: "c"}, d.Files[1]))
	does(t, d, add("e", "n"), disk(d.Files[0], d.Files[1], impl.File{Name: "e", Text: "n"}))
	does(t, d, add("bb", "n"), disk(d.Files[0], impl.File{Name: "bb", Text: "n"}, d.Files[1]))
	does(t, impl.Disk{}, add("a", "n"), disk(impl.File{Name: "a", Text: "n"}))
	does(t, impl.Disk{}, add("a", ""), disk(impl.File{Name: "a"}))
	refused(t, d, impl.Act{Kind: impl.ActAdd, Name: "b", Text: "3", To: "c"})
	refused(t, d, impl.Act{Kind: impl.ActAdd, Name: "b", To: "b"})
	refused(t, impl.Disk{}, impl.Act{Kind: impl.ActAdd, Name: "a", To: "b"})
}

func TestAddUpToTheLimits(t *testing.T) {
	long := drawn(impl.MaxText, 23)
	does(t, impl.Disk{}, add("12345678", long), disk(impl.File{Name: "12345678", Text: long}))
	refused(t, impl.Disk{}, add("12345678", long+"x"))
	refused(t, impl.Disk{}, add("123456789", "x"))
	refused(t, impl.Disk{}, add("", "x"))
	refused(t, impl.Disk{}, add("", ""))

	almost := disk(impl.File{Name: "a", Text: long[1:], Kept: 7})
	does(t, almost, add("a", "x"), disk(impl.File{Name: "a", Text: long[1:] + "x", Kept: 7}))
	refused(t, almost, add("a", "xy"))
	refused(t, almost, add("a", long))
	full := disk(impl.File{Name: "a", Text: long, Kept: impl.MaxText})
	does(t, full, add("a", ""), full)
	refused(t, full, add("a", "x"))

	names := twoLetters(impl.MaxFiles + 1)
	does(t, fullDisk(impl.MaxFiles-1), add(names[impl.MaxFiles-1], "x"), impl.Disk{Files: append(fullDisk(impl.MaxFiles-1).Files, impl.File{Name: names[impl.MaxFiles-1], Text: "x"})})
	refused(t, fullDisk(impl.MaxFiles), add(names[impl.MaxFiles], "x"))
	refused(t, fullDisk(impl.MaxFiles), add("A", ""))
	last := fullDisk(impl.MaxFiles)
	last.Files[impl.MaxFiles-1].Text += "x"
	does(t, fullDisk(impl.MaxFiles), add(names[impl.MaxFiles-1], "x"), last)
}

func TestKeep(t *testing.T) {
	for _, kept := range []int{0, 1, 2, 3} {
		d := disk(impl.File{Name: "a", Text: "123", Kept: kept}, impl.File{Name: "b", Text: "45", Kept: 1})
		does(t, d, keep("a"), disk(impl.File{Name: "a", Text: "123", Kept: 3}, impl.File{Name: "b", Text: "45", Kept: 1}))
		refused(t, d, keep("c"))
		refused(t, d, keep(""))
		refused(t, d, impl.Act{Kind: impl.ActKeep, Name: "a", Text: "4"})
		refused(t, d, impl.Act{Kind: impl.ActKeep, Name: "a", To: "b"})
		refused(t, d, impl.Act{Kind: impl.ActKeep, Name: "a", To: "a"})
	}
	does(t, disk(impl.File{Name: "a"}), keep("a"), disk(impl.File{Name: "a"}))
	refused(t, impl.Disk{}, keep("a"))
	refused(t, impl.Disk{}, keep(""))
}

func TestMove(t *testing.T) {
	a := impl.File{Name: "a", Text: "123", Kept: 3}
	b := impl.File{Name: "b", Text: "4567", Kept: 1}
	c := impl.File{Name: "c"}
	d := disk(a, b, c)
	does(t, d, move("a", "b"), disk(impl.File{Name: "b", Text: "123", Kept: 3}, c))
	does(t, d, move("a", "c"), disk(b, impl.File{Name: "c", Text: "123", Kept: 3}))
	does(t, d, move("a", "bb"), disk(b, impl.File{Name: "bb", Text: "123", Kept: 3}, c))
	does(t, d, move("a", "A"), disk(impl.File{Name: "A", Text: "123", Kept: 3}, b, c))
	does(t, d, move("a", "12345678"), disk(impl.File{Name: "12345678", Text: "123", Kept: 3}, b, c))
	does(t, d, move("c", "a"), disk(impl.File{Name: "a"}, b))
	does(t, d, move("c", "b"), disk(a, impl.File{Name: "b"}))
	refused(t, d, move("a", "123456789"))
	refused(t, d, move("a", ""))
	refused(t, d, move("a", "a"))
	refused(t, d, move("c", "c"))
	refused(t, d, move("b", "a"))
	refused(t, d, move("b", "d"))
	refused(t, d, move("b", "b"))
	refused(t, d, move("d", "a"))
	refused(t, d, move("d", "e"))
	refused(t, d, move("", "a"))
	refused(t, d, move("", ""))
	refused(t, d, impl.Act{Kind: impl.ActMove, Name: "a", To: "b", Text: "4"})
	refused(t, impl.Disk{}, move("a", "b"))
}

func TestMoveOnAFullDisk(t *testing.T) {
	d := fullDisk(impl.MaxFiles)
	first := impl.File{Name: "zz", Text: d.Files[0].Text, Kept: 1}
	refused(t, d, move(d.Files[0].Name, "zz"))
	d.Files[0].Kept = 1
	does(t, d, move(d.Files[0].Name, "zz"), impl.Disk{Files: append(slices.Clone(d.Files[1:]), first)})
	first.Name = d.Files[1].Name
	does(t, d, move(d.Files[0].Name, first.Name), impl.Disk{Files: append([]impl.File{first}, d.Files[2:]...)})
}

func TestDrop(t *testing.T) {
	a := impl.File{Name: "a", Text: "123", Kept: 3}
	b := impl.File{Name: "b", Text: "4567", Kept: 1}
	c := impl.File{Name: "c"}
	d := disk(a, b, c)
	does(t, d, drop("a"), disk(b, c))
	does(t, d, drop("b"), disk(a, c))
	does(t, d, drop("c"), disk(a, b))
	does(t, disk(a), drop("a"), impl.Disk{})
	refused(t, d, drop("d"))
	refused(t, d, drop(""))
	refused(t, d, impl.Act{Kind: impl.ActDrop, Name: "a", Text: "1"})
	refused(t, d, impl.Act{Kind: impl.ActDrop, Name: "a", To: "a"})
	refused(t, d, impl.Act{Kind: impl.ActDrop, Name: "a", To: "b"})
	refused(t, impl.Disk{}, drop("a"))
}

func TestActsOfNoKind(t *testing.T) {
	d := disk(impl.File{Name: "a", Text: "123", Kept: 3})
	for _, kind := range []int{0, 5, -1, -4, math.MinInt, math.MaxInt} {
		refused(t, d, impl.Act{Kind: kind})
		refused(t, d, impl.Act{Kind: kind, Name: "a"})
		refused(t, d, impl.Act{Kind: kind, Name: "b"})
		refused(t, d, impl.Act{Kind: kind, Name: "a", Text: "4"})
		refused(t, d, impl.Act{Kind: kind, Name: "a", To: "b"})
		refused(t, impl.Disk{}, impl.Act{Kind: kind, Name: "a"})
	}
}

func TestActsOnWrongDisks(t *testing.T) {
	for i, d := range wrongDisks() {
		acts := []impl.Act{add("q", "1"), add("a", "1"), keep("a"), move("a", "q"), drop("a"), drop(""), drop("b")}
		for _, a := range acts {
			refused(t, d, a)
		}
		if got, n := impl.DoActs(d, nil); n != 0 || !sameDisk(got, d) {
			t.Errorf("DoActs of nothing on wrong disk %d: %d done, or another disk", i, n)
		}
		if got, ok := impl.LoseDisk(d, []int{3, 3}); ok || len(got.Files) != 0 {
			t.Errorf("LoseDisk of wrong disk %d: %d files, %v", i, len(got.Files), ok)
		}
		for whole := range 2 {
			if got, ok := impl.CutActs(d, acts, whole, []int{3, 3}); ok || len(got.Files) != 0 {
				t.Errorf("CutActs of %d on wrong disk %d: %d files, %v", whole, i, len(got.Files), ok)
			}
		}
		if impl.AllKept(d) {
			t.Errorf("wrong disk %d is told to be kept", i)
		}
	}
}

func TestDoActsStopsAtTheFirstFalse(t *testing.T) {
	acts := []impl.Act{add("new", "12"), keep("new"), add("new", "3"), move("new", "kept"), drop("new")}
	got, n := impl.DoActs(impl.Disk{}, acts)
	if want := disk(impl.File{Name: "new", Text: "123", Kept: 2}); n != 3 || !sameDisk(got, want) {
		t.Errorf("%d done, %s; want 3, %s", n, told(got), told(want))
	}
	acts[2] = keep("new")
	got, n = impl.DoActs(impl.Disk{}, acts)
	if want := disk(impl.File{Name: "kept", Text: "12", Kept: 2}); n != 4 || !sameDisk(got, want) {
		t.Errorf("%d done, %s; want 4, %s", n, told(got), told(want))
	}
	acts[4] = drop("kept")
	if got, n = impl.DoActs(impl.Disk{}, acts); n != 5 || len(got.Files) != 0 {
		t.Errorf("%d done, %s; want 5, none", n, told(got))
	}
	for i, d := range rightDisks() {
		if got, n := impl.DoActs(d, nil); n != 0 || !sameDisk(got, d) {
			t.Errorf("DoActs of nothing on disk %d: %d done, or another disk", i, n)
		}
	}
}

func TestLoseDisk(t *testing.T) {
	a := impl.File{Name: "a", Text: "123456", Kept: 2}
	for _, c := range []struct {
		left []int
		want string
	}{
		{nil, "12"},
		{[]int{}, "12"},
		{[]int{math.MinInt}, "12"},
		{[]int{-1}, "12"},
		{[]int{0}, "12"},
		{[]int{1}, "12"},
		{[]int{2}, "12"},
		{[]int{3}, "123"},
		{[]int{5}, "12345"},
		{[]int{6}, "123456"},
		{[]int{7}, "123456"},
		{[]int{math.MaxInt}, "123456"},
		{[]int{4, 0, 9}, "1234"},
	} {
		want := disk(impl.File{Name: "a", Text: c.want, Kept: len(c.want)})
		if got, ok := impl.LoseDisk(disk(a), c.left); !ok || !sameDisk(got, want) {
			t.Errorf("LoseDisk with %d = %s, %v; want %s, true", c.left, told(got), ok, told(want))
		}
	}
	if got, ok := impl.LoseDisk(impl.Disk{}, []int{5}); !ok || len(got.Files) != 0 {
		t.Errorf("LoseDisk of no file = %s, %v", told(got), ok)
	}
}

// Each number is told of the file at its own place; a file of which none is told has what was kept.
func TestLoseDiskByPlace(t *testing.T) {
	d := disk(
		impl.File{Name: "a", Text: "abc"},
		impl.File{Name: "b", Text: "defg", Kept: 1},
		impl.File{Name: "c"},
		impl.File{Name: "d", Text: "hij", Kept: 3},
		impl.File{Name: "e", Text: "klm", Kept: 1},
	)
	want := disk(
		impl.File{Name: "a", Text: "a", Kept: 1},
		impl.File{Name: "b", Text: "def", Kept: 3},
		impl.File{Name: "c"},
		impl.File{Name: "d", Text: "hij", Kept: 3},
		impl.File{Name: "e", Text: "k", Kept: 1},
	)
	if got, ok := impl.LoseDisk(d, []int{1, 3, 2, 0}); !ok || !sameDisk(got, want) {
		t.Errorf("LoseDisk = %s, %v; want %s, true", told(got), ok, told(want))
	}
}

func TestCutActs(t *testing.T) {
	d := disk(impl.File{Name: "a", Text: "12", Kept: 1})
	acts := []impl.Act{add("a", "3"), add("b", "xyz"), keep("a"), move("a", "c"), drop("b")}
	left := []int{2, 1}
	one := func(name, text string) impl.File {
		return impl.File{Name: name, Text: text, Kept: len(text)}
	}
	for whole, want := range []impl.Disk{
		disk(one("a", "12")),
		disk(one("a", "12")),
		disk(one("a", "12"), one("b", "x")),
		disk(one("a", "123"), one("b", "x")),
		disk(one("b", "xy"), one("c", "123")),
		disk(one("c", "123")),
	} {
		if got, ok := impl.CutActs(d, acts, whole, left); !ok || !sameDisk(got, want) {
			t.Errorf("CutActs of %d = %s, %v; want %s, true", whole, told(got), ok, told(want))
		}
	}
	for _, whole := range []int{-1, len(acts) + 1, math.MinInt, math.MaxInt} {
		if got, ok := impl.CutActs(d, acts, whole, left); ok || len(got.Files) != 0 {
			t.Errorf("CutActs of %d = %s, %v; want none, false", whole, told(got), ok)
		}
	}
	if got, ok := impl.CutActs(d, nil, 0, nil); !ok || !sameDisk(got, disk(one("a", "1"))) {
		t.Errorf("CutActs of nothing = %s, %v", told(got), ok)
	}
	if got, ok := impl.CutActs(d, nil, 1, nil); ok || len(got.Files) != 0 {
		t.Errorf("CutActs of 1 of nothing = %s, %v", told(got), ok)
	}
	// A spare room behind the list is not in it.
	if got, ok := impl.CutActs(d, acts[:2], 3, nil); ok || len(got.Files) != 0 {
		t.Errorf("CutActs of 3 of 2 = %s, %v", told(got), ok)
	}
}

// An act that is false refuses the cuts behind it, not those ahead of it.
func TestCutActsWithAFalseOne(t *testing.T) {
	acts := []impl.Act{add("a", "1"), keep("a"), move("a", "a"), add("a", "2")}
	for whole := range len(acts) + 1 {
		got, ok := impl.CutActs(impl.Disk{}, acts, whole, []int{9})
		if ok != (whole <= 2) || !ok && len(got.Files) != 0 {
			t.Errorf("CutActs of %d = %s, %v", whole, told(got), ok)
		}
	}
}

func TestAllKept(t *testing.T) {
	for _, c := range []struct {
		d    impl.Disk
		want bool
	}{
		{impl.Disk{}, true},
		{disk(impl.File{Name: "a"}), true},
		{disk(impl.File{Name: "a", Text: "1", Kept: 1}), true},
		{disk(impl.File{Name: "a", Text: "1"}), false},
		{disk(impl.File{Name: "a", Text: "12", Kept: 1}), false},
		{disk(impl.File{Name: "a", Text: "12", Kept: 2}, impl.File{Name: "b", Text: "1"}), false},
		{disk(impl.File{Name: "a", Text: "12", Kept: 1}, impl.File{Name: "b", Text: "1", Kept: 1}), false},
		{disk(impl.File{Name: "a", Text: "12", Kept: 2}, impl.File{Name: "b", Text: "1", Kept: 1}), true},
		{disk(impl.File{Name: "b", Text: "12", Kept: 2}, impl.File{Name: "a", Text: "1", Kept: 1}), false},
		{disk(impl.File{Text: "12", Kept: 2}), false},
	} {
		if got := impl.AllKept(c.d); got != c.want {
			t.Errorf("AllKept of %s = %v", told(c.d), got)
		}
	}
}

// plainAct is the document's rule word for word, on a plain list that is put in order at the end.
func plainAct(d impl.Disk, a impl.Act) (impl.Disk, bool) {
	at := slices.IndexFunc(d.Files, func(file impl.File) bool { return file.Name == a.Name })
	files := slices.Clone(d.Files)
	switch a.Kind {
	case impl.ActAdd:
		if at < 0 {
			files = append(files, impl.File{Name: a.Name})
			at = len(files) - 1
		}
		files[at].Text += a.Text
	case impl.ActKeep, impl.ActMove, impl.ActDrop:
		if at < 0 || a.Text != "" {
			return impl.Disk{}, false
		}
	default:
		return impl.Disk{}, false
	}
	if (a.Kind == impl.ActMove) != (a.To != "") {
		return impl.Disk{}, false
	}
	switch a.Kind {
	case impl.ActKeep:
		files[at].Kept = len(files[at].Text)
	case impl.ActDrop:
		files = slices.Delete(files, at, at+1)
	case impl.ActMove:
		if a.To == a.Name || files[at].Kept < len(files[at].Text) {
			return impl.Disk{}, false
		}
		moved := files[at]
		moved.Name = a.To
		files = slices.DeleteFunc(files, func(file impl.File) bool { return file.Name == a.Name || file.Name == a.To })
		files = append(files, moved)
	}
	slices.SortFunc(files, func(x, y impl.File) int { return strings.Compare(x.Name, y.Name) })
	for _, file := range files {
		if file.Name == "" || len(file.Name) > impl.MaxName || len(file.Text) > impl.MaxText {
			return impl.Disk{}, false
		}
	}
	return impl.Disk{Files: files}, len(files) <= impl.MaxFiles
}

// drawnActs are acts of all kinds on few names, some of them wrong, always the same for a seed.
func drawnActs(count int, seed uint32) []impl.Act {
	names := append(twoLetters(34), "a", "b", "a", "b", "a", "b", "", "123456789")
	texts := []string{"", "x", "yz", everyByte(), drawn(6000, seed), drawn(impl.MaxText, seed)}
	bytes := drawn(4*count, seed)
	var acts []impl.Act
	for i := range count {
		b := bytes[4*i : 4*i+4]
		a := impl.Act{Kind: int(b[0])%41/9 + 1, Name: names[int(b[1])%len(names)]}
		if a.Kind == impl.ActAdd || b[3] > 250 {
			a.Text = texts[int(b[2])%len(texts)]
		}
		if a.Kind == impl.ActMove || b[3] < 4 {
			a.To = names[int(b[2])%len(names)]
		}
		acts = append(acts, a)
	}
	return acts
}

func TestDrawnActs(t *testing.T) {
	done := make([]int, 5)
	for seed := range 20 {
		d := fullDisk(seed)
		for i, a := range drawnActs(600, uint32(seed)) {
			want, right := plainAct(d, a)
			got, ok := impl.DoAct(d, a)
			if ok != right || ok && !sameDisk(got, want) || !ok && len(got.Files) != 0 {
				t.Fatalf("life %d, act %d of kind %d, %q to %q with %d bytes: %v; want %v, or another disk", seed, i, a.Kind, a.Name, a.To, len(a.Text), ok, right)
			}
			if !ok {
				continue
			}
			if !impl.DiskOk(got) {
				t.Fatalf("life %d, act %d: the disk is not right", seed, i)
			}
			done[a.Kind]++
			d = got
		}
	}
	for kind, count := range done[1:] {
		if count < 100 {
			t.Errorf("of kind %d just %d were done", kind+1, count)
		}
	}
}

func TestDoActsIsDoActOfEach(t *testing.T) {
	for seed := range 40 {
		d := fullDisk(seed % (impl.MaxFiles + 1))
		acts := drawnActs(30, uint32(seed))
		for len(acts) > 0 {
			want, count := d, 0
			for _, a := range acts {
				next, ok := impl.DoAct(want, a)
				if !ok {
					break
				}
				want, count = next, count+1
			}
			got, n := impl.DoActs(d, acts)
			if n != count || !sameDisk(got, want) {
				t.Fatalf("life %d: %d done; want %d, or another disk", seed, n, count)
			}
			d, acts = got, acts[min(n+1, len(acts)):]
		}
	}
}

// Promise 3: whatever is told to be left, a file has what was kept of it, and of the rest a beginning.
func TestWhatIsKeptIsNeverLost(t *testing.T) {
	for seed := range 30 {
		var acts []impl.Act
		d := impl.Disk{}
		for _, a := range drawnActs(300, uint32(seed)) {
			if next, ok := impl.DoAct(d, a); ok {
				acts, d = append(acts, a), next
			}
		}
		sizes := drawn(impl.MaxFiles*len(acts)+impl.MaxFiles, uint32(seed))
		for whole := 0; whole <= len(acts); whole += 1 + seed%3 {
			ahead, n := impl.DoActs(impl.Disk{}, acts[:whole])
			if n != whole {
				t.Fatalf("life %d: %d of %d done", seed, n, whole)
			}
			left := make([]int, (whole+seed)%(impl.MaxFiles+3))
			for i := range left {
				left[i] = int(sizes[(whole+i)%len(sizes)])*40 - 2000
			}
			got, ok := impl.CutActs(impl.Disk{}, acts, whole, left)
			if !ok || !impl.AllKept(got) || len(got.Files) != len(ahead.Files) {
				t.Fatalf("life %d cut at %d: %v, %d files", seed, whole, ok, len(got.Files))
			}
			checkLost(t, ahead, got, left)
		}
	}
}

func checkLost(t *testing.T, ahead, lost impl.Disk, left []int) {
	t.Helper()
	for i, file := range ahead.Files {
		want := file.Kept
		if i < len(left) && left[i] > want {
			want = min(left[i], len(file.Text))
		}
		if got := lost.Files[i]; got.Name != file.Name || got.Kept != want || got.Text != file.Text[:want] {
			t.Fatalf("file %q of %d bytes, %d kept: now %q of %d, %d kept; want %d", file.Name, len(file.Text), file.Kept, got.Name, len(got.Text), got.Kept, want)
		}
	}
}

// What was kept stays through acts behind it and any fall, but for its own move and drop.
func TestKeptStaysThroughFalls(t *testing.T) {
	d := impl.Disk{}
	kept := ""
	for i := range 40 {
		text := drawn(i*7%50, uint32(i))
		acts := []impl.Act{add("log", text), keep("log"), add("log", "torn"), add("b", "1"), keep("b"), move("b", "c"), drop("c")}
		lost, ok := impl.CutActs(d, acts, 3+i%5, []int{i % 3})
		got, found := impl.FileAt(lost, "log")
		if !ok || !found || got != kept+text {
			t.Fatalf("fall %d: %v, %v, %d bytes; want %d", i, ok, found, len(got), len(kept+text))
		}
		d, kept = lost, got
	}
}

// An answer is new memory, and neither an argument nor the room behind it is written to.
func TestFilesShareNothing(t *testing.T) {
	room := []impl.File{{Name: "a", Text: "12", Kept: 2}, {Name: "b", Text: "3"}, {Name: "z", Text: "spare", Kept: 1}, {}}
	was := slices.Clone(room)
	d := impl.Disk{Files: room[:2]}
	acts := []impl.Act{add("a", "9"), add("c", "new"), keep("a"), move("a", "d"), drop("b"), drop("zz")}
	actsWere := slices.Clone(acts)
	left := []int{1, -1, 5}
	leftWas := slices.Clone(left)

	var answers []impl.Disk
	for _, a := range []impl.Act{add("a", ""), add("a", "9"), add("c", "new"), keep("b"), move("a", "d"), move("a", "b"), drop("b")} {
		got, ok := impl.DoAct(d, a)
		if !ok {
			t.Fatalf("kind %d is false", a.Kind)
		}
		answers = append(answers, got)
	}
	for count := range len(acts) + 1 {
		got, _ := impl.DoActs(d, acts[:count])
		answers = append(answers, got)
		got, _ = impl.CutActs(d, acts, count, left)
		answers = append(answers, got)
	}
	lost, _ := impl.LoseDisk(d, left)
	all, _ := impl.LoseDisk(disk(room[0]), nil)
	wrong, _ := impl.DoActs(impl.Disk{Files: room[:4]}, nil)
	answers = append(answers, lost, all, wrong)
	for _, got := range answers {
		for i := range got.Files {
			got.Files[i] = impl.File{Name: "turned"}
		}
		_ = append(got.Files, impl.File{Name: "behind"})
	}
	if !slices.Equal(room, was) || !slices.Equal(acts, actsWere) || !slices.Equal(left, leftWas) {
		t.Errorf("an argument is changed: %s, %v, %d", told(impl.Disk{Files: room}), acts, left)
	}
}
