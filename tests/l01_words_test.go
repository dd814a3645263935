package tests

import (
	"math"
	"slices"
	"strings"
	"testing"

	"loop.example/g00245/impl"
)

// everyByte has each of the 256 bytes once, so that no byte is taken for a rune or an end.
func everyByte() string {
	all := make([]byte, 256)
	for i := range all {
		all[i] = byte(i)
	}
	return string(all)
}

func TestVarTextBytes(t *testing.T) {
	for _, c := range []struct {
		n    int
		want string
	}{
		{0, "\x00"},
		{1, "\x01"},
		{127, "\x7f"},
		{128, "\x80\x01"},
		{255, "\xff\x01"},
		{256, "\x80\x02"},
		{300, "\xac\x02"},
		{16383, "\xff\x7f"},
		{16384, "\x80\x80\x01"},
		{2097151, "\xff\xff\x7f"},
		{2097152, "\x80\x80\x80\x01"},
		{268435455, "\xff\xff\xff\x7f"},
		{268435456, "\x80\x80\x80\x80\x01"},
		{impl.MaxNumber - 1, "\xff\x93\xeb\xdc\x03"},
		{impl.MaxNumber, "\x80\x94\xeb\xdc\x03"},
	} {
		got, ok := impl.VarText(c.n)
		if !ok || got != c.want {
			t.Errorf("VarText(%d) = %q, %v; want %q, true", c.n, got, ok, c.want)
		}
		n, behind, ok := impl.ReadVar(c.want, 0)
		if !ok || n != c.n || behind != len(c.want) {
			t.Errorf("ReadVar(%q, 0) = %d, %d, %v; want %d, %d, true", c.want, n, behind, ok, c.n, len(c.want))
		}
	}
}

func TestVarTextRefused(t *testing.T) {
	for _, n := range []int{-1, -128, impl.MaxNumber + 1, math.MinInt, math.MaxInt} {
		if got, ok := impl.VarText(n); ok || got != "" {
			t.Errorf("VarText(%d) = %q, %v; want nothing, false", n, got, ok)
		}
	}
}

func TestVarIsReadBack(t *testing.T) {
	for n := 0; n <= impl.MaxNumber; n += 1 + n/50 {
		text, ok := impl.VarText(n)
		if !ok {
			t.Fatalf("VarText(%d) is false", n)
		}
		for _, ahead := range []string{"", "\x80", "\x00\xff\x05"} {
			got, behind, ok := impl.ReadVar(ahead+text+"\x80\x01", len(ahead))
			if !ok || got != n || behind != len(ahead)+len(text) {
				t.Fatalf("%d behind %q is read as %d, %d, %v", n, ahead, got, behind, ok)
			}
		}
		for cut := range len(text) {
			if got, behind, ok := impl.ReadVar(text[:cut], 0); ok || got != 0 || behind != 0 {
				t.Fatalf("%d cut to %d bytes is read as %d, %d, %v", n, cut, got, behind, ok)
			}
		}
	}
}

func TestReadVarRefused(t *testing.T) {
	for _, c := range []struct {
		text string
		at   int
	}{
		{"", 0},
		{"\x05", 1},
		{"\x05", 2},
		{"\x05", -1},
		{"\x05", math.MinInt},
		{"\x05", math.MaxInt},
		{"\x80", 0},
		{"\x05\xff\xff", 1},
		{"\x80\x00", 0},
		{"\x85\x00", 0},
		{"\x80\x80\x00", 0},
		{"\xac\x82\x00", 0},
		{"\x80\x94\xeb\xdc\x83\x00", 0},
		{"\x85\x80\x80\x80\x80\x80\x80\x80\x80\x80\x00", 0},
		{"\x81\x94\xeb\xdc\x03", 0},
		{"\x80\x94\xeb\xdc\x04", 0},
		{"\xff\xff\xff\xff\x7f", 0},
		{"\x80\x80\x80\x80\x80\x01", 0},
		{"\xff\xff\xff\xff\xff\xff\xff\xff\x7f", 0},
		{"\xff\xff\xff\xff\xff\xff\xff\xff\xff\x01", 0},
		{"\x85\x80\x80\x80\x80\x80\x80\x80\x80\x02", 0},
		{"\x85\x80\x80\x80\x80\x80\x80\x80\x80\x80\x01", 0},
		{strings.Repeat("\x80", 5000) + "\x01", 0},
	} {
		if n, behind, ok := impl.ReadVar(c.text, c.at); ok || n != 0 || behind != 0 {
			t.Errorf("ReadVar(%.30q, %d) = %d, %d, %v; want 0, 0, false", c.text, c.at, n, behind, ok)
		}
	}
}

// Whatever two bytes stand there: what is read is what VarText writes, and nothing else is.
func TestReadVarOfAllPairs(t *testing.T) {
	for first := range 256 {
		for second := range 256 {
			text := string([]byte{byte(first), byte(second)})
			n, behind, ok := impl.ReadVar(text, 0)
			wantOk := first < 128 || second > 0 && second < 128
			if ok != wantOk {
				t.Fatalf("ReadVar(%q, 0) is %v", text, ok)
			}
			if written, _ := impl.VarText(n); ok && written != text[:behind] {
				t.Fatalf("ReadVar(%q, 0) = %d, %d, whose text is %q", text, n, behind, written)
			}
		}
	}
}

func TestShortTextIsReadBack(t *testing.T) {
	for _, s := range []string{"", "a", "\x00", "\x80\x00", "grüß", everyByte(), strings.Repeat("x", 127), strings.Repeat("y", 128), strings.Repeat("\xff", impl.MaxText-1), strings.Repeat("z", impl.MaxText)} {
		text, ok := impl.ShortText(s)
		size, _ := impl.VarText(len(s))
		if !ok || text != size+s {
			t.Fatalf("ShortText of %d bytes: %v, %d bytes", len(s), ok, len(text))
		}
		for _, ahead := range []string{"", "\x81", "abc"} {
			for _, more := range []string{"", "m", "more"} {
				got, behind, ok := impl.ReadShort(ahead+text+more, len(ahead))
				if !ok || got != s || behind != len(ahead)+len(text) {
					t.Fatalf("a text of %d bytes between %q and %q is read as one of %d, %d, %v", len(s), ahead, more, len(got), behind, ok)
				}
			}
		}
		for _, cut := range []int{0, len(text) / 2, len(text) - 1} {
			if got, behind, ok := impl.ReadShort(text[:cut], 0); ok || got != "" || behind != 0 {
				t.Fatalf("a text of %d bytes cut to %d is read as one of %d, %d, %v", len(s), cut, len(got), behind, ok)
			}
		}
	}
}

func TestShortTextRefused(t *testing.T) {
	if got, ok := impl.ShortText(strings.Repeat("z", impl.MaxText+1)); ok || got != "" {
		t.Errorf("a text of MaxText and one bytes: %d bytes, %v", len(got), ok)
	}
	beyond, _ := impl.VarText(impl.MaxText + 1)
	most, _ := impl.VarText(impl.MaxNumber)
	for _, c := range []struct {
		text string
		at   int
	}{
		{"", 0},
		{"\x01a", 2},
		{"\x01a", 3},
		{"\x01a", -1},
		{"\x00", math.MinInt},
		{"\x00", math.MaxInt},
		{"\x02a", 0},
		{"\x81\x00a", 0},
		{"\x80\x00", 0},
		{"\x80", 0},
		{beyond + strings.Repeat("z", impl.MaxText+1), 0},
		{most + "z", 0},
		{"\xff\xff\xff\xff\xff\xff\xff\xff\x7fz", 0},
	} {
		if got, behind, ok := impl.ReadShort(c.text, c.at); ok || got != "" || behind != 0 {
			t.Errorf("ReadShort(%.20q, %d) = %.20q, %d, %v; want nothing, 0, false", c.text, c.at, got, behind, ok)
		}
	}
}

func TestHexFigures(t *testing.T) {
	for _, c := range [][2]string{{"", ""}, {"\x00", "00"}, {"\x0a", "0a"}, {"\xa0", "a0"}, {"\xff", "ff"}, {"\x12\x9f\xe7", "129fe7"}, {"az", "617a"}} {
		if got, ok := impl.Hex(c[0]); !ok || got != c[1] {
			t.Errorf("Hex(%q) = %q, %v; want %q, true", c[0], got, ok, c[1])
		}
		if got, ok := impl.Unhex(c[1]); !ok || got != c[0] {
			t.Errorf("Unhex(%q) = %q, %v; want %q, true", c[1], got, ok, c[0])
		}
	}
}

func TestHexIsReadBack(t *testing.T) {
	for _, text := range []string{everyByte(), strings.Repeat("\xfe", impl.MaxText-1), strings.Repeat("\x01", impl.MaxText)} {
		figures, ok := impl.Hex(text)
		if !ok || len(figures) != 2*len(text) {
			t.Fatalf("Hex of %d bytes: %d figures, %v", len(text), len(figures), ok)
		}
		if got, ok := impl.Unhex(figures); !ok || got != text {
			t.Fatalf("Hex of %d bytes is read back as %d bytes, %v", len(text), len(got), ok)
		}
	}
}

func TestHexRefused(t *testing.T) {
	if got, ok := impl.Hex(strings.Repeat("a", impl.MaxText+1)); ok || got != "" {
		t.Errorf("Hex of MaxText and one bytes: %d figures, %v", len(got), ok)
	}
	long := strings.Repeat("00", impl.MaxText)
	for _, text := range []string{"0", "000", "0A", "A0", "FF", "g0", "0g", "0x", " 0", "0 ", "00 ", "-1", "0/", "0:", "0`", "/0", ":0", "`0", "\x00\x00", "0\xff", "00g0", "0g00", "000g", "é", long + "0", long + "00"} {
		if got, ok := impl.Unhex(text); ok || got != "" {
			t.Errorf("Unhex(%.20q) = %d bytes, %v; want nothing, false", text, len(got), ok)
		}
	}
}

func TestDecimalOfEveryKind(t *testing.T) {
	for _, c := range []struct {
		n    int
		want string
	}{
		{0, "0"},
		{7, "7"},
		{10, "10"},
		{-1, "-1"},
		{-10, "-10"},
		{1002003, "1002003"},
		{impl.MaxNumber, "1000000000"},
		{impl.MaxNumber + 1, "1000000001"},
		{math.MaxInt, "9223372036854775807"},
		{math.MinInt, "-9223372036854775808"},
	} {
		if got := impl.Decimal(c.n); got != c.want {
			t.Errorf("Decimal(%d) = %q", c.n, got)
		}
	}
}

func TestDecimalIsReadBack(t *testing.T) {
	for n := 0; n < impl.MaxNumber; n += 1 + n/50 {
		if got, ok := impl.ReadDecimal(impl.Decimal(n)); !ok || got != n {
			t.Fatalf("%d is read back as %d, %v", n, got, ok)
		}
	}
	for _, n := range []int{9, 10, 99, 100, 999999999, impl.MaxNumber} {
		if got, ok := impl.ReadDecimal(impl.Decimal(n)); !ok || got != n {
			t.Errorf("%d is read back as %d, %v", n, got, ok)
		}
	}
}

func TestReadDecimalRefused(t *testing.T) {
	for _, text := range []string{"", "-", "-0", "-1", "+1", "00", "01", "007", "0000000000", "00000000005", " 1", "1 ", "1 2", "1_0", "0x1", "1e3", "1.0", "1a", "a1", "/", ":", "1/", "1:", "\x00", "1\x00", "\xff", "٣", "1000000001", "9999999999", "10000000000", "18446744073709551616", "18446744073709551621", "9223372036854775808", "-9223372036854775808", strings.Repeat("9", 5000), strings.Repeat("0", 5000)} {
		if n, ok := impl.ReadDecimal(text); ok || n != 0 {
			t.Errorf("ReadDecimal(%.30q) = %d, %v; want 0, false", text, n, ok)
		}
	}
}

func TestPartsOfLines(t *testing.T) {
	word := strings.Repeat("w", impl.MaxWords)
	for _, c := range []struct {
		line string
		want []string
	}{
		{"", nil},
		{" ", nil},
		{strings.Repeat(" ", impl.MaxWords), nil},
		{"a", []string{"a"}},
		{" tick  1 2 ", []string{"tick", "1", "2"}},
		{"   a   b   ", []string{"a", "b"}},
		{"a b a", []string{"a", "b", "a"}},
		{"! ~ #x \"y\"", []string{"!", "~", "#x", "\"y\""}},
		{word, []string{word}},
		{" " + word[2:] + " ", []string{word[2:]}},
		{"1 2 3 4 5 6 7 8 9 10", []string{"1", "2", "3", "4", "5", "6", "7", "8", "9", "10"}},
		{"  1 2 3 4 5 6 7 8 9  10  ", []string{"1", "2", "3", "4", "5", "6", "7", "8", "9", "10"}},
	} {
		got, ok := impl.PartsOf(c.line)
		if !ok || !slices.Equal(got, c.want) {
			t.Errorf("PartsOf(%.30q) = %.30q, %v; want %.30q, true", c.line, got, ok, c.want)
		}
	}
}

func TestPartsOfRefused(t *testing.T) {
	for _, line := range []string{
		strings.Repeat("w", impl.MaxWords+1),
		strings.Repeat(" ", impl.MaxWords+1),
		"1 2 3 4 5 6 7 8 9 10 11",
		strings.Repeat("w ", impl.MaxWords/2),
		"\x1f", "a\x1fb", "\x7f", "a \x7f", "a\tb", "a\n", "\r\na", "\x00", "a\x00", "\x80", "grüß", "a\u00a0b", "a \xff",
	} {
		if got, ok := impl.PartsOf(line); ok || len(got) != 0 {
			t.Errorf("PartsOf(%.30q) = %.30q, %v; want nothing, false", line, got, ok)
		}
	}
}

// Each byte alone, and within a word: from 32 to 126 it is taken.
func TestPartsOfEachByte(t *testing.T) {
	for b := range 256 {
		_, ok := impl.PartsOf("a" + string([]byte{byte(b)}) + "z")
		if want := b >= 32 && b <= 126; ok != want {
			t.Errorf("a line with the byte %d: %v", b, ok)
		}
	}
}
