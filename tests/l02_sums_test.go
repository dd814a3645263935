package tests

import (
	"math"
	"strings"
	"testing"

	"loop.example/g00245/impl"
)

// sumByBits is the document's rule word for word, a bit at a time.
func sumByBits(sum uint32, text string) uint32 {
	for i := range len(text) {
		sum ^= uint32(text[i])
		for range 8 {
			odd := sum%2 == 1
			sum /= 2
			if odd {
				sum ^= 3558460437
			}
		}
	}
	return sum
}

// drawn is a text of so many bytes, without a rule that is easy to see, and always the same.
func drawn(size int, seed uint32) string {
	out := make([]byte, size)
	for i := range out {
		seed = seed*1664525 + 1013904223
		out[i] = byte(seed >> 24)
	}
	return string(out)
}

// sumTexts are short and long ones, up to the longest that is sealed.
func sumTexts() []string {
	return []string{
		"", "\x00", "\xff", "a", "abc", "123456789", "message digest",
		"\x00\x00\x00\x00", "\xff\xff\xff\xff", "\xff\xff\xff\xff\x00",
		everyByte(), drawn(1000, 7), drawn(impl.MaxText-1, 8),
		strings.Repeat("\x00", impl.MaxText), drawn(impl.MaxText, 9),
	}
}

func withByteAt(text string, at int, b byte) string {
	out := []byte(text)
	out[at] = b
	return string(out)
}

func TestSumOfKnown(t *testing.T) {
	for _, c := range []struct {
		text string
		want uint32
	}{
		{"", 4294967295},
		{"\x00", 2175125468},
		{"a", 2675860630},
		{"abc", 2815232641},
		{"123456789", 2026809993},
		{"message digest", 4159777811},
		{"\xff\xff\xff\xff", 0},
		{"\xff\xff\xff\xff\x00\x00\x00", 0},
	} {
		if got := impl.SumOf(c.text); got != c.want {
			t.Errorf("SumOf(%q) = %d; want %d", c.text, got, c.want)
		}
	}
}

func TestSumMoreOfEachByte(t *testing.T) {
	for _, sum := range []uint32{0, 1, 255, 256, 3558460437, 1 << 31, math.MaxUint32 - 1, math.MaxUint32} {
		if got := impl.SumMore(sum, ""); got != sum {
			t.Errorf("SumMore(%d, nothing) = %d", sum, got)
		}
		for b := range 256 {
			text := string([]byte{byte(b)})
			if got, want := impl.SumMore(sum, text), sumByBits(sum, text); got != want {
				t.Errorf("SumMore(%d, %q) = %d; want %d", sum, text, got, want)
			}
		}
	}
	if got := impl.SumMore(0, "\x80"); got != 3558460437 {
		t.Errorf("SumMore(0, 128) = %d", got)
	}
	if got := impl.SumMore(0, "\x01"); got == 3558460437 {
		t.Error("the bits of a byte are taken from the highest on")
	}
}

func TestSumsOfTexts(t *testing.T) {
	longer := drawn(impl.MaxText+1, 10)
	for _, text := range append(sumTexts(), longer, longer+longer) {
		if got, want := impl.SumOf(text), sumByBits(math.MaxUint32, text); got != want {
			t.Errorf("SumOf of %d bytes = %d; want %d", len(text), got, want)
		}
		for _, sum := range []uint32{0, 12345, math.MaxUint32} {
			if got, want := impl.SumMore(sum, text), sumByBits(sum, text); got != want {
				t.Errorf("SumMore of %d and %d bytes = %d; want %d", sum, len(text), got, want)
			}
		}
	}
}

func TestSumMoreGoesOn(t *testing.T) {
	for _, text := range []string{"", "a", "abc", "\xff\xff\xff\xff\x00", everyByte()} {
		want := impl.SumOf(text)
		for cut := range len(text) + 1 {
			if got := impl.SumMore(impl.SumOf(text[:cut]), text[cut:]); got != want {
				t.Errorf("%q in two at %d: %d; want %d", text, cut, got, want)
			}
		}
	}
	long := drawn(impl.MaxText, 11)
	for _, step := range []int{1, 2, 3, 7, 256, 4999} {
		sum := impl.SumOf("")
		for at := 0; at < len(long); at += step {
			sum = impl.SumMore(sum, long[at:min(at+step, len(long))])
		}
		if want := impl.SumOf(long); sum != want {
			t.Errorf("steps of %d bytes: %d; want %d", step, sum, want)
		}
	}
}

func TestSealedBytes(t *testing.T) {
	for _, c := range []struct {
		text, want string
	}{
		{"", "\xff\xff\xff\xff"},
		{"abc", "abc\xa7\xcd\x0a\x81"},
		{"123456789", "123456789\x78\xce\xaa\x89"},
		{"\xff\xff\xff\xff", "\xff\xff\xff\xff\x00\x00\x00\x00"},
	} {
		if got, ok := impl.Sealed(c.text); !ok || got != c.want {
			t.Errorf("Sealed(%q) = %q, %v; want %q, true", c.text, got, ok, c.want)
		}
	}
}

func TestSealedIsRead(t *testing.T) {
	for _, text := range sumTexts() {
		sealed, ok := impl.Sealed(text)
		if !ok || len(sealed) != len(text)+4 || !strings.HasPrefix(sealed, text) {
			t.Errorf("Sealed of %d bytes: %d bytes, %v", len(text), len(sealed), ok)
		}
		if got, ok := impl.Unsealed(sealed); !ok || got != text {
			t.Errorf("%d bytes are unsealed as %d bytes, %v", len(text), len(got), ok)
		}
	}
}

// sealedByBits seals texts of any length, so that one above the limit has a right sum, too.
func sealedByBits(text string) string {
	sum := sumByBits(math.MaxUint32, text)
	return text + string([]byte{byte(sum >> 24), byte(sum >> 16), byte(sum >> 8), byte(sum)})
}

func TestSealedTooLong(t *testing.T) {
	for _, size := range []int{impl.MaxText + 1, impl.MaxText + 4, 2 * impl.MaxText} {
		text := drawn(size, 12)
		if got, ok := impl.Sealed(text); ok || got != "" {
			t.Errorf("Sealed of %d bytes: %d bytes, %v", size, len(got), ok)
		}
		wantNotUnsealed(t, "one that is too long", sealedByBits(text))
	}
}

func wantNotUnsealed(t *testing.T, what, text string) {
	t.Helper()
	if got, ok := impl.Unsealed(text); ok || got != "" {
		t.Errorf("%s (%d bytes) is unsealed as %d bytes, %v", what, len(text), len(got), ok)
	}
}

func TestUnsealedOfTurnedByte(t *testing.T) {
	for _, text := range []string{"", "\x00", "abc", "\xff\xff\xff\xff", "\xff\xff\xff\xff\x00", drawn(40, 13)} {
		sealed, _ := impl.Sealed(text)
		for at := range len(sealed) {
			for b := range 256 {
				if byte(b) != sealed[at] {
					wantNotUnsealed(t, "one with another byte", withByteAt(sealed, at, byte(b)))
				}
			}
		}
	}
}

func TestUnsealedOfTurnedByteInLong(t *testing.T) {
	sealed, ok := impl.Sealed(drawn(impl.MaxText, 14))
	if !ok {
		t.Fatal("MaxText bytes are not sealed")
	}
	places := []int{0, 1, 2, len(sealed) - 5, len(sealed) - 4, len(sealed) - 3, len(sealed) - 2, len(sealed) - 1}
	for at := 3; at < len(sealed); at += 97 {
		places = append(places, at)
	}
	for _, at := range places {
		for _, turn := range []byte{1, 128, 255, byte(at%254 + 2)} {
			wantNotUnsealed(t, "a long one with another byte", withByteAt(sealed, at, sealed[at]^turn))
		}
	}
}

func TestUnsealedOfCut(t *testing.T) {
	for _, text := range []string{"", "abc", "123456789", drawn(60, 15)} {
		sealed, _ := impl.Sealed(text)
		for size := range len(sealed) {
			wantNotUnsealed(t, "one that is cut", sealed[:size])
			wantNotUnsealed(t, "one without its beginning", sealed[len(sealed)-size:])
		}
	}
	for _, text := range []string{"", "\x00", "\xff", "\xff\xff", "\xff\xff\xff", "abc"} {
		wantNotUnsealed(t, "one shorter than a sum", text)
	}
}

func TestUnsealedOfMoreBehind(t *testing.T) {
	for _, text := range []string{"", "abc", everyByte(), drawn(impl.MaxText, 16)} {
		sealed, _ := impl.Sealed(text)
		for b := range 256 {
			wantNotUnsealed(t, "one with a byte behind it", sealed+string([]byte{byte(b)}))
		}
		wantNotUnsealed(t, "one with its sum twice", sealed+sealed[len(text):])
	}
}

// Behind a sum of 0 a nought changes nothing: such a sealed text with noughts behind it is, by the rule, another one's.
func TestUnsealedOfSumNought(t *testing.T) {
	for more := range 6 {
		text := "\xff\xff\xff\xff" + strings.Repeat("\x00", more)
		if got, ok := impl.Unsealed(text + "\x00\x00\x00\x00"); !ok || got != text {
			t.Errorf("%q with the sum 0 is unsealed as %q, %v", text, got, ok)
		}
	}
}

func TestUnsealedOfLowestFirst(t *testing.T) {
	wantNotUnsealed(t, "one with its sum the lowest byte first", "abc\x81\x0a\xcd\xa7")
	wantNotUnsealed(t, "one with its sum ahead", "\xa7\xcd\x0a\x81abc")
}
