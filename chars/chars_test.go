package chars

import (
	"math"
	"slices"
	"strings"
	"testing"

	"picklock/api"
)

const (
	lows   = "abcdefghijklmnopqrstuvwxyz"
	ups    = "ABCDEFGHIJKLMNOPQRSTUVWXYZ"
	digits = "0123456789"
	signs  = "(),/=.;:$%"
	spaces = "\x20\x0a\x0d\x09"
)

// classOf looks a byte up in the document's lists.
func classOf(b byte) int {
	for i, list := range []string{lows, ups, digits, signs, spaces} {
		if strings.IndexByte(list, b) >= 0 {
			return i + 1
		}
	}
	return 0
}

// P1.1: the classes have the numbers that the chapter gives them.
func TestClassNumbers(t *testing.T) {
	got := []int{Other, Low, Up, Digit, Sign, Space}
	if !slices.Equal(got, []int{0, 1, 2, 3, 4, 5}) {
		t.Error(got)
	}
}

// P1.1: each of the 256 bytes.
func TestClassOfAllBytes(t *testing.T) {
	for i := range 256 {
		b := byte(i)
		if got, want := Class(b), classOf(b); got != want {
			t.Errorf("Class(%d) = %d, want %d", b, got, want)
		}
	}
}

// P1.1: each of the 256 bytes.
func TestPartOfAllBytes(t *testing.T) {
	parts := lows + ups + digits + "_"
	for i := range 256 {
		b := byte(i)
		if got, want := Part(b), strings.IndexByte(parts, b) >= 0; got != want {
			t.Errorf("Part(%d) = %v, want %v", b, got, want)
		}
	}
}

// P1.2: the words, in the chapter's order.
func TestKeys(t *testing.T) {
	want := []string{"fun", "name", "rule", "frame", "deduce", "equiv", "normal", "use"}
	if got := Keys(); !slices.Equal(got, want) {
		t.Error(got)
	}
	for _, k := range want {
		if !Key(k) || Word(k) || Upper(k) {
			t.Error(k)
		}
	}
}

// P1.2: what is near a key is none.
func TestKeyOfOthers(t *testing.T) {
	for _, s := range []string{"", "f", "fu", "funs", "Fun", "FUN", " fun", "fun ", "fun\x00", "use use", "fun_", "pair"} {
		if Key(s) {
			t.Errorf("Key(%q)", s)
		}
	}
}

// P2 of the rules that hold everywhere: each answer is new memory.
func TestKeysAreNotShared(t *testing.T) {
	first := Keys()
	for i := range first {
		first[i] = "spoilt"
	}
	_ = append(first[:0], "more")
	if Keys()[0] != "fun" || !Key("fun") || Key("spoilt") || Key("more") || Word("fun") {
		t.Error("an answer of Keys changes the next one")
	}
}

// P1.2: texts that are words, or just not.
func TestWord(t *testing.T) {
	right := []string{"a", "z", "f_1", "aB", "a_", "a__", "a0", "x9Z_", "funs", "fu", "rULE", "uses", "name_", lows[:20]}
	for _, s := range right {
		if !Word(s) {
			t.Errorf("Word(%q) is false", s)
		}
	}
	wrong := []string{"", "A", "Ab", "1", "1a", "_", "_a", " a", "a ", "a b", "a-b", "a.b", "a(", "$1", "a\x00", "\x00a", "a\n", "a#", "\xe4", "a\xe4", "aé", "é", "ａ", lows[:21], lows}
	for _, s := range wrong {
		if Word(s) {
			t.Errorf("Word(%q) is true", s)
		}
	}
}

// P1.2: likewise, from a capital on.
func TestUpper(t *testing.T) {
	right := []string{"A", "Z", "X_1", "Xy", "X_", "X0", "Fun", "USE", ups[:20]}
	for _, s := range right {
		if !Upper(s) {
			t.Errorf("Upper(%q) is false", s)
		}
	}
	wrong := []string{"", "a", "aB", "1", "1A", "_", "_A", " A", "A ", "A B", "A-B", "A,", "%1", "A\x00", "A\t", "A\xc4", "AÉ", "É", "Ａ", "fun", ups[:21], ups}
	for _, s := range wrong {
		if Upper(s) {
			t.Errorf("Upper(%q) is true", s)
		}
	}
}

// P1.2: each byte, as the first one and behind it.
func TestWordsOfAllBytes(t *testing.T) {
	for i := range 256 {
		b := byte(i)
		one := string([]byte{b})
		if Word(one) != (Class(b) == Low) || Upper(one) != (Class(b) == Up) {
			t.Errorf("byte %d as a word", b)
		}
		if Word("q"+one) != Part(b) || Upper("Q"+one) != Part(b) || Word("q"+one+"q") != Part(b) {
			t.Errorf("byte %d in a word", b)
		}
	}
}

// P1.2: a word has MaxName bytes at most, however long the text is.
func TestLongWords(t *testing.T) {
	for n := range 3 * api.MaxName {
		most := n > 0 && n <= api.MaxName
		if Word(strings.Repeat("w", n)) != most || Upper(strings.Repeat("W", n)) != most {
			t.Error(n)
		}
	}
	if long := strings.Repeat("w", 1<<20); Word(long) || Upper(long) || Key(long) {
		t.Error("long text")
	}
}

// P1.3: all numbers of a text, there and back; those beside them are none.
func TestNumbersThereAndBack(t *testing.T) {
	for n := -1200; n <= 12000; n++ {
		got, is := Number(Digits(n))
		if want := 0 <= n && n <= 999; is != want || want && got != n || !want && got != 0 {
			t.Errorf("Number(%q) = %d, %v", Digits(n), got, is)
		}
	}
}

// P1.3: no other text is a number, and its number is 0.
func TestNumberOfWrongTexts(t *testing.T) {
	wrong := []string{"", "-", "+", "-0", "+0", "+5", "-5", "00", "07", "000", "0999", "1000", "9999", " 7", "7 ", "7\n", "1x", "x1", "1.0", "1e2", "0x1", "1_0", "٣", "７", "7\x00", "\xff", "18446744073709551617", "-9223372036854775808", "9223372036854775808", strings.Repeat("0", 1000), strings.Repeat("9", 1<<20)}
	for _, s := range wrong {
		if n, is := Number(s); is || n != 0 {
			t.Errorf("Number(%q) = %d, %v", s[:min(len(s), 30)], n, is)
		}
	}
}

// P1.3: numbers of all sizes.
func TestDigits(t *testing.T) {
	for n, want := range map[int]string{
		0:             "0",
		7:             "7",
		10:            "10",
		120:           "120",
		999:           "999",
		1000:          "1000",
		-1:            "-1",
		-10:           "-10",
		-907:          "-907",
		math.MaxInt64: "9223372036854775807",
		math.MinInt64: "-9223372036854775808",
	} {
		if got := Digits(n); got != want {
			t.Errorf("Digits(%d) = %q", n, got)
		}
	}
}
