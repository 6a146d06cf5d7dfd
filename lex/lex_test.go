package lex

import (
	"math"
	"slices"
	"strings"
	"testing"

	"picklock/api"
	"picklock/chars"
)

func wordAt(s string, at int) api.Token { return api.Token{Kind: api.TkWord, Text: s, At: at} }

func upperAt(s string, at int) api.Token { return api.Token{Kind: api.TkUpper, Text: s, At: at} }

func signAt(s string, at int) api.Token { return api.Token{Kind: api.TkSign, Text: s, At: at} }

func endAt(at int) api.Token { return api.Token{Kind: api.TkEnd, At: at} }

func numberAt(kind int, s string, n, at int) api.Token {
	return api.Token{Kind: kind, Text: s, N: n, At: at}
}

// short cuts a text for a message.
func short(s string) string { return s[:min(len(s), 40)] }

// scans checks what Scan tells of a text that is right.
func scans(t *testing.T, s string, want ...api.Token) {
	t.Helper()
	l, f := Scan(s)
	if f != (api.Fault{}) || !slices.Equal(l, want) {
		t.Errorf("Scan(%q) = %v, %v; want %v", short(s), l, f, want)
	}
}

// fails checks the fault that Scan tells, and that it tells nothing else.
func fails(t *testing.T, s string, err api.Errno, at int) {
	t.Helper()
	l, f := Scan(s)
	if f != (api.Fault{Err: err, At: at}) || len(l) > 0 {
		t.Errorf("Scan(%q) = %v, %v; want error %d at %d", short(s), l, f, err, at)
	}
}

// P2.1, the chapter's example.
func TestScanExample(t *testing.T) {
	scans(t, "f/2.", wordAt("f", 0), signAt("/", 1), numberAt(api.TkInt, "2", 2, 2), signAt(".", 3), endAt(4))
}

// P2.1: a text without tokens has an end, at its length.
func TestScanNothing(t *testing.T) {
	for _, s := range []string{"", " ", "\n", " \n\r\t ", "#", "# & _ \xff 07", "#\n", "  # x\n\t# y", "##\n##"} {
		scans(t, s, endAt(len(s)))
	}
}

// P2.1: what begins with a letter.
func TestScanWords(t *testing.T) {
	for _, s := range []string{"a", "z", "aB_9", "rules", strings.Repeat("w", api.MaxName)} {
		scans(t, s, wordAt(s, 0), endAt(len(s)))
	}
	for _, s := range chars.Keys() {
		scans(t, s, wordAt(s, 0), endAt(len(s)))
	}
	for _, s := range []string{"X", "Z", "Xb_9", "Rule", strings.Repeat("W", api.MaxName)} {
		scans(t, s, upperAt(s, 0), endAt(len(s)))
	}
	for _, s := range []string{strings.Repeat("w", api.MaxName+1), strings.Repeat("W", api.MaxName+1), strings.Repeat("w", api.MaxText)} {
		fails(t, s, api.ErrSyntax, 0)
		fails(t, (" . " + s)[:min(len(s)+3, api.MaxText)], api.ErrSyntax, 3)
	}
}

// P2.1: what begins with a digit.
func TestScanNumbers(t *testing.T) {
	for _, n := range []int{0, 1, 9, 10, 99, 100, 998, 999} {
		s := chars.Digits(n)
		scans(t, s, numberAt(api.TkInt, s, n, 0), endAt(len(s)))
	}
	for _, s := range []string{"00", "07", "0999", "1000", "9999", "2x", "2X", "2_", "0a", strings.Repeat("9", 1000)} {
		fails(t, s, api.ErrSyntax, 0)
		fails(t, "f(\n"+s+")", api.ErrSyntax, 3)
	}
}

// P2.1: handles are from 1 on, fresh constants from 0 on.
func TestScanHandles(t *testing.T) {
	for _, n := range []int{1, 9, 10, 999} {
		s := chars.Digits(n)
		scans(t, "$"+s, numberAt(api.TkHand, "$"+s, n, 0), endAt(len(s)+1))
		scans(t, "%"+s, numberAt(api.TkFresh, "%"+s, n, 0), endAt(len(s)+1))
	}
	scans(t, "%0", numberAt(api.TkFresh, "%0", 0, 0), endAt(2))
	fails(t, "$0", api.ErrSyntax, 0)
	for _, s := range []string{"", "00", "01", "1000", "x", "X", "1x", "1_", "_", "-1", " 1", "$", "%", "(", "\n1", "&", "#1\n1"} {
		fails(t, "$"+s, api.ErrSyntax, 0)
		fails(t, "%"+s, api.ErrSyntax, 0)
		fails(t, "$1 $"+s, api.ErrSyntax, 3)
		fails(t, "%0%"+s, api.ErrSyntax, 2)
	}
	scans(t, "$1$2%3", numberAt(api.TkHand, "$1", 1, 0), numberAt(api.TkHand, "$2", 2, 2), numberAt(api.TkFresh, "%3", 3, 4), endAt(6))
}

// P2.1: each other sign is a token of its own.
func TestScanSigns(t *testing.T) {
	all := "(),/=.;:"
	var want []api.Token
	for i := range all {
		scans(t, all[i:i+1], signAt(all[i:i+1], 0), endAt(1))
		want = append(want, signAt(all[i:i+1], i))
	}
	scans(t, all, append(want, endAt(len(all)))...)
	scans(t, "==", signAt("=", 0), signAt("=", 1), endAt(2))
}

// P2.1: each byte by itself, and behind a word.
func TestScanAllBytes(t *testing.T) {
	for i := range 256 {
		one := string([]byte{byte(i)})
		class := chars.Class(byte(i))
		begins := class == chars.Low || class == chars.Up || class == chars.Digit || class == chars.Sign && one != "$" && one != "%"
		passed := class == chars.Space || one == "#"
		switch {
		case begins:
			if l, f := Scan(one); f.Err != api.OK || len(l) != 2 || l[0].Text != one {
				t.Errorf("byte %d: %v, %v", i, l, f)
			}
		case passed:
			scans(t, one, endAt(1))
			scans(t, "w"+one, wordAt("w", 0), endAt(2))
		default:
			fails(t, one, api.ErrSyntax, 0)
		}
		if !begins && !passed && one != "_" {
			fails(t, "w"+one, api.ErrSyntax, 1)
		}
	}
}

// P2.1: what is passed over, and up to where.
func TestScanSpaces(t *testing.T) {
	scans(t, "a\x20\x0a\x0d\x09b", wordAt("a", 0), wordAt("b", 5), endAt(6))
	scans(t, "a#b\nc", wordAt("a", 0), wordAt("c", 4), endAt(5))
	scans(t, "a # & $ 07 # _\n# more\n  c#", wordAt("a", 0), wordAt("c", 24), endAt(26))
	scans(t, "a#b\rc\td", wordAt("a", 0), endAt(7))
	scans(t, "x.#\x00\xff\n.", wordAt("x", 0), signAt(".", 1), signAt(".", 6), endAt(7))
	fails(t, "a\vb", api.ErrSyntax, 1)
	fails(t, "a\xa0b", api.ErrSyntax, 1)
	fails(t, "# x\n_", api.ErrSyntax, 4)
	fails(t, "a é", api.ErrSyntax, 2)
}

// P2.1: tokens end where the next one begins, blank or not.
func TestScanNeighbours(t *testing.T) {
	scans(t, "f(X,a1)=g9:$1;%0/12.",
		wordAt("f", 0), signAt("(", 1), upperAt("X", 2), signAt(",", 3), wordAt("a1", 4), signAt(")", 6), signAt("=", 7),
		wordAt("g9", 8), signAt(":", 10), numberAt(api.TkHand, "$1", 1, 11), signAt(";", 13),
		numberAt(api.TkFresh, "%0", 0, 14), signAt("/", 16), numberAt(api.TkInt, "12", 12, 17), signAt(".", 19), endAt(20))
}

// P2.1: the first fault from the left is told.
func TestScanFirstFault(t *testing.T) {
	fails(t, "a & 07", api.ErrSyntax, 2)
	fails(t, "a 07 &", api.ErrSyntax, 2)
	fails(t, "a.\nb $0 %x", api.ErrSyntax, 5)
}

// P2.1: a text has MaxText bytes at most, and that is looked at first.
func TestScanLongTexts(t *testing.T) {
	blank := strings.Repeat(" ", api.MaxText)
	scans(t, blank, endAt(api.MaxText))
	scans(t, blank[:api.MaxText-1]+".", signAt(".", api.MaxText-1), endAt(api.MaxText))
	fails(t, blank[:api.MaxText-1]+"&", api.ErrSyntax, api.MaxText-1)
	for _, s := range []string{blank + " ", blank + ".", "&" + blank, "#" + blank, strings.Repeat("\xff", 1<<20)} {
		fails(t, s, api.ErrLong, 0)
	}
	if l, f := Scan(strings.Repeat("(", api.MaxText)); f.Err != api.OK || len(l) != api.MaxText+1 {
		t.Error(len(l), f)
	}
}

// P2 of the rules that hold everywhere: each answer is new memory.
func TestScanIsNotShared(t *testing.T) {
	first, _ := Scan("a b")
	first[0] = signAt("spoilt", 9)
	scans(t, "a b", wordAt("a", 0), wordAt("b", 2), endAt(3))
}

// P2.2: the texts with a blank between, without the ends.
func TestShow(t *testing.T) {
	for s, want := range map[string]string{
		"":                        "",
		" # x":                    "",
		"a":                       "a",
		"f( X ,$1)\n=%0 .# end":   "f ( X , $1 ) = %0 .",
		"fun f/2.\n\nuse pair.\n": "fun f / 2 . use pair .",
	} {
		if l, _ := Scan(s); Show(l) != want {
			t.Errorf("Show of %q = %q", s, Show(l))
		}
	}
}

// P2.2: lists that no text has.
func TestShowOfAnyTokens(t *testing.T) {
	if Show(nil) != "" || Show([]api.Token{}) != "" || Show([]api.Token{endAt(3), endAt(0)}) != "" {
		t.Error("nothing to show")
	}
	odd := []api.Token{endAt(0), {Kind: api.TkEnd, Text: "hidden", N: 4}, {Kind: 77, Text: "a b"}, endAt(5), {Kind: -1, Text: "\xff"}, {Kind: api.TkSign}, {Kind: api.TkInt, N: 5}, {Kind: api.TkWord, Text: "z"}}
	if got := Show(odd); got != "a b \xff   z" {
		t.Errorf("%q", got)
	}
}

// P2.2: At is 0, all else stays.
func TestPlain(t *testing.T) {
	l := []api.Token{wordAt("a", 4), numberAt(api.TkHand, "$3", 3, 9), {Kind: 99, Text: "x", N: -4, At: -7}, endAt(12)}
	keep := slices.Clone(l)
	got := Plain(l)
	if !slices.Equal(got, []api.Token{wordAt("a", 0), numberAt(api.TkHand, "$3", 3, 0), {Kind: 99, Text: "x", N: -4}, endAt(0)}) {
		t.Error(got)
	}
	got[0].Text = "spoilt"
	if !slices.Equal(l, keep) {
		t.Error("what was handed in is changed")
	}
	if len(Plain(nil)) != 0 || len(Plain([]api.Token{})) != 0 {
		t.Error("nothing")
	}
}

// P2 of the rules that hold everywhere: what lies behind a list's length stays as it is.
func TestPlainKeepsToItsLength(t *testing.T) {
	long := []api.Token{wordAt("a", 1), wordAt("b", 2)}
	got := append(Plain(long[:1]), wordAt("c", 3))
	if long[1] != wordAt("b", 2) || len(got) != 2 || len(got[:cap(got)]) > 2 && slices.Contains(got[2:cap(got)], long[1]) {
		t.Error(long, got)
	}
}

// P2.2: alike, but for At.
func TestSame(t *testing.T) {
	a := []api.Token{wordAt("a", 0), numberAt(api.TkInt, "1", 1, 5), endAt(6)}
	if !Same(a, a) || !Same(a, Plain(a)) || !Same(Plain(a), a) || !Same(nil, nil) || !Same(nil, []api.Token{}) {
		t.Error("alike")
	}
	for i := range a {
		for _, change := range []func(*api.Token){
			func(t *api.Token) { t.Kind += 3 },
			func(t *api.Token) { t.Text += "x" },
			func(t *api.Token) { t.N++ },
		} {
			b := slices.Clone(a)
			change(&b[i])
			if Same(a, b) || Same(b, a) {
				t.Error(a, b)
			}
		}
		moved := slices.Clone(a)
		moved[i].At = 100
		if !Same(a, moved) || a[i].At == 100 {
			t.Error("moved")
		}
	}
	if Same(a, a[:2]) || Same(a[:2], a) || Same(a, nil) || Same(nil, a) || Same(a, append([]api.Token{endAt(0)}, a...)) {
		t.Error("lengths")
	}
	if Same([]api.Token{a[0], a[1]}, []api.Token{a[1], a[0]}) {
		t.Error("order")
	}
}

// P2.2: lines and columns from 1 on.
func TestPlace(t *testing.T) {
	for _, c := range []struct {
		s             string
		at, line, col int
	}{
		{"", 0, 1, 1}, {"", 5, 1, 1}, {"", -5, 1, 1},
		{"ab\ncd", 0, 1, 1}, {"ab\ncd", 1, 1, 2}, {"ab\ncd", 2, 1, 3}, {"ab\ncd", 3, 2, 1}, {"ab\ncd", 4, 2, 2}, {"ab\ncd", 5, 2, 3},
		{"ab\ncd", 6, 2, 3}, {"ab\ncd", math.MaxInt, 2, 3}, {"ab\ncd", -1, 1, 1}, {"ab\ncd", math.MinInt, 1, 1},
		{"\n\n\n", 0, 1, 1}, {"\n\n\n", 1, 2, 1}, {"\n\n\n", 2, 3, 1}, {"\n\n\n", 3, 4, 1},
		{"a\r\nb", 1, 1, 2}, {"a\r\nb", 2, 1, 3}, {"a\r\nb", 3, 2, 1}, {"a\rb", 2, 1, 3},
		{"\tx", 1, 1, 2}, {"éx", 2, 1, 3}, {"# x\n\xff", 4, 2, 1},
	} {
		if line, col := Place(c.s, c.at); line != c.line || col != c.col {
			t.Errorf("Place(%q, %d) = %d, %d", c.s, c.at, line, col)
		}
	}
}

// P2.2: each byte of a text that is longer than a text may be.
func TestPlaceOfAllBytes(t *testing.T) {
	s := strings.Repeat("abc\n\nd\r\n", 2000)
	line, col := 1, 1
	for at := range len(s) {
		if at%97 == 0 || at < 50 {
			if l, c := Place(s, at); l != line || c != col {
				t.Fatal(at, l, c)
			}
		}
		col++
		if s[at] == '\n' {
			line, col = line+1, 1
		}
	}
}

// gap tells whether a text is nothing but what is passed over.
func gap(s string) bool {
	for _, line := range strings.Split(s, "\n") {
		ahead, _, _ := strings.Cut(line, "#")
		if strings.Trim(ahead, " \r\t") != "" {
			return false
		}
	}
	return true
}

// whole checks that tokens stand where they say, as long as they can be, with nothing but gaps between.
func whole(s string, l []api.Token) bool {
	at := 0
	for i, t := range l {
		last := i == len(l)-1
		if (t.Kind == api.TkEnd) != last || t.At < at || !gap(s[at:t.At]) || !strings.HasPrefix(s[t.At:], t.Text) {
			return false
		}
		at = t.At + len(t.Text)
		if t.Kind != api.TkSign && at < len(s) && chars.Part(s[at]) {
			return false
		}
	}
	return len(l) > 0 && at == len(s)
}

// right tells whether a token is one of the kinds that P2.1 names.
func right(t api.Token) bool {
	n, is := chars.Number(strings.TrimLeft(t.Text, "$%"))
	switch t.Kind {
	case api.TkWord:
		return (chars.Word(t.Text) || chars.Key(t.Text)) && t.N == 0
	case api.TkUpper:
		return chars.Upper(t.Text) && t.N == 0
	case api.TkInt:
		return is && t.N == n && t.Text == chars.Digits(n)
	case api.TkHand:
		return is && t.N == n && n > 0 && t.Text == "$"+chars.Digits(n)
	case api.TkFresh:
		return is && t.N == n && t.Text == "%"+chars.Digits(n)
	case api.TkSign:
		return len(t.Text) == 1 && strings.Contains("(),/=.;:", t.Text) && t.N == 0
	}
	return t.Kind == api.TkEnd && t.Text == "" && t.N == 0
}

// looks checks all that P2.1 and P2.3 say of one text.
func looks(t *testing.T, s string) {
	t.Helper()
	l, f := Scan(s)
	if f.Err != api.OK {
		_, behind := Scan(s[f.At:])
		_, ahead := Scan(s[:f.At])
		if len(l) > 0 || f.Err != api.ErrSyntax || behind != (api.Fault{Err: api.ErrSyntax}) || ahead != (api.Fault{}) {
			t.Errorf("Scan(%q) = %v, %v", s, l, f)
		}
		return
	}
	if !whole(s, l) || f.At != 0 {
		t.Errorf("Scan(%q) = %v, %v", s, l, f)
	}
	for _, x := range l {
		if !right(x) {
			t.Errorf("Scan(%q) has %v", s, x)
		}
	}
	back, g := Scan(Show(l))
	if g != (api.Fault{}) || !Same(l, back) {
		t.Errorf("%q shown and scanned again: %v, %v", s, back, g)
	}
}

// P2.1, P2.3: all short texts of bytes that tell the cases apart.
func TestThereAndBackOfShortTexts(t *testing.T) {
	bytes := "aQ01_(.$%# \n&"
	texts := []string{""}
	for range 4 {
		var longer []string
		for _, s := range texts {
			for i := range bytes {
				longer = append(longer, s+bytes[i:i+1])
			}
		}
		for _, s := range longer {
			looks(t, s)
		}
		texts = longer
	}
}

// P2.3: texts of the kind that people write.
func TestThereAndBack(t *testing.T) {
	for _, s := range []string{
		"", "use senc. name a. name k. frame p: senc(a, k); k. deduce p a.",
		"fun box/2. fun get/2. # two\nrule get(box(X, Y), Z) = X.\n\n",
		"get($1, %1) = get($1, %0)", "$999%999 999", "fun name rule frame deduce equiv normal use",
		strings.Repeat("w_", 10) + strings.Repeat("\nW", 500) + "(((",
	} {
		if _, f := Scan(s); f.Err != api.OK {
			t.Errorf("%q: %v", s, f)
		}
		looks(t, s)
	}
}

// P1 of the rules that hold everywhere: any bytes come to an end.
func TestScanOfAnyBytes(t *testing.T) {
	seed := uint32(1)
	for n := range 3000 {
		b := make([]byte, n%60)
		for i := range b {
			seed = seed*1664525 + 1013904223
			b[i] = byte(seed >> 24)
		}
		looks(t, string(b))
	}
}
