package scope

import (
	"math"
	"math/rand"
	"reflect"
	"slices"
	"strconv"
	"strings"
	"testing"

	"picklock/api"
	"picklock/chars"
	"picklock/grammar"
	"picklock/library"
	"picklock/sign"
	"picklock/term"
)

// equal tells whether two values are alike, a nil list and an empty one too.
func equal(a, b any) bool {
	x, y := reflect.ValueOf(a), reflect.ValueOf(b)
	if x.Type() != y.Type() {
		return false
	}
	switch x.Kind() {
	case reflect.Slice:
		for i := 0; i < min(x.Len(), y.Len()); i++ {
			if !equal(x.Index(i).Interface(), y.Index(i).Interface()) {
				return false
			}
		}
		return x.Len() == y.Len()
	case reflect.Struct:
		for i := range x.NumField() {
			if !equal(x.Field(i).Interface(), y.Field(i).Interface()) {
				return false
			}
		}
		return true
	}
	return a == b
}

// short cuts a text for a message.
func short(s string) string { return s[:min(len(s), 160)] }

// fault is a fault's short form.
func fault(e api.Errno, at int) api.Fault { return api.Fault{Err: e, At: at} }

// priv is a private name.
func priv(name string) api.Term { return api.Term{Kind: api.KName, Name: name} }

// items reads a text that the grammar takes.
func items(t *testing.T, s string) []grammar.Item {
	t.Helper()
	l, bad := grammar.Parse(s)
	if bad.Err != api.OK {
		t.Fatalf("Parse(%q): %v", short(s), bad)
	}
	return l
}

// right reads a text that is right.
func right(t *testing.T, s string) api.File {
	t.Helper()
	f, bad := Read(s)
	if bad != (api.Fault{}) {
		t.Fatalf("Read(%q): %v", short(s), bad)
	}
	return f
}

// reads checks what Read and Check tell of a text that is right.
func reads(t *testing.T, s string, want api.File) {
	t.Helper()
	if f := right(t, s); !equal(f, want) {
		t.Errorf("Read(%q) = %v; want %v", short(s), f, want)
	}
	if f, bad := Check(items(t, s)); bad != (api.Fault{}) || !equal(f, want) {
		t.Errorf("Check(%q) = %v, %v; want %v", short(s), f, bad, want)
	}
}

// fails checks the fault that Read tells, and that it tells nothing else.
func fails(t *testing.T, s string, want api.Fault) {
	t.Helper()
	if f, bad := Read(s); bad != want || !equal(f, api.File{}) {
		t.Errorf("Read(%q) = %v, %v; want %v", short(s), f, bad, want)
	}
}

// at checks that a text fails with an error where a mark stands in it.
func at(t *testing.T, marked string, e api.Errno) {
	t.Helper()
	if strings.Count(marked, "@") != 1 {
		t.Fatal("not one mark:", marked)
	}
	fails(t, strings.Replace(marked, "@", "", 1), fault(e, strings.Index(marked, "@")))
}

// rows puts a text down that many times, with the number in the place of each #.
func rows(n int, text string) string {
	var b strings.Builder
	for i := range n {
		b.WriteString(strings.ReplaceAll(text, "#", strconv.Itoa(i)))
	}
	return b.String()
}

// declared is what the tests of terms stand on.
const declared = "fun c/0. fun f/1. fun g/2. fun h/6. name n. name m. frame p: n; f(c). "

// saying tells what Term tells of a term's text.
func saying(t *testing.T, f api.File, s string) (api.Term, api.Fault) {
	t.Helper()
	x, bad := grammar.Term(s)
	if bad.Err != api.OK {
		t.Fatalf("Term(%q): %v", s, bad)
	}
	return Term(f, x)
}

// P13.1: the ground term that a tree says.
func TestTerm(t *testing.T) {
	f := right(t, declared)
	c := term.Fun("c")
	for s, want := range map[string]api.Term{
		"c":       c,
		"n":       priv("n"),
		"f(c)":    term.Fun("f", c),
		" f ( n)": term.Fun("f", priv("n")),
		"g(f(n), g(m, c))": term.Fun("g", term.Fun("f", priv("n")),
			term.Fun("g", priv("m"), c)),
		"h(c,c,n,c,m,f(c))": term.Fun("h", c, c, priv("n"), c, priv("m"), term.Fun("f", c)),
	} {
		if got, bad := saying(t, f, s); bad != (api.Fault{}) || !equal(got, want) {
			t.Errorf("Term(%q) = %v, %v; want %v", s, got, bad, want)
		}
	}
}

// P13.1: the first fault, in the order of the tree, at its place.
func TestTermFaults(t *testing.T) {
	f := right(t, declared)
	for marked, e := range map[string]api.Errno{
		"@X": api.ErrScope, "@$1": api.ErrScope, "@%0": api.ErrScope, "@a": api.ErrScope, "@p": api.ErrScope, "@pair(c, c)": api.ErrScope, "  @a(X)": api.ErrScope, "f(@X)": api.ErrScope, "f(@$1)": api.ErrScope, "f(@%3)": api.ErrScope, "g(c, @a)": api.ErrScope,
		"@n(c)": api.ErrArity, "@n(n, n)": api.ErrArity, "@c(c)": api.ErrArity, "@f": api.ErrArity, "@f(c, c)": api.ErrArity, "@g(c)": api.ErrArity, "@h(c,c,c,c,c)": api.ErrArity, "@h(c,c,c,c,c,c,c)": api.ErrArity, "g(c, @m(c))": api.ErrArity, "f(@f)": api.ErrArity,
		"@a(n(c))": api.ErrScope, "@f(X, a)": api.ErrArity, "@n(X)": api.ErrArity, "g(@n(X), Y)": api.ErrArity, "g(f(@X), c(c))": api.ErrScope, "g(@f(c, X), X)": api.ErrArity, "g(f(f(@a)), b)": api.ErrScope, "g(f(n), f(@f))": api.ErrArity,
	} {
		s, want := strings.Replace(marked, "@", "", 1), fault(e, strings.Index(marked, "@"))
		if got, bad := saying(t, f, s); bad != want || !equal(got, api.Term{}) {
			t.Errorf("Term(%q) = %v, %v; want %v", s, got, bad, want)
		}
	}
}

// P13.1, P1: trees and files that no text has.
func TestTermOfOddTrees(t *testing.T) {
	f := right(t, declared)
	two := api.File{Names: []string{"f", "d", "n", "n"}, Theory: api.Theory{Funs: []api.Fun{{Name: "f", Arity: 1}, {Name: "d", Arity: 2}, {Name: "d", Arity: 0}, {Name: "e", Arity: -1}, {Name: "A b", Arity: 9}, {}}}}
	c := grammar.Tree{Kind: api.KFun, Text: "c", N: 5, At: 8}
	for _, x := range []struct {
		f    api.File
		t    grammar.Tree
		want api.Term
		bad  api.Fault
	}{
		{f, grammar.Tree{}, api.Term{}, fault(api.ErrScope, 0)},
		{f, grammar.Tree{At: -3, Text: "c"}, api.Term{}, fault(api.ErrScope, -3)},
		{f, grammar.Tree{Kind: api.KName, Text: "n", At: 2}, api.Term{}, fault(api.ErrScope, 2)},
		{f, grammar.Tree{Kind: 6, Text: "c", At: 2}, api.Term{}, fault(api.ErrScope, 2)},
		{f, grammar.Tree{Kind: -5, Text: "c", At: math.MaxInt}, api.Term{}, fault(api.ErrScope, math.MaxInt)},
		{f, grammar.Tree{Kind: api.KVar, Text: "c"}, api.Term{}, fault(api.ErrScope, 0)},
		{f, grammar.Tree{Kind: api.KHand, Text: "c", N: 1}, api.Term{}, fault(api.ErrScope, 0)},
		{f, grammar.Tree{Kind: api.KFresh, Text: "c", Args: []grammar.Tree{c}}, api.Term{}, fault(api.ErrScope, 0)},
		{f, grammar.Tree{Kind: api.KFun, At: 4}, api.Term{}, fault(api.ErrScope, 4)},
		{f, c, term.Fun("c"), api.Fault{}},
		{f, grammar.Tree{Kind: api.KFun, Text: "f", Args: []grammar.Tree{c}}, term.Fun("f", term.Fun("c")), api.Fault{}},
		{f, grammar.Tree{Kind: api.KFun, Text: "f", Args: []grammar.Tree{{At: 9}}}, api.Term{}, fault(api.ErrScope, 9)},
		{f, grammar.Tree{Kind: api.KFun, Text: "n", N: 7, Args: []grammar.Tree{}}, priv("n"), api.Fault{}},
		{api.File{}, c, api.Term{}, fault(api.ErrScope, 8)},
		{two, grammar.Tree{Kind: api.KFun, Text: "f", At: 1}, api.Term{}, fault(api.ErrArity, 1)},
		{two, grammar.Tree{Kind: api.KFun, Text: "n", At: 1}, priv("n"), api.Fault{}},
		{two, grammar.Tree{Kind: api.KFun, Text: "d", At: 1}, api.Term{}, fault(api.ErrArity, 1)},
		{two, grammar.Tree{Kind: api.KFun, Text: "e", At: 1}, api.Term{}, fault(api.ErrArity, 1)},
		{two, grammar.Tree{Kind: api.KFun, Text: "A b", Args: slices.Repeat([]grammar.Tree{{Kind: api.KFun, Text: "n"}}, 9)}, term.Fun("A b", slices.Repeat([]api.Term{priv("n")}, 9)...), api.Fault{}},
		{two, grammar.Tree{Kind: api.KFun}, term.Fun(""), api.Fault{}},
	} {
		if got, bad := Term(x.f, x.t); bad != x.bad || !equal(got, x.want) {
			t.Errorf("Term(%v) = %v, %v; want %v, %v", x.t, got, bad, x.want, x.bad)
		}
	}
}

// P13.1: the frame of a name.
func TestFrame(t *testing.T) {
	f := right(t, declared+"frame q:. frame f: f(f(n)). ")
	for name, want := range map[string][]api.Term{
		"p": {priv("n"), term.Fun("f", term.Fun("c"))}, "q": nil, "f": {term.Fun("f", term.Fun("f", priv("n")))},
	} {
		if x, is := Frame(f, name); !is || x.Name != name || !equal(x.Terms, want) {
			t.Errorf("Frame(%q) = %v, %v", name, x, is)
		}
	}
	for _, name := range []string{"", "c", "n", "r", "P", "p ", "pp"} {
		if x, is := Frame(f, name); is || !equal(x, api.Frame{}) {
			t.Errorf("Frame(%q) = %v, %v", name, x, is)
		}
	}
	if x, is := Frame(api.File{}, ""); is || !equal(x, api.Frame{}) {
		t.Error(x, is)
	}
	odd := api.File{Frames: []api.Frame{{Name: "a", Terms: []api.Term{{Kind: 9}}}, {}, {Name: "a"}}}
	if x, is := Frame(odd, "a"); !is || !equal(x, odd.Frames[0]) {
		t.Error(x, is)
	}
	if x, is := Frame(odd, ""); !is || !equal(x, api.Frame{}) {
		t.Error(x, is)
	}
}

// P13.2: what each item adds.
func TestItems(t *testing.T) {
	x, c := term.Var("X"), term.Fun("c")
	f := api.Theory{Funs: []api.Fun{{Name: "f", Arity: 1}, {Name: "c", Arity: 0}}}
	pair, _ := library.Use(api.Theory{}, "pair")
	senc, _ := library.Use(f, "senc")
	reads(t, "", api.File{})
	reads(t, "fun f/1. fun c/0.", api.File{Theory: f})
	reads(t, "fun six/6.", api.File{Theory: api.Theory{Funs: []api.Fun{{Name: "six", Arity: 6}}}})
	reads(t, "name b. name a.", api.File{Names: []string{"b", "a"}})
	reads(t, "use pair.", api.File{Theory: pair})
	reads(t, "use pair. use pair.", api.File{Theory: pair})
	reads(t, "fun f/1. fun c/0. use senc.", api.File{Theory: senc})
	reads(t, "fun f/1. fun c/0. rule f(X) = X. rule f(f(X)) = f(X). rule c = c.", api.File{Theory: api.Theory{Funs: f.Funs, Rules: []api.Rule{
		{L: term.Fun("f", x), R: x}, {L: term.Fun("f", term.Fun("f", x)), R: term.Fun("f", x)}, {L: c, R: c}}}})
	reads(t, "name a. frame q: a; a. frame p:.", api.File{Names: []string{"a"}, Frames: []api.Frame{{Name: "q", Terms: []api.Term{priv("a"), priv("a")}}, {Name: "p"}}})
	reads(t, "name a. frame q:. frame p: a. equiv q p. deduce p a. normal a. equiv p p. normal a.", api.File{
		Names:  []string{"a"},
		Frames: []api.Frame{{Name: "q"}, {Name: "p", Terms: []api.Term{priv("a")}}},
		Queries: []api.Query{
			{Kind: api.AskEquiv, Left: "q", Right: "p"}, {Kind: api.AskDeduce, Left: "p", T: priv("a")},
			{Kind: api.AskNormal, T: priv("a")}, {Kind: api.AskEquiv, Left: "p", Right: "p"}, {Kind: api.AskNormal, T: priv("a")}},
	})
}

// P13.1, P13.2: frames have words of their own, and so have variables.
func TestFramesOfTheirOwn(t *testing.T) {
	f := right(t, "frame f:. frame pair:. fun f/0. name n. use pair. frame n: n; f. deduce n pair(f, n). equiv f pair. equiv n n.")
	if len(f.Frames) != 3 || len(f.Queries) != 3 || f.Frames[2].Terms[0].Kind != api.KName || f.Frames[2].Terms[1].Kind != api.KFun {
		t.Error(f)
	}
	at(t, "frame f:. normal @f.", api.ErrScope)
	at(t, "fun f/0. deduce @f f.", api.ErrScope)
	at(t, "name n. equiv @n n.", api.ErrScope)
}

// P13.1: a word means what was declared ahead of it.
func TestAhead(t *testing.T) {
	at(t, "normal @c. fun c/0.", api.ErrScope)
	at(t, "frame p: @n. name n.", api.ErrScope)
	at(t, "fun f/1. rule f(@c) = c. fun c/0.", api.ErrScope)
	at(t, "rule @fst(X) = X. use pair.", api.ErrScope)
	at(t, "name n. deduce @p n. frame p:.", api.ErrScope)
	at(t, "frame p:. equiv p @q. frame q:.", api.ErrScope)
}

// P13.2: the fault of each item, and of two that apply the one that is named first.
func TestFaults(t *testing.T) {
	for _, c := range []struct {
		e      api.Errno
		marked []string
	}{
		{api.ErrTwice, []string{
			"fun f/1. fun @f/1.", "fun f/1. fun @f/2.", "name f. fun @f/0.", "use pair. fun @fst/1.", "fun f/1. name @f.", "name f. name @f.", "use pair. name @snd.", "fun f/1. fun @f/7.", "name f. fun @f/999.",
			"name pair. use @pair.", "name snd. use @pair.", "name ok. use @sign.", "fun pair/1. use @pair.", "fun pair/1. name fst. use @pair.", "fun pk/2. use @aenc.", "use wrap. fun fst/2. use wrap. use @pair.",
			"frame p:. frame @p:.", "frame p:. frame @p: X.", "frame p:. frame q:. frame @p: a.",
		}},
		{api.ErrArity, []string{
			"fun f/@7.", "fun f/@999.", "fun f / @8 .", "name n. fun f/@10.",
			"fun f/1. rule @f = f(X).", "fun f/1. rule f(X) = @f(X, Y).", "fun c/0. rule @c(X) = Y.", "fun f/1. rule f(@f(X, X)) = n.",
			"name n. frame p: @n(n).", "fun f/1. frame p: @f.", "fun c/0. frame p: c; @c(c); X.",
			"fun c/0. frame p:. deduce p @c(c).", "fun c/0. normal @c(X).", "name n. normal @n(n).",
		}},
		{api.ErrScope, []string{
			"use @foo.", "name foo. use @foo.", "fun foo/0. use @foo.", "use @pairs.",
			"rule @f(X) = X.", "fun f/1. rule f(X) = @Y.", "fun f/1. rule f(X) = f(@Y).", "fun f/2. rule f(X, Y) = f(Y, @Z).", "fun f/2. rule f(X, X) = f(@Y, Z).", "fun c/0. rule c = @X.",
			"name n. fun f/1. rule f(@n) = n.", "name n. fun f/1. rule f(X) = @n.", "name n. fun f/1. rule f(@n(X)) = X.", "name n. rule @n = n.", "fun f/1. rule f(@$1) = X.", "fun f/1. rule f(@%1) = X.", "fun f/1. rule f(X) = @$1.", "fun f/1. rule f(X) = f(@%0).", "fun f/1. rule @$1 = X.",
			"fun f/1. rule f(X) = @a.", "rule X = @a.", "rule X = @$1.", "fun f/2. rule f(X, X) = f(Y, @a).", "rule @a = X.", "fun f/1. rule f(@a) = f.", "fun f/1. rule f(@f2(X)) = X.",
			"frame p: @$1.", "frame p: @X.", "frame p: @%0.", "frame p: @a.", "name n. frame p: n; @a; X.", "frame p: @p.",
			"deduce @p a.", "deduce @p X.", "frame p:. deduce p @a.", "frame p:. deduce p @X.", "frame p:. deduce p @$1.", "frame p:. deduce @q a.",
			"equiv @p q.", "frame p:. equiv p @q.", "frame p:. equiv @q p.", "frame p:. equiv @q r.", "normal @X.", "normal @$1.", "normal @%7.", "normal @a(X).",
		}},
		{api.ErrRule, []string{"rule @X = X.", "fun f/1. rule @X = f(X).", "fun f/1. rule @X = Y.", "fun c/0. rule  @X_1  = c.", "rule @X = Y. rule X = $1."}},
	} {
		for _, marked := range c.marked {
			at(t, marked, c.e)
		}
	}
}

// P13.2: as much as there may be, and no more; and what comes ahead of that.
func TestLimits(t *testing.T) {
	funs, names, frames := rows(api.MaxFuns, "fun f#/0. "), rows(api.MaxNames, "name n#. "), rows(api.MaxFrames, "frame p#:. ")
	rules := "fun f/1. fun c/0. " + rows(api.MaxRules, "rule f(c) = c. ")
	asked := "fun c/0. frame p:. " + rows(4, "normal c. equiv p p. deduce p c. normal c. ")
	if f := right(t, funs+names+frames+rows(api.MaxQueries, "normal n1. ")); len(f.Theory.Funs) != api.MaxFuns || len(f.Names) != api.MaxNames || len(f.Frames) != api.MaxFrames || len(f.Queries) != api.MaxQueries {
		t.Error(f)
	}
	if f := right(t, rules); len(f.Theory.Rules) != api.MaxRules {
		t.Error(f)
	}
	at(t, funs+"fun @g/0.", api.ErrLong)
	at(t, funs+"fun g/@7.", api.ErrArity)
	at(t, funs+"fun @f3/7.", api.ErrTwice)
	at(t, funs+"use @hash.", api.ErrLong)
	at(t, funs+"use @foo.", api.ErrScope)
	at(t, funs+"name mac. use @hash.", api.ErrTwice)
	at(t, names+"name @m.", api.ErrLong)
	at(t, names+"name @n39.", api.ErrTwice)
	at(t, names+"fun f/0. name @f.", api.ErrTwice)
	at(t, rows(api.MaxFuns-1, "fun f#/0. ")+"use @hash.", api.ErrLong)
	at(t, rules+"@rule f(X) = X.", api.ErrLong)
	at(t, rules+"rule f(X) = @Y.", api.ErrScope)
	at(t, rules+"rule @X = X.", api.ErrRule)
	at(t, rules+"rule f(X) = @f.", api.ErrArity)
	at(t, rules+"use @pair.", api.ErrLong)
	at(t, strings.TrimSuffix(rules, "rule f(c) = c. ")+"use @pair.", api.ErrLong)
	at(t, frames+"@frame q:.", api.ErrLong)
	at(t, frames+"frame @p0: X.", api.ErrTwice)
	at(t, frames+"frame q: @X.", api.ErrScope)
	at(t, frames+"name n. frame q: n"+strings.Repeat("; n", 15)+"; @n.", api.ErrLong)
	at(t, asked+"@normal c.", api.ErrLong)
	at(t, asked+"  @deduce p c.", api.ErrLong)
	at(t, asked+"@equiv p p.", api.ErrLong)
	at(t, asked+"normal @d.", api.ErrScope)
	at(t, asked+"deduce @q c.", api.ErrScope)
	at(t, asked+"deduce p @c(c).", api.ErrArity)
	at(t, asked+"equiv p @q.", api.ErrScope)
	less := strings.TrimSuffix(rules, "rule f(c) = c. ")
	for add, want := range map[string]int{"use senc.": api.MaxRules, "use hash.": api.MaxRules - 1} {
		if f := right(t, less+add); len(f.Theory.Rules) != want {
			t.Error(add, f)
		}
	}
}

// P13.2: a frame's terms: at the one that is too many, ahead of what it says, but behind what is said ahead of it.
func TestHandles(t *testing.T) {
	most := "name n. frame p: n" + strings.Repeat("; n", api.MaxHandles-1)
	if f := right(t, most+"."); len(f.Frames[0].Terms) != api.MaxHandles {
		t.Error(f)
	}
	for _, x := range []string{"n", "X", "a(X)", "n(n)", "n; a", "X; n; n; n"} {
		at(t, most+"; @"+x+".", api.ErrLong)
	}
	at(t, "name n. frame p: n"+strings.Repeat("; n", api.MaxHandles-2)+"; @a; n; n.", api.ErrScope)
	at(t, "name n. frame p: @X"+strings.Repeat("; n", api.MaxHandles)+".", api.ErrScope)
	at(t, "frame p:. name n. frame @p: n"+strings.Repeat("; n", api.MaxHandles)+".", api.ErrTwice)
}

// P13.2: item by item: what is wrong first ends all.
func TestFirstItem(t *testing.T) {
	at(t, "fun f/1. use @foo. name f. normal X.", api.ErrScope)
	at(t, "name f. name @f. use foo.", api.ErrTwice)
	l := items(t, "name a. use foo. equiv p q.")
	l[2].Words = nil
	if f, bad := Check(l); bad != fault(api.ErrScope, 12) || !equal(f, api.File{}) {
		t.Error(f, bad)
	}
	l[1].Words = nil
	if f, bad := Check(l); bad != fault(api.ErrArg, 8) || !equal(f, api.File{}) {
		t.Error(f, bad)
	}
}

// P13.2: items that haven't what the grammar gives their key.
func TestItemsThatMayNotBe(t *testing.T) {
	word := grammar.Tree{Kind: api.KFun, Text: "w", At: 1}
	number := grammar.Tree{Text: "1", N: 1, At: 2}
	variable := grammar.Tree{Kind: api.KVar, Text: "X", At: 3}
	bad := []grammar.Tree{
		{}, variable, {Kind: api.KHand, Text: "$1", N: 1}, {Kind: api.KFresh, Text: "%1", N: 1}, {Kind: api.KName, Text: "w"}, {Kind: api.KFun}, {Kind: api.KFun, Text: "W"}, {Kind: api.KFun, Text: "fun"}, {Kind: api.KFun, Text: "w w"}, {Kind: api.KFun, Text: "é"},
		{Kind: api.KFun, Text: strings.Repeat("w", api.MaxName+1)}, {Kind: api.KFun, Text: "w", Args: []grammar.Tree{word}}, {Kind: -1, Text: "w"}, {Kind: 6, Text: "w"}, {Kind: math.MinInt, Text: "w"},
	}
	var l []grammar.Item
	for _, x := range bad {
		for _, key := range []string{"name", "use", "frame"} {
			l = append(l, grammar.Item{Key: key, Words: []grammar.Tree{x}})
		}
		l = append(l, grammar.Item{Key: "fun", Words: []grammar.Tree{x, number}}, grammar.Item{Key: "deduce", Words: []grammar.Tree{x}, Trees: []grammar.Tree{word}},
			grammar.Item{Key: "equiv", Words: []grammar.Tree{x, word}}, grammar.Item{Key: "equiv", Words: []grammar.Tree{word, x}})
	}
	for _, x := range []grammar.Tree{word, variable, {N: -1}, {N: math.MinInt}, {N: 1, Args: []grammar.Tree{{}}}, {Kind: api.KHand, N: 1}} {
		l = append(l, grammar.Item{Key: "fun", Words: []grammar.Tree{word, x}})
	}
	for _, x := range []grammar.Tree{{}, number, {Kind: api.KName, Text: "w"}, {Kind: 6, Text: "w"}, {Kind: -1}, {Kind: api.KVar, Text: "x"}, {Kind: api.KVar}, {Kind: api.KVar, Text: "X", Args: []grammar.Tree{word}}, {Kind: api.KHand, N: 1, Args: []grammar.Tree{word}}, {Kind: api.KFresh, Args: []grammar.Tree{{}}}, {Kind: api.KFun, Text: "W"}, {Kind: api.KFun, Text: "name"}} {
		in := grammar.Tree{Kind: api.KFun, Text: "w", Args: []grammar.Tree{word, x}}
		for _, y := range []grammar.Tree{x, in} {
			l = append(l, grammar.Item{Key: "normal", Trees: []grammar.Tree{y}}, grammar.Item{Key: "rule", Trees: []grammar.Tree{word, y}}, grammar.Item{Key: "rule", Trees: []grammar.Tree{y, word}},
				grammar.Item{Key: "frame", Words: []grammar.Tree{word}, Trees: []grammar.Tree{word, y}}, grammar.Item{Key: "deduce", Words: []grammar.Tree{word}, Trees: []grammar.Tree{y}})
		}
	}
	for n, i := range l {
		i.At = 100 - n
		if f, bad := Check([]grammar.Item{i}); bad != fault(api.ErrArg, i.At) || !equal(f, api.File{}) {
			t.Errorf("Check(%v) = %v, %v", i, f, bad)
		}
	}
}

// P13.2: of all keys and all short lists, those are right that the grammar shows and reads again.
func TestItemsByGrammar(t *testing.T) {
	word := grammar.Tree{Kind: api.KFun, Text: "w"}
	some := []grammar.Tree{word, {Text: "1", N: 1}, {Kind: api.KVar, Text: "X"}, {Kind: api.KHand, Text: "$2", N: 2}, {Kind: api.KFun, Text: "w", Args: []grammar.Tree{word, {Kind: api.KVar, Text: "X"}}}, {Kind: api.KFun, Text: "w", Args: []grammar.Tree{{Text: "1", N: 1}}}}
	lists := [][]grammar.Tree{nil}
	for from := 0; len(lists) < 1+6+36+216; from++ {
		for _, x := range some {
			lists = append(lists, append(slices.Clone(lists[from]), x))
		}
	}
	rights := 0
	for _, key := range append(chars.Keys(), "", "Fun", "fun ", "foo", ".", "normal w. normal") {
		for _, words := range lists {
			for _, trees := range lists {
				if len(words)+len(trees) > 4 {
					continue
				}
				i := grammar.Item{Key: key, At: 7, Words: words, Trees: trees}
				back, bad := grammar.Parse(grammar.Show([]grammar.Item{i}))
				is := bad.Err == api.OK && grammar.Same(back, []grammar.Item{i})
				if _, bad := Check([]grammar.Item{i}); (bad == fault(api.ErrArg, 7)) == is {
					t.Fatalf("Check(%v) = %v", i, bad)
				}
				if is {
					rights++
				}
			}
		}
	}
	if rights < 50 {
		t.Error(rights)
	}
}

// P13.2: what the kinds don't need doesn't count.
func TestItemsWithMore(t *testing.T) {
	made := []grammar.Item{
		{Key: "fun", Words: []grammar.Tree{{Kind: api.KFun, Text: "f", N: 9, Args: []grammar.Tree{}}, {N: 2, At: 3}}, Trees: []grammar.Tree{}},
		{Key: "rule", Words: []grammar.Tree{}, Trees: []grammar.Tree{{Kind: api.KFun, Text: "f", N: 4, Args: []grammar.Tree{{Kind: api.KVar, Text: "X", N: 3}, {Kind: api.KVar, Text: "X"}}}, {Kind: api.KVar, Text: "X", N: 8, Args: []grammar.Tree{}}}},
	}
	if f, bad := Check(made); bad != (api.Fault{}) || !equal(f, right(t, "fun f/2. rule f(X, X) = X.")) {
		t.Error(f, bad)
	}
	made[0].Words[1].N = math.MaxInt
	if f, bad := Check(made); bad != fault(api.ErrArity, 3) || !equal(f, api.File{}) {
		t.Error(f, bad)
	}
	for _, x := range []grammar.Tree{{Kind: api.KHand, At: 5}, {Kind: api.KFresh, N: -1, At: 5}} {
		if f, bad := Check([]grammar.Item{{Key: "normal", Trees: []grammar.Tree{x}}}); bad != fault(api.ErrScope, 5) || !equal(f, api.File{}) {
			t.Error(f, bad)
		}
	}
}

// P13.3: the grammar's fault comes ahead of all others.
func TestReadFaults(t *testing.T) {
	at(t, "normal f(@", api.ErrSyntax)
	at(t, "use foo. name @X.", api.ErrSyntax)
	at(t, "use foo. use @&.", api.ErrSyntax)
	at(t, "fun f/7. name a. name a. @foo", api.ErrSyntax)
	at(t, "deduce p X@", api.ErrSyntax)
	fails(t, "use foo."+strings.Repeat(" ", api.MaxText), fault(api.ErrLong, 0))
	at(t, "use foo. normal "+strings.Repeat("f(", api.MaxNest)+"f@(a"+strings.Repeat(")", api.MaxNest+1)+".", api.ErrSyntax)
}

// faults are what may be wrong, in the order in which it is named: the first of them counts.
type faults []api.Fault

// when puts a fault behind, if it applies.
func (l *faults) when(is bool, e api.Errno, at int) {
	if is {
		*l = append(*l, fault(e, at))
	}
}

// term puts all faults of a tree behind, and tells what it says, if it says anything.
func (l *faults) term(f api.File, t grammar.Tree, rule bool) api.Term {
	n := slices.IndexFunc(f.Theory.Funs, func(x api.Fun) bool { return x.Name == t.Text })
	x := grammar.Plain(t)
	x.Args = nil
	switch fun := t.Kind == api.KFun; {
	case fun && n >= 0:
		l.when(len(t.Args) != f.Theory.Funs[n].Arity, api.ErrArity, t.At)
	case fun && slices.Contains(f.Names, t.Text) && !rule:
		x.Kind = api.KName
		l.when(len(t.Args) > 0, api.ErrArity, t.At)
	default:
		l.when(t.Kind != api.KVar || !rule, api.ErrScope, t.At)
	}
	for _, a := range t.Args {
		x.Args = append(x.Args, l.term(f, a, rule))
	}
	return x
}

// vars tells the trees of variables in a tree, in order.
func vars(t grammar.Tree) []grammar.Tree {
	var l []grammar.Tree
	if t.Kind == api.KVar {
		l = append(l, t)
	}
	for _, a := range t.Args {
		l = append(l, vars(a)...)
	}
	return l
}

// byRule is one item of P13.2, word by word: all that applies, and the file with it.
func byRule(f api.File, i grammar.Item) (api.File, faults) {
	var l faults
	w := append(slices.Clone(i.Words), grammar.Tree{})[0]
	_, isFun := sign.Arity(f.Theory.Funs, w.Text)
	isName := slices.Contains(f.Names, w.Text)
	frames := map[string]int{}
	for _, x := range f.Frames {
		frames[x.Name]++
	}
	switch i.Key {
	case "fun":
		l.when(isFun || isName, api.ErrTwice, w.At)
		l.when(i.Words[1].N > 6, api.ErrArity, i.Words[1].At)
		l.when(len(f.Theory.Funs) == 40, api.ErrLong, w.At)
		f.Theory.Funs = append(slices.Clone(f.Theory.Funs), api.Fun{Name: w.Text, Arity: i.Words[1].N})
	case "name":
		l.when(isFun || isName, api.ErrTwice, w.At)
		l.when(len(f.Names) == 40, api.ErrLong, w.At)
		f.Names = append(slices.Clone(f.Names), w.Text)
	case "use":
		p, is := library.Get(w.Text)
		l.when(!is, api.ErrScope, w.At)
		for _, x := range p.Funs {
			l.when(slices.Contains(f.Names, x.Name), api.ErrTwice, w.At)
		}
		th, e := library.Use(f.Theory, w.Text)
		l.when(e != api.OK, e, w.At)
		f.Theory = th
	case "rule":
		r := api.Rule{L: l.term(f, i.Trees[0], true), R: l.term(f, i.Trees[1], true)}
		l.when(i.Trees[0].Kind == api.KVar, api.ErrRule, i.Trees[0].At)
		for _, v := range vars(i.Trees[1]) {
			l.when(!slices.ContainsFunc(vars(i.Trees[0]), func(x grammar.Tree) bool { return x.Text == v.Text }), api.ErrScope, v.At)
		}
		l.when(len(f.Theory.Rules) == 24, api.ErrLong, i.At)
		f.Theory.Rules = append(slices.Clone(f.Theory.Rules), r)
	case "frame":
		l.when(frames[w.Text] > 0, api.ErrTwice, w.At)
		x := api.Frame{Name: w.Text}
		for n, t := range i.Trees {
			l.when(n == 16, api.ErrLong, t.At)
			x.Terms = append(x.Terms, l.term(f, t, false))
		}
		l.when(len(f.Frames) == 8, api.ErrLong, i.At)
		f.Frames = append(slices.Clone(f.Frames), x)
	default:
		q := api.Query{Kind: map[string]int{"deduce": 1, "equiv": 2, "normal": 3}[i.Key], Left: w.Text}
		for _, x := range i.Words {
			l.when(frames[x.Text] == 0, api.ErrScope, x.At)
			if i.Key == "equiv" {
				q.Right = x.Text
			}
		}
		for _, x := range i.Trees {
			q.T = l.term(f, x, false)
		}
		l.when(len(f.Queries) == 16, api.ErrLong, i.At)
		f.Queries = append(slices.Clone(f.Queries), q)
	}
	return f, l
}

// looks holds what is told of a text against the rule.
func looks(t *testing.T, s string) {
	t.Helper()
	var want api.File
	var bad api.Fault
	for _, i := range items(t, s) {
		f, l := byRule(want, i)
		if len(l) > 0 {
			want, bad = api.File{}, l[0]
			break
		}
		want = f
	}
	if f, is := Read(s); is != bad || !equal(f, want) {
		t.Fatalf("Read(%q) = %v, %v; want %v, %v", s, f, is, want, bad)
	}
	if f, is := Check(items(t, s)); is != bad || !equal(f, want) {
		t.Fatalf("Check(%q) = %v, %v; want %v, %v", s, f, is, want, bad)
	}
}

// some are items that hang together in many ways.
func some() []string {
	return strings.Split(strings.TrimSpace(`fun f/1.
fun f/7.
fun n/0.
fun pair/2.
fun fst/2.
name n.
name f.
name fst.
use pair.
use hash.
use foo.
rule f(X) = X.
rule f(n) = n.
rule fst(pair(X, Y)) = f(X).
rule n = f(X).
rule X = n.
rule pair(X, n) = f(Y, Z).
frame p:.
frame p: n; f(n).
frame q: pair(n, f(n)).
frame n: X.
deduce p n.
deduce q f(f(n)).
deduce q fst(n).
equiv p q.
equiv q n.
normal f(n).
normal n.
normal n(n).
normal pair($1, n).`), "\n")
}

// P13.2, P13.3: all short texts of such items, and long ones.
func TestTextsByRule(t *testing.T) {
	of := some()
	texts := []string{""}
	for range 3 {
		var longer []string
		for _, s := range texts {
			for _, x := range of {
				more := s + " " + x
				looks(t, more)
				if _, bad := Read(more); bad.Err == api.OK {
					longer = append(longer, more)
				}
			}
		}
		texts = longer
	}
	r := rand.New(rand.NewSource(13))
	longest := 0
	for range 3000 {
		s := texts[r.Intn(len(texts))]
		for n := range 60 {
			more := s + "\n" + of[r.Intn(len(of))]
			looks(t, more)
			if _, bad := Read(more); bad.Err == api.OK {
				s, longest = more, max(longest, n)
			} else if r.Intn(6) == 0 {
				break
			}
		}
	}
	if longest < 20 {
		t.Error(longest)
	}
}

// P13.1: what Term tells is what a query of it has.
func TestTermByQuery(t *testing.T) {
	f := right(t, declared)
	r := rand.New(rand.NewSource(1))
	var drawn func(deep int) string
	drawn = func(deep int) string {
		if deep == 0 || r.Intn(3) == 0 {
			return []string{"c", "n", "m", "f", "X", "$1", "%0", "a"}[r.Intn(8)*r.Intn(3)/2]
		}
		if r.Intn(12) == 0 {
			return "n(" + drawn(deep-1) + ")"
		}
		if r.Intn(2) == 0 {
			return "f(" + drawn(deep-1) + ")"
		}
		return "g(" + drawn(deep-1) + ", " + drawn(deep-1) + ")"
	}
	right := 0
	for range 20000 {
		s := drawn(1 + r.Intn(5))
		got, bad := saying(t, f, s)
		ahead := declared + "normal "
		asked, is := Read(ahead + s + ".")
		if bad.Err != api.OK {
			bad.At += len(ahead)
		}
		if is != bad || bad.Err == api.OK && !equal(asked.Queries[0].T, got) || bad.Err != api.OK && !equal(got, api.Term{}) {
			t.Fatalf("Term(%q) = %v, %v; asked: %v, %v", s, got, bad, asked, is)
		}
		if bad.Err == api.OK {
			right++
			if !term.Ground(got) {
				t.Fatal(s)
			}
		}
	}
	if right < 1000 {
		t.Error(right)
	}
}

// P1: items of all keys with any words and terms come to an end, with a file or a fault.
func TestOddItems(t *testing.T) {
	r := rand.New(rand.NewSource(7))
	var tree func(deep int) grammar.Tree
	tree = func(deep int) grammar.Tree {
		x := grammar.Tree{Kind: r.Intn(9) - 1, Text: []string{"f", "n", "p", "X", "", "fun", "\xff", "pair"}[r.Intn(8)], N: r.Intn(9) - 1, At: r.Intn(9) - 4}
		if r.Intn(2) == 0 {
			x.Kind = api.KFun
		}
		for range r.Intn(3) {
			if deep > 0 {
				x.Args = append(x.Args, tree(deep-1))
			}
		}
		return x
	}
	trees := func() []grammar.Tree {
		var l []grammar.Tree
		for range r.Intn(4) {
			l = append(l, tree(2))
		}
		return l
	}
	keys := append(chars.Keys(), "", "foo", "Fun")
	ahead := items(t, "fun f/1. name n. frame p: f(n).")
	right := 0
	for range 100000 {
		l := slices.Clone(ahead)
		for range 1 + r.Intn(3) {
			l = append(l, grammar.Item{Key: keys[r.Intn(len(keys))], At: r.Intn(99), Words: trees(), Trees: trees()})
		}
		f, bad := Check(l)
		if bad.Err == api.OK {
			right++
		}
		if bad.Err == api.OK && (bad.At != 0 || len(f.Frames) == 0) || bad.Err != api.OK && !equal(f, api.File{}) {
			t.Fatal(l, f, bad)
		}
		x := tree(3)
		if y, bad := Term(f, x); bad.Err == api.OK && (bad.At != 0 || !term.Ground(y)) || bad.Err != api.OK && (bad.Err != api.ErrScope && bad.Err != api.ErrArity || !equal(y, api.Term{})) {
			t.Fatal(f, x, y, bad)
		}
	}
	if right < 20 {
		t.Error(right)
	}
}

// everything is a text with all that a text may have.
const everything = "use pair. fun k/0. fun f/2. name n. name m. rule f(X, f(Y, k)) = pair(X, Y). frame p: pair(n, k); n; f(m, k). frame q:. deduce p f(n, k). equiv p q. normal fst(pair(n, m))."

// P2: no answer shares memory with what was handed in, or with another answer.
func TestAnswersAreNotShared(t *testing.T) {
	l := items(t, everything)
	f, _ := Check(l)
	want := right(t, everything)
	x, _ := Frame(f, "p")
	x.Terms[0] = term.Fun("spoilt")
	_ = append(x.Terms[:1], term.Fun("spoilt"), term.Fun("spoilt"))
	if !equal(f, want) {
		t.Error("a frame that is told shares memory with the file")
	}
	y, _ := saying(t, f, "f(k, n)")
	f.Theory.Funs[0].Name, f.Theory.Rules[0].L, f.Names[0], f.Queries[0].Left = "spoilt", term.Fun("spoilt"), "spoilt", "spoilt"
	f.Frames[0].Name, f.Frames[0].Terms[0] = "spoilt", term.Fun("spoilt")
	f.Frames[0].Terms[2].Args[0] = term.Fun("spoilt")
	f.Theory.Rules[2].L.Args[0] = term.Fun("spoilt")
	if g, bad := Check(l); bad.Err != api.OK || !equal(g, want) || !equal(right(t, everything), want) || term.Show(y) != "f(k, n)" {
		t.Error("an answer changes another one")
	}
	if !equal(l, items(t, everything)) {
		t.Error("an answer changes what was handed in")
	}
	for i := range l {
		for j := range l[i].Trees {
			l[i].Trees[j].Text = "spoilt"
			for k := range l[i].Trees[j].Args {
				l[i].Trees[j].Args[k].Text = "spoilt"
			}
		}
	}
	g := right(t, everything)
	g.Theory.Funs, g.Theory.Rules, g.Names = append(g.Theory.Funs, api.Fun{}), append(g.Theory.Rules, api.Rule{}), append(g.Names, "more")
	for i := range g.Frames {
		g.Frames[i].Terms = append(g.Frames[i].Terms, term.Fun("more"))
	}
	g.Frames = append(g.Frames, api.Frame{})
	g.Queries = append(g.Queries, api.Query{})
	if n := len(want.Frames[0].Terms); !equal(g.Frames[0].Terms[:n], want.Frames[0].Terms) || !equal(g.Frames[1].Terms, []api.Term{term.Fun("more")}) || !equal(g.Queries[:3], want.Queries) {
		t.Error("two lists of one answer share memory")
	}
}

// P2: what is handed in isn't changed, and what is behind a list's length doesn't count.
func TestUnchanged(t *testing.T) {
	l := items(t, everything)
	behind := grammar.Tree{Kind: api.KFun, Text: "behind", At: 99}
	var roomy func(l []grammar.Tree) []grammar.Tree
	roomy = func(l []grammar.Tree) []grammar.Tree {
		for i := range l {
			l[i].Args = roomy(l[i].Args)
		}
		return append(append(make([]grammar.Tree, 0, len(l)+1), l...), behind)[:len(l)]
	}
	for i := range l {
		l[i].Words, l[i].Trees = roomy(l[i].Words), roomy(l[i].Trees)
	}
	l = append(l, grammar.Item{Key: "behind"})[:len(l)]
	f, bad := Check(l)
	if bad != (api.Fault{}) || !equal(f, right(t, everything)) || !equal(l, items(t, everything)) || l[:len(l)+1][len(l)].Key != "behind" {
		t.Error(f, bad)
	}
	for _, i := range l {
		if !equal(i.Words[:len(i.Words)+1][len(i.Words)], behind) || !equal(i.Trees[:len(i.Trees)+1][len(i.Trees)], behind) {
			t.Error("changed behind the length:", i)
		}
	}
	f.Names = append(f.Names, "behind")[:len(f.Names)]
	f.Theory.Funs = append(f.Theory.Funs, api.Fun{Name: "behind"})[:len(f.Theory.Funs)]
	f.Frames = append(f.Frames, api.Frame{Name: "behind"})[:len(f.Frames)]
	f.Frames[0].Terms = append(f.Frames[0].Terms, term.Fun("behind"))[:len(f.Frames[0].Terms)]
	if x, bad := Term(f, behind); bad != fault(api.ErrScope, 99) {
		t.Error(x, bad)
	}
	if x, is := Frame(f, "behind"); is {
		t.Error(x)
	}
	x, _ := Frame(f, "p")
	if slices.ContainsFunc(x.Terms[:cap(x.Terms)], func(x api.Term) bool { return x.Name == "behind" }) {
		t.Error("what is behind a list's length is handed out")
	}
	if again := right(t, everything); !equal(f, again) {
		t.Error("changed", f)
	}
}

// P3: a nil list and an empty one are the same.
func TestEmptyLists(t *testing.T) {
	for _, l := range [][]grammar.Item{nil, {}} {
		if f, bad := Check(l); bad != (api.Fault{}) || !equal(f, api.File{}) {
			t.Error(f, bad)
		}
	}
	empty := api.File{Theory: api.Theory{Funs: []api.Fun{}, Rules: []api.Rule{}}, Names: []string{}, Frames: []api.Frame{{Name: "p", Terms: []api.Term{}}}, Queries: []api.Query{}}
	if x, bad := Term(empty, grammar.Tree{Kind: api.KFun, Text: "p", At: 4, Args: []grammar.Tree{}}); bad != fault(api.ErrScope, 4) || !equal(x, api.Term{}) {
		t.Error(x, bad)
	}
	if x, is := Frame(empty, "p"); !is || !equal(x, api.Frame{Name: "p"}) {
		t.Error(x, is)
	}
	if f, bad := Check([]grammar.Item{{Key: "frame", Words: []grammar.Tree{{Kind: api.KFun, Text: "p", Args: []grammar.Tree{}}}, Trees: []grammar.Tree{}}}); bad != (api.Fault{}) || !equal(f, api.File{Frames: []api.Frame{{Name: "p"}}}) {
		t.Error(f, bad)
	}
}

// P1: trees that lie deep in one another, up to the bound, and long lists.
func TestDeepAndLong(t *testing.T) {
	const deep = 1<<16 - 1
	x, y := grammar.Tree{Kind: api.KFun, Text: "c"}, grammar.Tree{Kind: api.KVar, Text: "X", At: 5}
	for range deep {
		x, y = grammar.Tree{Kind: api.KFun, Text: "f", Args: []grammar.Tree{x}}, grammar.Tree{Kind: api.KFun, Text: "f", Args: []grammar.Tree{y}}
	}
	l := items(t, "fun c/0. fun f/1. frame p:.")
	f, _ := Check(l)
	if z, bad := Term(f, x); bad != (api.Fault{}) || term.Depth(z) != deep+1 {
		t.Error(bad)
	}
	if z, bad := Term(f, y); bad != fault(api.ErrScope, 5) || !equal(z, api.Term{}) {
		t.Error(bad)
	}
	l = append(l, grammar.Item{Key: "rule", Trees: []grammar.Tree{y, x}}, grammar.Item{Key: "rule", Trees: []grammar.Tree{y, y}}, grammar.Item{Key: "normal", Trees: []grammar.Tree{x}})
	if f, bad := Check(l); bad != (api.Fault{}) || len(f.Theory.Rules) != 2 || term.Size(f.Theory.Rules[1].R) != deep+1 || term.Depth(f.Queries[0].T) != deep+1 {
		t.Error(bad)
	}
	if f, bad := Check(append(l, grammar.Item{Key: "rule", Trees: []grammar.Tree{x, y}})); bad != fault(api.ErrScope, 5) || !equal(f, api.File{}) {
		t.Error(bad)
	}
	many := slices.Repeat(items(t, "use pair."), 1<<16)
	if f, bad := Check(many); bad != (api.Fault{}) || len(f.Theory.Funs) != 3 {
		t.Error(bad)
	}
	long := grammar.Item{Key: "frame", Words: []grammar.Tree{{Kind: api.KFun, Text: "q"}}, Trees: slices.Repeat([]grammar.Tree{{Kind: api.KFun, Text: "c", At: 3}}, 1<<20)}
	if f, bad := Check(append(l, long)); bad != fault(api.ErrLong, 3) || !equal(f, api.File{}) {
		t.Error(bad)
	}
	wide := grammar.Tree{Kind: api.KFun, Text: "f", At: 8, Args: slices.Repeat([]grammar.Tree{{Kind: api.KFun, Text: "c"}}, 1<<20)}
	if _, bad := Term(f, wide); bad != fault(api.ErrArity, 8) {
		t.Error(bad)
	}
}

// The chapter's example.
func TestExample(t *testing.T) {
	fails(t, "fun f/1. rule f(X) = Y.", fault(api.ErrScope, 21))
}
