package grammar

import (
	"math"
	"math/rand"
	"reflect"
	"slices"
	"strconv"
	"strings"
	"testing"

	"picklock/api"
	"picklock/chars"
	"picklock/lex"
	"picklock/term"
)

func fun(text string, at int, args ...Tree) Tree {
	return Tree{Kind: api.KFun, Text: text, At: at, Args: args}
}

func upper(text string, at int) Tree { return Tree{Kind: api.KVar, Text: text, At: at} }

func hand(n, at int) Tree {
	return Tree{Kind: api.KHand, Text: "$" + strconv.Itoa(n), N: n, At: at}
}

func fresh(n, at int) Tree {
	return Tree{Kind: api.KFresh, Text: "%" + strconv.Itoa(n), N: n, At: at}
}

func number(n, at int) Tree { return Tree{Text: strconv.Itoa(n), N: n, At: at} }

// equal tells whether two values are alike, a nil list and an empty one too.
func equal(a, b any) bool {
	x, y := reflect.ValueOf(a), reflect.ValueOf(b)
	if x.Type() != y.Type() {
		return false
	}
	switch x.Kind() {
	case reflect.Slice:
		for i := 0; i < min(x.Len(), y.Len()); i++ {
			if !equal(x.Index(i).Interface(), y.Index(i).Interface()) {
				return false
			}
		}
		return x.Len() == y.Len()
	case reflect.Struct:
		for i := range x.NumField() {
			if !equal(x.Field(i).Interface(), y.Field(i).Interface()) {
				return false
			}
		}
		return true
	}
	return a == b
}

// short cuts a text for a message.
func short(s string) string { return s[:min(len(s), 60)] }

// parses checks what Parse tells of a text that is right.
func parses(t *testing.T, s string, want ...Item) {
	t.Helper()
	l, f := Parse(s)
	if f != (api.Fault{}) || !equal(l, want) {
		t.Errorf("Parse(%q) = %v, %v; want %v", short(s), l, f, want)
	}
}

// fails checks the fault that Parse tells, and that it tells nothing else.
func fails(t *testing.T, s string, err api.Errno, at int) {
	t.Helper()
	l, f := Parse(s)
	if f != (api.Fault{Err: err, At: at}) || len(l) > 0 {
		t.Errorf("Parse(%q) = %v, %v; want error %d at %d", short(s), l, f, err, at)
	}
}

// termFails checks the fault that Term tells, and that it tells nothing else.
func termFails(t *testing.T, s string, err api.Errno, at int) {
	t.Helper()
	x, f := Term(s)
	if f != (api.Fault{Err: err, At: at}) || !equal(x, Tree{}) {
		t.Errorf("Term(%q) = %v, %v; want error %d at %d", short(s), x, f, err, at)
	}
}

// nested is a term with that many brackets open at once.
func nested(deep int) string {
	return strings.Repeat("f(", deep) + "a" + strings.Repeat(")", deep)
}

// example is a text with an item of each key.
const example = "fun f/2. name n.\nrule f(X, n) = X. frame p: . frame q: n; f(n, $1). deduce p n. equiv p q. normal f(a, %0). use pair."

// P11.1: an item of each key, as it stands in a text.
func TestItems(t *testing.T) {
	parses(t, "fun f/2.", Item{Key: "fun", Words: []Tree{fun("f", 4), number(2, 6)}})
	parses(t, " name n .", Item{Key: "name", At: 1, Words: []Tree{fun("n", 6)}})
	parses(t, "use pair.", Item{Key: "use", Words: []Tree{fun("pair", 4)}})
	parses(t, "rule f(X)=X.", Item{Key: "rule", Trees: []Tree{fun("f", 5, upper("X", 7)), upper("X", 10)}})
	parses(t, "frame p:.", Item{Key: "frame", Words: []Tree{fun("p", 6)}})
	parses(t, "frame p: a.", Item{Key: "frame", Words: []Tree{fun("p", 6)}, Trees: []Tree{fun("a", 9)}})
	parses(t, "frame p: a; X;$1.", Item{Key: "frame", Words: []Tree{fun("p", 6)}, Trees: []Tree{fun("a", 9), upper("X", 12), hand(1, 14)}})
	parses(t, "deduce p a.", Item{Key: "deduce", Words: []Tree{fun("p", 7)}, Trees: []Tree{fun("a", 9)}})
	parses(t, "equiv p q.", Item{Key: "equiv", Words: []Tree{fun("p", 6), fun("q", 8)}})
	parses(t, "normal %0.", Item{Key: "normal", Trees: []Tree{fresh(0, 7)}})
}

// P11.1: the items of a file, in order.
func TestFile(t *testing.T) {
	parses(t, "")
	parses(t, " \n# fun f/1.\n")
	parses(t, "name a.name b.\n\nuse c.",
		Item{Key: "name", Words: []Tree{fun("a", 5)}},
		Item{Key: "name", At: 7, Words: []Tree{fun("b", 12)}},
		Item{Key: "use", At: 16, Words: []Tree{fun("c", 20)}})
	parses(t, "fun # fun\nf\n/ # 1.\n0 . #",
		Item{Key: "fun", Words: []Tree{fun("f", 10), number(0, 19)}})
	parses(t, "fun f/999.\trule rules=use_.",
		Item{Key: "fun", Words: []Tree{fun("f", 4), number(999, 6)}},
		Item{Key: "rule", At: 11, Trees: []Tree{fun("rules", 16), fun("use_", 22)}})
}

// P11.1: terms of all kinds, in one another.
func TestTerms(t *testing.T) {
	for s, want := range map[string]Tree{
		"a":               fun("a", 0),
		"X_1":             upper("X_1", 0),
		"$999":            hand(999, 0),
		"%0":              fresh(0, 0),
		" a # b\n":        fun("a", 1),
		"f(X, $1)":        fun("f", 0, upper("X", 2), hand(1, 5)),
		"f(g(a),h(b,%7))": fun("f", 0, fun("g", 2, fun("a", 4)), fun("h", 7, fun("b", 9), fresh(7, 11))),
		"f ( #)\na)":      fun("f", 0, fun("a", 7)),
		"f(a,a,a,a,a,a,a)": fun("f", 0, fun("a", 2), fun("a", 4), fun("a", 6), fun("a", 8), fun("a", 10),
			fun("a", 12), fun("a", 14)),
	} {
		x, f := Term(s)
		if f != (api.Fault{}) || !equal(x, want) {
			t.Errorf("Term(%q) = %v, %v; want %v", s, x, f, want)
		}
	}
}

// P11.2: the first token with which no file begins.
func TestFaults(t *testing.T) {
	for _, c := range []struct {
		s  string
		at int
	}{
		{"fun f.", 5}, {"rule X.", 6}, {"foo.", 0}, {"name X.", 5}, {"normal f(a,).", 11}, {"normal f().", 9}, {"equiv p.", 7}, {"use pair", 8}, {"deduce p.", 8}, {"frame p q.", 8}, {"name rule.", 5}, {"normal $1(a).", 9},
		{"X.", 0}, {".", 0}, {"5", 0}, {"$1", 0}, {"(", 0}, {"Fun f/1.", 0}, {"funs f/1.", 0}, {"name a. b. name c.", 8}, {"name a.. name b.", 7}, {"name a; name b.", 6}, {"name a name b.", 7},
		{"fun", 3}, {"fun f", 5}, {"fun f/", 6}, {"fun f/1", 7}, {"fun f 1.", 6}, {"fun f/a.", 6}, {"fun f/$1.", 6}, {"fun F/1.", 4}, {"fun use/1.", 4}, {"fun f/1/2.", 7}, {"fun f/1, g/2.", 7}, {"fun f(X)/1.", 5}, {"fun 1/f.", 4}, {"fun f/-1.", 6},
		{"name", 4}, {"name .", 5}, {"name a b.", 7}, {"name a, b.", 6}, {"name a/0.", 6}, {"name a(b).", 6}, {"name $1.", 5}, {"name 1.", 5}, {"use.", 3}, {"use X.", 4}, {"use pair senc.", 9}, {"use use.", 4},
		{"rule a.", 6}, {"rule = a.", 5}, {"rule a =.", 8}, {"rule a = b = c.", 11}, {"rule a == b.", 8}, {"rule a, b.", 6}, {"rule a = b c.", 11}, {"rule a = fun.", 9}, {"rule 1 = a.", 5}, {"rule X(a) = a.", 6}, {"rule f(X = X.", 9}, {"rule f(X)) = X.", 9},
		{"frame p.", 7}, {"frame p a.", 8}, {"frame P: a.", 6}, {"frame p: a;.", 11}, {"frame p: ;a.", 9}, {"frame p: a, b.", 10}, {"frame p: a b.", 11}, {"frame p:: a.", 8}, {"frame p:", 8}, {"frame p: a;; b.", 11}, {"frame p: a: b.", 10}, {"frame frame: a.", 6}, {"frame : a.", 6}, {"frame p q: a.", 8},
		{"deduce p", 8}, {"deduce a(b) c.", 8}, {"deduce p a b.", 11}, {"deduce X a.", 7}, {"deduce p, a.", 8}, {"deduce p: a.", 8}, {"deduce p 7.", 9}, {"deduce p name.", 9}, {"deduce p a", 10},
		{"equiv p", 7}, {"equiv p q", 9}, {"equiv p q r.", 10}, {"equiv p, q.", 7}, {"equiv p Q.", 8}, {"equiv p $1.", 8}, {"equiv p = q.", 8}, {"equiv equiv p.", 6}, {"equiv p use.", 8}, {"equiv p q(a).", 9},
		{"normal.", 6}, {"normal a", 8}, {"normal a b.", 9}, {"normal a; b.", 8}, {"normal f(a; b).", 10}, {"normal f(a.", 10}, {"normal f(a", 10}, {"normal f(,a).", 9}, {"normal f(a b).", 11}, {"normal f((a)).", 9}, {"normal (a).", 7}, {"normal f(a)(b).", 11}, {"normal f(a)a.", 11}, {"normal f(1).", 9}, {"normal X(a).", 8}, {"normal %0(a).", 9}, {"normal f(rule).", 9}, {"normal rule(a).", 7}, {"normal a).", 8}, {"normal f(.", 9}, {"normal f(a,", 11}, {"normal f(a=b).", 10},
		{"normal a # .\n", 13}, {"normal a.\n\n q", 12}, {"use pair ", 9}, {"use pair.\nname rule.\nfoo", 15},
	} {
		fails(t, c.s, api.ErrSyntax, c.at)
	}
}

// P11.2: nothing is told but the fault, however much is right ahead of it.
func TestFaultBehindItems(t *testing.T) {
	fails(t, example+"\n"+example+" name", api.ErrSyntax, 2*len(example)+6)
	fails(t, example+"rule f(X, n) = f(X, n) X.", api.ErrSyntax, len(example)+23)
	termFails(t, "f(f(a, b), f(c, d)) .", api.ErrSyntax, 20)
}

// P11.2: a fault of the tokens comes ahead of all others.
func TestFaultsOfTokens(t *testing.T) {
	fails(t, "foo. &", api.ErrSyntax, 5)
	fails(t, "name a. _", api.ErrSyntax, 8)
	fails(t, "fun f/1000.", api.ErrSyntax, 6)
	fails(t, "normal $0.", api.ErrSyntax, 7)
	fails(t, "name n-1.", api.ErrSyntax, 6)
	fails(t, "name "+strings.Repeat("n", api.MaxName+1)+".", api.ErrSyntax, 5)
	termFails(t, ") é", api.ErrSyntax, 2)
	termFails(t, "f(\xff", api.ErrSyntax, 2)
	long := strings.Repeat(" ", api.MaxText)
	parses(t, long)
	parses(t, "name a."+long[7:], Item{Key: "name", Words: []Tree{fun("a", 5)}})
	for _, s := range []string{long + " ", "foo" + long, "name a." + long} {
		fails(t, s, api.ErrLong, 0)
		termFails(t, s, api.ErrLong, 0)
	}
	fails(t, "name a"+long[6:], api.ErrSyntax, api.MaxText)
}

// P11.2: a term is all of the text.
func TestTermFaults(t *testing.T) {
	for s, at := range map[string]int{
		"": 0, "  ": 2, "# a": 3, "f(X) a": 5, "a.": 1, "a, b": 1, "a b": 2, "f(": 2, "f(a": 3, "f()": 2, "f(a,)": 4, "(a)": 0, "fun": 0, "f(use)": 2, "5": 0, "X(a)": 1, "$1(a)": 2, "f(a))": 4, "f(a)(b)": 4, "rule f(X) = X.": 0, "a = b": 2, ".": 0, "f(a;b)": 3, "f (\n( #)\na)": 4,
	} {
		termFails(t, s, api.ErrSyntax, at)
	}
}

// P11.2: MaxNest brackets may be open at once, and a fault is at the one that is too many.
func TestNest(t *testing.T) {
	most, over := nested(api.MaxNest), nested(api.MaxNest+1)
	at := 2*api.MaxNest + 1
	if x, f := Term(most); f != (api.Fault{}) || term.Depth(Plain(x)) != api.MaxNest+1 {
		t.Error(f)
	}
	termFails(t, over, api.ErrSyntax, at)
	for _, s := range []string{"f()", "f(X Y", "f(1)", "f((", "f(", "f(a,)", "f(rule)"} {
		termFails(t, strings.Repeat("f(", api.MaxNest)+s, api.ErrSyntax, at)
	}
	termFails(t, strings.Repeat("f(", 500), api.ErrSyntax, at)
	termFails(t, strings.Repeat("f(", api.MaxNest)+"$1(", api.ErrSyntax, at+1)
	termFails(t, strings.Repeat("f(", api.MaxNest)+"a)(", api.ErrSyntax, at+1)
	termFails(t, strings.Repeat("f(", api.MaxNest-1)+"f)(a", api.ErrSyntax, at-1)
	termFails(t, strings.Repeat("f(", api.MaxNest)+"f, f(", api.ErrSyntax, at+3)
	fails(t, "name a. normal "+over+".", api.ErrSyntax, at+15)
	fails(t, "rule "+most+" = "+over+".", api.ErrSyntax, 5+len(most)+3+at)
	fails(t, "deduce p "+over+".", api.ErrSyntax, at+9)
	fails(t, "frame p: a; "+over+". &", api.ErrSyntax, len("frame p: a; "+over+". "))
	fails(t, "frame p: a; "+over+". .", api.ErrSyntax, at+12)
}

// P11.2: brackets that are closed again don't count.
func TestNestIsOfOpenBrackets(t *testing.T) {
	most := nested(api.MaxNest)
	within := nested(api.MaxNest - 1)
	for _, s := range []string{
		"frame p: " + most + "; " + most + "; " + most + ".",
		"rule " + most + " = " + most + ". normal " + most + ".",
		"normal g(" + strings.Repeat(within+", ", 20) + within + ").",
	} {
		if _, f := Parse(s); f != (api.Fault{}) {
			t.Errorf("Parse(%q): %v", s, f)
		}
	}
	termFails(t, "g("+within+", "+most+")", api.ErrSyntax, 2+len(within)+2+2*(api.MaxNest-1)+1)
}

// P11.2: a tree as a term.
func TestPlain(t *testing.T) {
	variable := api.Term{Kind: api.KVar, Name: "X"}
	constant := api.Term{Kind: api.KFun, Name: "a"}
	for _, c := range []struct {
		t    Tree
		want api.Term
	}{
		{upper("X", 7), variable}, {fun("a", 7), constant}, {hand(12, 7), api.Term{Kind: api.KHand, N: 12}}, {fresh(0, 7), api.Term{Kind: api.KFresh}}, {fresh(3, 0), api.Term{Kind: api.KFresh, N: 3}},
		{fun("f", 1, upper("X", 3), fun("g", 5, fun("a", 7)), hand(1, 9)), term.Fun("f", variable, term.Fun("g", constant), api.Term{Kind: api.KHand, N: 1})},
		{Tree{}, api.Term{}}, {number(5, 2), api.Term{}}, {Tree{Kind: api.KName, Text: "k", N: 3, At: 1}, api.Term{Kind: api.KName}}, {Tree{Kind: -7, Text: "k", N: 3, Args: []Tree{fun("a", 0)}}, api.Term{Kind: -7}},
		{Tree{Kind: api.KFun, N: 4, Args: []Tree{}}, api.Term{Kind: api.KFun}}, {Tree{Kind: api.KFun, Text: "A b", N: 4, Args: []Tree{{}, {N: 1}}}, api.Term{Kind: api.KFun, Name: "A b", Args: []api.Term{{}, {}}}},
		{Tree{Kind: api.KHand, Text: "$1", N: -3}, api.Term{Kind: api.KHand, N: -3}}, {Tree{Kind: api.KFresh, N: math.MaxInt, Args: []Tree{{}}}, api.Term{Kind: api.KFresh, N: math.MaxInt}}, {Tree{Kind: api.KVar, Text: "X", N: 5, Args: []Tree{fun("a", 0)}}, variable},
	} {
		if got := Plain(c.t); !equal(got, c.want) {
			t.Errorf("Plain(%v) = %v; want %v", c.t, got, c.want)
		}
	}
}

// P11.3: an item a line.
func TestShow(t *testing.T) {
	for s, want := range map[string]string{
		"":                                  "",
		" # name a.\n":                      "",
		"fun  f / 2 .":                      "fun f/2.\n",
		"fun f/0.fun g/999.":                "fun f/0.\nfun g/999.\n",
		"name\nn\n.":                        "name n.\n",
		"use pair#\n.":                      "use pair.\n",
		"rule f(X,n)=X.":                    "rule f(X, n) = X.\n",
		"rule X = f ( g ( $1 , %0 ) ) .":    "rule X = f(g($1, %0)).\n",
		"frame p : .":                       "frame p:.\n",
		"frame p:a.":                        "frame p: a.\n",
		"frame p:a;f(b,c) ;$1.":             "frame p: a; f(b, c); $1.\n",
		"deduce p  f(a).":                   "deduce p f(a).\n",
		"equiv   p   q .":                   "equiv p q.\n",
		"normal\tf(X,Y,Z).":                 "normal f(X, Y, Z).\n",
		"name b. name a. use c. fun a / 1.": "name b.\nname a.\nuse c.\nfun a/1.\n",
		example:                             "fun f/2.\nname n.\nrule f(X, n) = X.\nframe p:.\nframe q: n; f(n, $1).\ndeduce p n.\nequiv p q.\nnormal f(a, %0).\nuse pair.\n",
	} {
		l, f := Parse(s)
		if got := Show(l); got != want || f != (api.Fault{}) {
			t.Errorf("Show of %q = %q, %v; want %q", s, got, f, want)
		}
	}
}

// P11.3: words are shown as their texts, and terms by what Plain tells of them.
func TestShowOfMadeItems(t *testing.T) {
	for _, c := range []struct {
		i    Item
		want string
	}{
		{Item{Key: "fun", At: 5, Words: []Tree{{Text: "f", N: 4}, {Kind: 9, Text: "07", N: 3, Args: []Tree{{}}}}}, "fun f/07.\n"},
		{Item{Key: "name", Words: []Tree{{Text: "X"}}}, "name X.\n"},
		{Item{Key: "normal", Trees: []Tree{{Kind: api.KHand, Text: "$1", N: 2}}}, "normal $2.\n"},
		{Item{Key: "normal", Trees: []Tree{{Kind: api.KFresh, Text: "x", N: 7}}}, "normal %7.\n"},
		{Item{Key: "frame", Words: []Tree{{Text: "p"}}, Trees: []Tree{number(5, 1), {Kind: api.KFun, Text: "f", N: 8, Args: []Tree{{}}}}}, "frame p: ?; f(?).\n"},
	} {
		if got := Show([]Item{c.i}); got != c.want {
			t.Errorf("Show(%v) = %q; want %q", c.i, got, c.want)
		}
	}
}

// odd are items of all keys, and of others, with any words and terms.
func odd() []Item {
	var l []Item
	lists := [][]Tree{nil, {{}}, {fun("a", 1)}, {number(2, 3), upper("X", 1)}, {{Kind: -1, Text: "\xff", N: -1}, {Kind: api.KFun}, fun("f", 0, Tree{Kind: 99})}}
	for _, key := range append(chars.Keys(), "", "foo", "Fun", "fun ", "\x00") {
		for _, words := range lists {
			for _, trees := range lists {
				l = append(l, Item{Key: key, At: -len(l), Words: words, Trees: trees})
			}
		}
	}
	return l
}

// P1 of the rules that hold everywhere: items that no text has.
func TestOddItems(t *testing.T) {
	l := odd()
	if !Same(l, odd()) || Same(l, l[1:]) {
		t.Error("Same")
	}
	for i := range l {
		one := Show(l[i : i+1])
		if !strings.HasPrefix(one, l[i].Key) || strings.Count(one, "\n") != 1 || !strings.HasSuffix(one, ".\n") {
			t.Errorf("Show(%v) = %q", l[i], one)
		}
		for j := range l {
			if Same(l[i:i+1], l[j:j+1]) != (i == j) {
				t.Errorf("Same(%v, %v) isn't %v", l[i], l[j], i == j)
			}
		}
	}
}

// everyTree calls back for each tree in items.
func everyTree(l []Item, do func(*Tree)) {
	var within func(l []Tree)
	within = func(l []Tree) {
		for i := range l {
			do(&l[i])
			within(l[i].Args)
		}
	}
	for i := range l {
		within(l[i].Words)
		within(l[i].Trees)
	}
}

// again parses a text that is right.
func again(t *testing.T, s string) []Item {
	t.Helper()
	l, f := Parse(s)
	if f != (api.Fault{}) {
		t.Fatalf("Parse(%q): %v", s, f)
	}
	return l
}

// P11.3: alike, but for At, at each place.
func TestSame(t *testing.T) {
	s := "fun f/2. frame p: f(g(X), $1); a. deduce p f(a, %0)."
	l := again(t, s)
	trees := 0
	everyTree(l, func(*Tree) { trees++ })
	for i := range trees {
		for what, change := range []func(*Tree){
			func(x *Tree) { x.At += 5 }, func(x *Tree) { x.Kind++ }, func(x *Tree) { x.Text += "x" }, func(x *Tree) { x.N-- },
			func(x *Tree) { x.Args = append(slices.Clone(x.Args), Tree{}) }, func(x *Tree) { x.Args = x.Args[:max(len(x.Args)-1, 0)] },
		} {
			m, n := again(t, s), 0
			everyTree(m, func(x *Tree) {
				if n == i {
					change(x)
				}
				n++
			})
			want := what == 0 || equal(l, m)
			if Same(l, m) != want || Same(m, l) != want {
				t.Errorf("change %d of tree %d: Same isn't %v", what, i, want)
			}
		}
	}
}

// P11.3: alike, but for At, of items and lists.
func TestSameItems(t *testing.T) {
	l := again(t, example)
	moved, _ := Parse("\n\n " + strings.ReplaceAll(example, ".", " . # .\n"))
	if !Same(l, l) || !Same(l, moved) || !Same(nil, nil) || !Same(nil, []Item{}) {
		t.Error("alike")
	}
	if Same(l, nil) || Same(nil, l) || Same(l, l[:8]) || Same(l[1:], l) || Same(append(l[1:9:9], l[0]), l) {
		t.Error("not alike")
	}
	for i := range l {
		for what, change := range []func(*Item){
			func(x *Item) { x.At-- }, func(x *Item) { x.Key += "s" }, func(x *Item) { x.Words, x.Trees = x.Trees, x.Words },
			func(x *Item) { x.Words = append(x.Words, Tree{}) }, func(x *Item) { x.Trees = append(x.Trees, Tree{}) }, func(x *Item) { x.Words, x.Trees = nil, nil },
		} {
			m := again(t, example)
			change(&m[i])
			want := what == 0
			if what != 0 && equal(l[i], m[i]) || Same(l, m) != want || Same(m, l) != want {
				t.Errorf("change %d of item %d: Same isn't %v", what, i, want)
			}
		}
	}
	a := []Item{{Key: "frame", Words: []Tree{{}}}}
	b := []Item{{Key: "frame", Words: []Tree{{Args: []Tree{}}}, Trees: []Tree{}}}
	if !Same(a, b) || !Same(b, a) || Show(a) != Show(b) {
		t.Error("a nil list and an empty one are the same")
	}
}

// oracle is the document's grammar, a word for each kind of token.
var oracle = map[string][]string{
	"FILE": {"", "ITEM FILE"},
	"ITEM": {"fun word / int .", "name word .", "use word .", "rule TERM = TERM .", "frame word : LIST .", "deduce word TERM .", "equiv word word .", "normal TERM ."},
	"LIST": {"", "TERM MORE"},
	"MORE": {"", "; TERM MORE"},
	"TERM": {"upper", "hand", "fresh", "word", "word ( TERM ARGS )"},
	"ARGS": {"", ", TERM ARGS"},
	"LONE": {"TERM"},
}

// stacks are all that may stand behind what is read: rows of words, of which the first is next.
type stacks map[string]bool

// open are the stacks that begin with a kind of tokens, or are at the end.
func (s stacks) open() stacks {
	l := stacks{}
	var put func(row string)
	put = func(row string) {
		first, rest, _ := strings.Cut(row, " ")
		if oracle[first] == nil {
			l[row] = true
			return
		}
		for _, way := range oracle[first] {
			put(strings.Trim(way+" "+rest, " "))
		}
	}
	for row := range s {
		put(row)
	}
	return l
}

// with are the stacks behind a token of that kind: none, if nothing begins with it.
func (s stacks) with(kind string) stacks {
	l := stacks{}
	for row := range s.open() {
		if first, rest, _ := strings.Cut(row, " "); first == kind {
			l[rest] = true
		}
	}
	return l
}

// kindOf tells the oracle's word for a token.
func kindOf(t api.Token) string {
	switch {
	case t.Kind == api.TkWord && !chars.Key(t.Text):
		return "word"
	case t.Kind == api.TkUpper:
		return "upper"
	case t.Kind == api.TkInt:
		return "int"
	case t.Kind == api.TkHand:
		return "hand"
	case t.Kind == api.TkFresh:
		return "fresh"
	}
	return t.Text
}

// firstFault tells by the oracle at which byte a text is wrong, or -1.
func firstFault(start, s string) int {
	l, _ := lex.Scan(s)
	now, deep := stacks{start: true}, 0
	for _, x := range l {
		if x.Kind == api.TkEnd {
			if now.open()[""] {
				return -1
			}
			return x.At
		}
		now = now.with(kindOf(x))
		deep += strings.Count(x.Text, "(") - strings.Count(x.Text, ")")
		if len(now) == 0 || deep > api.MaxNest {
			return x.At
		}
	}
	return -1
}

// tokens tells which tokens but signs a list of items has, in order.
func tokens(l []Item) []api.Token {
	var out []api.Token
	var put func(l []Tree)
	put = func(l []Tree) {
		for _, x := range l {
			kind := map[int]int{0: api.TkInt, api.KVar: api.TkUpper, api.KHand: api.TkHand, api.KFresh: api.TkFresh, api.KFun: api.TkWord}[x.Kind]
			out = append(out, api.Token{Kind: kind, Text: x.Text, N: x.N, At: x.At})
			put(x.Args)
		}
	}
	for _, i := range l {
		out = append(out, api.Token{Kind: api.TkWord, Text: i.Key, At: i.At})
		put(i.Words)
		put(i.Trees)
	}
	return out
}

// noSigns are the tokens of a text, but signs and the end.
func noSigns(s string) []api.Token {
	l, _ := lex.Scan(s)
	return slices.DeleteFunc(l, func(x api.Token) bool { return x.Kind == api.TkSign || x.Kind == api.TkEnd })
}

// looks checks all that P11.2 and P11.3 say of one text, by the oracle.
func looks(t *testing.T, s string) {
	t.Helper()
	l, f := Parse(s)
	if at := firstFault("FILE", s); at >= 0 {
		if f != (api.Fault{Err: api.ErrSyntax, At: at}) || len(l) > 0 {
			t.Fatalf("Parse(%q) = %v, %v; want a fault at %d", s, l, f, at)
		}
		return
	}
	if f != (api.Fault{}) || !slices.Equal(tokens(l), noSigns(s)) {
		t.Fatalf("Parse(%q) = %v, %v", s, l, f)
	}
	shown := Show(l)
	had, _ := lex.Scan(s)
	has, _ := lex.Scan(shown)
	if !lex.Same(had, has) {
		t.Fatalf("%q is shown as %q", s, shown)
	}
	if back, g := Parse(shown); g != (api.Fault{}) || !Same(l, back) || !Same(back, l) || Show(back) != shown {
		t.Fatalf("%q, shown and parsed again: %v, %v", s, back, g)
	}
}

// looksLone checks all that P11.2 says of one text as a term, by the oracle.
func looksLone(t *testing.T, s string) {
	t.Helper()
	x, f := Term(s)
	if at := firstFault("LONE", s); at >= 0 {
		if f != (api.Fault{Err: api.ErrSyntax, At: at}) || !equal(x, Tree{}) {
			t.Fatalf("Term(%q) = %v, %v; want a fault at %d", s, x, f, at)
		}
		return
	}
	l := again(t, "normal "+s+"\n.")
	everyTree(l, func(x *Tree) { x.At -= len("normal ") })
	if f != (api.Fault{}) || !equal(x, l[0].Trees[0]) {
		t.Fatalf("Term(%q) = %v, %v", s, x, f)
	}
}

// all calls back for all short rows of tokens that begin something, and one token more.
func all(start string, of []string, most int, do func(s string)) {
	do("")
	texts := []string{""}
	for range most {
		var longer []string
		for _, s := range texts {
			for _, x := range of {
				more := s + " " + x
				do(more)
				if at := firstFault(start, more); at < 0 || at == len(more) {
					longer = append(longer, more)
				}
			}
		}
		texts = longer
	}
}

// P11.2, P11.3: all short rows of tokens.
func TestShortTexts(t *testing.T) {
	of := append(chars.Keys(), "w", "X", "$1", "%0", "5", "(", ")", ",", "/", "=", ".", ";", ":")
	all("FILE", of, 6, func(s string) { looks(t, s) })
	all("LONE", of, 8, func(s string) { looksLone(t, s) })
}

// sentence tells tokens by the grammar, drawn by chance.
func sentence(r *rand.Rand, kind string, left *int) []string {
	ways := oracle[kind]
	if ways == nil {
		words := map[string][]string{"word": {"a", "f", "long_Word_9", "rules"}, "upper": {"X", "Y_1"}, "hand": {"$1", "$999"}, "fresh": {"%0", "%12"}, "int": {"0", "6", "999"}}[kind]
		if words == nil {
			return []string{kind}
		}
		return []string{words[r.Intn(len(words))]}
	}
	*left--
	way := ways[r.Intn(len(ways))]
	if *left < 0 {
		way = ways[0]
	}
	var l []string
	for _, x := range strings.Fields(way) {
		l = append(l, sentence(r, x, left)...)
	}
	return l
}

// spoilt changes one of the tokens.
func spoilt(r *rand.Rand, l []string) []string {
	i, j := r.Intn(len(l)), r.Intn(len(l))
	l = slices.Clone(l)
	switch r.Intn(4) {
	case 0:
		return slices.Delete(l, i, i+1)
	case 1:
		return slices.Insert(l, i, l[j])
	case 2:
		l[i], l[j] = l[j], l[i]
		return l
	}
	return l[:i]
}

// P11.2, P11.3: long files and terms, right and nearly right.
func TestLongTexts(t *testing.T) {
	r := rand.New(rand.NewSource(11))
	gaps := []string{" ", "\n", "\t \r\n", " # . &\n"}
	for range 3000 {
		left := r.Intn(120)
		file := sentence(r, "FILE", &left)
		for range r.Intn(20) {
			file = append(sentence(r, "ITEM", &left), file...)
			left = r.Intn(60)
		}
		left = r.Intn(60)
		lone := sentence(r, "TERM", &left)
		gap := gaps[r.Intn(len(gaps))]
		looks(t, strings.Join(file, gap))
		looksLone(t, strings.Join(lone, gap))
		for range 5 {
			if len(file) > 0 {
				looks(t, strings.Join(spoilt(r, file), gap))
			}
			looksLone(t, strings.Join(spoilt(r, lone), gap))
		}
	}
}

// P11.2: depths about MaxNest, wherever brackets are closed.
func TestNestByOracle(t *testing.T) {
	r := rand.New(rand.NewSource(40))
	for range 400 {
		deep, least := 0, api.MaxNest-5+r.Intn(5)
		s := "f"
		for range 200 {
			if up := deep < least || r.Intn(3) > 0; up && r.Intn(3) > 0 {
				s, deep = s+"(f", deep+1
			} else if up || deep == 0 {
				s += ",g"
			} else {
				s, deep = s+")", deep-1
			}
			if deep == 0 || deep > api.MaxNest+1 {
				break
			}
		}
		s += strings.Repeat(")", deep)
		looksLone(t, s)
		looks(t, "normal "+s+".")
	}
}

// P11.3: there and back, of a text as long as a text may be; what is shown of it may be too long.
func TestThereAndBackOfLongTexts(t *testing.T) {
	one := "name a.\n"
	whole := strings.Repeat(one, api.MaxText/len(one))
	looks(t, whole)
	if got := Show(again(t, whole)); got != whole {
		t.Error(len(got))
	}
	tight := "frame p:" + strings.Repeat("a;", (api.MaxText-10)/2) + "a."
	shown := Show(again(t, tight))
	if len(shown) <= api.MaxText {
		t.Error(len(shown))
	}
	fails(t, shown, api.ErrLong, 0)
}

// P1 of the rules that hold everywhere: any bytes come to an end, and to no more than one of both.
func TestAnyBytes(t *testing.T) {
	r := rand.New(rand.NewSource(1))
	const some = "funnameruleframededuceequivnormaluse aXf$%19(),/=.;:#\n_\xff\x00"
	for range 20000 {
		b := make([]byte, r.Intn(40))
		for i := range b {
			b[i] = some[r.Intn(len(some))]
			if r.Intn(40) == 0 {
				b[i] = byte(r.Intn(256))
			}
		}
		s := string(b)
		l, f := Parse(s)
		x, g := Term(s)
		if f.Err != api.OK && len(l) > 0 || f.Err == api.OK && f.At != 0 || g.Err != api.OK && !equal(x, Tree{}) || g.Err == api.OK && (g.At != 0 || x.Kind == 0) {
			t.Fatalf("%q: %v, %v; %v, %v", s, l, f, x, g)
		}
		if _, e := lex.Scan(s); e.Err != api.OK {
			fails(t, s, e.Err, e.At)
			termFails(t, s, e.Err, e.At)
			continue
		}
		looks(t, s)
		looksLone(t, s)
	}
}

// P2 of the rules that hold everywhere: each answer is new memory.
func TestAnswersAreNotShared(t *testing.T) {
	l := again(t, example)
	want := again(t, example)
	x, _ := Term("f(g(X), a)")
	plain := Plain(x)
	everyTree(l, func(x *Tree) {
		_ = append(x.Args, fun("more", 0))
		x.Text, x.Kind = "spoilt", 77
	})
	x.Args[0].Args[0].Text = "spoilt"
	if y, _ := Term("f(g(X), a)"); !equal(again(t, example), want) || term.Show(Plain(y)) != "f(g(X), a)" || term.Show(plain) != "f(g(X), a)" {
		t.Error("an answer changes another one")
	}
	l = again(t, example)
	for i := range l {
		l[i].Words = append(l[i].Words, fun("more", 0))
		l[i].Trees = append(l[i].Trees, fun("more", 0))
	}
	for i := range l {
		if n, m := len(want[i].Words), len(want[i].Trees); !equal(l[i].Words[:n], want[i].Words) || !equal(l[i].Trees[:m], want[i].Trees) {
			t.Error("two lists of one answer share memory:", l[i])
		}
	}
}

// P2: nothing that is handed in is changed, also not behind its length.
func TestUnchanged(t *testing.T) {
	behind := Tree{Kind: api.KFun, Text: "behind"}
	l, keep := again(t, example), again(t, example)
	var roomy func(l []Tree) []Tree
	roomy = func(l []Tree) []Tree {
		for i := range l {
			l[i].Args = roomy(l[i].Args)
		}
		return append(append(make([]Tree, 0, len(l)+1), l...), behind)[:len(l)]
	}
	for i := range l {
		l[i].Words, l[i].Trees = roomy(l[i].Words), roomy(l[i].Trees)
	}
	l = append(l, Item{Key: "behind"})[:len(l)]
	if Show(l) != Show(keep) || !Same(l, keep) {
		t.Error("what is behind a list's length is looked at")
	}
	for _, i := range l {
		for _, x := range i.Trees {
			if p := Plain(x); strings.Contains(term.Show(p), "behind") || cap(p.Args) > len(p.Args) && slices.ContainsFunc(p.Args[:cap(p.Args)], func(a api.Term) bool { return a.Name == "behind" }) {
				t.Error("what is behind a list's length is handed out:", p)
			}
		}
		if len(i.Words) > 0 && !equal(i.Words[:len(i.Words)+1][len(i.Words)], behind) || !equal(i.Trees[:len(i.Trees)+1][len(i.Trees)], behind) {
			t.Error("changed behind the length:", i)
		}
	}
	if !equal(l, keep) || l[:len(l)+1][len(l)].Key != "behind" {
		t.Error("changed")
	}
}

// P1: trees that lie deep in one another, up to the bound.
func TestDeep(t *testing.T) {
	const deep = 1<<16 - 1
	x, y := fun("a", 0), fun("b", 0)
	for range deep {
		x, y = fun("f", 1, x), fun("f", 2, y)
	}
	if p := Plain(x); term.Depth(p) != deep+1 || term.Size(p) != deep+1 {
		t.Error("Plain")
	}
	l, m := []Item{{Key: "normal", Trees: []Tree{x}}}, []Item{{Key: "normal", At: 3, Trees: []Tree{y}}}
	if !Same(l, l) || Same(l, m) {
		t.Error("Same")
	}
	if want := "normal " + nested(deep) + ".\n"; Show(l) != want {
		t.Error("Show")
	}
}
