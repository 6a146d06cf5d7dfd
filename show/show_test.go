package show

import (
	"math"
	"math/rand"
	"reflect"
	"slices"
	"strconv"
	"strings"
	"testing"

	"picklock/api"
	"picklock/chars"
	"picklock/grammar"
	"picklock/library"
	"picklock/scope"
	"picklock/term"
)

// equal tells whether two values are alike, a nil list and an empty one too.
func equal(a, b any) bool {
	x, y := reflect.ValueOf(a), reflect.ValueOf(b)
	if x.Type() != y.Type() {
		return false
	}
	switch x.Kind() {
	case reflect.Slice:
		for i := 0; i < min(x.Len(), y.Len()); i++ {
			if !equal(x.Index(i).Interface(), y.Index(i).Interface()) {
				return false
			}
		}
		return x.Len() == y.Len()
	case reflect.Struct:
		for i := range x.NumField() {
			if !equal(x.Field(i).Interface(), y.Field(i).Interface()) {
				return false
			}
		}
		return true
	}
	return a == b
}

// short cuts a text for a message.
func short(s string) string { return s[:min(len(s), 160)] }

// says checks a text that a call told.
func says(t *testing.T, got, want string) {
	t.Helper()
	if got != want {
		t.Errorf("told %q (%d bytes); want %q (%d bytes)", short(got), len(got), short(want), len(want))
	}
}

// right reads a text that is right.
func right(t *testing.T, s string) api.File {
	t.Helper()
	f, bad := scope.Read(s)
	if bad != (api.Fault{}) {
		t.Fatalf("Read(%q): %v", short(s), bad)
	}
	return f
}

func priv(name string) api.Term { return api.Term{Kind: api.KName, Name: name} }

func hand(n int) api.Term { return api.Term{Kind: api.KHand, N: n} }

func fresh(n int) api.Term { return api.Term{Kind: api.KFresh, N: n} }

// fst is the chapter's example.
var fst = api.Rule{L: term.Fun("fst", term.Fun("pair", term.Var("X"), term.Var("Y"))), R: term.Var("X")}

// P14.1: the line of a rule.
func TestRule(t *testing.T) {
	says(t, Rule(fst), "rule fst(pair(X, Y)) = X.\n")
	says(t, Rule(api.Rule{L: term.Fun("f"), R: term.Fun("g", term.Fun("k"))}), "rule f = g(k).\n")
	says(t, Rule(api.Rule{L: term.Var("X"), R: term.Var("Y")}), "rule X = Y.\n")
	says(t, Rule(api.Rule{L: priv("n"), R: hand(12)}), "rule n = $12.\n")
	says(t, Rule(api.Rule{L: fresh(0), R: fresh(-7)}), "rule %0 = %-7.\n")
	says(t, Rule(api.Rule{}), "rule ? = ?.\n")
}

// P14.1: the line of a function symbol.
func TestFun(t *testing.T) {
	for want, f := range map[string]api.Fun{
		"fun f/1.\n":                    {Name: "f", Arity: 1},
		"fun k/0.\n":                    {Name: "k"},
		"fun pair_2/6.\n":               {Name: "pair_2", Arity: 6},
		"fun f/999.\n":                  {Name: "f", Arity: 999},
		"fun f/-1.\n":                   {Name: "f", Arity: -1},
		"fun /0.\n":                     {},
		"fun a b/10.\n":                 {Name: "a b", Arity: 10},
		"fun f/-9223372036854775808.\n": {Name: "f", Arity: math.MinInt64},
	} {
		says(t, Fun(f), want)
	}
}

// P14.1: the line of a frame, with any number of terms.
func TestFrame(t *testing.T) {
	a, f := priv("a"), term.Fun("f", priv("a"), term.Fun("k"))
	for _, c := range []struct {
		f    api.Frame
		want string
	}{
		{api.Frame{Name: "p"}, "frame p:.\n"},
		{api.Frame{Name: "p", Terms: []api.Term{}}, "frame p:.\n"},
		{api.Frame{Name: "p", Terms: []api.Term{a}}, "frame p: a.\n"},
		{api.Frame{Name: "p", Terms: []api.Term{f}}, "frame p: f(a, k).\n"},
		{api.Frame{Name: "q_1", Terms: []api.Term{f, a}}, "frame q_1: f(a, k); a.\n"},
		{api.Frame{Name: "p", Terms: []api.Term{a, a, f}}, "frame p: a; a; f(a, k).\n"},
		{api.Frame{Name: "p", Terms: []api.Term{hand(1), fresh(2), term.Var("X"), {}}}, "frame p: $1; %2; X; ?.\n"},
		{api.Frame{}, "frame :.\n"},
	} {
		says(t, Frame(c.f), c.want)
	}
}

// P14.1: the line of a query is of its kind, whatever else it has; of others there is none.
func TestQuery(t *testing.T) {
	f := term.Fun("f", priv("n"))
	for _, c := range []struct {
		q    api.Query
		want string
	}{
		{api.Query{Kind: api.AskDeduce, Left: "p", T: f}, "deduce p f(n).\n"},
		{api.Query{Kind: api.AskDeduce, Left: "p", Right: "q", T: f}, "deduce p f(n).\n"},
		{api.Query{Kind: api.AskDeduce, Right: "q"}, "deduce  ?.\n"},
		{api.Query{Kind: api.AskEquiv, Left: "p", Right: "q"}, "equiv p q.\n"},
		{api.Query{Kind: api.AskEquiv, Left: "q", Right: "q", T: f}, "equiv q q.\n"},
		{api.Query{Kind: api.AskNormal, T: f}, "normal f(n).\n"},
		{api.Query{Kind: api.AskNormal, Left: "p", Right: "q", T: priv("n")}, "normal n.\n"},
		{api.Query{Kind: api.AskNormal, T: hand(3)}, "normal $3.\n"},
	} {
		says(t, Query(c.q), c.want)
	}
	for _, kind := range []int{0, 4, 5, -1, -2, 255, 257, math.MaxInt, math.MinInt} {
		says(t, Query(api.Query{Kind: kind, Left: "p", Right: "q", T: f}), "")
	}
}

// P14.1: the text of a place.
func TestPlace(t *testing.T) {
	for _, c := range []struct {
		p    []int
		want string
	}{
		{nil, "-"}, {[]int{}, "-"}, {[]int{0}, "0"}, {[]int{5}, "5"}, {[]int{0, 0}, "0.0"}, {[]int{1, 0, 12}, "1.0.12"},
		{[]int{-1}, "-1"}, {[]int{2, -30, 4}, "2.-30.4"}, {[]int{math.MaxInt64, math.MinInt64}, "9223372036854775807.-9223372036854775808"},
	} {
		says(t, Place(c.p), c.want)
	}
}

// P14.1: a place of any length, number by number.
func TestPlaceLong(t *testing.T) {
	var p []int
	var want []string
	for i := range 1 << 16 {
		p, want = append(p, i%23-3), append(want, strconv.Itoa(i%23-3))
		if i < 100 {
			says(t, Place(p), strings.Join(want, "."))
		}
	}
	says(t, Place(p), strings.Join(want, "."))
}

// P14.2: the functions of a theory, then its rules.
func TestTheory(t *testing.T) {
	f, g := api.Fun{Name: "f", Arity: 1}, api.Fun{Name: "g"}
	r := api.Rule{L: term.Fun("f", term.Var("X")), R: term.Var("X")}
	for _, c := range []struct {
		t    api.Theory
		want string
	}{
		{api.Theory{}, ""},
		{api.Theory{Funs: []api.Fun{f}}, "fun f/1.\n"},
		{api.Theory{Rules: []api.Rule{r}}, "rule f(X) = X.\n"},
		{api.Theory{Funs: []api.Fun{g, f}, Rules: []api.Rule{r, fst}}, "fun g/0.\nfun f/1.\nrule f(X) = X.\nrule fst(pair(X, Y)) = X.\n"},
		{api.Theory{Funs: []api.Fun{f, g, f}, Rules: []api.Rule{fst, r, r}}, "fun f/1.\nfun g/0.\nfun f/1.\nrule fst(pair(X, Y)) = X.\nrule f(X) = X.\nrule f(X) = X.\n"},
	} {
		says(t, Theory(c.t), c.want)
		says(t, File(api.File{Theory: c.t}), c.want)
	}
}

// P14.2: of each kind all that a file has, kind by kind, in order.
func TestFile(t *testing.T) {
	says(t, File(api.File{}), "")
	says(t, File(api.File{Names: []string{"n"}}), "name n.\n")
	says(t, File(api.File{Names: []string{"n", "", "m", "n"}}), "name n.\nname .\nname m.\nname n.\n")
	says(t, File(api.File{Frames: []api.Frame{{Name: "q"}, {Name: "p", Terms: []api.Term{priv("n")}}}}), "frame q:.\nframe p: n.\n")
	says(t, File(api.File{Queries: []api.Query{{Kind: api.AskNormal, T: priv("n")}, {}, {Kind: api.AskEquiv, Left: "p", Right: "q"}}}), "normal n.\nequiv p q.\n")
	const ordered = "name n. frame q:. normal n. equiv q q. fun f/1. rule f(f(X)) = X. frame p: n; f(n). name m. deduce p f(m). fun k/0. rule f(k) = k. normal f(k)."
	says(t, File(right(t, ordered)), "fun f/1.\nfun k/0.\nname n.\nname m.\nrule f(f(X)) = X.\nrule f(k) = k.\nframe q:.\nframe p: n; f(n).\nnormal n.\nequiv q q.\ndeduce p f(m).\nnormal f(k).\n")
}

// tree tells a term as the grammar's tree: a private name is a word there.
func tree(x api.Term) grammar.Tree {
	switch x.Kind {
	case api.KName:
		return grammar.Tree{Kind: api.KFun, Text: x.Name}
	case api.KFun, api.KVar, api.KHand, api.KFresh:
		made := grammar.Tree{Kind: x.Kind, Text: x.Name, N: x.N}
		for _, a := range x.Args {
			made.Args = append(made.Args, tree(a))
		}
		return made
	}
	return grammar.Tree{Kind: x.Kind}
}

// words tells words as the grammar's trees.
func words(l ...string) []grammar.Tree {
	var made []grammar.Tree
	for _, s := range l {
		made = append(made, grammar.Tree{Kind: api.KFun, Text: s})
	}
	return made
}

// trees tells terms as the grammar's trees.
func trees(l ...api.Term) []grammar.Tree {
	var made []grammar.Tree
	for _, x := range l {
		made = append(made, tree(x))
	}
	return made
}

// The items of the grammar that things are.
func itemFun(f api.Fun) grammar.Item {
	return grammar.Item{Key: "fun", Words: append(words(f.Name), grammar.Tree{Text: chars.Digits(f.Arity), N: f.Arity})}
}
func itemName(s string) grammar.Item   { return grammar.Item{Key: "name", Words: words(s)} }
func itemRule(r api.Rule) grammar.Item { return grammar.Item{Key: "rule", Trees: trees(r.L, r.R)} }
func itemFrame(f api.Frame) grammar.Item {
	return grammar.Item{Key: "frame", Words: words(f.Name), Trees: trees(f.Terms...)}
}
func itemQuery(q api.Query) []grammar.Item {
	switch q.Kind {
	case api.AskDeduce:
		return []grammar.Item{{Key: "deduce", Words: words(q.Left), Trees: trees(q.T)}}
	case api.AskEquiv:
		return []grammar.Item{{Key: "equiv", Words: words(q.Left, q.Right)}}
	case api.AskNormal:
		return []grammar.Item{{Key: "normal", Trees: trees(q.T)}}
	}
	return nil
}

// items tells all items of a file, in the order of P14.2.
func items(f api.File) []grammar.Item {
	var l []grammar.Item
	for _, x := range f.Theory.Funs {
		l = append(l, itemFun(x))
	}
	for _, x := range f.Names {
		l = append(l, itemName(x))
	}
	for _, x := range f.Theory.Rules {
		l = append(l, itemRule(x))
	}
	for _, x := range f.Frames {
		l = append(l, itemFrame(x))
	}
	for _, x := range f.Queries {
		l = append(l, itemQuery(x)...)
	}
	return l
}

// looks checks by the grammar all that P14.1 and P14.2 say of what a file has.
func looks(t *testing.T, f api.File) {
	t.Helper()
	for _, x := range f.Theory.Funs {
		says(t, Fun(x), grammar.Show([]grammar.Item{itemFun(x)}))
	}
	for _, x := range f.Theory.Rules {
		says(t, Rule(x), grammar.Show([]grammar.Item{itemRule(x)}))
	}
	for _, x := range f.Frames {
		says(t, Frame(x), grammar.Show([]grammar.Item{itemFrame(x)}))
	}
	for _, x := range f.Queries {
		says(t, Query(x), grammar.Show(itemQuery(x)))
	}
	says(t, File(f), grammar.Show(items(f)))
	says(t, Theory(f.Theory), grammar.Show(items(api.File{Theory: f.Theory})))
}

// odd draws things of all kinds, also such as nobody could declare.
type odd struct{ *rand.Rand }

func (o odd) name() string {
	return []string{"f", "g", "n", "p", "X", "", "rule", "a b", "é", "\x00", ".", "f(X)", "\n"}[o.Intn(13)]
}

func (o odd) number() int {
	return []int{0, 1, 2, 7, 999, 1000, -1, -12, math.MaxInt, math.MinInt}[o.Intn(10)]
}

func (o odd) term(deep int) api.Term {
	x := api.Term{Kind: []int{1, 2, 3, 4, 5, 5, 5, 5, 0, 6, -1}[o.Intn(11)], Name: o.name(), N: o.number()}
	if deep > 0 {
		x.Args = o.terms(deep - 1)
	}
	return x
}

func (o odd) terms(deep int) []api.Term {
	l := make([]api.Term, o.Intn(4))
	for i := range l {
		l[i] = o.term(deep)
	}
	return l
}

func (o odd) file() api.File {
	var f api.File
	for range o.Intn(4) {
		f.Theory.Funs = append(f.Theory.Funs, api.Fun{Name: o.name(), Arity: o.number()})
		f.Theory.Rules = append(f.Theory.Rules, api.Rule{L: o.term(2), R: o.term(2)})
	}
	for range o.Intn(4) {
		f.Names = append(f.Names, o.name())
		f.Frames = append(f.Frames, api.Frame{Name: o.name(), Terms: o.terms(2)})
		f.Queries = append(f.Queries, api.Query{Kind: o.Intn(6) - 1, Left: o.name(), Right: o.name(), T: o.term(2)})
	}
	return f
}

// P14.1, P14.2: all is laid as the grammar lays it, also what nobody could declare.
func TestByGrammar(t *testing.T) {
	o := odd{rand.New(rand.NewSource(14))}
	for range 20000 {
		looks(t, o.file())
	}
}

// backs checks that a file comes back from its text.
func backs(t *testing.T, f api.File) {
	t.Helper()
	looks(t, f)
	s := File(f)
	if len(s) > api.MaxText {
		return
	}
	g := right(t, s)
	if !Same(f, g) || !Same(g, f) || !equal(f, g) {
		t.Errorf("of %q came %v; want %v", short(s), g, f)
	}
	says(t, File(g), s)
}

// P14.3: the document's examples come back.
func TestBackExamples(t *testing.T) {
	for _, s := range []string{
		"", "use senc. name a. name k. frame p: senc(a, k); k. deduce p a.",
		"use senc. name a. name k. frame p: senc(a, k). deduce p a.",
		"use hash. name a. frame p: hash(a). deduce p hash(hash(a)). deduce p a.",
		"use sign. name k. name a. frame p: sign(a, k). deduce p a.",
		"use hash. fun c/0. name a. frame p: hash(c). frame q: hash(a). equiv p q.",
		"fun box/2. fun get/2. rule get(box(X, Y), Z) = X. name a. name k. frame p: box(a, k). frame q: a. equiv p q.",
		"fun f/1. rule f(X) = f(X).", "fun f/1. fun a/0. fun b/0. rule f(a) = a. rule f(f(a)) = b.",
		"use senc. name a. name k. normal sdec(senc(a, k), k).",
	} {
		backs(t, right(t, s))
	}
}

// P14.3: all pairs of the library's primitives come back.
func TestBackLibrary(t *testing.T) {
	for _, a := range library.Names() {
		for _, b := range library.Names() {
			f, bad := scope.Read("use " + a + ". use " + b + ". name n. frame p: n. deduce p n.")
			if bad.Err == api.OK {
				backs(t, f)
			}
		}
	}
}

// P14.3: files of any items, in any order that may be, come back.
func TestBackDrawn(t *testing.T) {
	lines := []string{
		"use pair.", "use senc.", "use hash.", "fun f/1.", "fun g/2.", "fun k/0.", "fun h/6.", "name n.", "name m.", "name name_2.",
		"rule f(X) = X.", "rule g(X, k) = f(X).", "rule h(A, B, C, D, E, f(F)) = k.", "rule fst(Y) = g(Y, Y).", "rule f(f(X_1)) = X_1.",
		"frame p:.", "frame p: n.", "frame q: f(n); k; g(m, f(f(n))).", "frame r: h(n, n, n, n, n, n); hash(n).", "frame n: n.",
		"deduce p n.", "deduce q g(n, m).", "deduce n n.", "equiv p q.", "equiv q p.", "equiv r r.", "normal f(g(n, k)).", "normal n.", "normal hash(k).",
	}
	r := rand.New(rand.NewSource(3))
	read := 0
	for range 200 {
		s, f := "", api.File{}
		for range 90 {
			line := lines[r.Intn(len(lines))]
			if g, bad := scope.Read(s + line); bad.Err == api.OK {
				s, f = s+line, g
			}
		}
		backs(t, f)
		if len(f.Queries) > 2 && len(f.Theory.Rules) > 2 && len(f.Frames) > 2 {
			read++
		}
	}
	if read < 100 {
		t.Error("few files are full:", read)
	}
}

// fill puts a text down that many times, with the number in the place of each #.
func fill(n int, text string) string {
	var b strings.Builder
	for i := range n {
		b.WriteString(strings.ReplaceAll(text, "#", strconv.Itoa(i)))
	}
	return b.String()
}

// P14.3: a file that has as much of all as may be comes back; so does a term with all brackets that may be open.
func TestBackFull(t *testing.T) {
	frame := "frame p#: n1" + strings.Repeat("; n2", api.MaxHandles-1) + ". "
	backs(t, right(t, fill(api.MaxFuns, "fun f#/1. ")+fill(api.MaxNames, "name n#. ")+fill(api.MaxRules, "rule f#(X) = X. ")+
		fill(api.MaxFrames, frame)+fill(api.MaxQueries, "deduce p1 f#(n#). ")))
	deep := strings.Repeat("f(", api.MaxNest) + "n" + strings.Repeat(")", api.MaxNest)
	backs(t, right(t, "fun f/1. name n. frame p: "+deep+". deduce p "+deep+". normal "+deep+". rule "+strings.Replace(deep, "n", "X", 1)+" = X. "))
	word := "w" + strings.Repeat("_", api.MaxName-1)
	backs(t, right(t, "fun "+word+"/2. rule "+word+"(X, Y) = Y."))
}

// P14.3: a text of as many bytes as may be comes back; of a longer one nothing is told but that it is.
func TestBackLong(t *testing.T) {
	const wide = "g(n,n,n,n,n,g(n,n,n,n,n,g(n,n,n,n,n,n)))" // each comma is a byte here, and two in what is shown
	ahead := "fun g/6.name n." + fill(api.MaxFrames, "frame p#:"+strings.Repeat(wide+";", api.MaxHandles-1)+wide+".")
	seen := map[int]bool{}
	for letters := 4; letters <= 4*api.MaxName; letters++ {
		var names strings.Builder
		for i := range 4 {
			names.WriteString("name " + string(rune('a'+i)) + strings.Repeat("x", (letters+i)/4-1) + ".")
		}
		f := right(t, ahead+names.String()+strings.Repeat("deduce p0 "+wide+".", 11))
		s := File(f)
		seen[len(s)] = true
		backs(t, f)
		g, bad := scope.Read(s)
		if long := len(s) > api.MaxText; long && (bad != (api.Fault{Err: api.ErrLong}) || !equal(g, api.File{})) || !long && bad.Err != api.OK {
			t.Errorf("of %d bytes: %v", len(s), bad)
		}
	}
	for n := api.MaxText - 5; n <= api.MaxText+5; n++ {
		if !seen[n] {
			t.Errorf("no text of %d bytes", n)
		}
	}
}

// base is a file with something in each field.
func base() api.File {
	f, x := term.Fun("f", priv("n"), hand(2)), term.Var("X")
	return api.File{
		Theory:  api.Theory{Funs: []api.Fun{{Name: "f", Arity: 2}, {Name: "k"}}, Rules: []api.Rule{{L: term.Fun("f", x, x), R: x}, fst}},
		Names:   []string{"n", "m"},
		Frames:  []api.Frame{{Name: "p", Terms: []api.Term{f, priv("n")}}, {Name: "q"}},
		Queries: []api.Query{{Kind: api.AskDeduce, Left: "p", T: f}, {Kind: api.AskEquiv, Left: "p", Right: "q"}, {Kind: api.AskNormal, T: f}},
	}
}

// changes tells how a file can be changed, so that it is another one each time.
func changes() []func(*api.File) {
	return []func(*api.File){
		func(f *api.File) { *f = api.File{} },
		func(f *api.File) { f.Theory.Funs[0].Name = "g" },
		func(f *api.File) { f.Theory.Funs[1].Name = "g" },
		func(f *api.File) { f.Theory.Funs[1].Arity++ },
		func(f *api.File) { f.Theory.Funs = f.Theory.Funs[:1] },
		func(f *api.File) { f.Theory.Funs = nil },
		func(f *api.File) { f.Theory.Funs = append(f.Theory.Funs, api.Fun{}) },
		func(f *api.File) { slices.Reverse(f.Theory.Funs) },
		func(f *api.File) { f.Theory.Rules[0].L = term.Var("X") },
		func(f *api.File) { f.Theory.Rules[1].L.Args[0].Args[1].Name = "Z" },
		func(f *api.File) { f.Theory.Rules[1].R.Name = "Y" },
		func(f *api.File) { f.Theory.Rules[1].R.Kind = api.KName },
		func(f *api.File) { f.Theory.Rules[0].R.N = 1 },
		func(f *api.File) { f.Theory.Rules[0].R.Args = []api.Term{{}} },
		func(f *api.File) { f.Theory.Rules = f.Theory.Rules[1:] },
		func(f *api.File) { f.Theory.Rules = append(f.Theory.Rules, fst) },
		func(f *api.File) { slices.Reverse(f.Theory.Rules) },
		func(f *api.File) { f.Theory.Rules[1].L, f.Theory.Rules[1].R = f.Theory.Rules[1].R, f.Theory.Rules[1].L },
		func(f *api.File) { f.Names[0] = "k" },
		func(f *api.File) { f.Names[1] = "" },
		func(f *api.File) { f.Names = f.Names[:1] },
		func(f *api.File) { f.Names = append(f.Names, "n") },
		func(f *api.File) { slices.Reverse(f.Names) },
		func(f *api.File) { f.Frames[0].Name = "r" },
		func(f *api.File) { f.Frames[0].Terms[1] = term.Fun("n") },
		func(f *api.File) { f.Frames[0].Terms[0].Args[1].N = 3 },
		func(f *api.File) { f.Frames[0].Terms = f.Frames[0].Terms[:1] },
		func(f *api.File) { f.Frames[1].Terms = []api.Term{priv("n")} },
		func(f *api.File) { f.Frames[1].Terms = []api.Term{{}} },
		func(f *api.File) { slices.Reverse(f.Frames[0].Terms) },
		func(f *api.File) { slices.Reverse(f.Frames) },
		func(f *api.File) { f.Frames = f.Frames[:1] },
		func(f *api.File) { f.Frames = append(f.Frames, api.Frame{}) },
		func(f *api.File) { f.Queries[0].Kind = api.AskNormal },
		func(f *api.File) { f.Queries[1].Kind = 7 },
		func(f *api.File) { f.Queries[0].Left = "q" },
		func(f *api.File) { f.Queries[0].Right = "q" },
		func(f *api.File) { f.Queries[1].Right = "p" },
		func(f *api.File) { f.Queries[1].T = priv("n") },
		func(f *api.File) { f.Queries[2].Left = "p" },
		func(f *api.File) { f.Queries[2].T.Args = nil },
		func(f *api.File) { f.Queries[0].T.Name = "g" },
		func(f *api.File) { f.Queries = f.Queries[:2] },
		func(f *api.File) { f.Queries = nil },
		func(f *api.File) { f.Queries = append(f.Queries, api.Query{}) },
		func(f *api.File) { f.Queries[0], f.Queries[2] = f.Queries[2], f.Queries[0] },
	}
}

// P14.3: any field that is another one, or stands elsewhere, tells files apart.
func TestSame(t *testing.T) {
	all := []api.File{base()}
	for _, change := range changes() {
		f := base()
		// No two changed terms share what is changed.
		f.Theory.Rules[1] = api.Rule{L: term.Fun("fst", term.Fun("pair", term.Var("X"), term.Var("Y"))), R: term.Var("X")}
		f.Queries[0].T = term.Fun("f", priv("n"), hand(2))
		f.Queries[2].T = term.Fun("f", priv("n"), hand(2))
		change(&f)
		all = append(all, f)
	}
	for i, a := range all {
		for j, b := range all {
			if Same(a, b) != (i == j) {
				t.Errorf("Same of change %d and change %d: %v", i, j, i != j)
			}
		}
	}
}

// P14.3: Same of drawn files is what a comparison field by field says.
func TestSameDrawn(t *testing.T) {
	for seed := range int64(300) {
		var l []api.File
		for i := range int64(4) {
			l = append(l, odd{rand.New(rand.NewSource(seed + i%3))}.file())
		}
		for _, a := range l {
			for _, b := range l {
				if Same(a, b) != equal(a, b) {
					t.Fatalf("Same(%v, %v) = %v", a, b, !equal(a, b))
				}
			}
		}
	}
}

// P3: a nil list and an empty one are the same.
func TestNone(t *testing.T) {
	f := api.File{
		Theory: api.Theory{Funs: []api.Fun{}, Rules: []api.Rule{}}, Names: []string{}, Frames: []api.Frame{}, Queries: []api.Query{},
	}
	if !Same(f, api.File{}) || !Same(api.File{}, f) || !Same(f, f) || !Same(api.File{}, api.File{}) {
		t.Error("none isn't the same as none")
	}
	says(t, File(f), "")
	says(t, Theory(f.Theory), "")
	a, b := api.File{Frames: []api.Frame{{Name: "p"}}}, api.File{Frames: []api.Frame{{Name: "p", Terms: []api.Term{}}}}
	a.Queries, b.Queries = []api.Query{{T: api.Term{Kind: api.KFun, Name: "k"}}}, []api.Query{{T: api.Term{Kind: api.KFun, Name: "k", Args: []api.Term{}}}}
	if !Same(a, b) || !Same(b, a) {
		t.Error("a frame or a term without any is another one")
	}
	says(t, File(a), File(b))
	says(t, Query(api.Query{Kind: api.AskNormal, T: b.Queries[0].T}), "normal k.\n")
}

// roomy tells the same list with something behind its length, and a look at what lies there.
func roomy[T any](l []T, behind T) ([]T, func() T) {
	made := append(slices.Clone(l), behind)
	return made[:len(l)], func() T { return made[len(l)] }
}

// P2: what lies behind a list's length is neither read nor written, and nothing that is given is changed.
func TestRoomy(t *testing.T) {
	f, text := base(), File(base())
	more := api.Term{Kind: api.KFun, Name: "more"}
	var funs func() api.Fun
	var rules func() api.Rule
	var names func() string
	var frames func() api.Frame
	var queries func() api.Query
	var terms, args func() api.Term
	f.Frames[0].Terms[0].Args, args = roomy(f.Frames[0].Terms[0].Args, more)
	f.Frames[0].Terms, terms = roomy(f.Frames[0].Terms, more)
	f.Theory.Funs, funs = roomy(f.Theory.Funs, api.Fun{Name: "more", Arity: 3})
	f.Theory.Rules, rules = roomy(f.Theory.Rules, api.Rule{L: more, R: more})
	f.Names, names = roomy(f.Names, "more")
	f.Frames, frames = roomy(f.Frames, api.Frame{Name: "more"})
	f.Queries, queries = roomy(f.Queries, api.Query{Kind: api.AskNormal, T: more})
	says(t, File(f), text)
	says(t, Theory(f.Theory), Theory(base().Theory))
	says(t, Frame(f.Frames[0]), "frame p: f(n, $2); n.\n")
	if !Same(f, base()) || !Same(base(), f) {
		t.Error("what lies behind is looked at")
	}
	if !equal(f, base()) || funs().Arity != 3 || names() != "more" || frames().Name != "more" || queries().Kind != api.AskNormal ||
		!equal(rules(), api.Rule{L: more, R: more}) || !equal(terms(), more) || !equal(args(), more) {
		t.Error("what was given is changed")
	}
	p, behind := roomy([]int{1, 2}, 9)
	says(t, Place(p), "1.2")
	says(t, Place(p[:0]), "-")
	if behind() != 9 || p[0] != 1 || p[1] != 2 {
		t.Error("a place is changed")
	}
}

// P1: terms that are deep, wide or long, and many items.
func TestGreat(t *testing.T) {
	const deep = 1<<16 - 1
	x := priv("n")
	for range deep - 1 {
		x = api.Term{Kind: api.KFun, Name: "f", Args: []api.Term{x}}
	}
	text := strings.Repeat("f(", deep-1) + "n" + strings.Repeat(")", deep-1)
	says(t, Rule(api.Rule{L: x, R: x}), "rule "+text+" = "+text+".\n")
	says(t, Frame(api.Frame{Name: "p", Terms: []api.Term{x, x}}), "frame p: "+text+"; "+text+".\n")
	says(t, Query(api.Query{Kind: api.AskDeduce, Left: "p", T: x}), "deduce p "+text+".\n")
	const many = 1 << 18
	name := strings.Repeat("x", many)
	says(t, Fun(api.Fun{Name: name, Arity: many}), "fun "+name+"/262144.\n")
	f := api.File{
		Theory:  api.Theory{Funs: make([]api.Fun, many), Rules: make([]api.Rule, many)},
		Names:   make([]string, many),
		Frames:  []api.Frame{{Name: "p", Terms: make([]api.Term, many)}, {Name: "q", Terms: []api.Term{x}}},
		Queries: slices.Repeat([]api.Query{{Kind: api.AskEquiv}, {}}, many),
	}
	says(t, File(f), strings.Repeat("fun /0.\n", many)+strings.Repeat("name .\n", many)+strings.Repeat("rule ? = ?.\n", many)+
		"frame p: "+strings.Repeat("?; ", many-1)+"?.\nframe q: "+text+".\n"+strings.Repeat("equiv  .\n", many))
	g := f
	g.Queries = slices.Clone(f.Queries)
	if !Same(f, g) {
		t.Error("a great file isn't the same as itself")
	}
	g.Queries[2*many-1].T.N = 1
	if Same(f, g) || Same(g, f) {
		t.Error("the last query isn't looked at")
	}
}
