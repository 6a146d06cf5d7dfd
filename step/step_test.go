package step

import (
	"math"
	"math/rand"
	"slices"
	"strconv"
	"strings"
	"testing"

	"picklock/api"
	"picklock/grammar"
	"picklock/library"
	"picklock/norm"
	"picklock/place"
	"picklock/term"
)

// read reads a term; its words are functions.
func read(s string) api.Term {
	t, bad := grammar.Term(s)
	if bad != (api.Fault{}) {
		panic(s)
	}
	return grammar.Plain(t)
}

// ruled reads rules, a left side and a right side each.
func ruled(sides ...string) []api.Rule {
	var l []api.Rule
	for i := 0; i < len(sides); i += 2 {
		l = append(l, api.Rule{L: read(sides[i]), R: read(sides[i+1])})
	}
	return l
}

func v(name string) api.Term { return term.Var(name) }

func private(name string) api.Term { return api.Term{Kind: api.KName, Name: name} }

func handle(n int) api.Term { return api.Term{Kind: api.KHand, N: n} }

func fresh(n int) api.Term { return api.Term{Kind: api.KFresh, N: n} }

// nested puts a function around a term, so many times.
func nested(name string, n int, t api.Term) api.Term {
	for range n {
		t = term.Fun(name, t)
	}
	return t
}

// deepCopy tells the same term with lists of its own, which have room behind them.
func deepCopy(t api.Term) api.Term {
	args := make([]api.Term, 0, len(t.Args)+2)
	for _, a := range t.Args {
		args = append(args, deepCopy(a))
	}
	t.Args = args
	return t
}

// becomes tells whether a pattern becomes a term, and what its variables stand for then.
func becomes(p, t api.Term, stand map[string]api.Term) bool {
	if p.Kind == api.KVar {
		if x, is := stand[p.Name]; is {
			return term.Same(x, t)
		}
		stand[p.Name] = t
		return true
	}
	if p.Kind != t.Kind || p.N != t.N || p.Name != t.Name || len(p.Args) != len(t.Args) {
		return false
	}
	for i := range p.Args {
		if !becomes(p.Args[i], t.Args[i], stand) {
			return false
		}
	}
	return true
}

// filled puts what stands for variables in their places.
func filled(t api.Term, stand map[string]api.Term) api.Term {
	if x, is := stand[t.Name]; is && t.Kind == api.KVar {
		return x
	}
	var args []api.Term
	for _, a := range t.Args {
		args = append(args, filled(a, stand))
	}
	t.Args = args
	return t
}

// at tells the step by a rule at a place, as the document says it, word by word.
func at(r api.Rule, i int, t api.Term, p []int) (Red, bool) {
	x, is := place.At(t, p)
	stand := map[string]api.Term{}
	if !is || !becomes(r.L, x, stand) {
		return Red{}, false
	}
	u, _ := place.Put(t, p, filled(r.R, stand))
	return Red{At: p, Rule: i, T: u}, true
}

// inOrder tells the steps at those places, at each place by rules.
func inOrder(rules []api.Rule, t api.Term, places [][]int) []Red {
	var l []Red
	for _, p := range places {
		for i, r := range rules {
			if s, is := at(r, i, t, p); is {
				l = append(l, s)
			}
		}
	}
	return l
}

// fromWithin puts places in order so that those within come first, else from the left.
func fromWithin(p, q []int) int {
	if place.Apart(p, q) {
		return place.Compare(p, q)
	}
	return len(q) - len(p)
}

// first tells the first step, as the document says it.
func first(rules []api.Rule, t api.Term) (Red, bool) {
	places := place.All(t)
	slices.SortFunc(places, fromWithin)
	l := inOrder(rules, t, places)
	if len(l) == 0 {
		return Red{}, false
	}
	return l[0], true
}

// chain tells first after first, as the document says it.
func chain(rules []api.Rule, t api.Term, fuel int) ([]Red, bool) {
	var l []Red
	for s, is := first(rules, t); is; s, is = first(rules, t) {
		if len(l) >= fuel {
			return nil, false
		}
		l = append(l, s)
		t = s.T
	}
	return l, true
}

// same tells whether two steps are alike.
func same(a, b Red) bool {
	return slices.Equal(a.At, b.At) && a.Rule == b.Rule && term.Same(a.T, b.T)
}

// equal tells whether two rows of steps are alike.
func equal(a, b []Red) bool { return slices.EqualFunc(a, b, same) }

// small are all terms of X, Y, a, f and g that have at most so many parts.
func small(most int) []api.Term {
	l := []api.Term{v("X"), v("Y"), term.Fun("a")}
	for range most - 1 {
		for _, x := range slices.Clone(l) {
			l = append(l, term.Fun("f", x))
			for _, y := range slices.Clone(l) {
				if term.Size(x)+term.Size(y) < most {
					l = append(l, term.Fun("g", x, y))
				}
			}
		}
		l = slices.DeleteFunc(term.Set(l), func(x api.Term) bool { return term.Size(x) > most })
	}
	return l
}

// odd are terms of all kinds, with and without arguments.
func odd() []api.Term {
	l := []api.Term{{}, private("X"), private("f"), handle(0), handle(1), fresh(0), fresh(-3), v(""), term.Fun("")}
	for _, kind := range []int{0, api.KVar, api.KName, api.KHand, api.KFresh, api.KFun, 6, -1, math.MaxInt, math.MinInt} {
		for _, args := range [][]api.Term{{v("X")}, {private("X"), v("Y")}, {term.Fun("a"), term.Fun("a")}} {
			l = append(l, api.Term{Kind: kind, Name: "X", N: 4, Args: args}, api.Term{Kind: kind, Name: "f", Args: args})
		}
	}
	return l
}

// drawn draws some of those terms as the sides of a few rules.
func drawn(r *rand.Rand, l []api.Term) []api.Rule {
	var rules []api.Rule
	for range r.Intn(5) {
		rules = append(rules, api.Rule{L: l[r.Intn(len(l))], R: l[r.Intn(len(l))]})
	}
	return rules
}

// wrote writes rules for a message.
func wrote(rules []api.Rule) string {
	var b strings.Builder
	for _, r := range rules {
		b.WriteString(term.Show(r.L) + " = " + term.Show(r.R) + ". ")
	}
	return b.String()
}

// ends are rules that come to an end, whatever they rewrite.
func ends() []api.Rule {
	return ruled("fst(pair(X, Y))", "X", "snd(pair(X, Y))", "Y", "sdec(senc(X, K), K)", "X", "same(X, X)", "ok",
		"twice(X)", "pair(X, X)", "f(s(X))", "h(f(X), f(X))", "f(c)", "c", "h(X, X)", "X", "two", "pair(one, one)", "one", "c")
}

// lines writes lines as Shown does.
func lines(l ...string) string {
	var b strings.Builder
	for _, s := range l {
		b.WriteString(s + "\n")
	}
	return b.String()
}

// P16.1: the steps by places, and at each place by rules.
func TestAll(t *testing.T) {
	two := ruled("f(X)", "X", "g(X, X)", "a")
	many := ruled("f(X)", "k(X, Z)", "f(f(X))", "X", "c", "d", "f(X)", "X", "c", "f(c)")
	for _, c := range []struct {
		rules []api.Rule
		t     string
		want  []string
	}{
		// the document's example
		{two, "a", nil},
		{two, "g(a, b)", nil},
		{two, "X", nil},
		{two, "f(a)", []string{"0 - a"}},
		{two, "g(f(a), a)", []string{"0 0 g(a, a)"}},
		{two, "g(f(a), f(a))", []string{"1 - a", "0 0 g(a, f(a))", "0 1 g(f(a), a)"}},
		{two, "f(f(f(b)))", []string{"0 - f(f(b))", "0 0 f(f(b))", "0 0.0 f(f(b))"}},
		{two, "k(f(g(b, b)), b, f(c))", []string{"0 0 k(g(b, b), b, f(c))", "1 0.0 k(f(a), b, f(c))", "0 2 k(f(g(b, b)), b, c)"}},
		// variables of the term stand for themselves
		{two, "f(X)", []string{"0 - X"}},
		{two, "g(X, Y)", nil},
		{two, "g(f(X), f(X))", []string{"1 - a", "0 0 g(X, f(X))", "0 1 g(f(X), X)"}},
		// each rule at a place; a variable that the left side has not stays
		{many, "f(c)", []string{"0 - k(c, Z)", "3 - c", "2 0 f(d)", "4 0 f(f(c))"}},
		{many, "k(f(f(Z)), c)", []string{"0 0 k(k(f(Z), Z), c)", "1 0 k(Z, c)", "3 0 k(f(Z), c)", "0 0.0 k(f(k(Z, Z)), c)", "3 0.0 k(f(Z), c)", "2 1 k(f(f(Z)), d)", "4 1 k(f(f(Z)), f(c))"}},
		// a left side that is a variable becomes anything
		{ruled("X", "b"), "g(a, Y)", []string{"0 - b", "0 0 g(b, Y)", "0 1 g(a, b)"}},
		// steps that change nothing are steps
		{ruled("f(X)", "f(X)"), "f(f(a))", []string{"0 - f(f(a))", "0 0 f(f(a))"}},
		// another number of arguments is another function
		{ruled("f(X)", "X", "f(X, Y)", "Y", "f", "e"), "f(f, f(f))", []string{"1 - f(f)", "2 0 f(e, f(f))", "0 1 f(f, f)", "2 1.0 f(f, f(e))"}},
		{nil, "f(a)", nil},
		{[]api.Rule{}, "g(a, a)", nil},
	} {
		if got := Shown(All(c.rules, read(c.t))); got != lines(c.want...) {
			t.Errorf("%sAll(%s):\n%swant\n%s", wrote(c.rules), c.t, got, lines(c.want...))
		}
	}
	if l := All(ruled("c", "d"), private("c")); len(l) != 0 {
		t.Error("a private name is no constant:", l)
	}
	if l := All(ruled("c", "d"), api.Term{Kind: api.KName, Name: "n", Args: []api.Term{read("c")}}); Shown(l) != "0 0 n\n" || l[0].T.Args[0].Name != "d" {
		t.Error("within what has arguments, of whatever kind:", l)
	}
}

// P16.1: the steps by one rule, whose number is none.
func TestBy(t *testing.T) {
	for _, c := range []struct {
		l, r, t string
		want    []string
	}{
		{"f(X)", "X", "f(g(f(X), X))", []string{"0 - g(f(X), X)", "0 0.0 f(g(X, X))"}},
		{"g(X, X)", "a", "g(g(b, b), g(b, b))", []string{"0 - a", "0 0 g(a, g(b, b))", "0 1 g(g(b, b), a)"}},
		{"g(X, X)", "a", "g(X, Y)", nil},
		{"sdec(senc(X, K), K)", "X", "sdec(senc(a, k), k)", []string{"0 - a"}},
		{"sdec(senc(X, K), K)", "X", "sdec(senc(a, k), j)", nil},
		{"c", "d", "k(c, k(c), c, b, k(b, c, d))", []string{"0 0 k(d, k(c), c, b, k(b, c, d))", "0 1.0 k(c, k(d), c, b, k(b, c, d))", "0 2 k(c, k(c), d, b, k(b, c, d))", "0 4.1 k(c, k(c), c, b, k(b, d, d))"}},
		{"c", "d", "d", nil},
	} {
		if got := Shown(By(api.Rule{L: read(c.l), R: read(c.r)}, read(c.t))); got != lines(c.want...) {
			t.Errorf("By(%s = %s, %s):\n%s", c.l, c.r, c.t, got)
		}
	}
	// A rule that nobody filled in rewrites what nobody filled in.
	if l := By(api.Rule{}, api.Term{}); len(l) != 1 || len(l[0].At) != 0 || l[0].Rule != 0 || !term.Same(l[0].T, api.Term{}) {
		t.Error("of nothing:", l)
	}
}

// P16.1, P16.2: by the rule, all small terms and odd ones as terms and as sides.
func TestByRule(t *testing.T) {
	r := rand.New(rand.NewSource(1))
	terms := append(small(4), odd()...)
	for range 1500 {
		rules := drawn(r, terms)
		for range 30 {
			x := terms[r.Intn(len(terms))]
			want := inOrder(rules, x, place.All(x))
			if got := All(rules, x); !equal(got, want) {
				t.Fatalf("%sAll(%v) = %v; want %v", wrote(rules), x, got, want)
			}
			got, is := First(rules, x)
			one, has := first(rules, x)
			if is != has || !same(got, one) {
				t.Fatalf("%sFirst(%v) = %v, %t; want %v, %t", wrote(rules), x, got, is, one, has)
			}
			for _, a := range rules {
				if got := By(a, x); !equal(got, inOrder([]api.Rule{a}, x, place.All(x))) {
					t.Fatalf("%sBy(%v) = %v", wrote([]api.Rule{a}), x, got)
				}
			}
		}
	}
}

// P16.1: whether one step leads from a term to another one.
func TestIs(t *testing.T) {
	rules := ruled("f(X)", "X", "g(X, X)", "a", "d", "d", "swap(X, Y)", "swap(Y, X)")
	for _, c := range []struct {
		t, u string
		is   bool
	}{
		{"g(f(a), a)", "g(a, a)", true},
		{"g(f(a), a)", "a", false}, // two steps
		{"g(f(a), a)", "g(f(a), a)", false},
		{"g(a, a)", "a", true},
		{"f(f(f(b)))", "f(f(b))", true},
		{"f(f(f(b)))", "f(b)", false},
		{"f(b)", "b", true},
		{"b", "f(b)", false}, // not back
		{"a", "a", false},
		{"k(f(b), f(c))", "k(b, f(c))", true},
		{"k(f(b), f(c))", "k(f(b), c)", true},
		{"k(f(b), f(c))", "k(b, c)", false}, // one alone
		{"k(f(b), f(c))", "k(f(b), f(c))", false},
		{"k(f(b), f(c))", "k(b, f(e))", false},
		{"k(f(b), e)", "k(b, c)", false},
		{"k(e, f(b))", "k(c, b)", false},
		{"k(f(b), e)", "k(b, e, e)", false},
		{"k(f(b), e)", "j(b, e)", false},
		{"k(e, k(e, k(f(b))), e)", "k(e, k(e, k(b)), e)", true},
		{"k(e, k(e, k(f(b))), e)", "k(e, k(b, k(b)), e)", false},
		// steps that change nothing
		{"d", "d", true},
		{"k(b, d, c)", "k(b, d, c)", true},
		{"k(b, d, f(c))", "k(b, d, c)", true},
		{"k(b, d, f(c))", "k(b, d, b)", false},
		{"swap(b, b)", "swap(b, b)", true},
		{"swap(b, c)", "swap(c, b)", true},
		{"swap(b, c)", "swap(b, c)", false},
		{"swap(f(b), b)", "swap(b, b)", true},
		{"swap(f(b), b)", "swap(b, f(b))", true},
		// variables stand for themselves
		{"f(X)", "X", true},
		{"f(X)", "Y", false},
		{"g(X, Y)", "a", false},
	} {
		if Is(rules, read(c.t), read(c.u)) != c.is {
			t.Errorf("Is(%s, %s) = %t", c.t, c.u, !c.is)
		}
		if Is(nil, read(c.t), read(c.u)) || Is([]api.Rule{}, read(c.t), read(c.u)) {
			t.Errorf("no rules, yet a step from %s to %s", c.t, c.u)
		}
	}
	if Is(ruled("f(X)", "c"), read("f(b)"), private("c")) {
		t.Error("a private name is no constant")
	}
	// handles and fresh constants are told apart by their numbers, and so is all else that has one
	for _, other := range []api.Term{handle(2), fresh(1), private("c"), {Kind: api.KHand, N: 1, Name: "c"}} {
		x, y := term.Fun("k", handle(1), read("f(b)")), term.Fun("k", other, read("b"))
		if Is(rules, x, y) || Is(rules, y, x) || !Is(rules, x, term.Fun("k", handle(1), read("b"))) {
			t.Errorf("Is(%v, %v)", x, y)
		}
	}
	x, y := term.Fun("k", read("f(b)")), term.Fun("k", read("b"))
	if y.N = 3; Is(rules, x, y) {
		t.Error("functions of other numbers")
	}
}

// P16.1: what Is tells is whether one of All is that, of all pairs of terms.
func TestIsByRule(t *testing.T) {
	r := rand.New(rand.NewSource(2))
	terms := append(small(4), odd()...)
	for range 400 {
		rules := drawn(r, small(3))
		if r.Intn(4) == 0 {
			rules = drawn(r, terms)
		}
		for range 10 {
			x := terms[r.Intn(len(terms))]
			if r.Intn(2) == 0 {
				x = term.Fun("g", x, terms[r.Intn(len(terms))])
			}
			l := inOrder(rules, x, place.All(x))
			ends := append([]api.Term{x}, terms...)
			for _, s := range l {
				ends = append(ends, s.T)
				// and what is one step further
				for _, p := range inOrder(rules, s.T, place.All(s.T)) {
					ends = append(ends, p.T)
				}
			}
			for _, y := range ends {
				want := slices.ContainsFunc(l, func(s Red) bool { return term.Same(s.T, y) })
				if Is(rules, x, y) != want {
					t.Fatalf("%sIs(%v, %v) = %t", wrote(rules), x, y, !want)
				}
			}
		}
	}
}

// P16.2: from within, from the left, and by the first rule.
func TestFirst(t *testing.T) {
	rules := ruled("g(X, X)", "a", "f(X)", "X", "f(X)", "never", "f(g(X, Y))", "never", "c", "d", "k(X)", "j(X, Z)")
	for _, c := range []struct{ t, want string }{
		{"f(b)", "1 - b"},
		{"f(f(f(b)))", "1 0.0 f(f(b))"},
		{"f(g(b, b))", "0 0 f(a)"},
		{"f(g(b, e))", "1 - g(b, e)"},
		{"g(f(b), f(b))", "1 0 g(b, f(b))"},
		{"g(b, f(b))", "1 1 g(b, b)"},
		{"g(c, f(f(b)))", "4 0 g(d, f(f(b)))"},
		{"g(d, f(f(b)))", "1 1.0 g(d, f(b))"},
		{"h(b, h(b, f(b), c), c)", "1 1.1 h(b, h(b, b, c), c)"},
		{"h(b, h(b, b, f(c)), c)", "4 1.2.0 h(b, h(b, b, f(d)), c)"},
		{"k(X)", "5 - j(X, Z)"},
		{"g(X, X)", "0 - a"},
		{"f(g(X, Y))", "1 - g(X, Y)"},
	} {
		s, is := First(rules, read(c.t))
		if got := Shown([]Red{s}); !is || got != c.want+"\n" {
			t.Errorf("First(%s) = %s, %t; want %s", c.t, got, is, c.want)
		}
	}
	for _, s := range []string{"b", "X", "g(X, Y)", "h(b, g(a, b), a(b))", "f", "c(b)", "g(b)"} {
		if x, is := First(rules, read(s)); is || len(x.At) != 0 || x.Rule != 0 || !term.Same(x.T, api.Term{}) {
			t.Errorf("First(%s) = %v, %t", s, x, is)
		}
	}
	for _, none := range [][]api.Rule{nil, {}} {
		if x, is := First(none, read("f(c)")); is || len(x.At) != 0 || !term.Same(x.T, api.Term{}) {
			t.Error("no rules:", x)
		}
	}
	if x, is := First(ruled("X", "b"), read("g(a, Y)")); !is || Shown([]Red{x}) != "0 0 g(b, Y)\n" {
		t.Error("a variable becomes anything:", x)
	}
}

// P16.2, P16.3: the rows of steps, and how much fuel is enough.
func TestChain(t *testing.T) {
	for _, c := range []struct {
		t    string
		want []string
	}{
		{"a", nil},
		{"X", nil},
		{"sdec(senc(a, k), j)", nil},
		{"sdec(senc(a, k), k)", []string{"2 - a"}},
		{"fst(pair(a, fst(pair(b, c))))", []string{"0 0.1 fst(pair(a, b))", "0 - a"}},
		{"g(snd(pair(a, b)), fst(pair(a, b)))", []string{"1 0 g(b, fst(pair(a, b)))", "0 1 g(b, a)"}},
		{"twice(twice(one))", []string{"9 0.0 twice(twice(c))", "4 0 twice(pair(c, c))", "4 - pair(pair(c, c), pair(c, c))"}},
		{"fst(two)", []string{"8 0 fst(pair(one, one))", "9 0.0 fst(pair(c, one))", "9 0.1 fst(pair(c, c))", "0 - c"}},
		{"f(s(c))", []string{"5 - h(f(c), f(c))", "6 0 h(c, f(c))", "6 1 h(c, c)", "7 - c"}},
		{"f(s(a))", []string{"5 - h(f(a), f(a))", "7 - f(a)"}},
		{"f(s(X))", []string{"5 - h(f(X), f(X))", "7 - f(X)"}},
		{"same(X, fst(pair(X, Y)))", []string{"0 1 same(X, X)", "3 - ok"}},
		{"k(same(a, b), same(one, c), f(s(b)))", []string{"9 1.0 k(same(a, b), same(c, c), f(s(b)))", "3 1 k(same(a, b), ok, f(s(b)))", "5 2 k(same(a, b), ok, h(f(b), f(b)))", "7 2 k(same(a, b), ok, f(b))"}},
	} {
		for _, fuel := range []int{-1, 0, 1, len(c.want) - 1, len(c.want), len(c.want) + 1, math.MaxInt, math.MinInt} {
			l, is := Chain(ends(), read(c.t), fuel)
			want := c.want
			enough := len(want) == 0 || len(want) <= fuel
			if !enough {
				want = nil
			}
			if is != enough || Shown(l) != lines(want...) {
				t.Errorf("Chain(%s, %d) = %t\n%s", c.t, fuel, is, Shown(l))
			}
		}
	}
	for _, none := range [][]api.Rule{nil, {}} {
		if l, is := Chain(none, read("f(c)"), 0); !is || len(l) != 0 {
			t.Error("no rules:", l)
		}
	}
	// A variable that the left side has not stays; where another one stands for something, it is no other one's.
	rules := ruled("f(X, Y)", "g(Y, k(Z), k(X))", "k(X)", "j(X, Y, Z)")
	if l, is := Chain(rules, read("f(Z, f(X, Y))"), 9); !is || Shown(l) != lines("0 1 f(Z, g(Y, k(Z), k(X)))", "1 1.1 f(Z, g(Y, j(Z, Y, Z), k(X)))", "1 1.2 f(Z, g(Y, j(Z, Y, Z), j(X, Y, Z)))",
		"0 - g(g(Y, j(Z, Y, Z), j(X, Y, Z)), k(Z), k(Z))", "1 1 g(g(Y, j(Z, Y, Z), j(X, Y, Z)), j(Z, Y, Z), k(Z))", "1 2 g(g(Y, j(Z, Y, Z), j(X, Y, Z)), j(Z, Y, Z), j(Z, Y, Z))") {
		t.Errorf("Chain: %t\n%s", is, Shown(l))
	}
}

// P16.2, P16.3: a chain is First again and again, and comes to what norm.Of comes to, in as many steps.
func TestChainByRule(t *testing.T) {
	r := rand.New(rand.NewSource(3))
	terms := append(small(4), odd()...)
	for range 3000 {
		rules := drawn(r, terms[:min(len(terms), 40+r.Intn(len(terms)))])
		for range 8 {
			x, fuel := terms[r.Intn(len(terms))], r.Intn(10)-1
			if r.Intn(2) == 0 {
				x = term.Fun("g", x, terms[r.Intn(len(terms))])
			}
			want, enough := chain(rules, x, fuel)
			got, is := Chain(rules, x, fuel)
			if is != enough || !equal(got, want) {
				t.Fatalf("%sChain(%v, %d) = %v, %t; want %v, %t", wrote(rules), x, fuel, got, is, want, enough)
			}
			end, steps, e := norm.Once(rules, x, fuel)
			if is != (e == api.OK) || len(got) != steps || is && !term.Same(last(x, got), end) {
				t.Fatalf("%sChain(%v, %d): %d steps to %v; want %d to %v", wrote(rules), x, fuel, len(got), last(x, got), steps, end)
			}
			before := x
			for i, s := range got {
				one, has := First(rules, before)
				if !has || !same(one, s) || !Is(rules, before, s.T) {
					t.Fatalf("%sChain(%v): step %d", wrote(rules), x, i)
				}
				before = s.T
			}
			if _, more := First(rules, before); is && more {
				t.Fatalf("%sChain(%v) ends ahead of the end", wrote(rules), x)
			}
		}
	}
}

// last tells what steps lead to.
func last(t api.Term, l []Red) api.Term {
	if len(l) == 0 {
		return t
	}
	return l[len(l)-1].T
}

// P16.2: what never ends takes more than any fuel.
func TestChainNever(t *testing.T) {
	for _, c := range []struct {
		rules []api.Rule
		t     string
	}{
		{ruled("f(X)", "f(X)"), "f(a)"},
		{ruled("f(X)", "g(X)", "g(X)", "f(X)"), "k(b, g(a))"},
		{ruled("f(X)", "s(f(X))"), "h(b, f(a))"},
		{ruled("X", "a"), "b"},
		{ruled("X", "X"), "g(a, b)"},
		{ruled("X", "Y"), "g(a, b)"},
		{ruled("c", "d", "d", "g(e, c)"), "c"},
		{ruled("c", "c", "g(X, Y)", "X"), "g(a, c)"},
	} {
		for _, fuel := range []int{0, 1, 2, 1000, -1, 1 << 40, math.MaxInt, math.MaxInt - 1, math.MinInt} {
			if l, is := Chain(c.rules, read(c.t), fuel); is || len(l) != 0 {
				t.Errorf("%sChain(%s, %d) = %d steps, %t", wrote(c.rules), c.t, fuel, len(l), is)
			}
		}
	}
	// and what grows without end
	for _, rules := range [][]api.Rule{ruled("f(X)", "f(s(X))"), ruled("f(X)", "s(f(s(X)))"), ruled("f(X)", "g(X, f(g(X, X)))"), ruled("f(X)", "f(f(X))"), ruled("f(X)", "g(f(s(X)), f(s(X)))")} {
		for _, fuel := range []int{0, 7, 100_000} {
			if l, is := Chain(rules, read("f(a)"), fuel); is || len(l) != 0 {
				t.Errorf("%s%d: %d steps, %t", wrote(rules), fuel, len(l), is)
			}
		}
	}
}

// P16.3: a line each: number, place, term.
func TestShown(t *testing.T) {
	for _, c := range []struct {
		l    []Red
		want string
	}{
		{nil, ""},
		{[]Red{}, ""},
		{[]Red{{}}, "0 - ?\n"},
		{[]Red{{At: []int{}, Rule: 3, T: read("f(X, g(a))")}}, "3 - f(X, g(a))\n"},
		{[]Red{{At: []int{0}, Rule: 12, T: private("k")}}, "12 0 k\n"},
		{[]Red{{At: []int{2, 10, 0}, Rule: 23, T: term.Fun("f", handle(1), fresh(12))}}, "23 2.10.0 f($1, %12)\n"},
		{[]Red{{At: []int{1, 2}, T: v("X")}, {Rule: 1, T: read("a")}, {At: []int{5}, Rule: 2, T: api.Term{Kind: 9}}}, "0 1.2 X\n1 - a\n2 5 ?\n"},
		{[]Red{{At: []int{-1, 0, math.MinInt}, Rule: -7, T: handle(-2)}}, "-7 -1.0.-9223372036854775808 $-2\n"},
		{[]Red{{At: []int{math.MaxInt}, Rule: math.MaxInt, T: term.Fun("")}}, "9223372036854775807 9223372036854775807 \n"},
	} {
		if got := Shown(c.l); got != c.want {
			t.Errorf("Shown(%v) = %q; want %q", c.l, got, c.want)
		}
	}
}

// P3: nil lists and empty ones are the same.
func TestEmpty(t *testing.T) {
	bare := api.Term{Kind: api.KFun, Name: "c"}
	empty := api.Term{Kind: api.KFun, Name: "c", Args: []api.Term{}}
	for _, x := range []api.Term{bare, empty} {
		for _, l := range []api.Term{bare, empty} {
			rules := []api.Rule{{L: l, R: read("d")}}
			u := term.Fun("g", x)
			if Shown(All(rules, u)) != "0 0 g(d)\n" || Shown(By(rules[0], u)) != "0 0 g(d)\n" || !Is(rules, u, read("g(d)")) {
				t.Error("All, By, Is")
			}
			if s, is := First(rules, x); !is || len(s.At) != 0 || term.Show(s.T) != "d" {
				t.Error("First:", s)
			}
			if s, is := Chain(rules, u, 1); !is || Shown(s) != "0 0 g(d)\n" {
				t.Error("Chain:", s)
			}
			if !Is([]api.Rule{{L: read("d"), R: l}}, read("g(d)"), u) {
				t.Error("Is")
			}
		}
	}
}

// P2: nothing that is handed in is changed; what lies behind a list's length says nothing.
func TestUnchanged(t *testing.T) {
	args := append(make([]api.Term, 0, 4), read("f(s(c))"), read("f(s(c))"), read("twice(b)"))[:2]
	rules := append(make([]api.Rule, 0, 20), ends()...)
	behind := append(rules, api.Rule{L: v("X"), R: v("X")})
	u := api.Term{Kind: api.KFun, Name: "same", Args: args}
	was := deepCopy(u)
	for range 2 {
		if l := All(rules, u); Shown(l) != lines("3 - ok", "5 0 same(h(f(c), f(c)), f(s(c)))", "5 1 same(f(s(c)), h(f(c), f(c)))") {
			t.Error("All:", Shown(l))
		}
		if l := By(rules[5], u); len(l) != 2 {
			t.Error("By:", Shown(l))
		}
		if s, is := First(rules, u); !is || Shown([]Red{s}) != "5 0 same(h(f(c), f(c)), f(s(c)))\n" {
			t.Error("First:", s)
		}
		if l, is := Chain(rules, u, 9); !is || len(l) != 9 || term.Show(l[8].T) != "ok" {
			t.Error("Chain:", Shown(l))
		}
		if !Is(rules, u, read("ok")) || Is(rules, u, u) {
			t.Error("a rule behind the others is asked")
		}
	}
	if !term.Same(u, was) || !term.Same(args[:3][2], read("twice(b)")) {
		t.Error("the term is changed:", u)
	}
	for i, r := range append(ends(), api.Rule{L: v("X"), R: v("X")}) {
		if !term.Same(behind[i].L, r.L) || !term.Same(behind[i].R, r.R) {
			t.Error("the rules are changed:", i)
		}
	}
	l := append(make([]Red, 0, 3), Red{T: read("a")}, Red{T: read("b")})[:1]
	if Shown(l) != "0 - a\n" || term.Show(l[:2][1].T) != "b" {
		t.Error("Shown:", l)
	}
}

// P2: no two places that are answered share their lists, nor the terms' own lists with what was handed in.
func TestOwn(t *testing.T) {
	u := deepCopy(read("g(f(s(c)), k(f(s(c)), f(s(one))), fst(pair(two, b)))"))
	was := deepCopy(u)
	rules := ends()
	told := func() [][]Red {
		s, _ := First(rules, u)
		c, _ := Chain(rules, u, 99)
		return [][]Red{All(rules, u), By(rules[5], u), {s}, c}
	}
	one, other := told(), told()
	for i, l := range one {
		for k := range l {
			before := Shown(other[i])
			rest := Shown(l[:k]) + Shown(l[k+1:])
			for n := range l[k].At {
				l[k].At[n] = -9
			}
			l[k].At = append(l[k].At, -9)
			l[k].T.Args = append(l[k].T.Args, read("spoilt"))
			if Shown(other[i]) != before || Shown(l[:k])+Shown(l[k+1:]) != rest {
				t.Error("an answer shares its lists with another one:", i, k)
			}
		}
	}
	if !term.Same(u, was) {
		t.Error("an answer shares a list with the term:", u)
	}
	for i, l := range told() {
		if Shown(l) != Shown(other[i]) {
			t.Error("another answer, once the last one was changed:", i)
		}
	}
}

// Deep terms and wide ones.
func TestLarge(t *testing.T) {
	const most = 1<<16 - 2
	rules := ruled("open(box(X))", "X", "same(X, X)", "ok")
	deep := nested("s", most, read("open(box(c))"))
	end := nested("s", most, read("c"))
	wide := api.Term{Kind: api.KFun, Name: "wide"}
	for i := range most {
		wide.Args = append(wide.Args, term.Fun("k"+strconv.Itoa(i%3)))
	}
	flat := deepCopy(wide)
	wide.Args[most-1] = read("open(box(c))")
	flat.Args[most-1] = read("c")
	for _, c := range []struct {
		t, end api.Term
		at     int // how deep the step is
	}{
		{deep, end, most},
		{wide, flat, 1},
		{term.Fun("same", end, end), read("ok"), 0},
	} {
		s, is := First(rules, c.t)
		l, enough := Chain(rules, c.t, 1)
		if !is || !enough || len(l) != 1 {
			t.Fatalf("%s: %t, %t, %d steps", c.t.Name, is, enough, len(l))
		}
		for _, row := range [][]Red{{s}, l, All(rules, c.t), By(rules[s.Rule], c.t)} {
			if len(row) != 1 || len(row[0].At) != c.at || !term.Same(row[0].T, c.end) {
				t.Errorf("%s: %d steps", c.t.Name, len(row))
			}
		}
		if !Is(rules, c.t, c.end) || Is(rules, c.t, c.t) || Is(rules, c.end, c.t) {
			t.Error("Is:", c.t.Name)
		}
	}
}

// Long rows of steps, near the root of deep terms, and far from it.
func TestLong(t *testing.T) {
	const most = 1<<16 - 2
	rules := ruled("down(s(X))", "down(X)", "down(c)", "c", "open(box(X))", "X", "twice(X)", "pair(X, X)")
	l, is := Chain(rules, term.Fun("down", nested("s", most, read("c"))), most+1)
	if !is || len(l) != most+1 || l[most].T.Name != "c" || l[most].Rule != 1 {
		t.Error("down:", is, len(l))
	}
	opens := read("c")
	for range 1000 {
		opens = term.Fun("open", term.Fun("box", opens))
	}
	l, is = Chain(rules, opens, 1000)
	if !is || len(l) != 1000 || term.Show(l[999].T) != "c" || len(l[0].At) != 1998 || len(l[999].At) != 0 {
		t.Error("opens:", is, len(l))
	}
	// Nobody could go through such terms one by one.
	l, is = Chain(rules, nested("twice", 40, read("a")), 40)
	if !is || len(l) != 40 || l[39].T.Name != "pair" || len(l[0].At) != 39 {
		t.Error("twice:", is, len(l))
	}
	rules = rules[:1]
	if l, is := Chain(rules, term.Fun("down", nested("s", most, read("c"))), most-1); is || len(l) != 0 {
		t.Error("not enough:", is, len(l))
	}
}

// P16.3, of the rules of all primitives.
func TestLibrary(t *testing.T) {
	rules := library.All().Rules
	r := rand.New(rand.NewSource(4))
	for range 1500 {
		u := instance(r, rules, 3)
		want, _ := chain(rules, u, term.Size(u))
		got, is := Chain(rules, u, term.Size(u))
		if !is || !equal(got, want) {
			t.Fatalf("Chain(%s) = %t\n%s", term.Show(u), is, Shown(got))
		}
		end, steps, e := norm.Once(rules, u, term.Size(u))
		if e != api.OK || steps != len(got) || !term.Same(end, last(u, got)) {
			t.Fatalf("Chain(%s):\n%s; but norm: %s, %d, %d", term.Show(u), Shown(got), term.Show(end), steps, e)
		}
		if !equal(All(rules, u), inOrder(rules, u, place.All(u))) {
			t.Fatalf("All(%s):\n%s", term.Show(u), Shown(All(rules, u)))
		}
	}
}

// instance draws an instance of a left side, where such instances stand for some variables.
func instance(r *rand.Rand, rules []api.Rule, deep int) api.Term {
	if deep == 0 {
		return []api.Term{private("a"), private("k"), handle(1), fresh(0), v("X")}[r.Intn(5)]
	}
	l := rules[r.Intn(len(rules))].L
	stand := map[string]api.Term{}
	for _, name := range term.Vars(l) {
		stand[name] = instance(r, rules, r.Intn(deep))
	}
	return filled(l, stand)
}
