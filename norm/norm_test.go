package norm

import (
	"math"
	"math/rand"
	"slices"
	"strconv"
	"strings"
	"testing"

	"picklock/api"
	"picklock/grammar"
	"picklock/library"
	"picklock/term"
)

// read reads a term; its words are functions.
func read(s string) api.Term {
	t, bad := grammar.Term(s)
	if bad != (api.Fault{}) {
		panic(s)
	}
	return grammar.Plain(t)
}

// ruled reads rules, a left side and a right side each.
func ruled(sides ...string) []api.Rule {
	var l []api.Rule
	for i := 0; i < len(sides); i += 2 {
		l = append(l, api.Rule{L: read(sides[i]), R: read(sides[i+1])})
	}
	return l
}

func v(name string) api.Term { return term.Var(name) }

func private(name string) api.Term { return api.Term{Kind: api.KName, Name: name} }

func handle(n int) api.Term { return api.Term{Kind: api.KHand, N: n} }

func fresh(n int) api.Term { return api.Term{Kind: api.KFresh, N: n} }

// nested puts a function around a term, so many times.
func nested(name string, n int, t api.Term) api.Term {
	for range n {
		t = term.Fun(name, t)
	}
	return t
}

// deepCopy tells the same term with lists of its own.
func deepCopy(t api.Term) api.Term {
	var args []api.Term
	for _, a := range t.Args {
		args = append(args, deepCopy(a))
	}
	t.Args = args
	return t
}

// spoil changes all in a term's lists.
func spoil(t api.Term) {
	for i := range t.Args {
		spoil(t.Args[i])
		t.Args[i] = api.Term{Kind: api.KFun, Name: "spoilt"}
	}
}

// becomes tells whether a pattern becomes a term, and what its variables stand for then.
func becomes(p, t api.Term, stand map[string]api.Term) bool {
	if p.Kind == api.KVar {
		if x, is := stand[p.Name]; is {
			return term.Same(x, t)
		}
		stand[p.Name] = t
		return true
	}
	if p.Kind != t.Kind || p.N != t.N || p.Name != t.Name || len(p.Args) != len(t.Args) {
		return false
	}
	for i := range p.Args {
		if !becomes(p.Args[i], t.Args[i], stand) {
			return false
		}
	}
	return true
}

// filled puts what stands for variables in their places.
func filled(t api.Term, stand map[string]api.Term) api.Term {
	if x, is := stand[t.Name]; is && t.Kind == api.KVar {
		return x
	}
	var args []api.Term
	for _, a := range t.Args {
		args = append(args, filled(a, stand))
	}
	t.Args = args
	return t
}

// plain does what the document says, word by word: nothing is kept.
type plain struct {
	rules []api.Rule
	fuel  int
	steps int
	seen  []api.Term // what was rewritten
}

func (p *plain) root(t api.Term) (api.Term, int, bool) {
	for i, r := range p.rules {
		stand := map[string]api.Term{}
		if becomes(r.L, t, stand) {
			return filled(r.R, stand), i, true
		}
	}
	return api.Term{}, 0, false
}

func (p *plain) normal(t api.Term) bool {
	_, _, is := p.root(t)
	return !is && !slices.ContainsFunc(t.Args, func(a api.Term) bool { return !p.normal(a) })
}

// of rewrites a term; false if that takes more than the fuel that is there.
func (p *plain) of(t api.Term) (api.Term, bool) {
	u := t
	u.Args = nil
	for _, a := range t.Args {
		x, enough := p.of(a)
		if !enough {
			return api.Term{}, false
		}
		u.Args = append(u.Args, x)
	}
	if x, _, is := p.root(u); is {
		if p.steps++; p.steps > p.fuel {
			return api.Term{}, false
		}
		var enough bool
		if u, enough = p.of(x); !enough {
			return api.Term{}, false
		}
	}
	p.seen = append(p.seen, t)
	return u, true
}

// small are all terms of X, Y, a, f and g that have at most so many parts.
func small(most int) []api.Term {
	l := []api.Term{v("X"), v("Y"), term.Fun("a")}
	for range most - 1 {
		for _, x := range slices.Clone(l) {
			l = append(l, term.Fun("f", x))
			for _, y := range slices.Clone(l) {
				if term.Size(x)+term.Size(y) < most {
					l = append(l, term.Fun("g", x, y))
				}
			}
		}
		l = slices.DeleteFunc(term.Set(l), func(x api.Term) bool { return term.Size(x) > most })
	}
	return l
}

// odd are terms of all kinds, with and without arguments.
func odd() []api.Term {
	l := []api.Term{{}, private("X"), private("f"), handle(0), handle(1), fresh(0), fresh(-3), v(""), term.Fun("")}
	for _, kind := range []int{0, api.KVar, api.KName, api.KHand, api.KFresh, api.KFun, 6, -1, math.MaxInt, math.MinInt} {
		for _, args := range [][]api.Term{{v("X")}, {private("X"), v("Y")}, {term.Fun("a"), term.Fun("a")}} {
			l = append(l, api.Term{Kind: kind, Name: "X", N: 4, Args: args}, api.Term{Kind: kind, Name: "f", Args: args})
		}
	}
	return l
}

// drawn draws some of those terms as the sides of a few rules.
func drawn(r *rand.Rand, l []api.Term) []api.Rule {
	var rules []api.Rule
	for range r.Intn(5) {
		rules = append(rules, api.Rule{L: l[r.Intn(len(l))], R: l[r.Intn(len(l))]})
	}
	return rules
}

// wrote writes rules for a message.
func wrote(rules []api.Rule) string {
	var b strings.Builder
	for _, r := range rules {
		b.WriteString(term.Show(r.L) + " = " + term.Show(r.R) + ". ")
	}
	return b.String()
}

// ends are rules that come to an end, whatever they rewrite.
func ends() []api.Rule {
	return ruled("fst(pair(X, Y))", "X", "snd(pair(X, Y))", "Y", "sdec(senc(X, K), K)", "X", "same(X, X)", "ok",
		"twice(X)", "pair(X, X)", "f(s(X))", "h(f(X), f(X))", "f(c)", "c", "h(X, X)", "X", "two", "pair(one, one)", "one", "c")
}

// P15.1: the first rule that the root is an instance of.
func TestRoot(t *testing.T) {
	rules := ruled("sdec(senc(X, K), K)", "X", "p(X, X)", "ok", "p(X, Y)", "q(Y, X, Z)", "p(X, X)", "never", "c", "d", "s(X)", "s(X)")
	for _, c := range []struct {
		t, to string
		rule  int
	}{
		{"sdec(senc(a, k), k)", "a", 0},
		{"sdec(senc(f(X, Y), g(Z)), g(Z))", "f(X, Y)", 0},
		{"p(a, a)", "ok", 1},
		{"p(g(X), g(X))", "ok", 1},
		{"p(a, b)", "q(b, a, Z)", 2},
		// variables of the term stand for themselves
		{"p(X, Y)", "q(Y, X, Z)", 2},
		{"p(Y, X)", "q(X, Y, Z)", 2},
		{"p(Z, g(X))", "q(g(X), Z, Z)", 2},
		{"c", "d", 4},
		{"s(c)", "s(c)", 5},
	} {
		x, i, is := Root(rules, read(c.t))
		if !is || i != c.rule || term.Show(x) != c.to {
			t.Errorf("Root(%s) = %s, %d, %t; want %s, %d", c.t, term.Show(x), i, is, c.to, c.rule)
		}
	}
	for _, s := range []string{"a", "X", "sdec(senc(a, k), j)", "sdec(a, k)", "senc(a, k)", "q(c)", "q(p(a, a))", "p(a)", "p(a, a, a)", "p", "d", "c(a)", "sdec(X, K)", "sdec(senc(X, Y), Z)"} {
		if x, i, is := Root(rules, read(s)); is || i != 0 || !term.Same(x, api.Term{}) {
			t.Errorf("Root(%s) = %s, %d, %t", s, term.Show(x), i, is)
		}
	}
	if x, i, is := Root(rules, private("c")); is || i != 0 || !term.Same(x, api.Term{}) {
		t.Error("a private name is no constant:", x, i)
	}
	for _, none := range [][]api.Rule{nil, {}} {
		if x, i, is := Root(none, read("c")); is || i != 0 || !term.Same(x, api.Term{}) {
			t.Error("no rules:", x, i)
		}
	}
}

// P15.1: by the rule, all small terms and odd ones as terms and as sides.
func TestRootByRule(t *testing.T) {
	r := rand.New(rand.NewSource(1))
	terms := append(small(4), odd()...)
	for range 1500 {
		p := plain{rules: drawn(r, terms)}
		for range 40 {
			x := terms[r.Intn(len(terms))]
			got, i, is := Root(p.rules, x)
			want, j, has := p.root(x)
			if is != has || i != j || !term.Same(got, want) {
				t.Fatalf("%sRoot(%v) = %v, %d, %t; want %v, %d, %t", wrote(p.rules), x, got, i, is, want, j, has)
			}
			if Normal(p.rules, x) != p.normal(x) {
				t.Fatalf("%sNormal(%v) = %t", wrote(p.rules), x, !p.normal(x))
			}
		}
	}
}

// P15.1: what no rule can rewrite, at the root and in all in it.
func TestNormal(t *testing.T) {
	rules := ends()
	for s, want := range map[string]bool{
		"a": true, "X": true, "c": true, "f(c)": false, "g(f(c))": false, "g(a, b, g(a, f(c)))": false, "g(f(c), a)": false,
		"sdec(senc(a, k), k)": false, "sdec(senc(a, k), j)": true, "sdec(senc(a, X), X)": false, "sdec(senc(a, X), Y)": true,
		"same(X, X)": false, "same(X, Y)": true, "h(h(a, b), h(a, b))": false, "h(h(a, b), h(b, a))": true, "one": false, "pair(a, one)": false,
		"f(X)": true, "f(s)": true, "f(s(a))": false,
	} {
		if Normal(rules, read(s)) != want {
			t.Errorf("Normal(%s) = %t", s, !want)
		}
		if !Normal(nil, read(s)) || !Normal([]api.Rule{}, read(s)) {
			t.Errorf("%s: no rules, yet not normal", s)
		}
	}
	if Normal([]api.Rule{{L: v("X"), R: read("a")}}, read("b")) {
		t.Error("a variable becomes anything")
	}
	if !Normal(rules, private("one")) || !Normal(rules, handle(1)) || !Normal(rules, fresh(1)) || !Normal(rules, api.Term{}) {
		t.Error("what has no function is normal")
	}
}

// P15.2: the normal form, and the steps that lead to it: enough fuel is that or more.
func TestOf(t *testing.T) {
	kept := New(ends())
	for _, c := range []struct {
		t, to string
		steps int
	}{
		// the document's example
		{"sdec(senc(a, k), k)", "a", 1},
		{"a", "a", 0},
		{"X", "X", 0},
		{"sdec(senc(a, k), j)", "sdec(senc(a, k), j)", 0},
		{"fst(pair(a, b))", "a", 1},
		{"g(snd(pair(a, b)))", "g(b)", 1},
		{"g(snd(pair(a, b)), fst(pair(a, b)))", "g(b, a)", 2},
		// from within: what is thrown away is rewritten too
		{"fst(pair(a, fst(pair(b, c))))", "a", 2},
		{"fst(pair(fst(pair(a, b)), fst(pair(b, c))))", "a", 3},
		// from within: what is doubled is rewritten ahead of that
		{"twice(fst(pair(a, b)))", "pair(a, a)", 2},
		{"twice(twice(twice(a)))", "pair(pair(pair(a, a), pair(a, a)), pair(pair(a, a), pair(a, a)))", 3},
		// what a rule tells is rewritten likewise
		{"two", "pair(c, c)", 3},
		{"fst(two)", "c", 4},
		{"one", "c", 1},
		{"f(c)", "c", 1},
		{"f(s(c))", "c", 4},
		{"f(s(s(c)))", "c", 10},
		{"f(s(s(s(c))))", "c", 22},
		{"f(s(a))", "f(a)", 2},
		{"g(f(s(one)), f(s(one)))", "g(c, c)", 10},
		// sides that come to the same are the same
		{"same(fst(pair(a, b)), snd(pair(b, a)))", "ok", 3},
		{"same(fst(pair(a, b)), snd(pair(a, b)))", "same(a, b)", 2},
		{"sdec(senc(a, fst(pair(k, j))), snd(pair(j, k)))", "a", 3},
		{"sdec(sdec(senc(senc(a, k), k), k), k)", "a", 2},
		{"same(X, fst(pair(X, Y)))", "ok", 2},
		{"same(X, snd(pair(X, Y)))", "same(X, Y)", 1},
	} {
		u := read(c.t)
		for fuel := -1; fuel <= c.steps+1; fuel++ {
			for _, n := range []*Norm{New(ends()), kept} {
				x, steps, e := n.Of(u, fuel)
				if !tells(x, steps, e, c.to, c.steps, fuel) {
					t.Errorf("Of(%s, %d) = %s, %d, %d; want %s, %d", c.t, fuel, term.Show(x), steps, e, c.to, c.steps)
				}
			}
			x, steps, e := Once(ends(), u, fuel)
			if !tells(x, steps, e, c.to, c.steps, fuel) {
				t.Errorf("Once(%s, %d) = %s, %d, %d; want %s, %d", c.t, fuel, term.Show(x), steps, e, c.to, c.steps)
			}
		}
		for _, fuel := range []int{math.MaxInt, 1 << 40, math.MinInt} {
			if x, steps, e := kept.Of(u, fuel); !tells(x, steps, e, c.to, c.steps, fuel) {
				t.Errorf("Of(%s, %d) = %s, %d, %d", c.t, fuel, term.Show(x), steps, e)
			}
		}
	}
}

// tells tells whether that is the answer of a term which comes to another one in so many steps: with less fuel it is an error, but without steps no fuel is too little.
func tells(x api.Term, steps int, e api.Errno, to string, want, fuel int) bool {
	if want > 0 && want > fuel {
		return e == api.ErrFuel && steps == 0 && term.Same(x, api.Term{})
	}
	return e == api.OK && steps == want && term.Show(x) == to
}

// P15.2: the first rule, by its number, is the one that is done.
func TestOfFirstRule(t *testing.T) {
	for _, c := range []struct {
		rules []api.Rule
		to    string
	}{
		{ruled("g(X, Y)", "a", "g(X, X)", "b"), "a"},
		{ruled("g(X, X)", "b", "g(X, Y)", "a"), "b"},
		{ruled("g(X, c)", "X", "g(c, X)", "d"), "c"},
		{ruled("h(X, c)", "X", "g(c, c)", "d", "g(X, X)", "e"), "d"},
		{ruled("g(X, Y)", "k(Z, Y, X)", "k(X, Y, Z)", "k2(X)"), "k2(Z)"},
		{ruled("k(Z)", "Y", "g(X, Y)", "k(Z)"), "Y"},
	} {
		x, _, e := Once(c.rules, read("g(c, c)"), 9)
		if e != api.OK || term.Show(x) != c.to {
			t.Errorf("%s: %s, %d; want %s", wrote(c.rules), term.Show(x), e, c.to)
		}
	}
}

// P15.2, P15.3, P15.4: by the rule, of any rules, also such as never end: with any fuel, at once or with what is kept.
func TestOfByRule(t *testing.T) {
	r := rand.New(rand.NewSource(2))
	few, many := small(3), append(small(5), odd()...)
	for i := range 3000 {
		rules := drawn(r, [][]api.Term{few, many}[i%2])
		n := New(rules)
		for range 12 {
			x, fuel := many[r.Intn(len(many))], r.Intn(12)-2
			checkOf(t, n, rules, x, fuel)
			was := n.Known()
			checkOf(t, n, rules, x, fuel+r.Intn(9)-4)
			if n.Known() < was {
				t.Fatalf("%s%v: what was kept is lost", wrote(rules), x)
			}
		}
	}
}

// checkOf holds what a Norm tells of a term, and what a new one does, against the rule.
func checkOf(t *testing.T, n *Norm, rules []api.Rule, x api.Term, fuel int) {
	t.Helper()
	p := plain{rules: rules, fuel: max(fuel, 0)}
	want, enough := p.of(x)
	once := New(rules)
	for _, m := range []*Norm{n, once} {
		got, steps, e := m.Of(x, fuel)
		if !enough {
			if e != api.ErrFuel || steps != 0 || !term.Same(got, api.Term{}) {
				t.Fatalf("%sOf(%v, %d) = %v, %d, %d; want no answer", wrote(rules), x, fuel, got, steps, e)
			}
			continue
		}
		if e != api.OK || steps != p.steps || !term.Same(got, want) {
			t.Fatalf("%sOf(%v, %d) = %v, %d, %d; want %v, %d", wrote(rules), x, fuel, got, steps, e, want, p.steps)
		}
		known := m.Known()
		if again, steps, e := m.Of(x, fuel); e != api.OK || steps != p.steps || !term.Same(again, want) || m.Known() != known {
			t.Fatalf("%sOf(%v, %d) again: %v, %d, %d", wrote(rules), x, fuel, again, steps, e)
		}
		if same, steps, e := m.Of(got, -1); !Normal(rules, got) || e != api.OK || steps != 0 || !term.Same(same, want) {
			t.Fatalf("%sOf(%v, %d) = %v, which is not normal", wrote(rules), x, fuel, got)
		}
	}
	if seen := len(term.Set(p.seen)); enough {
		m := New(rules)
		if m.Of(x, fuel); m.Known() != seen {
			t.Fatalf("%s%v: %d are known; want %d", wrote(rules), x, m.Known(), seen)
		}
	}
}

// P15.2: rules that never end take more than any fuel.
func TestOfNever(t *testing.T) {
	for _, c := range []struct {
		rules []api.Rule
		t     string
		known int // what is normal in it, and rewritten ahead of it
	}{
		{ruled("f(X)", "f(X)"), "f(a)", 1},
		{ruled("f(X)", "g(X)", "g(X)", "f(X)"), "g(a)", 1},
		{ruled("f(X)", "s(f(X))"), "h(b, f(a))", 2},
		{ruled("f(X)", "h(b, f(X))"), "f(a)", 2},
		{ruled("X", "a"), "b", 0},
		{ruled("X", "X"), "g(a, b)", 0},
		{ruled("c", "d", "d", "g(e, c)"), "c", 1},
		{ruled("c", "c", "g(X, Y)", "X"), "g(a, c)", 1},
	} {
		for _, fuel := range []int{0, 1, 2, 3, 1000, -1, 1 << 40, math.MaxInt, math.MaxInt - 1, math.MinInt} {
			n := New(c.rules)
			x, steps, e := n.Of(read(c.t), fuel)
			if e != api.ErrFuel || steps != 0 || !term.Same(x, api.Term{}) {
				t.Errorf("%sOf(%s, %d) = %s, %d, %d", wrote(c.rules), c.t, fuel, term.Show(x), steps, e)
			}
			if fuel > 2 && n.Known() != c.known {
				t.Errorf("%s%s: %d are known; want %d", wrote(c.rules), c.t, n.Known(), c.known)
			}
			// What never ends harms nothing else.
			if x, steps, e := n.Of(read("k(e)"), fuel); c.known > 0 && (e != api.OK || steps != 0 || term.Show(x) != "k(e)") {
				t.Errorf("%sthen k(e): %s, %d, %d", wrote(c.rules), term.Show(x), steps, e)
			}
		}
	}
}

// P15.2: terms that grow without end take more than any fuel; of what they come to nothing is too deep.
func TestOfGrows(t *testing.T) {
	for _, rules := range [][]api.Rule{
		ruled("f(X)", "f(s(X))"),
		ruled("f(X)", "s(f(s(X)))"),
		ruled("f(X)", "g(X, f(g(X, X)))"),
		ruled("f(X)", "f(f(X))"),
		ruled("f(X)", "g(f(s(X)), f(s(X)))"),
	} {
		for _, fuel := range []int{0, 1, 7, 100_000} {
			if x, steps, e := Once(rules, read("f(a)"), fuel); e != api.ErrFuel || steps != 0 || !term.Same(x, api.Term{}) {
				t.Errorf("%s%d: %d, %d", wrote(rules), fuel, steps, e)
			}
		}
	}
}

// P15.2: both are rewritten with so much fuel each; the first error counts.
func TestEqual(t *testing.T) {
	for _, c := range []struct {
		a, b string
		fuel int
		is   bool
		e    api.Errno
	}{
		{"a", "a", 0, true, api.OK},
		{"a", "a", -1, true, api.OK},
		{"a", "b", 0, false, api.OK},
		{"X", "X", 0, true, api.OK},
		{"X", "Y", 0, false, api.OK},
		{"fst(pair(a, b))", "a", 1, true, api.OK},
		{"a", "fst(pair(a, b))", 1, true, api.OK},
		{"fst(pair(a, b))", "b", 1, false, api.OK},
		{"fst(pair(a, b))", "snd(pair(b, a))", 1, true, api.OK},
		{"fst(pair(a, b))", "fst(pair(a, b))", 1, true, api.OK},
		{"fst(pair(a, b))", "fst(pair(a, b))", 0, false, api.ErrFuel},
		{"fst(pair(a, b))", "a", 0, false, api.ErrFuel},
		{"a", "fst(pair(a, b))", 0, false, api.ErrFuel},
		{"f(s(c))", "f(s(s(c)))", 10, true, api.OK},
		{"f(s(c))", "f(s(s(c)))", 9, false, api.ErrFuel},
		{"f(s(s(c)))", "f(s(c))", 9, false, api.ErrFuel},
		{"two", "twice(one)", 3, true, api.OK},
		{"two", "twice(one)", 2, false, api.ErrFuel},
		{"pair(a, b)", "pair(b, a)", 9, false, api.OK},
	} {
		n := New(ends())
		for range 2 {
			if is, e := n.Equal(read(c.a), read(c.b), c.fuel); is != c.is || e != c.e {
				t.Errorf("Equal(%s, %s, %d) = %t, %d; want %t, %d", c.a, c.b, c.fuel, is, e, c.is, c.e)
			}
		}
	}
	all := append(small(3), odd()...)
	n := New(nil)
	for _, a := range all {
		for _, b := range all {
			if is, e := n.Equal(a, b, 0); is != term.Same(a, b) || e != api.OK {
				t.Errorf("no rules: Equal(%v, %v) = %t, %d", a, b, is, e)
			}
		}
	}
}

// P15.2: what is Equal is what comes to the same, by the rule.
func TestEqualByRule(t *testing.T) {
	r := rand.New(rand.NewSource(3))
	few, terms := small(3), small(4)
	for range 3000 {
		rules := drawn(r, few)
		n := New(rules)
		for range 8 {
			a, b, fuel := terms[r.Intn(len(terms))], terms[r.Intn(len(terms))], r.Intn(8)
			p, q := plain{rules: rules, fuel: fuel}, plain{rules: rules, fuel: fuel}
			x, first := p.of(a)
			y, second := q.of(b)
			want := api.OK
			if !first || !second {
				want = api.ErrFuel
			}
			if is, e := n.Equal(a, b, fuel); e != want || is != (e == api.OK && term.Same(x, y)) {
				t.Fatalf("%sEqual(%s, %s, %d) = %t, %d", wrote(rules), term.Show(a), term.Show(b), fuel, is, e)
			}
		}
	}
}

// P15.3: each term is kept once, with all in it and all that came of it.
func TestKnown(t *testing.T) {
	n := New(ends())
	if n.Known() != 0 {
		t.Error("a new Norm knows", n.Known())
	}
	for _, c := range []struct {
		t     string
		fuel  int
		known int
	}{
		{"a", 0, 1},
		{"a", 9, 1},
		{"X", 9, 2},
		{"g(a, a, X)", 9, 3},
		{"sdec(senc(a, k), k)", 9, 6},
		{"senc(a, k)", 9, 6},
		{"two", 0, 6},            // not enough
		{"one", 9, 8},            // and c
		{"pair(one, one)", 1, 8}, // not enough again
		{"two", 9, 10},
		{"pair(c, c)", 9, 11}, // what it came to is not rewritten for itself
		{"pair(c, c)", 0, 11},
		{"pair(one, one)", 2, 11},
		{"two", 1, 11},
	} {
		if n.Of(read(c.t), c.fuel); n.Known() != c.known {
			t.Errorf("Of(%s, %d): %d are known; want %d", c.t, c.fuel, n.Known(), c.known)
		}
	}
}

// P15.3: steps that are kept count as often as they are met, also if nobody could do them one by one.
func TestKeptSteps(t *testing.T) {
	rules := ends()
	u, steps := read("f(c)"), 1
	n := New(rules)
	for i := range 61 {
		u.Args = []api.Term{nested("s", i, read("c"))}
		if i > 0 {
			steps = 2 + 2*steps
		}
		for _, m := range []*Norm{n, New(rules)} {
			for _, fuel := range []int{steps - 1, steps, math.MaxInt} {
				if x, got, e := m.Of(u, fuel); !tells(x, got, e, "c", steps, fuel) {
					t.Fatalf("%d: Of with %d: %s, %d, %d; want %d", i, fuel, term.Show(x), got, e, steps)
				}
			}
		}
	}
	// 2^62 + 2^61 - 2 steps, and above that more than any fuel.
	u.Args = []api.Term{nested("s", 61, read("c"))}
	steps = 2 + 2*steps
	if x, got, e := n.Of(u, steps); !tells(x, got, e, "c", steps, steps) {
		t.Errorf("Of: %s, %d, %d; want %d", term.Show(x), got, e, steps)
	}
	for _, m := range []int{62, 63, 64, 200} {
		u.Args = []api.Term{nested("s", m, read("c"))}
		if x, got, e := n.Of(u, math.MaxInt); e != api.ErrFuel || got != 0 || !term.Same(x, api.Term{}) {
			t.Errorf("%d: Of: %s, %d, %d", m, term.Show(x), got, e)
		}
	}
	// Each of both there is enough for, but not both.
	u.Args = []api.Term{nested("s", 61, read("c"))}
	if _, got, e := n.Of(term.Fun("g", u, u), math.MaxInt); e != api.ErrFuel || got != 0 {
		t.Error("twice too many:", got, e)
	}
}

// P15.3: what came of one term is there for others that have it in them.
func TestKeptShared(t *testing.T) {
	n := New(ends())
	big := nested("twice", 40, read("a"))
	x, steps, e := n.Of(big, 40)
	if e != api.OK || steps != 40 {
		t.Fatal(steps, e)
	}
	for i := 40; i > 0; i-- {
		if x.Name != "pair" || len(x.Args) != 2 {
			t.Fatal(i, x.Name, len(x.Args))
		}
		x = x.Args[i%2]
	}
	if !term.Same(x, read("a")) {
		t.Error("within:", x)
	}
	// Nobody could go through such terms one by one.
	if x, steps, e := n.Of(term.Fun("same", big, big), 81); e != api.OK || steps != 81 || x.Name != "ok" {
		t.Error("same:", x.Name, steps, e)
	}
	if _, _, e := n.Of(term.Fun("same", big, big), 80); e != api.ErrFuel {
		t.Error("not enough:", e)
	}
	if is, e := n.Equal(big, term.Fun("twice", nested("twice", 39, read("fst(pair(a, b))"))), 41); !is || e != api.OK {
		t.Error("Equal:", is, e)
	}
	if is, e := n.Equal(big, nested("twice", 40, read("b")), 40); is || e != api.OK {
		t.Error("Equal of others:", is, e)
	}
}

// P15.3: a Norm that nobody made.
func TestNobody(t *testing.T) {
	var none *Norm
	for _, n := range []*Norm{none, {}, new(Norm)} {
		for range 2 {
			for _, fuel := range []int{-1, 0, 9} {
				if x, steps, e := n.Of(read("g(a)"), fuel); e != api.ErrNil || steps != 0 || !term.Same(x, api.Term{}) {
					t.Error("Of:", x, steps, e)
				}
				if is, e := n.Equal(read("a"), read("a"), fuel); is || e != api.ErrNil {
					t.Error("Equal:", is, e)
				}
			}
			if n.Known() != 0 {
				t.Error("Known:", n.Known())
			}
		}
	}
}

// P3: nil lists and empty ones are the same.
func TestEmpty(t *testing.T) {
	bare := api.Term{Kind: api.KFun, Name: "c"}
	empty := api.Term{Kind: api.KFun, Name: "c", Args: []api.Term{}}
	for _, l := range []api.Term{bare, empty} {
		for _, r := range []api.Term{bare, empty} {
			rules := []api.Rule{{L: l, R: r}, {L: term.Fun("g", l, r), R: r}}
			if x, i, is := Root(rules, r); !is || i != 0 || !term.Same(x, bare) {
				t.Error("Root:", x, i, is)
			}
			rules = rules[1:]
			for _, u := range []api.Term{term.Fun("g", r, l), term.Fun("g", l, l)} {
				if x, steps, e := Once(rules, u, 1); e != api.OK || steps != 1 || !term.Same(x, bare) {
					t.Error("Once:", x, steps, e)
				}
			}
		}
	}
	n := New([]api.Rule{})
	n.Of(bare, 0)
	if n.Of(empty, 0); n.Known() != 1 {
		t.Error("one term, with a nil list or an empty one, and known are", n.Known())
	}
	if is, e := New(nil).Equal(bare, empty, 0); !is || e != api.OK {
		t.Error("Equal:", is, e)
	}
}

// P2: nothing that is handed in is changed; what lies behind a list's length says nothing.
func TestUnchanged(t *testing.T) {
	c := read("c")
	args := append(make([]api.Term, 0, 3), read("f(c)"), read("f(c)"), read("f(s(c))"))[:2]
	rules := append(make([]api.Rule, 0, 20), ends()...)
	behind := append(rules, api.Rule{L: v("X"), R: v("X")})
	u := api.Term{Kind: api.KFun, Name: "same", Args: args}
	was := deepCopy(u)
	for range 2 {
		if x, steps, e := Once(rules, u, 3); e != api.OK || steps != 3 || x.Name != "ok" {
			t.Error("Once:", x, steps, e)
		}
		if _, _, is := Root(rules, c); is || Normal(rules, u) || !Normal(rules, c) {
			t.Error("a rule behind the others is asked")
		}
	}
	if !term.Same(u, was) || !term.Same(args[:3][2], read("f(s(c))")) {
		t.Error("the term is changed:", u)
	}
	for i, r := range append(ends(), api.Rule{L: v("X"), R: v("X")}) {
		if !term.Same(behind[i].L, r.L) || !term.Same(behind[i].R, r.R) {
			t.Error("the rules are changed:", i)
		}
	}
}

// P2: what others do to their lists changes nothing of a Norm: not its rules, nor what it keeps.
func TestOwn(t *testing.T) {
	rules := ends()
	n := New(rules)
	u := read("g(fst(pair(k(a), b)), two, snd(pair(b, f(s(c)))))")
	n.Of(u, 99)
	known := n.Known()
	for i := range rules {
		spoil(rules[i].L)
		spoil(rules[i].R)
		rules[i] = api.Rule{L: v("X"), R: v("X")}
	}
	spoil(u)
	u = read("g(fst(pair(k(a), b)), two, snd(pair(b, f(s(c)))))")
	if x, steps, e := n.Of(u, 99); e != api.OK || steps != 9 || term.Show(x) != "g(k(a), pair(c, c), c)" || n.Known() != known {
		t.Error("Of:", term.Show(x), steps, e)
	}
	if x, steps, e := n.Of(read("g(two, twice(b), f(s(s(one))))"), 99); e != api.OK || steps != 15 || term.Show(x) != "g(pair(c, c), pair(b, b), c)" {
		t.Error("Of:", term.Show(x), steps, e)
	}
	// An answer's lists are another one's, as long as nobody spoils a term that may share its parts.
	x, _, _ := n.Of(u, 99)
	x.Args = append(x.Args, read("a"))
	if y, _, _ := n.Of(u, 99); term.Show(y) != "g(k(a), pair(c, c), c)" {
		t.Error("an answer was added to, and now there is", term.Show(y))
	}
}

// Deep terms, long ones and long rows of steps.
func TestLarge(t *testing.T) {
	const most = 1<<16 - 2
	rules := ruled("open(box(X))", "X", "push(s(X))", "s(push(X))", "down(s(X))", "down(X)", "down(c)", "c", "same(X, X)", "ok")
	c := read("c")
	opens := c
	for range most / 2 {
		opens = term.Fun("open", term.Fun("box", opens))
	}
	wide := api.Term{Kind: api.KFun, Name: "wide"}
	for i := range most {
		wide.Args = append(wide.Args, term.Fun("open", term.Fun("box", term.Fun("k"+strconv.Itoa(i%3)))))
	}
	for _, x := range []struct {
		name     string
		t        api.Term
		steps    int
		top      string
		args, of int // how many Args, and how deep
	}{
		{"normal", nested("s", most, c), 0, "s", 1, most + 1},
		{"opened", opens, most / 2, "c", 0, 1},
		{"pushed", term.Fun("push", nested("s", most, c)), most, "s", 1, most + 2},
		{"down", term.Fun("down", nested("s", most, c)), most + 1, "c", 0, 1},
		{"same", term.Fun("same", nested("s", most, c), nested("s", most, c)), 1, "ok", 0, 1},
		{"wide", wide, most, "wide", most, 2},
	} {
		n := New(rules)
		for range 2 {
			u, steps, e := n.Of(x.t, x.steps)
			if e != api.OK || steps != x.steps || u.Name != x.top || len(u.Args) != x.args || term.Depth(u) != x.of {
				t.Errorf("%s: %s, %d, %d, %d", x.name, u.Name, len(u.Args), steps, e)
			}
			if Normal(rules, x.t) != (x.steps == 0) || !Normal(rules, u) {
				t.Errorf("%s: normal or not", x.name)
			}
			if is, e := n.Equal(x.t, u, x.steps); !is || e != api.OK {
				t.Errorf("%s: Equal: %t, %d", x.name, is, e)
			}
			if _, _, e := n.Of(x.t, x.steps-1); x.steps > 0 && e != api.ErrFuel {
				t.Errorf("%s: not enough: %d", x.name, e)
			}
		}
	}
}

// A left side with very many variables, and one that is very deep.
func TestLargeRule(t *testing.T) {
	const most, deep = 1 << 15, 1 << 11
	l, u := api.Term{Kind: api.KFun, Name: "w"}, api.Term{Kind: api.KFun, Name: "w"}
	for i := range most {
		l.Args = append(l.Args, v("X"+strconv.Itoa(i)), v("X"+strconv.Itoa(most-1-i)))
		u.Args = append(u.Args, term.Fun("a"+strconv.Itoa(i)), term.Fun("a"+strconv.Itoa(most-1-i)))
	}
	rules := []api.Rule{{L: l, R: v("X77")}, {L: nested("s", deep, v("X")), R: v("X")}}
	if x, steps, e := Once(rules, u, 1); e != api.OK || steps != 1 || x.Name != "a77" {
		t.Error("wide:", x.Name, steps, e)
	}
	u.Args[0] = read("b")
	if _, steps, e := Once(rules, u, 1); e != api.OK || steps != 0 {
		t.Error("another one:", steps, e)
	}
	if x, steps, e := Once(rules, nested("s", deep, read("a")), 1); e != api.OK || steps != 1 || x.Name != "a" {
		t.Error("deep:", x.Name, steps, e)
	}
	if x, steps, e := Once(rules, nested("s", deep-1, read("a")), 1); e != api.OK || steps != 0 || term.Depth(x) != deep {
		t.Error("not as deep:", x.Name, steps, e)
	}
}

// P15.4, of the rules of all primitives: a normal form is normal, in no more steps than the term has parts.
func TestLibrary(t *testing.T) {
	rules := library.All().Rules
	r := rand.New(rand.NewSource(4))
	n := New(rules)
	for range 4000 {
		u := instance(r, rules, 3)
		p := plain{rules: rules, fuel: term.Size(u)}
		want, _ := p.of(u)
		x, steps, e := n.Of(u, term.Size(u))
		if e != api.OK || steps != p.steps || !term.Same(x, want) || !Normal(rules, x) {
			t.Fatalf("Of(%s) = %s, %d, %d", term.Show(u), term.Show(x), steps, e)
		}
		if y, steps, e := n.Of(x, 0); e != api.OK || steps != 0 || !term.Same(x, y) {
			t.Fatalf("Of(%s) = %s, %d, %d", term.Show(x), term.Show(y), steps, e)
		}
	}
}

// instance draws an instance of a left side, where such instances stand for some variables.
func instance(r *rand.Rand, rules []api.Rule, deep int) api.Term {
	if deep == 0 {
		return []api.Term{private("a"), private("k"), handle(1), fresh(0), v("X")}[r.Intn(5)]
	}
	l := rules[r.Intn(len(rules))].L
	stand := map[string]api.Term{}
	for _, name := range term.Vars(l) {
		stand[name] = instance(r, rules, r.Intn(deep))
	}
	return filled(l, stand)
}
