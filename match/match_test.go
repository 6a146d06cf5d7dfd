package match

import (
	"math"
	"slices"
	"strings"
	"testing"

	"picklock/api"
	"picklock/chars"
	"picklock/subst"
	"picklock/term"
)

func v(name string) api.Term { return term.Var(name) }

func f(args ...api.Term) api.Term { return term.Fun("f", args...) }

func g(args ...api.Term) api.Term { return term.Fun("g", args...) }

func h(args ...api.Term) api.Term { return term.Fun("h", args...) }

func private(name string) api.Term { return api.Term{Kind: api.KName, Name: name} }

func handle(n int) api.Term { return api.Term{Kind: api.KHand, N: n} }

func fresh(n int) api.Term { return api.Term{Kind: api.KFresh, N: n} }

// to is the bind of a name to a term.
func to(name string, t api.Term) api.Bind { return api.Bind{Name: name, T: t} }

// shown writes binds, in the order in which they stand, and false alone where there are none such.
func shown(l []api.Bind, is bool) string {
	if !is {
		return strings.TrimSpace("false " + shown(l, true))
	}
	var b strings.Builder
	for _, x := range l {
		b.WriteString(x.Name + ": " + term.Show(x.T) + "; ")
	}
	return strings.TrimSuffix(b.String(), "; ")
}

// as tells whether two lists of binds have the same binds in the same order.
func as(a, b []api.Bind) bool {
	return slices.EqualFunc(a, b, func(x, y api.Bind) bool { return x.Name == y.Name && term.Same(x.T, y.T) })
}

// small are all terms of X, Y, a, f and g that have at most four parts.
func small() []api.Term {
	l := []api.Term{v("X"), v("Y"), term.Fun("a")}
	for range 3 {
		for _, x := range slices.Clone(l) {
			l = append(l, f(x))
			for _, y := range slices.Clone(l) {
				if term.Size(x)+term.Size(y) < 5 {
					l = append(l, g(x, y))
				}
			}
		}
		l = slices.DeleteFunc(term.Set(l), func(x api.Term) bool { return term.Size(x) > 4 })
	}
	return l
}

// odd are terms of all kinds, with and without arguments, of which no two are the same.
func odd() []api.Term {
	var l []api.Term
	for _, kind := range []int{api.KName, api.KHand, api.KFresh, api.KFun, 0, 6, -1, math.MaxInt, math.MinInt} {
		for _, name := range []string{"", "X", "f"} {
			for _, n := range []int{0, 1, -1} {
				for _, args := range [][]api.Term{nil, {private("k")}, {private("j")}, {term.Fun("k")}, {private("k"), private("k")}} {
					l = append(l, api.Term{Kind: kind, Name: name, N: n, Args: args})
				}
			}
		}
	}
	return l
}

// P6.1: what variables of a pattern stand for.
func TestMatch(t *testing.T) {
	a, b, x, y, z := term.Fun("a"), term.Fun("b"), v("X"), v("Y"), v("Z")
	for _, c := range []struct {
		p, t api.Term
		want string
	}{
		// the document's example
		{f(x, x), f(a, b), "false"},
		{f(x, x), f(a, a), "X: a"},
		{f(x, x), f(g(a, y), g(a, y)), "X: g(a, Y)"},
		{f(x, x), f(g(a, y), g(a, z)), "false"},
		{f(x, g(y, x)), f(a, g(b, a)), "X: a; Y: b"},
		{f(x, g(y, x)), f(a, g(b, b)), "false"},
		{f(g(x), h(x)), f(g(a), h(b)), "false"},
		// by rising names, wherever they stand
		{f(z, y, x), f(a, b, g(a)), "X: g(a); Y: b; Z: a"},
		{f(v("X_2"), v("X_10"), v("X")), f(a, b, a), "X: a; X_10: b; X_2: a"},
		{f(v("é"), v("a"), v("B"), v("")), f(a, a, a, a), ": a; B: a; a: a; é: a"},
		// no variables
		{a, a, ""},
		{a, b, "false"},
		{f(a, g(b)), f(a, g(b)), ""},
		{f(a, g(b)), f(a, g(a)), "false"},
		{private("k"), private("k"), ""},
		{private("k"), term.Fun("k"), "false"},
		{term.Fun("k"), private("k"), "false"},
		{handle(1), handle(1), ""},
		{handle(1), handle(2), "false"},
		{handle(1), fresh(1), "false"},
		{fresh(3), fresh(3), ""},
		{api.Term{}, api.Term{}, ""},
		// another symbol, another number of arguments
		{f(x), g(a), "false"},
		{f(x), f(a, b), "false"},
		{f(x, y), f(a), "false"},
		{f(x), f(), "false"},
		{f(), f(a), "false"},
		{f(), f(), ""},
		// a variable stands for any one term
		{x, a, "X: a"},
		{x, f(g(a), private("k")), "X: f(g(a), k)"},
		{x, handle(0), "X: $0"},
		{x, api.Term{}, "X: ?"},
		{v(""), a, ": a"},
		// variables of the term stand for themselves
		{x, x, "X: X"},
		{x, y, "X: Y"},
		{x, f(x), "X: f(X)"},
		{f(x, y), f(y, x), "X: Y; Y: X"},
		{f(x, y), f(x, x), "X: X; Y: X"},
		{f(x, x), f(x, y), "false"},
		{f(x, x), f(x, f(x)), "false"},
		{f(x, y), f(y, f(x, y)), "X: Y; Y: f(X, Y)"},
		{a, x, "false"},
		{f(a), x, "false"},
		{f(a), f(x), "false"},
		{private("X"), x, "false"},
		{x, private("X"), "X: X"},
	} {
		if got := shown(Match(c.p, c.t)); got != c.want {
			t.Errorf("Match(%s, %s) = %s; want %s", term.Show(c.p), term.Show(c.t), got, c.want)
		}
	}
}

// P6.1: terms of all kinds: without variables a term matches itself alone, and arguments are gone through, whatever they lie in.
func TestMatchKinds(t *testing.T) {
	terms := odd()
	for i, p := range terms {
		for j, x := range terms {
			if l, is := Match(p, x); is != (i == j) || len(l) > 0 {
				t.Errorf("Match(%v, %v) = %s", p, x, shown(l, is))
			}
		}
		if got := shown(Match(v("X"), p)); got != "X: "+term.Show(p) {
			t.Errorf("Match(X, %v) = %s", p, got)
		}
		x, y := p, p
		x.Args, y.Args = []api.Term{v("Y"), v("X"), v("Y")}, []api.Term{f(), v("Y"), f()}
		if got := shown(Match(x, y)); got != "X: Y; Y: f" {
			t.Errorf("Match(%v, %v) = %s", x, y, got)
		}
		y.Args[2] = v("Y")
		if got := shown(Match(x, y)); got != "false" {
			t.Errorf("Match(%v, %v) = %s", x, y, got)
		}
	}
}

// P6.1: subst.Apply replaces a variable whole, with any arguments and number that it has: so it matches any term.
func TestMatchVariableWithArguments(t *testing.T) {
	x := api.Term{Kind: api.KVar, Name: "X", N: 4, Args: []api.Term{v("Y"), term.Fun("a")}}
	for _, y := range []api.Term{term.Fun("b"), v("X"), x, f(x)} {
		l, is := Match(f(x, v("X")), f(y, y))
		if !is || !as(l, []api.Bind{to("X", y)}) {
			t.Errorf("%v: %s", y, shown(l, is))
		}
	}
	if got := shown(Match(f(x, v("X")), f(x, v("X")))); got != "false" {
		t.Error("X stands for two terms:", got)
	}
}

// P6.1: what binds have stands, and is Same as what stands in its place; other names are added to.
func TestMore(t *testing.T) {
	a, b, x, y := term.Fun("a"), term.Fun("b"), v("X"), v("Y")
	for _, c := range []struct {
		l    []api.Bind
		p, t api.Term
		want string
	}{
		{nil, x, a, "X: a"},
		{[]api.Bind{}, x, a, "X: a"},
		{[]api.Bind{to("X", a)}, x, a, "X: a"},
		{[]api.Bind{to("X", a)}, x, b, "false"},
		{[]api.Bind{to("X", b)}, f(x, y), f(a, b), "false"},
		{[]api.Bind{to("X", a)}, f(x, y), f(a, b), "X: a; Y: b"},
		{[]api.Bind{to("Y", a)}, f(x, y), f(b, a), "X: b; Y: a"},
		{[]api.Bind{to("Y", a)}, f(x, y), f(b, b), "false"},
		// names that the pattern has not stay
		{[]api.Bind{to("Z", a)}, x, b, "X: b; Z: a"},
		{[]api.Bind{to("Z", a)}, b, b, "Z: a"},
		{[]api.Bind{to("Z", a)}, b, a, "false"},
		// subst.Of them: by rising names, of each name the first one
		{[]api.Bind{to("Z", a), to("A", b), to("Z", b)}, x, b, "A: b; X: b; Z: a"},
		{[]api.Bind{to("X", a), to("X", b)}, x, a, "X: a"},
		{[]api.Bind{to("X", a), to("X", b)}, x, b, "false"},
		{[]api.Bind{to("Y", b), to("X", a), to("Y", a)}, a, a, "X: a; Y: b"},
		// what stands for a variable is not gone through, on neither side
		{[]api.Bind{to("X", y), to("Y", a)}, x, y, "X: Y; Y: a"},
		{[]api.Bind{to("X", y), to("Y", a)}, x, a, "false"},
		{[]api.Bind{to("X", y)}, x, a, "false"},
		{[]api.Bind{to("X", y)}, f(x, y), f(y, a), "X: Y; Y: a"},
		{[]api.Bind{to("X", f(y))}, g(x, y), g(f(y), b), "X: f(Y); Y: b"},
		{[]api.Bind{to("X", x)}, x, x, "X: X"},
		{[]api.Bind{to("X", a)}, x, x, "false"},
		{[]api.Bind{to("X", a)}, y, x, "X: a; Y: X"},
		// names and variables are two things
		{[]api.Bind{to("X", a)}, private("X"), a, "false"},
		{[]api.Bind{to("X", a)}, private("X"), private("X"), "X: a"},
		{[]api.Bind{to("", a)}, v(""), a, ": a"},
		{[]api.Bind{to("", a)}, v(""), b, "false"},
		{[]api.Bind{to("X", api.Term{})}, x, api.Term{}, "X: ?"},
		{[]api.Bind{to("X", handle(1))}, x, handle(2), "false"},
	} {
		if got := shown(More(c.l, c.p, c.t)); got != c.want {
			t.Errorf("More(%s, %s, %s) = %s; want %s", shown(c.l, true), term.Show(c.p), term.Show(c.t), got, c.want)
		}
	}
}

// byRule tries all that the variables of a pattern can stand for, till subst.Apply makes the term of it: parts of the term are all that can be put in it.
func byRule(l []api.Bind, names []string, p, t api.Term) ([]api.Bind, bool) {
	if len(names) == 0 && term.Same(subst.Apply(l, p), t) {
		return l, true
	}
	if len(names) == 0 {
		return nil, false
	}
	if _, is := subst.Get(l, names[0]); is {
		return byRule(l, names[1:], p, t)
	}
	for x := range term.All(t) {
		if more, is := byRule(subst.With(l, names[0], x), names[1:], p, t); is {
			return more, true
		}
	}
	return nil, false
}

// P6.1: all small patterns and terms, with several binds: what is told is what Apply asks for.
func TestMoreByRule(t *testing.T) {
	terms := small()
	if len(terms) != 48 {
		t.Fatal(len(terms))
	}
	a, x, y := term.Fun("a"), v("X"), v("Y")
	matches := 0
	for _, l := range [][]api.Bind{nil, {to("X", a)}, {to("Y", x), to("X", f(y))}, {to("X", y), to("Q", a), to("X", x)}} {
		for _, p := range terms {
			for _, u := range terms {
				want, is := byRule(subst.Of(l...), term.Vars(p), p, u)
				got, does := More(l, p, u)
				if is != does || !as(got, want) {
					t.Fatalf("More(%s, %s, %s) = %s; want %s", shown(l, true), term.Show(p), term.Show(u), shown(got, does), shown(want, is))
				}
				if does {
					matches++
				}
			}
		}
	}
	if matches < 500 {
		t.Error("too few matches to say much:", matches)
	}
}

// P6.1: lists, from the left, with one another's binds.
func TestAll(t *testing.T) {
	a, b, x, y := term.Fun("a"), term.Fun("b"), v("X"), v("Y")
	for _, c := range []struct {
		l      []api.Bind
		ps, ts []api.Term
		want   string
	}{
		{nil, nil, nil, ""},
		{nil, []api.Term{}, nil, ""},
		{[]api.Bind{to("Y", b), to("X", a), to("Y", a)}, nil, []api.Term{}, "X: a; Y: b"},
		{nil, []api.Term{x}, []api.Term{a}, "X: a"},
		{nil, []api.Term{y, x}, []api.Term{a, b}, "X: b; Y: a"},
		{nil, []api.Term{x, x}, []api.Term{a, a}, "X: a"},
		{nil, []api.Term{x, x}, []api.Term{a, b}, "false"},
		{nil, []api.Term{x, f(x, y)}, []api.Term{a, f(a, b)}, "X: a; Y: b"},
		{nil, []api.Term{f(x, y), x}, []api.Term{f(a, b), b}, "false"},
		{nil, []api.Term{f(x, y), y, x}, []api.Term{f(a, b), b, a}, "X: a; Y: b"},
		{nil, []api.Term{x, y}, []api.Term{y, x}, "X: Y; Y: X"},
		{nil, []api.Term{x, b}, []api.Term{a, a}, "false"},
		{nil, []api.Term{b, x}, []api.Term{a, a}, "false"},
		{[]api.Bind{to("X", a)}, []api.Term{y, x}, []api.Term{b, a}, "X: a; Y: b"},
		{[]api.Bind{to("X", a)}, []api.Term{y, x}, []api.Term{b, b}, "false"},
		{[]api.Bind{to("Q", b)}, []api.Term{y, x}, []api.Term{b, b}, "Q: b; X: b; Y: b"},
		// not as many
		{nil, []api.Term{x}, nil, "false"},
		{nil, nil, []api.Term{x}, "false"},
		{nil, []api.Term{x, y}, []api.Term{a}, "false"},
		{nil, []api.Term{x}, []api.Term{a, a}, "false"},
		{[]api.Bind{to("X", a)}, []api.Term{x, x}, []api.Term{a}, "false"},
		{[]api.Bind{to("X", a)}, []api.Term{a}, []api.Term{a, a}, "false"},
	} {
		if got := shown(All(c.l, c.ps, c.ts)); got != c.want {
			t.Errorf("All(%s, %v, %v) = %s; want %s", shown(c.l, true), c.ps, c.ts, got, c.want)
		}
	}
}

// P6.1: All is More of the first ones, then of the next ones from its binds on.
func TestAllIsMore(t *testing.T) {
	l, terms := []api.Bind{to("Y", v("X"))}, small()
	for i, p := range terms {
		for j, u := range terms {
			q, w := terms[(i+j)%len(terms)], terms[(i*j)%len(terms)]
			first, is := More(l, p, u)
			var want []api.Bind
			if is {
				want, is = More(first, q, w)
			}
			if got, does := All(l, []api.Term{p, q}, []api.Term{u, w}); is != does || !as(got, want) {
				t.Fatalf("All(%s; %s, %s; %s, %s) = %s; want %s", shown(l, true), term.Show(p), term.Show(q), term.Show(u), term.Show(w), shown(got, does), shown(want, is))
			}
		}
	}
}

// P6.2: a term is an instance of a pattern that has a match; two that are each other's instances are variants.
func TestInstanceAndVariant(t *testing.T) {
	a, x, y, z := term.Fun("a"), v("X"), v("Y"), v("Z")
	for _, c := range []struct {
		a, b api.Term
		// whether b is an instance of a, and a one of b
		there, back bool
	}{
		{x, a, true, false},
		{x, y, true, true},
		{x, x, true, true},
		{a, a, true, true},
		{a, term.Fun("b"), false, false},
		{g(x, y), g(y, x), true, true},
		{g(x, y), g(z, x), true, true},
		{g(x, y), g(x, x), true, false},
		{g(x, x), g(y, y), true, true},
		{g(x, a), g(a, x), false, false},
		{g(x, f(x)), g(y, f(y)), true, true},
		{g(x, f(x)), g(y, f(x)), false, true},
		{f(x), f(f(x)), true, false},
		{f(x), f(private("X")), true, false},
		{f(private("X")), f(private("Y")), false, false},
		{api.Term{}, api.Term{}, true, true},
		{api.Term{}, x, false, true},
		{handle(1), handle(1), true, true},
		{handle(1), handle(2), false, false},
	} {
		if Instance(c.a, c.b) != c.there || Instance(c.b, c.a) != c.back {
			t.Errorf("Instance of %s and %s: %v, %v", term.Show(c.a), term.Show(c.b), Instance(c.a, c.b), Instance(c.b, c.a))
		}
		if both := c.there && c.back; Variant(c.a, c.b) != both || Variant(c.b, c.a) != both {
			t.Errorf("Variant of %s and %s: %v, %v", term.Show(c.a), term.Show(c.b), Variant(c.a, c.b), Variant(c.b, c.a))
		}
	}
}

// numbered puts, in the places of variables, such as are named by the order in which they come.
func numbered(t api.Term) api.Term {
	var l []api.Bind
	for i, name := range term.Vars(t) {
		l = append(l, to(name, v("V"+chars.Digits(i))))
	}
	return subst.Apply(l, t)
}

// P6.2: all small terms: instances are those of which Match tells, and variants those that come to the same if their variables are numbered.
func TestInstanceAndVariantByRule(t *testing.T) {
	for _, a := range small() {
		for _, b := range small() {
			if _, is := Match(a, b); Instance(a, b) != is {
				t.Errorf("Instance(%s, %s)", term.Show(a), term.Show(b))
			}
			if Variant(a, b) != term.Same(numbered(a), numbered(b)) {
				t.Errorf("Variant(%s, %s) = %v", term.Show(a), term.Show(b), Variant(a, b))
			}
		}
	}
}

// P6.2: the first pattern of which a term is an instance, and its binds alone.
func TestFirst(t *testing.T) {
	a, b, x, y := term.Fun("a"), term.Fun("b"), v("X"), v("Y")
	for _, c := range []struct {
		ps   []api.Term
		t    api.Term
		i    int
		want string
	}{
		{nil, a, 0, "false"},
		{[]api.Term{}, a, 0, "false"},
		{[]api.Term{b}, a, 0, "false"},
		{[]api.Term{b, f(x), private("a"), f()}, a, 0, "false"},
		{[]api.Term{a}, a, 0, ""},
		{[]api.Term{x, a}, a, 0, "X: a"},
		{[]api.Term{a, x}, a, 0, ""},
		{[]api.Term{b, f(x), y, x}, f(a), 1, "X: a"},
		{[]api.Term{b, f(b), y, x}, f(a), 2, "Y: f(a)"},
		{[]api.Term{b, b, b, f(y, x)}, f(a, b), 3, "X: b; Y: a"},
		// nothing is left of a pattern that didn't match, after its first variables did
		{[]api.Term{f(x, y, x), f(y, x, x)}, f(a, b, b), 1, "X: b; Y: a"},
		{[]api.Term{f(v("Q"), v("Q")), f(x, y)}, f(a, b), 1, "X: a; Y: b"},
		{[]api.Term{f(x, b), f(b, x)}, f(a, a), 0, "false"},
		{[]api.Term{a, {}}, api.Term{}, 1, ""},
	} {
		i, l, is := First(c.ps, c.t)
		if got := shown(l, is); i != c.i || got != c.want {
			t.Errorf("First(%v, %s) = %d, %s; want %d, %s", c.ps, term.Show(c.t), i, got, c.i, c.want)
		}
	}
}

// roomy tells a list with room behind its length, where something else stands.
func roomy[E any](l []E, behind E) []E { return append(slices.Clone(l), behind)[:len(l)] }

// P2: no call changes what it is given, nor reads what lies behind its lists; no two answers share their list.
func TestUnchanged(t *testing.T) {
	behind := to("Behind", v("Behind"))
	l := []api.Bind{to("Z", v("Y")), to("Q", f(v("X"))), to("Z", v("X"))}
	given, ordered := roomy(l, behind), roomy(subst.Of(l...), behind)
	p := f(v("X"), v("Z"), g(v("Y"), v("X")))
	u := f(private("k"), v("Y"), g(v("Z"), private("k")))
	ps, ts := roomy([]api.Term{v("Y"), p}, v("Behind")), roomy([]api.Term{v("Z"), u}, handle(7))
	wide := api.Term{Kind: api.KFun, Name: "f", Args: roomy(p.Args, v("Behind"))}
	for _, call := range []func() ([]api.Bind, bool){
		func() ([]api.Bind, bool) { return Match(p, u) },
		func() ([]api.Bind, bool) { return Match(wide, u) },
		func() ([]api.Bind, bool) { return More(given, p, u) },
		func() ([]api.Bind, bool) { return More(ordered, wide, u) },
		func() ([]api.Bind, bool) { return More(given, v("R"), u) },
		func() ([]api.Bind, bool) { return More(ordered, private("k"), private("k")) },
		func() ([]api.Bind, bool) { return All(given, ps, ts) },
		func() ([]api.Bind, bool) { return All(ordered, ps, ts) },
		func() ([]api.Bind, bool) { return All(ordered, nil, nil) },
		func() ([]api.Bind, bool) { _, l, is := First(ps[1:], u); return l, is },
	} {
		a, is := call()
		b, does := call()
		if !is || !does || len(a) == 0 {
			t.Fatal("no match:", shown(a, is))
		}
		kept := slices.Clone(b)
		for i := range a {
			a[i] = to("changed", v("changed"))
		}
		_ = append(a, to("more", v("more")))
		if !as(b, kept) {
			t.Error("answers share their list:", shown(b, true))
		}
		if slices.ContainsFunc(b[:cap(b)], func(x api.Bind) bool { return x.Name == "Behind" }) {
			t.Error("what lies behind a list is told:", shown(b, true))
		}
	}
	if !as(given[:4], append(slices.Clone(l), behind)) || !as(ordered[:3], append(subst.Of(l...), behind)) {
		t.Error("binds are changed:", shown(given[:4], true), shown(ordered[:3], true))
	}
	if term.Show(f(ps[:3]...)) != "f(Y, f(X, Z, g(Y, X)), Behind)" || term.Show(f(ts[:3]...)) != "f(Z, f(k, Y, g(Z, k)), $7)" || term.Show(f(wide.Args[:4]...)) != "f(X, Z, g(Y, X), Behind)" {
		t.Error("terms are changed:", ps[:3], ts[:3], wide.Args[:4])
	}
}

// chain is f(f(.. f(leaf))), with that many f.
func chain(n int, leaf api.Term) api.Term {
	for range n {
		leaf = f(leaf)
	}
	return leaf
}

// P1: terms that lie in one another 2^16 deep.
func TestDeep(t *testing.T) {
	const n = 1<<16 - 1
	a, x := term.Fun("a"), v("X")
	if got := shown(Match(chain(n, x), chain(n, a))); got != "X: a" {
		t.Error(got)
	}
	if _, is := Match(chain(n, x), chain(n-1, a)); is {
		t.Error("too short")
	}
	if l, is := Match(chain(n-1, x), chain(n, a)); !is || !as(l, []api.Bind{to("X", f(a))}) {
		t.Error("longer:", is)
	}
	if l, is := Match(g(x, x), g(chain(n, a), chain(n, a))); !is || !as(l, []api.Bind{to("X", chain(n, a))}) {
		t.Error("twice:", is)
	}
	if Instance(g(x, x), g(chain(n, a), chain(n, x))) || Variant(chain(n, x), chain(n, a)) || !Variant(chain(n, x), chain(n, v("Y"))) {
		t.Error("instances")
	}
}

// P1: terms with many variables, and long lists.
func TestLong(t *testing.T) {
	const n = 1 << 16
	var vars, hands []api.Term
	var want []api.Bind
	for i := range n {
		name := "V" + chars.Digits(n-i)
		vars = append(vars, v(name))
		hands = append(hands, handle(i))
		want = append(want, to(name, handle(i)))
	}
	want = subst.Of(want...)
	if l, is := Match(f(vars...), f(hands...)); !is || !as(l, want) {
		t.Error("Match:", len(l), is)
	}
	if l, is := All(want, vars, hands); !is || !as(l, want) {
		t.Error("All:", len(l), is)
	}
	if i, l, is := First(append(slices.Repeat([]api.Term{f(vars[0])}, n), v("X")), term.Fun("a")); i != n || shown(l, is) != "X: a" {
		t.Error("First:", i, is)
	}
	hands[n-1] = handle(n)
	if l, is := All(want, vars, hands); is || len(l) > 0 {
		t.Error("All of another one:", len(l), is)
	}
}
