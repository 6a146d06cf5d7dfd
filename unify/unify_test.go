package unify

import (
	"math"
	"slices"
	"strings"
	"testing"

	"picklock/api"
	"picklock/chars"
	"picklock/match"
	"picklock/subst"
	"picklock/term"
)

func v(name string) api.Term { return term.Var(name) }

func f(args ...api.Term) api.Term { return term.Fun("f", args...) }

func g(args ...api.Term) api.Term { return term.Fun("g", args...) }

func h(args ...api.Term) api.Term { return term.Fun("h", args...) }

func private(name string) api.Term { return api.Term{Kind: api.KName, Name: name} }

func handle(n int) api.Term { return api.Term{Kind: api.KHand, N: n} }

func fresh(n int) api.Term { return api.Term{Kind: api.KFresh, N: n} }

// to is the bind of a name to a term.
func to(name string, t api.Term) api.Bind { return api.Bind{Name: name, T: t} }

// shown writes binds, in the order in which they stand, and false alone where there are none such.
func shown(l []api.Bind, is bool) string {
	if !is {
		return strings.TrimSpace("false " + shown(l, true))
	}
	var b strings.Builder
	for _, x := range l {
		b.WriteString(x.Name + ": " + term.Show(x.T) + "; ")
	}
	return strings.TrimSuffix(b.String(), "; ")
}

// as tells whether two lists of binds have the same binds in the same order.
func as(a, b []api.Bind) bool {
	return slices.EqualFunc(a, b, func(x, y api.Bind) bool { return x.Name == y.Name && term.Same(x.T, y.T) })
}

// small are all terms of X, Y, a, f and g that have at most that many parts, up to four.
func small(most int) []api.Term {
	l := []api.Term{v("X"), v("Y"), term.Fun("a")}
	for range most - 1 {
		for _, x := range slices.Clone(l) {
			l = append(l, f(x))
			for _, y := range slices.Clone(l) {
				if term.Size(x)+term.Size(y) < 5 {
					l = append(l, g(x, y))
				}
			}
		}
		l = slices.DeleteFunc(term.Set(l), func(x api.Term) bool { return term.Size(x) > most })
	}
	return l
}

// odd are terms of all kinds, with and without arguments, of which no two are the same.
func odd() []api.Term {
	var l []api.Term
	for _, kind := range []int{api.KName, api.KHand, api.KFresh, api.KFun, 0, 6, -1, math.MaxInt, math.MinInt} {
		for _, name := range []string{"", "X", "f"} {
			for _, n := range []int{0, 1, -1} {
				for _, args := range [][]api.Term{nil, {private("k")}, {private("j")}, {term.Fun("k")}, {private("k"), private("k")}} {
					l = append(l, api.Term{Kind: kind, Name: name, N: n, Args: args})
				}
			}
		}
	}
	return l
}

// strange are variables with a number or with arguments, and terms that have them.
func strange() []api.Term {
	var l []api.Term
	for _, name := range []string{"X", "Y"} {
		l = append(l, api.Term{Kind: api.KVar, Name: name, N: 1}, api.Term{Kind: api.KVar, Name: name, N: -1})
		for _, a := range []api.Term{v("X"), v("Y"), term.Fun("a"), {Kind: api.KVar, Name: "X", N: 1}} {
			l = append(l, api.Term{Kind: api.KVar, Name: name, Args: []api.Term{a}})
		}
	}
	l = append(l, v("X"), v("Y"), term.Fun("a"))
	parts := slices.Clone(l)
	for _, x := range parts {
		for _, y := range parts {
			l = append(l, g(x, y))
		}
	}
	return l
}

// plain tells whether a term is a variable of which the promises speak.
func plain(t api.Term) bool { return t.Kind == api.KVar && t.N == 0 && len(t.Args) == 0 }

// byRule does what the document says, word by word: each bind is put in all pairs that are left.
func byRule(as, bs []api.Term) ([]api.Bind, bool) {
	if len(as) != len(bs) {
		return nil, false
	}
	var l []api.Bind
	for len(as) > 0 {
		a, b := as[0], bs[0]
		as, bs = as[1:], bs[1:]
		if term.Same(a, b) {
			continue
		}
		if !plain(a) && plain(b) {
			a, b = b, a
		}
		if !plain(a) {
			if a.Kind != b.Kind || a.N != b.N || a.Name != b.Name || len(a.Args) != len(b.Args) {
				return nil, false
			}
			as, bs = slices.Concat(a.Args, as), slices.Concat(b.Args, bs)
			continue
		}
		for x := range term.All(b) {
			if plain(x) && x.Name == a.Name {
				return nil, false
			}
		}
		l = append(l, to(a.Name, b))
		as, bs = slices.Clone(as), slices.Clone(bs)
		for i := range as {
			as[i], bs[i] = subst.Apply(l[len(l)-1:], as[i]), subst.Apply(l[len(l)-1:], bs[i])
		}
	}
	return l, true
}

// solvedByRule puts in each bind those that stand behind it, one by one.
func solvedByRule(l []api.Bind) []api.Bind {
	var solved []api.Bind
	for i, b := range l {
		for j := range l[i+1:] {
			b.T = subst.Apply(l[i+1+j:i+2+j], b.T)
		}
		solved = append(solved, b)
	}
	return subst.Of(solved...)
}

// P7.1: a variable occurs in itself, and in whatever has it.
func TestOccurs(t *testing.T) {
	for _, c := range []struct {
		name string
		t    api.Term
		want bool
	}{
		{"X", v("X"), true},
		{"X", v("Y"), false},
		{"X", f(v("X")), true},
		{"X", f(v("Y"), g(term.Fun("a"), h(v("X")))), true},
		{"X", f(v("Y"), g(term.Fun("a"), h(v("Z")))), false},
		{"X", f(), false},
		{"X", private("X"), false},
		{"X", term.Fun("X"), false},
		{"f", f(v("X")), false},
		{"X", handle(1), false},
		{"", handle(1), false},
		{"", api.Term{}, false},
		{"", v(""), true},
		{"", v("X"), false},
		{"X", v(""), false},
		{"X", api.Term{Kind: 77, Name: "X"}, false},
		{"X", api.Term{Kind: 77, Args: []api.Term{v("X")}}, true},
		{"X", api.Term{Kind: api.KName, Name: "k", Args: []api.Term{v("X")}}, true},
		{"X", v("XX"), false},
		{"XX", v("X"), false},
		{"x", v("X"), false},
		// what is said of variables is said of such as have no number and no arguments
		{"X", api.Term{Kind: api.KVar, Name: "X", N: 1}, false},
		{"X", api.Term{Kind: api.KVar, Name: "X", Args: []api.Term{v("Y")}}, false},
		{"Y", api.Term{Kind: api.KVar, Name: "X", Args: []api.Term{v("Y")}}, true},
	} {
		if got := Occurs(c.name, c.t); got != c.want {
			t.Errorf("Occurs(%s, %v) = %v", c.name, c.t, got)
		}
	}
}

// P7.1, P7.2: binds as they are found, and what they come to.
func TestTriangleAndUnify(t *testing.T) {
	a, b, x, y, z := term.Fun("a"), term.Fun("b"), v("X"), v("Y"), v("Z")
	for _, c := range []struct {
		a, b         api.Term
		found, comes string
	}{
		// the document's example
		{f(x, b), f(a, y), "X: a; Y: b", "X: a; Y: b"},
		// Same ones need nothing
		{x, x, "", ""},
		{a, a, "", ""},
		{f(x, g(y)), f(x, g(y)), "", ""},
		{f(x, y), f(x, a), "Y: a", "Y: a"},
		{f(), f(), "", ""},
		{api.Term{}, api.Term{}, "", ""},
		// a variable on the left, else on the right
		{x, y, "X: Y", "X: Y"},
		{y, x, "Y: X", "Y: X"},
		{x, a, "X: a", "X: a"},
		{a, x, "X: a", "X: a"},
		{f(a, x), f(y, b), "Y: a; X: b", "X: b; Y: a"},
		{f(x, y), f(y, x), "X: Y", "X: Y"},
		{f(x, x), f(y, z), "X: Y; Y: Z", "X: Z; Y: Z"},
		{f(y, z), f(x, x), "Y: X; Z: X", "Y: X; Z: X"},
		{x, handle(2), "X: $2", "X: $2"},
		{private("k"), x, "X: k", "X: k"},
		{x, private("X"), "X: X", "X: X"},
		{v(""), a, ": a", ": a"},
		{x, api.Term{}, "X: ?", "X: ?"},
		{x, f(), "X: f", "X: f"},
		// from the left, all in a pair ahead of what is left
		{f(z, y, x), f(a, b, a), "Z: a; Y: b; X: a", "X: a; Y: b; Z: a"},
		{f(g(z, x), y), f(g(a, b), b), "Z: a; X: b; Y: b", "X: b; Y: b; Z: a"},
		{f(z, g(h(y), x)), f(a, g(h(b), a)), "Z: a; Y: b; X: a", "X: a; Y: b; Z: a"},
		{f(v("X_2"), v("X_10"), v("X")), f(a, b, a), "X_2: a; X_10: b; X: a", "X: a; X_10: b; X_2: a"},
		// what is bound is put in pairs that are left
		{f(x, x), f(a, y), "X: a; Y: a", "X: a; Y: a"},
		{f(x, g(x)), f(y, g(a)), "X: Y; Y: a", "X: a; Y: a"},
		{f(x, y, z), f(y, z, a), "X: Y; Y: Z; Z: a", "X: a; Y: a; Z: a"},
		{f(x, x), f(g(y), g(a)), "X: g(Y); Y: a", "X: g(a); Y: a"},
		{f(x, y, x), f(g(y), a, z), "X: g(Y); Y: a; Z: g(a)", "X: g(a); Y: a; Z: g(a)"},
		{f(x, y), f(g(y, y), g(z, z)), "X: g(Y, Y); Y: g(Z, Z)", "X: g(g(Z, Z), g(Z, Z)); Y: g(Z, Z)"},
		{f(y, x), f(g(z, z), g(y, y)), "Y: g(Z, Z); X: g(g(Z, Z), g(Z, Z))", "X: g(g(Z, Z), g(Z, Z)); Y: g(Z, Z)"},
		{g(x, f(x)), g(f(y), z), "X: f(Y); Z: f(f(Y))", "X: f(Y); Z: f(f(Y))"},
		{f(x, y, x), f(y, x, a), "X: Y; Y: a", "X: a; Y: a"},
		{f(x, y, z), f(z, z, y), "X: Z; Y: Z", "X: Z; Y: Z"},
		// a variable that occurs in what it is to be
		{x, f(x), "false", "false"},
		{f(x), x, "false", "false"},
		{x, g(a, h(f(x))), "false", "false"},
		{f(x, y), f(g(y), g(x)), "false", "false"},
		{f(x, y, z), f(g(y), g(z), g(x)), "false", "false"},
		{f(x, x), f(y, g(y)), "false", "false"},
		{f(x, y, x), f(g(y), z, z), "false", "false"},
		{f(y, x), f(a, g(x)), "false", "false"},
		// another symbol, number or kind, another number of arguments
		{a, b, "false", "false"},
		{f(x), g(x), "false", "false"},
		{f(x), f(x, x), "false", "false"},
		{f(x, y), f(x), "false", "false"},
		{f(x), f(), "false", "false"},
		{f(x, x), f(a, b), "false", "false"},
		{f(x, a), f(b, b), "false", "false"},
		{f(x, b, y), f(a, a, b), "false", "false"},
		{f(a, x), f(b, a), "false", "false"},
		{private("k"), term.Fun("k"), "false", "false"},
		{private("k"), private("j"), "false", "false"},
		{handle(1), handle(2), "false", "false"},
		{handle(1), fresh(1), "false", "false"},
		{f(handle(1), x), f(handle(1), fresh(1)), "X: %1", "X: %1"},
		{f(x, g(x, b)), f(a, g(b, y)), "false", "false"},
	} {
		if got := shown(Triangle(c.a, c.b)); got != c.found {
			t.Errorf("Triangle(%s, %s) = %s; want %s", term.Show(c.a), term.Show(c.b), got, c.found)
		}
		if got := shown(Unify(c.a, c.b)); got != c.comes {
			t.Errorf("Unify(%s, %s) = %s; want %s", term.Show(c.a), term.Show(c.b), got, c.comes)
		}
		if got := Can(c.a, c.b); got != (c.comes != "false") {
			t.Errorf("Can(%s, %s) = %v", term.Show(c.a), term.Show(c.b), got)
		}
	}
}

// P7.1, P7.2: all pairs of those terms: what is told is what the document's words make.
func compare(t *testing.T, terms []api.Term) (alike, binds int) {
	for _, a := range terms {
		for _, b := range terms {
			want, is := byRule([]api.Term{a}, []api.Term{b})
			if got, does := Triangle(a, b); is != does || !as(got, want) {
				t.Fatalf("Triangle(%v, %v) = %s; want %s", a, b, shown(got, does), shown(want, is))
			}
			if got, does := Unify(a, b); is != does || !as(got, solvedByRule(want)) {
				t.Fatalf("Unify(%v, %v) = %s; want %s", a, b, shown(got, does), shown(solvedByRule(want), is))
			}
			if Can(a, b) != is {
				t.Fatalf("Can(%v, %v)", a, b)
			}
			if is {
				alike++
				binds = max(binds, len(want))
			}
		}
	}
	return alike, binds
}

func TestUnifyByRule(t *testing.T) {
	terms := small(4)
	if alike, binds := compare(t, terms); len(terms) != 48 || alike < 600 || binds < 2 {
		t.Error("too few to say much:", len(terms), alike, binds)
	}
	// Three variables, each up to three times.
	var wide []api.Term
	parts := []api.Term{v("X"), v("Y"), v("Z"), term.Fun("a"), f(v("X")), f(v("Z")), g(v("Y"), v("Y"))}
	for _, x := range parts {
		for _, y := range parts {
			for _, z := range parts {
				wide = append(wide, h(x, y, z))
			}
		}
	}
	if alike, binds := compare(t, wide); alike < 10000 || binds < 3 {
		t.Error("too few to say much:", alike, binds)
	}
}

// P7.1: terms of all kinds: those without variables are alike if they are the same, and arguments are gone through, whatever they lie in.
func TestUnifyKinds(t *testing.T) {
	terms := odd()
	for i, a := range terms {
		for j, b := range terms {
			if l, is := Unify(a, b); is != (i == j) || len(l) > 0 {
				t.Errorf("Unify(%v, %v) = %s", a, b, shown(l, is))
			}
		}
		if got := shown(Unify(a, v("X"))); got != "X: "+term.Show(a) {
			t.Errorf("Unify(%v, X) = %s", a, got)
		}
		x, y := a, a
		x.Args, y.Args = []api.Term{v("Y"), v("X"), v("Y")}, []api.Term{f(), v("Z"), v("X")}
		if got := shown(Unify(x, y)); got != "X: f; Y: f; Z: f" {
			t.Errorf("Unify(%v, %v) = %s", x, y, got)
		}
		y.Args[2] = g()
		if got := shown(Unify(x, y)); got != "false" {
			t.Errorf("Unify(%v, %v) = %s", x, y, got)
		}
	}
}

// P7.1: a variable with a number or with arguments is bound to nothing, but held against others as all else is.
func TestUnifyStrangeVariables(t *testing.T) {
	numbered := api.Term{Kind: api.KVar, Name: "X", N: 1}
	with := func(a api.Term) api.Term { return api.Term{Kind: api.KVar, Name: "X", Args: []api.Term{a}} }
	for _, c := range []struct {
		a, b api.Term
		want string
	}{
		{numbered, numbered, ""},
		{numbered, term.Fun("a"), "false"},
		{term.Fun("a"), numbered, "false"},
		{v("Y"), numbered, "Y: X"},
		{numbered, v("Y"), "Y: X"},
		{with(v("Y")), with(term.Fun("a")), "Y: a"},
		{with(v("Y")), term.Fun("a"), "false"},
		{with(term.Fun("a")), with(term.Fun("b")), "false"},
		{v("X"), with(v("X")), "false"},
		{v("X"), with(v("Y")), "X: X"},
	} {
		if got := shown(Unify(c.a, c.b)); got != c.want {
			t.Errorf("Unify(%v, %v) = %s; want %s", c.a, c.b, got, c.want)
		}
	}
	if alike, _ := compare(t, strange()); alike < 2000 {
		t.Error("too few to say much:", alike)
	}
}

// P7.2: lists, pair by pair.
func TestAll(t *testing.T) {
	a, b, x, y := term.Fun("a"), term.Fun("b"), v("X"), v("Y")
	for _, c := range []struct {
		as, bs []api.Term
		want   string
	}{
		{nil, nil, ""},
		{[]api.Term{}, nil, ""},
		{[]api.Term{x}, []api.Term{a}, "X: a"},
		{[]api.Term{y, x}, []api.Term{a, b}, "X: b; Y: a"},
		{[]api.Term{x, x}, []api.Term{a, a}, "X: a"},
		{[]api.Term{x, x}, []api.Term{a, b}, "false"},
		{[]api.Term{x, x}, []api.Term{y, b}, "X: b; Y: b"},
		{[]api.Term{x, a}, []api.Term{f(y), y}, "X: f(a); Y: a"},
		{[]api.Term{x, y}, []api.Term{f(y), f(x)}, "false"},
		{[]api.Term{a, x}, []api.Term{b, a}, "false"},
		{[]api.Term{x, a}, []api.Term{a, b}, "false"},
		// not as many
		{[]api.Term{x}, nil, "false"},
		{nil, []api.Term{x}, "false"},
		{[]api.Term{x, y}, []api.Term{a}, "false"},
		{[]api.Term{a}, []api.Term{a, a}, "false"},
		{[]api.Term{a, b}, []api.Term{b}, "false"},
	} {
		if got := shown(All(c.as, c.bs)); got != c.want {
			t.Errorf("All(%v, %v) = %s; want %s", c.as, c.bs, got, c.want)
		}
	}
}

// P7.2: all lists of two small terms against each other.
func TestAllByRule(t *testing.T) {
	terms := small(3)
	for i, a := range terms {
		for j, b := range terms {
			for k, c := range terms {
				as1, bs1 := []api.Term{a, b}, []api.Term{c, terms[(i+2*j+3*k)%len(terms)]}
				want, is := byRule(as1, bs1)
				if got, does := All(as1, bs1); is != does || !as(got, solvedByRule(want)) {
					t.Fatalf("All(%v, %v) = %s", as1, bs1, shown(got, does))
				}
			}
		}
	}
}

// P7.2: each bind with those that stand behind it, and with no others.
func TestSolve(t *testing.T) {
	a, b, x, y, z := term.Fun("a"), term.Fun("b"), v("X"), v("Y"), v("Z")
	for _, c := range []struct {
		l    []api.Bind
		want string
	}{
		{nil, ""},
		{[]api.Bind{}, ""},
		{[]api.Bind{to("X", f(y))}, "X: f(Y)"},
		{[]api.Bind{to("X", f(y)), to("Y", a)}, "X: f(a); Y: a"},
		{[]api.Bind{to("Y", a), to("X", f(y))}, "X: f(Y); Y: a"},
		{[]api.Bind{to("X", f(y, z)), to("Y", z), to("Z", a)}, "X: f(a, a); Y: a; Z: a"},
		{[]api.Bind{to("X", f(y, z)), to("Z", a), to("Y", z)}, "X: f(Z, a); Y: Z; Z: a"},
		{[]api.Bind{to("Z", g(y)), to("X", z), to("Y", b)}, "X: Z; Y: b; Z: g(b)"},
		// rows that nothing is made alike by: the next one first, all the same
		{[]api.Bind{to("X", x)}, "X: X"},
		{[]api.Bind{to("X", y), to("Y", z), to("Z", y)}, "X: Y; Y: Y; Z: Y"},
		{[]api.Bind{to("X", f(x)), to("X", a)}, "X: f(a)"},
		{[]api.Bind{to("Y", x), to("X", f(x)), to("X", a)}, "X: f(a); Y: f(a)"},
		{[]api.Bind{to("Y", x), to("X", a), to("X", b)}, "X: a; Y: a"},
		{[]api.Bind{to("X", f(y)), to("Y", g(x))}, "X: f(g(X)); Y: g(X)"},
		{[]api.Bind{to("Z", f(x)), to("X", f(y)), to("Y", g(x))}, "X: f(g(X)); Y: g(X); Z: f(f(g(X)))"},
		{[]api.Bind{to("", a), to("X", v(""))}, ": a; X: "},
		{[]api.Bind{to("X", v("")), to("", a)}, ": a; X: a"},
		{[]api.Bind{to("X", private("Y")), to("Y", a)}, "X: Y; Y: a"},
	} {
		if got := shown(Solve(c.l), true); got != c.want {
			t.Errorf("Solve(%s) = %s; want %s", shown(c.l, true), got, c.want)
		}
	}
}

// P7.2: all rows of three binds of few names and terms.
func TestSolveByRule(t *testing.T) {
	var binds []api.Bind
	for _, name := range []string{"X", "Y", "Z"} {
		for _, x := range []api.Term{v("X"), v("Y"), v("Z"), f(v("X")), g(v("Y"), v("Z")), {Kind: api.KVar, Name: "X", N: 1, Args: []api.Term{v("Y")}}} {
			binds = append(binds, to(name, x))
		}
	}
	for _, a := range binds {
		for _, b := range binds {
			for _, c := range binds {
				l := []api.Bind{a, b, c}
				if got := Solve(l); !as(got, solvedByRule(l)) {
					t.Fatalf("Solve(%s) = %s; want %s", shown(l, true), shown(got, true), shown(solvedByRule(l), true))
				}
			}
		}
	}
}

// P7.3: what Unify tells makes both alike; whatever else does so is made of it by some binds behind it; and where it tells nothing, nothing does so.
func TestMostGeneral(t *testing.T) {
	terms := small(3)
	vars := []api.Term{v("X"), v("Y")}
	for _, a := range terms {
		for _, b := range terms {
			l, is := Unify(a, b)
			if is && !term.Same(subst.Apply(l, a), subst.Apply(l, b)) {
				t.Fatalf("Unify(%s, %s) = %s doesn't make them alike", term.Show(a), term.Show(b), shown(l, is))
			}
			made := []api.Term{subst.Apply(l, vars[0]), subst.Apply(l, vars[1])}
			for _, x := range terms {
				for _, y := range terms {
					m := []api.Bind{to("X", x), to("Y", y)}
					if !term.Same(subst.Apply(m, a), subst.Apply(m, b)) {
						continue
					}
					if _, more := match.All(nil, made, []api.Term{x, y}); !is || !more || !General(l, m) {
						t.Fatalf("Unify(%s, %s) = %s, but %s does", term.Show(a), term.Show(b), shown(l, is), shown(m, true))
					}
				}
			}
		}
	}
}

// P7.3: whether there are binds by which binds become others.
func TestGeneral(t *testing.T) {
	a, b, x, y, z := term.Fun("a"), term.Fun("b"), v("X"), v("Y"), v("Z")
	for _, c := range []struct {
		a, b []api.Bind
		want bool
	}{
		{nil, nil, true},
		{[]api.Bind{}, nil, true},
		{nil, []api.Bind{to("X", a)}, true},
		{[]api.Bind{to("X", y)}, []api.Bind{to("X", a)}, true},
		{[]api.Bind{to("X", a)}, []api.Bind{to("X", y)}, false},
		{[]api.Bind{to("X", a)}, []api.Bind{to("X", a)}, true},
		{[]api.Bind{to("X", a)}, []api.Bind{to("X", b)}, false},
		{[]api.Bind{to("X", f(y))}, []api.Bind{to("X", f(g(a)))}, true},
		{[]api.Bind{to("X", f(y))}, []api.Bind{to("X", g(y))}, false},
		// a name that b has not stands for itself
		{[]api.Bind{to("X", a)}, nil, false},
		{[]api.Bind{to("X", x)}, nil, true},
		{[]api.Bind{to("X", y)}, nil, true},
		{[]api.Bind{to("X", f(y))}, nil, false},
		{[]api.Bind{to("X", y), to("Z", y)}, []api.Bind{to("Z", x)}, true},
		{[]api.Bind{to("X", y), to("Z", y)}, []api.Bind{to("Z", a)}, false},
		// of all names at once
		{[]api.Bind{to("X", z), to("Y", z)}, []api.Bind{to("X", a), to("Y", a)}, true},
		{[]api.Bind{to("X", z), to("Y", z)}, []api.Bind{to("X", a), to("Y", b)}, false},
		{[]api.Bind{to("X", y), to("Y", z)}, []api.Bind{to("Y", b), to("X", a)}, true},
		{[]api.Bind{to("X", y), to("Y", y)}, []api.Bind{to("Y", b), to("X", a)}, false},
		// names that a has not say nothing
		{[]api.Bind{to("X", y)}, []api.Bind{to("X", a), to("Y", b), to("Z", a)}, true},
		// of each name the first bind, on both sides
		{[]api.Bind{to("X", y), to("X", a)}, []api.Bind{to("X", b)}, true},
		{[]api.Bind{to("X", a), to("X", y)}, []api.Bind{to("X", b)}, false},
		{[]api.Bind{to("X", a)}, []api.Bind{to("X", a), to("X", b)}, true},
		{[]api.Bind{to("X", a)}, []api.Bind{to("X", b), to("X", a)}, false},
		{[]api.Bind{to("", y)}, []api.Bind{to("", a)}, true},
		{[]api.Bind{to("", a)}, nil, false},
		{[]api.Bind{to("X", api.Term{})}, []api.Bind{to("X", api.Term{})}, true},
	} {
		if got := General(c.a, c.b); got != c.want {
			t.Errorf("General(%s, %s) = %v", shown(c.a, true), shown(c.b, true), got)
		}
	}
}

// P7.3: all rows of two binds: General tells whether match.All has binds for the terms of each name.
func TestGeneralByRule(t *testing.T) {
	terms := small(2)
	var rows [][]api.Bind
	for _, x := range terms {
		rows = append(rows, []api.Bind{to("Y", x)})
		for _, y := range terms {
			rows = append(rows, []api.Bind{to("Y", x), to("X", y)}, []api.Bind{to("X", x), to("X", y)})
		}
	}
	for _, a := range rows {
		for _, b := range rows {
			var ps, ts []api.Term
			for _, name := range []string{"X", "Y"} {
				p, is := subst.Get(a, name)
				if !is {
					continue
				}
				u, is := subst.Get(b, name)
				if !is {
					u = v(name)
				}
				ps, ts = append(ps, p), append(ts, u)
			}
			if _, is := match.All(nil, ps, ts); General(a, b) != is {
				t.Fatalf("General(%s, %s) = %v", shown(a, true), shown(b, true), !is)
			}
		}
	}
}

// roomy tells a list with room behind its length, where something else stands.
func roomy[E any](l []E, behind E) []E { return append(slices.Clone(l), behind)[:len(l)] }

// P2: no call changes what it is given, nor reads what lies behind its lists; no two answers share their list.
func TestUnchanged(t *testing.T) {
	l := []api.Bind{to("Z", v("Y")), to("Q", f(v("X"))), to("X", v("Y"))}
	given := roomy(l, to("Y", v("Behind")))
	ordered := roomy(subst.Of(l...), to("Y", v("Behind")))
	as1 := roomy([]api.Term{v("Y"), f(v("X"), v("Z"))}, v("Behind"))
	bs1 := roomy([]api.Term{g(v("X")), f(v("Z"), private("k"))}, handle(7))
	wide := api.Term{Kind: api.KFun, Name: "f", Args: roomy([]api.Term{v("X"), v("Z")}, v("Behind"))}
	for _, call := range []func() ([]api.Bind, bool){
		func() ([]api.Bind, bool) { return Unify(wide, bs1[1]) },
		func() ([]api.Bind, bool) { return Unify(bs1[1], wide) },
		func() ([]api.Bind, bool) { return Triangle(wide, bs1[1]) },
		func() ([]api.Bind, bool) { return Triangle(wide, v("Q")) },
		func() ([]api.Bind, bool) { return All(as1, bs1) },
		func() ([]api.Bind, bool) { return All(bs1, as1) },
		func() ([]api.Bind, bool) { return Solve(given), true },
		func() ([]api.Bind, bool) { return Solve(ordered), true },
		func() ([]api.Bind, bool) { return Solve(given[2:]), true },
	} {
		a, is := call()
		b, does := call()
		if !is || !does || len(a) == 0 {
			t.Fatal("nothing is told:", shown(a, is))
		}
		kept := slices.Clone(b)
		for i := range a {
			a[i] = to("changed", v("changed"))
		}
		_ = append(a, to("more", v("more")))
		if !as(b, kept) {
			t.Error("answers share their list:", shown(b, true))
		}
		if slices.ContainsFunc(b, func(x api.Bind) bool { return Occurs("Behind", x.T) }) {
			t.Error("what lies behind a list is told:", shown(b, true))
		}
	}
	if !General(given[:1], given[1:2]) || General(nil, given) != General(nil, nil) {
		t.Error("what lies behind a list is read")
	}
	if !as(given[:4], append(slices.Clone(l), to("Y", v("Behind")))) || !as(ordered[:4], append(subst.Of(l...), to("Y", v("Behind")))) {
		t.Error("binds are changed:", shown(given[:4], true), shown(ordered[:4], true))
	}
	if term.Show(f(as1[:3]...)) != "f(Y, f(X, Z), Behind)" || term.Show(f(bs1[:3]...)) != "f(g(X), f(Z, k), $7)" || term.Show(f(wide.Args[:3]...)) != "f(X, Z, Behind)" {
		t.Error("terms are changed:", as1[:3], bs1[:3], wide.Args[:3])
	}
}

// chain is f(f(.. f(leaf))), with that many f.
func chain(n int, leaf api.Term) api.Term {
	for range n {
		leaf = f(leaf)
	}
	return leaf
}

// P1: terms that lie in one another 2^16 deep.
func TestDeep(t *testing.T) {
	const n = 1<<16 - 1
	a, x, y := term.Fun("a"), v("X"), v("Y")
	if got := shown(Unify(chain(n, x), chain(n, a))); got != "X: a" {
		t.Error(got)
	}
	if got := shown(Unify(chain(n, x), chain(n, y))); got != "X: Y" {
		t.Error(got)
	}
	if Can(chain(n, a), chain(n-1, a)) || Can(chain(n, x), x) || Can(g(x, x), g(y, chain(n-1, y))) {
		t.Error("false ones are told")
	}
	if l, is := Unify(g(x, x), g(chain(n-1, y), chain(n, a))); !is || !as(l, []api.Bind{to("X", chain(n, a)), to("Y", f(a))}) {
		t.Error("twice:", is)
	}
	if !Occurs("X", chain(n, x)) || Occurs("X", chain(n, y)) {
		t.Error("Occurs")
	}
	if !General([]api.Bind{to("X", chain(n-1, y))}, []api.Bind{to("X", chain(n, a))}) || General([]api.Bind{to("X", chain(n, y))}, []api.Bind{to("X", chain(n-1, a))}) {
		t.Error("General")
	}
	// A bind at each level, which is put in all that lies below it.
	left, right := x, a
	for range n {
		left, right = g(x, left), g(a, right)
	}
	if got := shown(Unify(left, right)); got != "X: a" {
		t.Error(got)
	}
}

// P1: long lists, with many variables and long rows of binds.
func TestLong(t *testing.T) {
	const n = 1 << 16
	var vars, hands, same []api.Term
	var want, row, nested []api.Bind
	for i := range n {
		name := "V" + chars.Digits(n-i)
		vars = append(vars, v(name))
		hands = append(hands, handle(i))
		same = append(same, v("X"))
		want = append(want, to(name, handle(i)))
		row = append(row, to(name, v("V"+chars.Digits(n-i-1))))
		nested = append(nested, to(name, f(v("V"+chars.Digits(n-i-1)))))
	}
	if l, is := Triangle(f(vars...), f(hands...)); !is || !as(l, want) {
		t.Error("Triangle:", len(l), is)
	}
	if l, is := Unify(f(hands...), f(vars...)); !is || !as(l, subst.Of(want...)) {
		t.Error("Unify:", len(l), is)
	}
	if !General(row, want) || General(want, row) {
		t.Error("General")
	}
	// X becomes each of them, and each becomes the next one.
	l, is := Triangle(f(same...), f(vars...))
	if !is || len(l) != n || l[0].Name != "X" || l[0].T.Name != vars[0].Name || !as(l[1:], row[:n-1]) {
		t.Error("Triangle of a variable that stands for many:", len(l), is)
	}
	for _, b := range Solve(l) {
		if b.T.Name != vars[n-1].Name {
			t.Fatal("Solve:", b.Name, term.Show(b.T))
		}
	}
	if l := Solve(nested); len(l) != n || l[0].Name != "V1" || !term.Same(l[0].T, f(v("V0"))) || term.Depth(l[1].T) != 11 {
		t.Error("Solve of binds in one another:", len(l))
	}
	if _, is := All(hands, append(slices.Clone(hands[:n-1]), handle(n))); is {
		t.Error("All of another one")
	}
}
