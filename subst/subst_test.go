package subst

import (
	"math"
	"reflect"
	"slices"
	"strings"
	"testing"

	"picklock/api"
	"picklock/chars"
	"picklock/term"
)

func v(name string) api.Term { return term.Var(name) }

func f(args ...api.Term) api.Term { return term.Fun("f", args...) }

func private(name string) api.Term { return api.Term{Kind: api.KName, Name: name} }

func handle(n int) api.Term { return api.Term{Kind: api.KHand, N: n} }

// to is the bind of a name to a term.
func to(name string, t api.Term) api.Bind { return api.Bind{Name: name, T: t} }

// shown writes binds, in the order in which they stand.
func shown(l []api.Bind) string {
	var b strings.Builder
	for _, x := range l {
		b.WriteString(x.Name + ": " + term.Show(x.T) + "; ")
	}
	return strings.TrimSuffix(b.String(), "; ")
}

// as tells whether two lists of binds have the same binds in the same order.
func as(a, b []api.Bind) bool {
	return slices.EqualFunc(a, b, func(x, y api.Bind) bool { return x.Name == y.Name && term.Same(x.T, y.T) })
}

// nothing tells whether a term is the zero value.
func nothing(t api.Term) bool { return reflect.DeepEqual(t, api.Term{}) }

// lists are all lists of at most three of a few binds: in order and not, with names that come twice, of odd terms.
func lists() [][]api.Bind {
	few := []api.Bind{to("X", v("Y")), to("Y", f(v("X"), v("Z"))), to("X", private("k")), to("Z", api.Term{}), to("", api.Term{Kind: api.KVar, Name: "Z", Args: []api.Term{v("X")}})}
	l := [][]api.Bind{nil}
	for n := 0; len(l[n]) < 3; n++ {
		for _, b := range few {
			l = append(l, append(slices.Clone(l[n]), b))
		}
	}
	return l
}

// several are terms of all kinds with variables in them, and such as have no business with variables.
func several() []api.Term {
	l := []api.Term{{}, v("X"), v("Y"), v("Q"), v(""), private("X"), handle(1), {Kind: api.KFresh, Name: "X"}, term.Fun("X"), {Kind: 6, Name: "X"}, {Kind: api.KVar, Name: "X", N: 4}}
	inner := f(v("X"), f(v("Z"), private("X")), v("Q"), v(""), f(v("X")))
	for _, kind := range []int{0, api.KVar, api.KName, api.KHand, api.KFresh, api.KFun, 6, -1} {
		l = append(l, api.Term{Kind: kind, Name: "Q", Args: []api.Term{v("Y"), inner}}, api.Term{Kind: kind, Name: "X", N: 2, Args: []api.Term{inner, v("Z")}})
	}
	return append(l, inner, f(inner, inner), f(f(f(private("k")), term.Fun("c")), handle(3)))
}

// P5.1: by rising names, and of each name the first one.
func TestOf(t *testing.T) {
	k, x, y := term.Fun("k"), v("X"), v("Y")
	for _, c := range []struct {
		l    []api.Bind
		want string
	}{
		{nil, ""},
		{[]api.Bind{}, ""},
		{[]api.Bind{to("X", k)}, "X: k"},
		{[]api.Bind{to("Y", k), to("X", y)}, "X: Y; Y: k"},
		{[]api.Bind{to("Y", k), to("X", y), to("Y", x)}, "X: Y; Y: k"},
		{[]api.Bind{to("X", x), to("X", y), to("X", k)}, "X: X"},
		{[]api.Bind{to("Z", k), to("Y", y), to("Z", x), to("X", k), to("Y", k), to("X", x)}, "X: k; Y: Y; Z: k"},
		{[]api.Bind{to("X", api.Term{}), to("X", k)}, "X: ?"},
		{[]api.Bind{{}, to("", k)}, ": ?"},
		// byte by byte: a text is behind those with which it begins, small letters are behind capitals, and bytes above 127 behind all
		{[]api.Bind{to("X_10", k), to("X_2", k), to("X_1", k), to("X", k), to("", k)}, ": k; X: k; X_1: k; X_10: k; X_2: k"},
		{[]api.Bind{to("\xff", k), to("é", k), to("a", k), to("Z", k), to("\x00", k)}, "\x00: k; Z: k; a: k; é: k; \xff: k"},
	} {
		if got := shown(Of(c.l...)); got != c.want {
			t.Errorf("Of(%s) = %s; want %s", shown(c.l), got, c.want)
		}
	}
}

// P5.1: all short lists: the names rise, each is there, and each has what its first bind has.
func TestOfLists(t *testing.T) {
	for _, l := range lists() {
		of := Of(l...)
		for i, b := range of {
			first, is := Get(l, b.Name)
			if i > 0 && of[i-1].Name >= b.Name || !is || !term.Same(first, b.T) {
				t.Fatalf("Of(%s) = %s", shown(l), shown(of))
			}
		}
		for _, b := range l {
			if !slices.ContainsFunc(of, func(x api.Bind) bool { return x.Name == b.Name }) {
				t.Fatalf("Of(%s) = %s: %q is lost", shown(l), shown(of), b.Name)
			}
		}
	}
}

// P5.1: of many binds of a name, in whatever way they are put in order, the first one stays.
func TestOfMany(t *testing.T) {
	var l []api.Bind
	for n := range 3000 {
		l = append(l, to("V"+chars.Digits(n*7%100), handle(n)))
	}
	of := Of(l...)
	if len(of) != 100 {
		t.Fatal(len(of))
	}
	for _, b := range of {
		if first, is := Get(l, b.Name); !is || first.N != b.T.N || first.N >= 100 {
			t.Errorf("%s: %d; want %d", b.Name, b.T.N, first.N)
		}
	}
}

// P5.1: what the first bind of a name has; nothing, where there is none.
func TestGet(t *testing.T) {
	k := term.Fun("k")
	l := []api.Bind{to("Y", k), to("X", v("Y")), to("Y", v("Z")), to("N", api.Term{}), to("Ab", k)}
	for name, want := range map[string]api.Term{"Y": k, "X": v("Y"), "N": {}, "Ab": k} {
		if got, is := Get(l, name); !is || !term.Same(got, want) {
			t.Errorf("Get(%q) = %v, %v", name, got, is)
		}
	}
	for _, name := range []string{"", "Z", "x", "y", "A", "Abc", "XY", "X ", "k"} {
		if got, is := Get(l, name); is || !nothing(got) {
			t.Errorf("Get(%q) = %v, %v", name, got, is)
		}
	}
	if got, is := Get(nil, ""); is || !nothing(got) {
		t.Error("of nothing:", got, is)
	}
	if got, is := Get([]api.Bind{to("", k)}, ""); !is || !term.Same(got, k) {
		t.Error("of no name:", got, is)
	}
}

// P5.1: the list without the name, and with that bind.
func TestWith(t *testing.T) {
	k, x := term.Fun("k"), v("X")
	l := []api.Bind{to("Y", k), to("X", v("Y")), to("Y", x), to("B", k)}
	for _, c := range []struct {
		l    []api.Bind
		name string
		t    api.Term
		want string
	}{
		{nil, "X", k, "X: k"},
		{[]api.Bind{}, "", api.Term{}, ": ?"},
		{l, "X", f(x), "B: k; X: f(X); Y: k"},
		{l, "Y", f(x), "B: k; X: Y; Y: f(X)"},
		{l, "B", v("B"), "B: B; X: Y; Y: k"},
		{l, "A", x, "A: X; B: k; X: Y; Y: k"},
		{l, "C", x, "B: k; C: X; X: Y; Y: k"},
		{l, "Z", api.Term{}, "B: k; X: Y; Y: k; Z: ?"},
		{[]api.Bind{to("X", k), to("X", x)}, "X", v("Z"), "X: Z"},
	} {
		if got := shown(With(c.l, c.name, c.t)); got != c.want {
			t.Errorf("With(%s; %s: %s) = %s; want %s", shown(c.l), c.name, term.Show(c.t), got, c.want)
		}
	}
	for _, l := range lists() {
		for _, name := range []string{"X", "Y", "Z", "", "Q"} {
			var want []api.Bind
			for _, b := range l {
				if b.Name != name {
					want = append(want, b)
				}
			}
			if got := With(l, name, x); !as(got, Of(append(want, to(name, x))...)) {
				t.Fatalf("With(%s; %s: X) = %s", shown(l), name, shown(got))
			}
		}
	}
}

// P5.1: the binds of some names alone.
func TestOnly(t *testing.T) {
	k := term.Fun("k")
	l := []api.Bind{to("Z", k), to("Y", v("X")), to("Z", v("Y")), to("X", api.Term{}), to("", k)}
	for _, c := range []struct {
		l     []api.Bind
		names []string
		want  string
	}{
		{l, nil, ""},
		{l, []string{}, ""},
		{l, []string{"Z"}, "Z: k"},
		{l, []string{"Z", "X"}, "X: ?; Z: k"},
		{l, []string{"Z", "Q", "Z", "", "X", "Z"}, ": k; X: ?; Z: k"},
		{l, []string{"Z", "Y", "X", ""}, ": k; X: ?; Y: X; Z: k"},
		{l, []string{"Q", "x", "XY", " "}, ""},
		{nil, []string{"X", ""}, ""},
	} {
		if got := shown(Only(c.l, c.names)); got != c.want {
			t.Errorf("Only(%s; %q) = %s; want %s", shown(c.l), c.names, got, c.want)
		}
	}
	sets := [][]string{nil, {"X"}, {"Z", "X"}, {"Y", "Q", "Y", ""}, {"", "Z", "Y", "X"}}
	for _, l := range lists() {
		for _, names := range sets {
			var want []api.Bind
			for _, b := range Of(l...) {
				if slices.Contains(names, b.Name) {
					want = append(want, b)
				}
			}
			if got := Only(l, names); !as(got, want) {
				t.Fatalf("Only(%s; %q) = %s", shown(l), names, shown(got))
			}
		}
	}
}

// P5.1: alike is what has the same first binds, in whatever order.
func TestSame(t *testing.T) {
	k, x, y := term.Fun("k"), to("X", v("Y")), to("Y", term.Fun("k"))
	empty := to("Y", api.Term{Kind: api.KFun, Name: "k", Args: []api.Term{}})
	for _, c := range []struct {
		a, b []api.Bind
		want bool
	}{
		{nil, nil, true},
		{nil, []api.Bind{}, true},
		{[]api.Bind{x, y}, []api.Bind{y, x}, true},
		{[]api.Bind{x, y, to("X", k)}, []api.Bind{y, x, y}, true},
		{[]api.Bind{x, empty}, []api.Bind{y, x}, true},
		{[]api.Bind{x}, nil, false},
		{[]api.Bind{x}, []api.Bind{x, y}, false},
		{[]api.Bind{x, y}, []api.Bind{y, y}, false},
		{[]api.Bind{x}, []api.Bind{to("X", v("Z"))}, false},
		{[]api.Bind{x}, []api.Bind{to("Z", v("Y"))}, false},
		{[]api.Bind{to("X", k), x}, []api.Bind{x, to("X", k)}, false},
		{[]api.Bind{to("X", k)}, []api.Bind{to("X", private("k"))}, false},
		{[]api.Bind{to("X", handle(1))}, []api.Bind{to("X", handle(2))}, false},
		{[]api.Bind{{}}, nil, false},
	} {
		if Same(c.a, c.b) != c.want || Same(c.b, c.a) != c.want {
			t.Errorf("Same(%s; %s) isn't %v", shown(c.a), shown(c.b), c.want)
		}
	}
	all := lists()
	for _, a := range all {
		for _, b := range all {
			if Same(a, b) != as(Of(a...), Of(b...)) {
				t.Fatalf("Same(%s; %s) = %v", shown(a), shown(b), Same(a, b))
			}
		}
	}
}

// P5.2, with the chapter's example: what variables stand for, once.
func TestApply(t *testing.T) {
	k, x, y := private("k"), v("X"), v("Y")
	for _, c := range []struct {
		l    []api.Bind
		t    api.Term
		want string
	}{
		{[]api.Bind{to("x", k)}, f(v("x"), v("y")), "f(k, y)"},
		{nil, f(x, y), "f(X, Y)"},
		{[]api.Bind{to("X", k)}, x, "k"},
		{[]api.Bind{to("X", k)}, y, "Y"},
		{[]api.Bind{to("X", k)}, f(x, f(f(x), x), y), "f(k, f(f(k), k), Y)"},
		{[]api.Bind{to("X", k), to("X", y)}, x, "k"},
		{[]api.Bind{to("Y", x), to("X", y)}, f(x, y, f(y, x)), "f(Y, X, f(X, Y))"},
		{[]api.Bind{to("X", f(x, y)), to("Y", k)}, f(x, y), "f(f(X, Y), k)"},
		{[]api.Bind{to("X", y), to("Y", v("Z")), to("Z", k)}, x, "Y"},
		{[]api.Bind{to("X", api.Term{})}, f(x), "f(?)"},
		{[]api.Bind{to("", k)}, f(v(""), api.Term{}), "f(k, ?)"},
		{[]api.Bind{to("X", handle(1))}, f(x, handle(1)), "f($1, $1)"},
		// only what is a variable stands for something, however it is named
		{[]api.Bind{to("X", k), to("f", k), to("k", x)}, f(private("X"), term.Fun("X"), k, term.Fun("k", x)), "f(X, X, k, k(k))"},
		{[]api.Bind{to("X", k)}, f(v("x"), v("XX"), v("X_1"), v("")), "f(x, XX, X_1, )"},
	} {
		if got := term.Show(Apply(c.l, c.t)); got != c.want {
			t.Errorf("Apply(%s; %s) = %s; want %s", shown(c.l), term.Show(c.t), got, c.want)
		}
	}
}

// byRule tells what Apply must tell, as P5.2 says it.
func byRule(l []api.Bind, t api.Term) api.Term {
	if x, is := Get(l, t.Name); is && t.Kind == api.KVar {
		return x
	}
	args := make([]api.Term, len(t.Args))
	for i, a := range t.Args {
		args[i] = byRule(l, a)
	}
	t.Args = args
	return t
}

// P5.2: all short lists with terms of all kinds; the lists' own order plays no part.
func TestApplySeveral(t *testing.T) {
	for _, x := range several() {
		for _, l := range lists() {
			got := Apply(l, x)
			if !term.Same(got, byRule(l, x)) || !term.Same(got, Apply(Of(l...), x)) {
				t.Fatalf("Apply(%s; %v) = %v", shown(l), x, got)
			}
		}
	}
}

// P5.2: binds behind binds.
func TestThen(t *testing.T) {
	k, x, y, z := term.Fun("k"), v("X"), v("Y"), v("Z")
	for _, c := range []struct {
		a, b []api.Bind
		want string
	}{
		{nil, nil, ""},
		{nil, []api.Bind{to("Y", k), to("X", y), to("Y", x)}, "X: Y; Y: k"},
		{[]api.Bind{to("Y", k), to("X", y), to("Y", x)}, nil, "X: Y; Y: k"},
		{[]api.Bind{to("X", f(y, z, x))}, []api.Bind{to("Y", k)}, "X: f(k, Z, X); Y: k"},
		{[]api.Bind{to("X", y)}, []api.Bind{to("X", k), to("Y", z), to("Z", k)}, "X: Z; Y: Z; Z: k"},
		{[]api.Bind{to("Z", x), to("B", y)}, []api.Bind{to("Y", x), to("A", k), to("X", y)}, "A: k; B: X; X: Y; Y: X; Z: Y"},
		{[]api.Bind{to("X", y)}, []api.Bind{to("Y", x)}, "X: X; Y: X"},
		{[]api.Bind{to("X", y)}, []api.Bind{to("Y", k), to("Y", z)}, "X: k; Y: k"},
		{[]api.Bind{to("X", private("Y"))}, []api.Bind{to("Y", api.Term{})}, "X: Y; Y: ?"},
	} {
		if got := shown(Then(c.a, c.b)); got != c.want {
			t.Errorf("Then(%s; %s) = %s; want %s", shown(c.a), shown(c.b), got, c.want)
		}
	}
}

// P5.2: shorter lists behind all: Apply of both is Apply of the one behind Apply of the other; no name is lost or new.
func TestThenLists(t *testing.T) {
	all, terms := lists(), several()
	for _, a := range all {
		for _, b := range all {
			if len(b) > 2 {
				break
			}
			then := Then(a, b)
			if !as(then, Of(then...)) {
				t.Fatalf("Then(%s; %s) = %s", shown(a), shown(b), shown(then))
			}
			for _, name := range []string{"X", "Y", "Z", "", "Q"} {
				_, inA := Get(a, name)
				_, inB := Get(b, name)
				if _, is := Get(then, name); is != (inA || inB) {
					t.Fatalf("Then(%s; %s) = %s: %q", shown(a), shown(b), shown(then), name)
				}
			}
			for _, x := range terms {
				if !term.Same(Apply(then, x), Apply(b, Apply(a, x))) {
					t.Fatalf("Apply of Then(%s; %s) of %v = %v", shown(a), shown(b), x, Apply(then, x))
				}
			}
		}
	}
}

// P5.3: terms in the places of their handles, from 1 on, once.
func TestHands(t *testing.T) {
	k, c := private("k"), term.Fun("c")
	l := []api.Term{k, f(c, handle(1)), {}}
	for _, s := range []struct {
		t    api.Term
		want string
	}{
		{handle(1), "k"}, {handle(2), "f(c, $1)"}, {handle(3), "?"},
		{f(handle(2), handle(1), f(f(handle(1)))), "f(f(c, $1), k, f(f(k)))"},
		{f(v("X"), k, c, api.Term{Kind: api.KFresh, N: 1}, api.Term{}), "f(X, k, c, %1, ?)"},
		{api.Term{}, "?"}, {v("X"), "X"}, {api.Term{Kind: api.KFresh, N: 9}, "%9"}, {api.Term{Kind: api.KName, Name: "n", N: 9}, "n"},
		{f(api.Term{Kind: api.KHand, N: 1, Name: "h", Args: []api.Term{c}}), "f(k)"},
	} {
		if got, is := Hands(l, s.t); !is || term.Show(got) != s.want {
			t.Errorf("Hands(%s) = %s, %v; want %s", term.Show(s.t), term.Show(got), is, s.want)
		}
	}
	odd := api.Term{Kind: api.KName, Name: "n", N: 5, Args: []api.Term{handle(1)}}
	if got, is := Hands(l, odd); !is || !term.Same(got, api.Term{Kind: api.KName, Name: "n", N: 5, Args: []api.Term{k}}) {
		t.Error("the other fields are lost:", got)
	}
	for _, n := range []int{0, -1, 4, math.MaxInt, math.MinInt} {
		bad := handle(n)
		for _, x := range []api.Term{bad, f(bad), f(handle(1), bad), f(bad, handle(1)), f(f(handle(2), f(bad)), c), {Kind: -1, Args: []api.Term{bad}}} {
			if got, is := Hands(l, x); is || !nothing(got) {
				t.Errorf("Hands(%s) = %v, %v", term.Show(x), got, is)
			}
		}
	}
}

// P5.3: without terms, what has no handles is itself, and all else is nothing.
func TestHandsOfNone(t *testing.T) {
	for _, l := range [][]api.Term{nil, {}} {
		for _, x := range []api.Term{{}, v("X"), f(private("k"), api.Term{Kind: api.KFresh, N: 1})} {
			if got, is := Hands(l, x); !is || !term.Same(got, x) {
				t.Errorf("Hands of none of %v = %v, %v", x, got, is)
			}
			if got, is := Hands(l, f(x, handle(1))); is || !nothing(got) {
				t.Errorf("a handle of none: %v, %v", got, is)
			}
		}
	}
}

// handsByRule tells what Hands must tell, as P5.3 says it.
func handsByRule(l []api.Term, t api.Term) (api.Term, bool) {
	if t.Kind == api.KHand {
		if t.N < 1 || t.N > len(l) {
			return api.Term{}, false
		}
		return l[t.N-1], true
	}
	args := make([]api.Term, len(t.Args))
	for i, a := range t.Args {
		x, is := handsByRule(l, a)
		if !is {
			return api.Term{}, false
		}
		args[i] = x
	}
	t.Args = args
	return t, true
}

// P5.3: terms of all kinds, with handles in the places of some of their variables.
func TestHandsSeveral(t *testing.T) {
	hands := []api.Term{f(handle(2)), {}, private("k")}
	for _, x := range several() {
		for _, l := range [][]api.Bind{nil, {to("X", handle(1)), to("Z", handle(2))}, {to("Y", f(handle(3))), to("Q", handle(1))}, {to("", handle(4))}} {
			y := Apply(l, x)
			for n := range len(hands) + 1 {
				want, can := handsByRule(hands[:n], y)
				if got, is := Hands(hands[:n], y); is != can || !is && !nothing(got) || !term.Same(got, want) {
					t.Fatalf("Hands of %d of %v = %v, %v", n, y, got, is)
				}
			}
		}
	}
}

// roomy tells a list with room behind its length, where something else stands.
func roomy[E any](l []E, behind E) []E { return append(slices.Clone(l), behind)[:len(l)] }

// P2: no call changes what it is given, nor reads what lies behind its lists.
func TestUnchanged(t *testing.T) {
	behind, l := to("Behind", v("Behind")), []api.Bind{to("Z", v("Behind")), to("X", f(v("X"))), to("Z", v("Y")), to("Y", v("Z"))}
	args := roomy([]api.Term{v("X"), v("Behind"), f(v("Z")), handle(1)}, handle(7))
	x := api.Term{Kind: api.KFun, Name: "f", Args: args}
	given, other := roomy(l, behind), roomy(l[:2], behind)
	names, terms := roomy([]string{"Z", "X"}, "Behind"), roomy([]api.Term{x}, handle(7))
	for _, call := range []func() []api.Bind{
		func() []api.Bind { return Of(given...) },
		func() []api.Bind { return With(given, "X", x) },
		func() []api.Bind { return With(given, "A", x) },
		func() []api.Bind { return Then(given, other) },
		func() []api.Bind { return Then(other, given) },
		func() []api.Bind { return Only(given, names) },
		func() []api.Bind { return Only(given, []string{"Behind", "Y"}) },
	} {
		a, b := call(), call()
		kept := slices.Clone(b)
		for i := range a {
			a[i] = to("changed", v("changed"))
		}
		_ = append(a, to("more", v("more")))
		if !as(b, kept) {
			t.Error("answers share their list:", shown(b))
		}
		if slices.ContainsFunc(b[:cap(b)], func(x api.Bind) bool { return x.Name == "Behind" }) {
			t.Error("what lies behind a list is told:", shown(b))
		}
	}
	if _, is := Get(given, "Behind"); is || !Same(given, l) || Same(given, append(slices.Clone(l), behind)) {
		t.Error("what lies behind a list is read")
	}
	if got := term.Show(Apply(given, x)); got != "f(f(X), Behind, f(Behind), $1)" {
		t.Error(got)
	}
	if got, is := Hands(terms, x); !is || term.Show(got) != "f(X, Behind, f(Z), f(X, Behind, f(Z), $1))" {
		t.Error(got, is)
	}
	if got, is := Hands(terms, handle(2)); is {
		t.Error("what lies behind a list stands for a handle:", got)
	}
	if !as(given[:5], append(slices.Clone(l), behind)) || !as(other[:3], append(slices.Clone(l[:2]), behind)) {
		t.Error("binds are changed:", shown(given[:5]), shown(other[:3]))
	}
	if term.Show(api.Term{Kind: api.KFun, Name: "f", Args: args[:5]}) != "f(X, Behind, f(Z), $1, $7)" || !slices.Equal(names[:3], []string{"Z", "X", "Behind"}) || terms[:2][1].N != 7 {
		t.Error("terms or names are changed:", args[:5], names[:3], terms[:2])
	}
}

// P2: a term that is made has lists of its own wherever something was put in: what is done to it is not done to what was given.
func TestPutInNewLists(t *testing.T) {
	x := f(f(v("X"), private("k")), handle(1))
	for _, put := range []func() api.Term{
		func() api.Term { return Apply([]api.Bind{to("X", term.Fun("c"))}, x) },
		func() api.Term {
			y, _ := Hands([]api.Term{term.Fun("c")}, f(f(handle(1), private("k")), handle(1)))
			return y
		},
	} {
		a, b := put(), put()
		want := term.Show(b)
		a.Args[0].Args[0] = private("changed")
		a.Args[0] = private("changed")
		if term.Show(b) != want || term.Show(x) != "f(f(X, k), $1)" {
			t.Error("shared:", term.Show(b), term.Show(x))
		}
	}
}

// chain is f(f(.. f(leaf))), with that many f.
func chain(n int, leaf api.Term) api.Term {
	for range n {
		leaf = f(leaf)
	}
	return leaf
}

// P1: terms that lie in one another 2^16 deep.
func TestDeep(t *testing.T) {
	const n = 1<<16 - 1
	l := []api.Bind{to("X", v("Y"))}
	if !term.Same(Apply(l, chain(n, v("X"))), chain(n, v("Y"))) || !term.Same(Apply(l, chain(n, v("Q"))), chain(n, v("Q"))) {
		t.Error("Apply deep")
	}
	if got := Then([]api.Bind{to("Z", chain(n, v("X")))}, l); len(got) != 2 || !Same(got, []api.Bind{to("Z", chain(n, v("Y"))), l[0]}) {
		t.Error("Then deep:", len(got))
	}
	if got, is := Hands([]api.Term{v("Y")}, chain(n, handle(1))); !is || !term.Same(got, chain(n, v("Y"))) {
		t.Error("Hands deep:", is)
	}
	if got, is := Hands([]api.Term{v("Y")}, chain(n, handle(2))); is || !nothing(got) {
		t.Error("Hands deep, without such a handle:", is)
	}
}

// P1: long lists, and terms with many variables.
func TestLong(t *testing.T) {
	const n = 1 << 16
	var l []api.Bind
	var names []string
	var vars, hands []api.Term
	for i := range n {
		name := "V" + chars.Digits(n-i)
		names = append(names, name)
		l = append(l, to(name, handle(i+1)))
		vars = append(vars, v(name))
		hands = append(hands, handle(i+1))
	}
	wide := f(vars...)
	if got := Apply(l, wide); !term.Same(got, f(hands...)) {
		t.Error("Apply")
	}
	if got, is := Hands(vars, f(hands...)); !is || !term.Same(got, wide) {
		t.Error("Hands:", is)
	}
	if of := Of(l...); len(of) != n || !Same(of, l) || len(Only(l, names)) != n || len(Only(l, names[:9])) != 9 || len(With(l, "V0", wide)) != n+1 {
		t.Error("Of:", len(of))
	}
	if then := Then(l, l); !Same(then, l) {
		t.Error("Then:", len(then))
	}
}
