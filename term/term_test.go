package term

import (
	"math"
	"reflect"
	"slices"
	"strings"
	"testing"

	"picklock/api"
	"picklock/chars"
)

func named(name string) api.Term { return api.Term{Kind: api.KName, Name: name} }

func hand(n int) api.Term { return api.Term{Kind: api.KHand, N: n} }

func fresh(n int) api.Term { return api.Term{Kind: api.KFresh, N: n} }

// chain is f(f(.. f(leaf))), with that many f.
func chain(n int, leaf api.Term) api.Term {
	t := leaf
	for range n {
		t = Fun("f", t)
	}
	return t
}

// heads are terms without arguments: of each kind, of none, and with what a kind doesn't need.
func heads() []api.Term {
	return []api.Term{
		{}, Var("X"), Var(""), named("k"), hand(1), hand(-1), fresh(0), Fun("f"), Fun("g"),
		{Kind: -1, Name: "X", N: 3}, {Kind: 6}, {Kind: api.KVar, Name: "X", N: 1}, {Kind: api.KFun, Name: "f", N: -7},
		{Kind: math.MinInt, N: math.MaxInt}, {Kind: math.MaxInt, Name: "\xff", N: math.MinInt},
	}
}

// several are terms of all kinds: heads alone, over one of some, and over two of a few.
func several() []api.Term {
	l := heads()
	few := []api.Term{{}, Var("X"), Var("Y"), named("k"), Fun("f"), Fun("f", Var("X")), Fun("g", hand(1), Var("Z"))}
	for _, h := range heads() {
		for _, a := range few {
			h.Args = []api.Term{a}
			l = append(l, h)
			if h.Kind == api.KFun || h.Kind == api.KVar {
				h.Args = []api.Term{a, Var("X")}
				l = append(l, h)
				h.Args = []api.Term{few[4], a}
				l = append(l, h)
			}
		}
	}
	return l
}

// listed tells what All tells, as a list.
func listed(t api.Term) []api.Term {
	var l []api.Term
	for x := range All(t) {
		l = append(l, x)
	}
	return l
}

// byRule tells what All must tell, as P3.1 says it: t, then All of each of Args.
func byRule(t api.Term) []api.Term {
	l := []api.Term{t}
	for _, a := range t.Args {
		l = append(l, byRule(a)...)
	}
	return l
}

// alike holds two lists of terms against each other, by all fields.
func alike(a, b []api.Term) bool { return slices.EqualFunc(a, b, equal) }

// equal holds two terms against each other, by all fields, without Compare.
func equal(a, b api.Term) bool {
	return a.Kind == b.Kind && a.N == b.N && a.Name == b.Name && alike(a.Args, b.Args)
}

// deepCopy tells the same term, with lists of its own, behind whose lengths stands something else.
func deepCopy(t api.Term) api.Term {
	if len(t.Args) == 0 {
		return t
	}
	l := make([]api.Term, 0, len(t.Args)+1)
	for _, a := range t.Args {
		l = append(l, deepCopy(a))
	}
	t.Args = append(l, Var("Behind"))[:len(l)]
	return t
}

// P3.1: what Var and Fun make, and that nothing else is in it.
func TestMake(t *testing.T) {
	for _, s := range []string{"", "X", "x", "\xff\x00", strings.Repeat("X", 1000)} {
		if got := Var(s); !reflect.DeepEqual(got, api.Term{Kind: api.KVar, Name: s}) {
			t.Errorf("Var(%q) = %v", s, got)
		}
		for _, args := range [][]api.Term{nil, {}, {Var("X")}, {{}, hand(2), Fun("g", named("k"))}, make([]api.Term, 100)} {
			got := Fun(s, args...)
			if got.Kind != api.KFun || got.Name != s || got.N != 0 || !alike(got.Args, args) {
				t.Errorf("Fun(%q, %v) = %v", s, args, got)
			}
		}
	}
}

// P3.1, P2: the arguments of a function that is made are a list of its own.
func TestFunSharesNothing(t *testing.T) {
	behind := []api.Term{Var("X"), Var("Y"), Var("Z")}
	args := behind[:2]
	a, b := Fun("f", args...), Fun("f", args...)
	args[0] = named("changed")
	_ = append(a.Args, named("more"))
	if a.Args[1] = named("too"); !Same(b, Fun("f", Var("X"), Var("Y"))) || !Same(a.Args[0], Var("X")) {
		t.Error("what was made shares its list:", a, b)
	}
	if !alike(behind, []api.Term{named("changed"), Var("Y"), Var("Z")}) {
		t.Error("what was given is changed:", behind)
	}
}

// P3.1: Size and Depth of terms that are ordinary, and of such that are not.
func TestSizeDepth(t *testing.T) {
	k := named("k")
	for _, c := range []struct {
		t           api.Term
		size, depth int
	}{
		{api.Term{}, 1, 1}, {Var("X"), 1, 1}, {k, 1, 1}, {hand(9), 1, 1}, {fresh(0), 1, 1}, {Fun("c"), 1, 1},
		{api.Term{Kind: -5, N: 70, Name: "long"}, 1, 1},
		{Fun("f", k), 2, 2}, {Fun("f", k, k), 3, 2}, {Fun("f", k, k, k, k, k, k), 7, 2},
		{Fun("f", Fun("g", Fun("h", k)), k), 5, 4}, {Fun("f", k, Fun("g", Fun("h", k))), 5, 4},
		{Fun("f", Fun("g", k), Fun("g", k)), 5, 3},
		{api.Term{Args: []api.Term{k, k}}, 3, 2},
		{api.Term{Kind: api.KVar, Args: []api.Term{{Kind: api.KHand, Args: []api.Term{k}}}}, 3, 3},
		{chain(40, k), 41, 41},
	} {
		if Size(c.t) != c.size || Depth(c.t) != c.depth {
			t.Errorf("%s: Size %d, Depth %d; want %d, %d", Show(c.t), Size(c.t), Depth(c.t), c.size, c.depth)
		}
	}
	for _, x := range several() {
		if Size(x) != len(byRule(x)) {
			t.Errorf("Size(%v) = %d", x, Size(x))
		}
	}
}

// P3.1: All tells a term, then all in its arguments, from the left.
func TestAll(t *testing.T) {
	x, k := Var("X"), named("k")
	g := Fun("g", k, x)
	want := []api.Term{Fun("f", x, g, hand(2)), x, g, k, x, hand(2)}
	if got := listed(want[0]); !alike(got, want) {
		t.Errorf("All(%s) = %v", Show(want[0]), got)
	}
	for _, y := range several() {
		y = Fun("h", y, g, y)
		if got := listed(y); !alike(got, byRule(y)) {
			t.Errorf("All(%v) = %v", y, got)
		}
	}
}

// P3.1, P5: All may be left behind each term, and gone through again.
func TestAllLeft(t *testing.T) {
	f := Fun("f", Fun("g", Var("X"), named("k")), Fun("h", Fun("h", hand(1))), fresh(2))
	all, want := All(f), byRule(f)
	for n := range len(want) + 1 {
		var got []api.Term
		for x := range all {
			if len(got) == n {
				break
			}
			got = append(got, x)
		}
		if !alike(got, want[:n]) {
			t.Errorf("left behind %d: %v", n, got)
		}
	}
	n := 0
	for a := range all {
		for b := range all {
			if n++; Same(a, b) {
				break
			}
		}
	}
	if n != 1+2+3+4+5+6+7+8 {
		t.Error("one in another:", n)
	}
}

// ahead tells by P3.2's words how two terms stand: by Kind, N, Name, how many Args, then Args from the left.
func ahead(a, b api.Term) int {
	less := []bool{a.Kind < b.Kind, a.N < b.N, a.Name < b.Name, len(a.Args) < len(b.Args)}
	more := []bool{a.Kind > b.Kind, a.N > b.N, a.Name > b.Name, len(a.Args) > len(b.Args)}
	for i := range less {
		if less[i] {
			return -1
		}
		if more[i] {
			return 1
		}
	}
	for i := range a.Args {
		if c := ahead(a.Args[i], b.Args[i]); c != 0 {
			return c
		}
	}
	return 0
}

// P3.2: which of the fields comes first, with the others the other way round.
func TestCompareFields(t *testing.T) {
	k, x := named("k"), Var("X")
	for _, c := range [][2]api.Term{
		{{Kind: 1, N: 9, Name: "z", Args: []api.Term{k, k}}, {Kind: 2}},
		{{Kind: 4, N: -1, Name: "z", Args: []api.Term{k, k}}, {Kind: 4, N: 0}},
		{{Kind: 5, Name: "a", Args: []api.Term{k, k}}, {Kind: 5, Name: "b"}},
		{{Kind: 5, Name: "a", Args: []api.Term{k}}, {Kind: 5, Name: "a", Args: []api.Term{x, x}}},
		{Fun("f", x, k), Fun("f", k, x)},
		{Fun("f", x, x), Fun("f", x, k)},
		{Fun("f", Fun("a", x)), Fun("f", Fun("z"))},
		{Fun("a"), Fun("a", k)},
		{Fun("Z"), Fun("a")}, {Fun("ab"), Fun("b")}, {Fun("a"), Fun("ab")}, {Fun(""), Fun("\x00")}, {Fun("z"), Fun("é")}, {Fun("\x7f"), Fun("\x80")},
		{Var("X"), named("X")}, {named("X"), hand(1)}, {hand(9), fresh(0)}, {fresh(9), Fun("a")},
		{{Kind: math.MinInt}, {Kind: math.MaxInt}}, {{N: math.MinInt}, {N: math.MaxInt}}, {{Kind: -1}, {}}, {{}, Var("")},
	} {
		a, b := c[0], c[1]
		if Compare(a, b) != -1 || Compare(b, a) != 1 || Same(a, b) || Same(b, a) {
			t.Errorf("%v, %v: %d, %d", a, b, Compare(a, b), Compare(b, a))
		}
	}
}

// P3.2: all of several terms, each against each.
func TestCompareSeveral(t *testing.T) {
	l := several()
	for i, a := range l {
		for j, b := range l {
			if got, want := Compare(a, deepCopy(b)), ahead(a, b); got != want || Same(a, deepCopy(b)) != (want == 0) {
				t.Fatalf("Compare(%v, %v) = %d, Same %v; want %d", a, b, got, Same(a, b), want)
			}
			if (Compare(a, b) == 0) != (i == j) && !equal(a, b) {
				t.Fatalf("%v and %v are the same", a, b)
			}
		}
	}
}

// P3.2, P3: no list of arguments is one without any.
func TestSameEmpty(t *testing.T) {
	a, b := api.Term{Kind: api.KFun, Name: "c"}, api.Term{Kind: api.KFun, Name: "c", Args: []api.Term{}}
	if !Same(a, b) || Compare(a, b) != 0 || len(Set([]api.Term{a, b})) != 1 || !Has(a, b) || Show(a) != Show(b) {
		t.Error("nil and empty arguments differ")
	}
}

// P3.2: Sort and Set of each part of a list, and of it turned round.
func TestSortSet(t *testing.T) {
	k, x, f := named("k"), Var("X"), Fun("f", Var("X"))
	got := Sort([]api.Term{f, k, x, k, fresh(1), hand(2), hand(1), Fun("f"), x})
	if !alike(got, []api.Term{x, x, k, k, hand(1), hand(2), fresh(1), Fun("f"), f}) {
		t.Error("Sort:", got)
	}
	if got := Set(got); !alike(got, []api.Term{x, k, hand(1), hand(2), fresh(1), Fun("f"), f}) {
		t.Error("Set:", got)
	}
	l := several()
	for n := range l {
		part := slices.Concat(l[n:], l[n/2:])
		slices.Reverse(part)
		sorted, set := Sort(part), Set(part)
		if len(sorted) != len(part) || !slices.IsSortedFunc(sorted, ahead) {
			t.Fatal("Sort from", n)
		}
		for i, a := range set {
			if i > 0 && ahead(set[i-1], a) != -1 {
				t.Fatal("Set isn't rising from", n)
			}
		}
		for _, a := range part {
			same := func(b api.Term) bool { return equal(a, b) }
			if !slices.ContainsFunc(set, same) || count(sorted, a) != count(part, a) {
				t.Fatalf("from %d: %v is lost", n, a)
			}
		}
		for _, a := range set {
			if count(part, a) == 0 {
				t.Fatalf("from %d: %v is new", n, a)
			}
		}
	}
	for _, l := range [][]api.Term{nil, {}} {
		if len(Sort(l)) != 0 || len(Set(l)) != 0 {
			t.Error("of nothing:", Sort(l), Set(l))
		}
	}
}

// count tells how often a term is in a list.
func count(l []api.Term, t api.Term) int {
	n := 0
	for _, x := range l {
		if equal(x, t) {
			n++
		}
	}
	return n
}

// P2: Sort and Set leave their list as it is, and share it with nobody.
func TestSortSharesNothing(t *testing.T) {
	for _, call := range []func([]api.Term) []api.Term{Sort, Set} {
		for _, given := range [][]api.Term{{Var("X"), named("k"), hand(1)}, {hand(1), named("k"), hand(1)}, {Var("X")}} {
			behind := append(slices.Clone(given), fresh(4), fresh(3))
			l := behind[:len(given)]
			a, b := call(l), call(l)
			kept := slices.Clone(b)
			for i := range a {
				a[i] = Fun("changed")
			}
			_ = append(a, Fun("more"))
			if !alike(l, given) || !alike(behind[len(given):], []api.Term{fresh(4), fresh(3)}) || !alike(b, kept) {
				t.Error("shared:", given, behind, b)
			}
			for _, x := range b[len(b):cap(b)] {
				if Same(x, fresh(4)) || Same(x, fresh(3)) {
					t.Error("handed out what lies behind a list:", x)
				}
			}
		}
	}
}

// P3.2: Has and Proper of ordinary terms.
func TestHas(t *testing.T) {
	k, x := named("k"), Var("X")
	g := Fun("g", k)
	f := Fun("f", x, Fun("h", g, k), hand(2))
	for _, in := range []api.Term{x, Fun("h", g, k), g, k, hand(2)} {
		if !Has(f, in) || !Proper(f, in) {
			t.Errorf("%s is in %s", Show(in), Show(f))
		}
	}
	if !Has(f, f) || Proper(f, f) || !Has(x, x) || Proper(x, x) || !Has(api.Term{}, api.Term{}) || Proper(api.Term{}, api.Term{}) {
		t.Error("a term has itself, but not properly")
	}
	for _, out := range []api.Term{{}, Var("Y"), Var("k"), named("X"), hand(1), fresh(2), Fun("g", x), Fun("g"), Fun("g", k, k), Fun("h", k, g), Fun("f", f)} {
		if Has(f, out) || Proper(f, out) {
			t.Errorf("%s isn't in %s", Show(out), Show(f))
		}
	}
	if ff := Fun("f", Fun("f", x)); !Proper(ff, Fun("f", x)) || Has(Fun("f", x), ff) {
		t.Error("a term in one like it")
	}
}

// P3.2: Has and Proper of several terms, each with each.
func TestHasSeveral(t *testing.T) {
	l := several()
	for _, a := range l {
		for _, sub := range l {
			all := byRule(a)
			is := func(x api.Term) bool { return equal(x, sub) }
			if Has(a, sub) != slices.ContainsFunc(all, is) || Proper(a, sub) != slices.ContainsFunc(all[1:], is) {
				t.Fatalf("%v in %v: Has %v, Proper %v", sub, a, Has(a, sub), Proper(a, sub))
			}
		}
	}
}

// P3.3: the variables, each once, as they come.
func TestVars(t *testing.T) {
	x, y, z, k := Var("X"), Var("Y"), Var("Z"), named("k")
	odd := api.Term{Kind: api.KVar, Name: "Z", Args: []api.Term{x, {Kind: api.KName, Name: "Q", Args: []api.Term{y}}}}
	for _, c := range []struct {
		t    api.Term
		want []string
	}{
		{x, []string{"X"}}, {Var(""), []string{""}}, {k, nil}, {named("X"), nil}, {hand(1), nil}, {fresh(0), nil}, {Fun("X"), nil}, {api.Term{}, nil},
		{api.Term{Kind: 6, Name: "X"}, nil}, {api.Term{Kind: -1, Name: "X"}, nil},
		{Fun("f", k, Fun("g", hand(1), fresh(1))), nil},
		{Fun("f", x, x), []string{"X"}}, {Fun("f", y, x), []string{"Y", "X"}},
		{Fun("f", Fun("g", z, k), y, Fun("h", x, z), y), []string{"Z", "Y", "X"}},
		{odd, []string{"Z", "X", "Y"}}, {Fun("f", y, odd), []string{"Y", "Z", "X"}},
	} {
		if got := Vars(c.t); !slices.Equal(got, c.want) || Ground(c.t) != (len(c.want) == 0) {
			t.Errorf("Vars(%v) = %q, Ground %v; want %q", c.t, got, Ground(c.t), c.want)
		}
	}
	var args []api.Term
	var want []string
	for i := range 3000 {
		want = append(want, "V"+chars.Digits(2999-i))
		args = append(args, Var(want[i]), Var(want[i/2]))
	}
	if !slices.Equal(Vars(Fun("f", args...)), want) {
		t.Error("Vars of many")
	}
}

// P3.3: Vars and Ground of several terms; P2: no list is handed out twice.
func TestVarsSeveral(t *testing.T) {
	for _, x := range several() {
		var want []string
		for _, y := range byRule(x) {
			if y.Kind == api.KVar && !slices.Contains(want, y.Name) {
				want = append(want, y.Name)
			}
		}
		a, b := Vars(x), Vars(x)
		if !slices.Equal(a, want) || Ground(x) != (want == nil) {
			t.Errorf("Vars(%v) = %q, Ground %v", x, a, Ground(x))
		}
		for i := range a {
			a[i] = "changed"
		}
		if !slices.Equal(b, want) {
			t.Errorf("Vars(%v) is shared", x)
		}
	}
}

// P3.4, with the chapter's example.
func TestShow(t *testing.T) {
	x, k := Var("X"), named("k")
	for _, c := range []struct {
		t    api.Term
		want string
	}{
		{Fun("f", named("x"), k), "f(x, k)"},
		{x, "X"}, {k, "k"}, {Var(""), ""}, {named("\xff("), "\xff("}, {Fun("c"), "c"}, {Fun(""), ""},
		{hand(1), "$1"}, {hand(0), "$0"}, {hand(-7), "$-7"}, {hand(999999999), "$999999999"}, {hand(math.MinInt), "$" + chars.Digits(math.MinInt)},
		{fresh(0), "%0"}, {fresh(12), "%12"}, {fresh(-1), "%-1"}, {fresh(math.MaxInt), "%" + chars.Digits(math.MaxInt)},
		{api.Term{}, "?"}, {api.Term{Kind: 6, Name: "f", N: 3}, "?"}, {api.Term{Kind: -1, Name: "f", Args: []api.Term{k}}, "?"},
		{Fun("f", x), "f(X)"}, {Fun("f", x, k, hand(2), fresh(3), Fun("c"), api.Term{}), "f(X, k, $2, %3, c, ?)"},
		{Fun("f", Fun("g", Fun("h", k), x), Fun("g", k, k)), "f(g(h(k), X), g(k, k))"},
		{Fun("", Var(""), Fun("")), "(, )"},
		// what a kind doesn't need is not shown
		{api.Term{Kind: api.KVar, Name: "X", N: 4, Args: []api.Term{k}}, "X"}, {api.Term{Kind: api.KName, Name: "k", N: 4, Args: []api.Term{k}}, "k"},
		{api.Term{Kind: api.KHand, Name: "h", N: 4, Args: []api.Term{k}}, "$4"}, {api.Term{Kind: api.KFresh, Name: "h", N: 4, Args: []api.Term{k}}, "%4"},
		{api.Term{Kind: api.KFun, Name: "f", N: 4, Args: []api.Term{k}}, "f(k)"},
	} {
		if got := Show(c.t); got != c.want {
			t.Errorf("Show(%#v) = %q; want %q", c.t, got, c.want)
		}
	}
}

// P1: terms that lie in one another 2^16 deep, and lists that are long.
func TestDeep(t *testing.T) {
	const n = 1<<16 - 1
	deep, other := chain(n, Var("X")), chain(n, Var("Y"))
	if Size(deep) != n+1 || Depth(deep) != n+1 || Compare(deep, other) != -1 || !Same(deep, deep) || Compare(deep, deep.Args[0]) != 1 {
		t.Error("order of deep terms")
	}
	if !Has(deep, deep) || Proper(deep, deep) || !Proper(deep, deep.Args[0]) || !Has(deep, Var("X")) || Has(deep, other) || Has(deep.Args[0], deep) {
		t.Error("parts of deep terms")
	}
	if Ground(deep) || !slices.Equal(Vars(deep), []string{"X"}) || !Ground(chain(n, named("k"))) {
		t.Error("variables of deep terms")
	}
	if Show(deep) != strings.Repeat("f(", n)+"X"+strings.Repeat(")", n) {
		t.Error("a deep term shown")
	}
	wide := Fun("f", make([]api.Term, 1<<17)...)
	if Size(wide) != 1<<17+1 || Depth(wide) != 2 || Proper(wide, wide) || len(Set(wide.Args)) != 1 || len(Sort(wide.Args)) != 1<<17 {
		t.Error("a wide term")
	}
}

// P2: no call changes a term that it is given, nor reads what lies behind its lists.
func TestUnchanged(t *testing.T) {
	for _, x := range several() {
		x = Fun("f", x, Var("X"), x)
		given := deepCopy(x)
		Size(given)
		Depth(given)
		Compare(given, x)
		listed(given)
		Has(given, x)
		Proper(given, x)
		Set([]api.Term{given, x, given})
		if Has(given, Var("Behind")) || slices.Contains(Vars(given), "Behind") || strings.Contains(Show(given), "Behind") {
			t.Fatalf("%v: what lies behind a list is read", x)
		}
		if !equal(given, x) || !Same(given.Args[:len(given.Args)+1][len(given.Args)], Var("Behind")) {
			t.Fatalf("%v is changed", x)
		}
	}
}
