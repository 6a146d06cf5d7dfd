package rename

import (
	"math"
	"reflect"
	"slices"
	"strconv"
	"strings"
	"testing"

	"picklock/api"
	"picklock/match"
	"picklock/subst"
	"picklock/term"
)

func v(name string) api.Term { return term.Var(name) }

func f(args ...api.Term) api.Term { return term.Fun("f", args...) }

func g(args ...api.Term) api.Term { return term.Fun("g", args...) }

func private(name string) api.Term { return api.Term{Kind: api.KName, Name: name} }

func handle(n int) api.Term { return api.Term{Kind: api.KHand, N: n} }

func fresh(n int) api.Term { return api.Term{Kind: api.KFresh, N: n} }

// to is the bind of a name to a term.
func to(name string, t api.Term) api.Bind { return api.Bind{Name: name, T: t} }

// words are the words of a text, one behind each blank; of an empty text there are none.
func words(s string) []string {
	if s == "" {
		return nil
	}
	return strings.Split(s, " ")
}

// vs are variables of the names that a text has.
func vs(s string) []api.Term {
	var l []api.Term
	for _, name := range words(s) {
		l = append(l, v(name))
	}
	return l
}

// shown writes binds, in the order in which they stand.
func shown(l []api.Bind) string {
	var b strings.Builder
	for _, x := range l {
		b.WriteString(x.Name + ": " + term.Show(x.T) + "; ")
	}
	return strings.TrimSuffix(b.String(), "; ")
}

// written writes terms.
func written(l []api.Term) string {
	var texts []string
	for _, t := range l {
		texts = append(texts, term.Show(t))
	}
	return strings.Join(texts, "; ")
}

// exact tells whether two terms are the same in all fields, where a list without terms is none.
func exact(a, b api.Term) bool {
	return a.Kind == b.Kind && a.Name == b.Name && a.N == b.N && slices.EqualFunc(a.Args, b.Args, exact)
}

// as tells whether two lists of binds have the same binds in the same order.
func as(a, b []api.Bind) bool {
	return slices.EqualFunc(a, b, func(x, y api.Bind) bool { return x.Name == y.Name && exact(x.T, y.T) })
}

// small are all terms f of at most that many variables of those names, one of them in a term of its own.
func small(most int, names ...string) []api.Term {
	rows := [][]api.Term{nil}
	for n := 0; n < len(rows); n++ {
		if len(rows[n]) == most {
			break
		}
		for _, name := range names {
			rows = append(rows, append(slices.Clone(rows[n]), v(name)))
		}
	}
	var l []api.Term
	for _, row := range rows {
		l = append(l, f(row...))
		if len(row) > 1 {
			l = append(l, g(f(row[0], private("X")), f(row[1:]...)))
		}
	}
	return append(l, v("X"), v("X_1"), private("X"), term.Fun("c"), api.Term{})
}

// subsets are all lists of some of those names, in order.
func subsets(names ...string) [][]string {
	l := [][]string{nil}
	for _, name := range names {
		for _, s := range slices.Clone(l) {
			l = append(l, append(slices.Clone(s), name))
		}
	}
	return l
}

// kinds are all kinds of terms but variables, and numbers that are none.
func kinds() []int {
	return []int{api.KName, api.KHand, api.KFresh, api.KFun, 0, 6, -1, math.MaxInt, math.MinInt}
}

// freshByRule does what the document says of Fresh, word by word.
func freshByRule(name string, used []string) string {
	if !slices.Contains(used, name) {
		return name
	}
	for n := 1; ; n++ {
		if s := name + "_" + strconv.Itoa(n); !slices.Contains(used, s) {
			return s
		}
	}
}

// bindsByRule does what the document says of the binds of Apart, word by word.
func bindsByRule(own, used []string) []api.Bind {
	var l []api.Bind
	var taken []string
	for i, name := range own {
		other := freshByRule(name, slices.Concat(used, taken, own[i+1:]))
		l = append(l, to(name, v(other)))
		taken = append(taken, other)
	}
	return l
}

// P8.1: a name that is free, or the least number behind it that makes it so.
func TestFresh(t *testing.T) {
	for _, c := range []struct{ name, used, want string }{
		// the document's example
		{"X", "X X_1", "X_2"},
		{"X", "", "X"},
		{"X", "Y", "X"},
		{"X", "x XX X_1 _", "X"},
		{"X", "X", "X_1"},
		{"X", "X X", "X_1"},
		{"X", "X X_2", "X_1"},
		{"X", "X_1 X", "X_2"},
		{"X", "X_3 X_1 Y X_2 X X_5", "X_4"},
		{"X", "X X_0", "X_1"},
		{"X", "X X_01 X_1_1 X1 X_", "X_1"},
		{"X_1", "X_1", "X_1_1"},
		{"X_1", "X", "X_1"},
		{"X_1", "X_1 X_2 X_1_1", "X_1_2"},
		{"X_", "X_", "X__1"},
		{"X", "X X_1 X_2 X_3 X_4 X_5 X_6 X_7 X_8 X_9", "X_10"},
		{"X", "X X_1 X_2 X_3 X_4 X_5 X_6 X_7 X_8 X_9 X_10 X_12", "X_11"},
		// names that nobody may give
		{"f", "f", "f_1"},
		{"7", "7", "7_1"},
		{"a name with more than 20 bytes", "X", "a name with more than 20 bytes"},
	} {
		if got := Fresh(c.name, words(c.used)); got != c.want {
			t.Errorf("Fresh(%q, %s) = %q; want %q", c.name, c.used, got, c.want)
		}
	}
	if got := Fresh("", []string{""}); got != "_1" {
		t.Errorf("%q", got)
	}
	if got := Fresh("", []string{"X"}); got != "" {
		t.Errorf("%q", got)
	}
	if got := Fresh("\x00 é", []string{"", "\x00 é"}); got != "\x00 é_1" {
		t.Errorf("%q", got)
	}
}

// P8.1: all lists of a few names.
func TestFreshByRule(t *testing.T) {
	all := []string{"X", "X_1", "X_2", "X_3", "X_1_1", "X_1_2", "", "_1", "Y"}
	for _, used := range subsets(all...) {
		for _, name := range all {
			if got, want := Fresh(name, used), freshByRule(name, used); got != want {
				t.Fatalf("Fresh(%q, %q) = %q; want %q", name, used, got, want)
			}
		}
	}
}

// P8.1: terms with other variables, and the binds of that, in the order of the variables.
func TestApart(t *testing.T) {
	for _, c := range []struct {
		t           api.Term
		used        string
		want, binds string
	}{
		{v("X"), "", "X", "X: X"},
		{v("X"), "Y", "X", "X: X"},
		{v("X"), "X", "X_1", "X: X_1"},
		{v("X"), "X X_1", "X_2", "X: X_2"},
		{f(vs("X Y X")...), "X", "f(X_1, Y, X_1)", "X: X_1; Y: Y"},
		{f(vs("X Y X")...), "Y X Y", "f(X_1, Y_1, X_1)", "X: X_1; Y: Y_1"},
		{f(vs("Y X Y")...), "Y X Y", "f(Y_1, X_1, Y_1)", "Y: Y_1; X: X_1"},
		{f(vs("Z Y X")...), "", "f(Z, Y, X)", "Z: Z; Y: Y; X: X"},
		{f(v("Z"), g(v("Y"), f(v("X"), v("Z"))), v("A")), "Z X", "f(Z_1, g(Y, f(X_1, Z_1)), A)", "Z: Z_1; Y: Y; X: X_1; A: A"},
		// what is still to come isn't taken
		{f(vs("X Y X_1 X")...), "X", "f(X_2, Y, X_1, X_2)", "X: X_2; Y: Y; X_1: X_1"},
		{f(vs("X X_1 X_2")...), "X", "f(X_3, X_1, X_2)", "X: X_3; X_1: X_1; X_2: X_2"},
		{f(vs("X X_1")...), "X X_1", "f(X_2, X_1_1)", "X: X_2; X_1: X_1_1"},
		{f(vs("X X_1")...), "X_1", "f(X, X_1_1)", "X: X; X_1: X_1_1"},
		{f(vs("X X_1 X_2 X_3")...), "X X_2", "f(X_4, X_1, X_2_1, X_3)", "X: X_4; X_1: X_1; X_2: X_2_1; X_3: X_3"},
		// nor what was taken, or stays as it is
		{f(vs("X_1 X")...), "X", "f(X_1, X_2)", "X_1: X_1; X: X_2"},
		{f(vs("X_1 X")...), "X X_1", "f(X_1_1, X_2)", "X_1: X_1_1; X: X_2"},
		{f(vs("X_1 X X_1_1")...), "X X_1", "f(X_1_2, X_2, X_1_1)", "X_1: X_1_2; X: X_2; X_1_1: X_1_1"},
		{f(vs("X Y")...), "X Y X_1", "f(X_2, Y_1)", "X: X_2; Y: Y_1"},
		// without variables
		{term.Fun("X"), "X", "X", ""},
		{private("X"), "X", "X", ""},
		{f(private("X"), v("X"), term.Fun("X", v("X"))), "X", "f(X, X_1, X(X_1))", "X: X_1"},
		{f(handle(1), fresh(0), term.Fun("c")), "X", "f($1, %0, c)", ""},
		{api.Term{}, "X", "?", ""},
	} {
		u, l := Apart(c.t, words(c.used))
		if term.Show(u) != c.want || shown(l) != c.binds {
			t.Errorf("Apart(%s, %s) = %s, %s; want %s, %s", term.Show(c.t), c.used, term.Show(u), shown(l), c.want, c.binds)
		}
	}
	if u, l := Apart(f(v("")), []string{"", "_2"}); term.Show(u) != "f(_1)" || shown(l) != ": _1" {
		t.Error(term.Show(u), shown(l))
	}
}

// P8.1: all small terms with all lists of names that are used: what is told is what the document's words make, and it is a renaming.
func TestApartByRule(t *testing.T) {
	all := []string{"X", "X_1", "X_1_1", "X_2"}
	renamed := 0
	for _, used := range subsets(append(all, "Z")...) {
		for _, x := range small(4, all...) {
			u, l := Apart(x, used)
			want := bindsByRule(term.Vars(x), used)
			if !as(l, want) || !exact(u, subst.Apply(want, x)) {
				t.Fatalf("Apart(%s, %q) = %s, %s; want %s", term.Show(x), used, term.Show(u), shown(l), shown(want))
			}
			if !match.Variant(x, u) {
				t.Fatalf("Apart(%s, %q) = %s: that is no renaming", term.Show(x), used, term.Show(u))
			}
			for _, name := range term.Vars(u) {
				if slices.Contains(used, name) {
					t.Fatalf("Apart(%s, %q) = %s", term.Show(x), used, term.Show(u))
				}
			}
			if !exact(x, u) {
				renamed++
			}
		}
	}
	if renamed < 1000 {
		t.Error("too few to say much:", renamed)
	}
}

// P8.1: of the left side, then those that only the right one has, each once.
func TestVars(t *testing.T) {
	for _, c := range []struct {
		l, r api.Term
		want string
	}{
		{f(vs("X Y X")...), v("Y"), "X Y"},
		{f(vs("Y X")...), f(vs("X Z Y A Z")...), "Y X Z A"},
		{v("Y"), f(vs("X Y X_1 X")...), "Y X X_1"},
		{term.Fun("c"), g(v("B"), v("A")), "B A"},
		{v("X"), v("X"), "X"},
		{f(g(v("Z")), v("A")), term.Fun("c"), "Z A"},
		{f(private("X"), v("Y")), private("Z"), "Y"},
		{term.Fun("c"), private("k"), ""},
		{api.Term{}, api.Term{}, ""},
		{api.Term{Kind: 9, Args: vs("X")}, handle(1), "X"},
	} {
		got := Vars(api.Rule{L: c.l, R: c.r})
		if !slices.Equal(got, words(c.want)) {
			t.Errorf("Vars(%s = %s) = %q; want %s", term.Show(c.l), term.Show(c.r), got, c.want)
		}
	}
	if got := Vars(api.Rule{L: v(""), R: v("")}); !slices.Equal(got, []string{""}) {
		t.Errorf("%q", got)
	}
}

// P8.1: rules, both sides by one renaming.
func TestRule(t *testing.T) {
	for _, c := range []struct {
		l, r        api.Term
		used        string
		left, right string
	}{
		{g(vs("X Y")...), v("Y"), "Y", "g(X, Y_1)", "Y_1"},
		{g(vs("X Y")...), v("X"), "", "g(X, Y)", "X"},
		{g(vs("X Y")...), v("X"), "X Y", "g(X_1, Y_1)", "X_1"},
		{g(vs("X Y")...), f(vs("Y X Y")...), "X X_1 Y_1", "g(X_2, Y)", "f(Y, X_2, Y)"},
		// what only the right side has is renamed too, and is still to come for all that the left one has
		{f(v("X")), f(v("X_1")), "X", "f(X_2)", "f(X_1)"},
		{f(v("X")), g(v("Z"), v("X")), "Z X", "f(X_1)", "g(Z_1, X_1)"},
		{f(vs("X_1")...), f(vs("X X_1")...), "X", "f(X_1)", "f(X_2, X_1)"},
		{term.Fun("c"), v("X"), "X", "c", "X_1"},
		{v("X"), term.Fun("c"), "X", "X_1", "c"},
		{f(private("X")), term.Fun("X"), "X", "f(X)", "X"},
		{api.Term{}, api.Term{}, "X", "?", "?"},
	} {
		r := Rule(api.Rule{L: c.l, R: c.r}, words(c.used))
		if term.Show(r.L) != c.left || term.Show(r.R) != c.right {
			t.Errorf("Rule(%s = %s, %s) = %s = %s; want %s = %s", term.Show(c.l), term.Show(c.r), c.used, term.Show(r.L), term.Show(r.R), c.left, c.right)
		}
	}
}

// P8.1, P8.2: all rules of small terms: one renaming of both sides, by the document's words, and nothing that is used.
func TestRuleByRule(t *testing.T) {
	all := []string{"X", "X_1", "X_2"}
	terms := small(2, all...)
	for _, used := range subsets(append(all, "X_3", "Y")...) {
		for _, l := range terms {
			for _, r := range terms {
				rule := api.Rule{L: l, R: r}
				got, binds := Rule(rule, used), bindsByRule(Vars(rule), used)
				if !exact(got.L, subst.Apply(binds, l)) || !exact(got.R, subst.Apply(binds, r)) {
					t.Fatalf("Rule(%s = %s, %q) = %s = %s", term.Show(l), term.Show(r), used, term.Show(got.L), term.Show(got.R))
				}
				if !Same(rule, got) || slices.ContainsFunc(Vars(got), func(s string) bool { return slices.Contains(used, s) }) {
					t.Fatalf("Rule(%s = %s, %q) = %s = %s: not apart", term.Show(l), term.Show(r), used, term.Show(got.L), term.Show(got.R))
				}
			}
		}
	}
}

// P8.2: variables by numbers, as they come, of all terms together.
func TestCanon(t *testing.T) {
	for _, c := range []struct {
		l    []api.Term
		want string
	}{
		{nil, ""},
		{[]api.Term{}, ""},
		{vs("X"), "X0"},
		{vs("Y X Y"), "X0; X1; X0"},
		{[]api.Term{v("Y"), f(vs("X Y X_1 X")...)}, "X0; f(X1, X0, X2, X1)"},
		{[]api.Term{f(vs("X Y X_1 X")...), v("Y")}, "f(X0, X1, X2, X0); X1"},
		// names that are those of others
		{vs("X1 X0"), "X0; X1"},
		{vs("X1 X2 X0"), "X0; X1; X2"},
		{[]api.Term{g(vs("X2 X1")...), g(vs("X1 X2 X0")...)}, "g(X0, X1); g(X1, X0, X2)"},
		{vs("X0 X1 X2"), "X0; X1; X2"},
		{vs("A B C D E F G H I J K L A"), "X0; X1; X2; X3; X4; X5; X6; X7; X8; X9; X10; X11; X0"},
		{[]api.Term{f(g(v("B"), v("A")), v("B")), private("B"), f(v("C"), v("A"))}, "f(g(X0, X1), X0); B; f(X2, X1)"},
		// without variables nothing changes
		{[]api.Term{private("X"), term.Fun("X"), handle(1), fresh(2), {}, f(private("k"))}, "X; X; $1; %2; ?; f(k)"},
		{[]api.Term{v("")}, "X0"},
	} {
		if got := Canon(c.l); written(got) != c.want || len(got) != len(c.l) {
			t.Errorf("Canon(%s) = %s; want %s", written(c.l), written(got), c.want)
		}
	}
}

// P8.2: all pairs of small terms: what is told is a renaming, and alike just of those that are variants of one another.
func TestCanonPairs(t *testing.T) {
	terms := small(2, "X", "X0", "X1")
	var pairs [][]api.Term
	for _, a := range terms {
		for _, b := range small(1, "X", "X0", "X1") {
			pairs = append(pairs, []api.Term{a, b})
		}
	}
	var told [][]api.Term
	for _, p := range pairs {
		c := Canon(p)
		if !match.Variant(f(p...), f(c...)) || !slices.EqualFunc(Canon(c), c, exact) {
			t.Fatalf("Canon(%s) = %s", written(p), written(c))
		}
		for i, name := range term.Vars(f(c...)) {
			if name != "X"+strconv.Itoa(i) {
				t.Fatalf("Canon(%s) = %s", written(p), written(c))
			}
		}
		told = append(told, c)
	}
	alike := 0
	for i, p := range pairs {
		for j, q := range pairs {
			is := slices.EqualFunc(told[i], told[j], exact)
			if is != match.Variant(f(p...), f(q...)) {
				t.Fatalf("Canon(%s) = %s; Canon(%s) = %s", written(p), written(told[i]), written(q), written(told[j]))
			}
			if Same(api.Rule{L: p[0], R: p[1]}, api.Rule{L: q[0], R: q[1]}) != is {
				t.Fatalf("Same(%s; %s) isn't %v", written(p), written(q), is)
			}
			if is {
				alike++
			}
		}
	}
	if alike <= len(pairs) || alike == len(pairs)*len(pairs) {
		t.Error("too few to say much:", alike)
	}
}

// P8.2: rules that are the same but for the names of their variables.
func TestSame(t *testing.T) {
	x, y, z := v("X"), v("Y"), v("Z")
	rule := func(l, r api.Term) api.Rule { return api.Rule{L: l, R: r} }
	for _, c := range []struct {
		a, b api.Rule
		want bool
	}{
		{rule(g(x, y), x), rule(g(x, y), x), true},
		{rule(g(x, y), x), rule(g(y, x), y), true},
		{rule(g(x, y), x), rule(g(z, x), z), true},
		{rule(g(x, y), x), rule(g(x, y), y), false},
		{rule(g(x, y), x), rule(g(x, x), x), false},
		{rule(g(x, x), x), rule(g(y, y), y), true},
		// a variable on the right that the left one has not
		{rule(f(x), y), rule(f(y), x), true},
		{rule(f(x), y), rule(f(x), z), true},
		{rule(f(x), y), rule(f(x), x), false},
		// each side counts, and which is which
		{rule(f(x), x), rule(g(x), x), false},
		{rule(f(x), x), rule(f(x), f(x)), false},
		{rule(f(x), term.Fun("c")), rule(f(y), term.Fun("c")), true},
		{rule(f(x), term.Fun("c")), rule(f(y), term.Fun("d")), false},
		{rule(f(x), private("X")), rule(f(y), private("X")), true},
		{rule(f(x), private("X")), rule(f(y), private("Y")), false},
		{rule(f(x), private("X0")), rule(f(x), x), false},
		{rule(f(x), x), rule(x, f(x)), false},
		{rule(handle(1), fresh(1)), rule(handle(1), fresh(2)), false},
		{api.Rule{}, api.Rule{}, true},
		{api.Rule{}, rule(x, x), false},
		{rule(x, x), rule(y, y), true},
		{rule(x, x), rule(x, y), false},
	} {
		if Same(c.a, c.b) != c.want || Same(c.b, c.a) != c.want {
			t.Errorf("Same(%v, %v) isn't %v", c.a, c.b, c.want)
		}
	}
}

// P8.3: variables as private names, and private names as variables; all else stays as it is.
func TestHoldAndLoose(t *testing.T) {
	for _, c := range []struct{ t, held, loose api.Term }{
		{v("X"), private("X"), v("X")},
		{private("k"), private("k"), v("k")},
		{v(""), private(""), v("")},
		{private(""), private(""), v("")},
		{f(v("X"), private("k"), v("X")), f(private("X"), private("k"), private("X")), f(v("X"), v("k"), v("X"))},
		{f(v("X"), private("X")), f(private("X"), private("X")), f(v("X"), v("X"))},
		{f(g(v("Y"), f(v("X"))), private("k")), f(g(private("Y"), f(private("X"))), private("k")), f(g(v("Y"), f(v("X"))), v("k"))},
		{term.Fun("X"), term.Fun("X"), term.Fun("X")},
		{term.Fun("X", v("X")), term.Fun("X", private("X")), term.Fun("X", v("X"))},
		{f(handle(1), fresh(0), term.Fun("c")), f(handle(1), fresh(0), term.Fun("c")), f(handle(1), fresh(0), term.Fun("c"))},
		{api.Term{}, api.Term{}, api.Term{}},
	} {
		if got := Hold(c.t); !exact(got, c.held) {
			t.Errorf("Hold(%v) = %v", c.t, got)
		}
		if got := Loose(c.t); !exact(got, c.loose) {
			t.Errorf("Loose(%v) = %v", c.t, got)
		}
	}
}

// P8.3: all small terms: what is held has no variables, what is loose no private names; and there and back.
func TestHoldAndLooseSmall(t *testing.T) {
	named := func(x api.Term) bool {
		for y := range term.All(x) {
			if y.Kind == api.KName {
				return true
			}
		}
		return false
	}
	for _, x := range small(3, "X", "Y", "X_1") {
		h, l := Hold(x), Loose(x)
		if !term.Ground(h) || named(l) || term.Show(h) != term.Show(x) || term.Show(l) != term.Show(x) {
			t.Errorf("of %v: Hold %v, Loose %v", x, h, l)
		}
		if !exact(Loose(h), l) || !exact(Hold(l), h) || !exact(Hold(h), h) || !exact(Loose(l), l) {
			t.Errorf("of %v: not there and back", x)
		}
	}
}

// P8.1 to P8.3: arguments are gone through, whatever they lie in, and the other fields stay as they are.
func TestKinds(t *testing.T) {
	for _, kind := range kinds() {
		with := func(args ...api.Term) api.Term { return api.Term{Kind: kind, Name: "X", N: -5, Args: args} }
		x := with(v("X"), f(v("X"), v("Y")))
		if u, l := Apart(x, []string{"X"}); !exact(u, with(v("X_1"), f(v("X_1"), v("Y")))) || shown(l) != "X: X_1; Y: Y" {
			t.Errorf("Apart(%v) = %v, %s", x, u, shown(l))
		}
		if r := Rule(api.Rule{L: x, R: with()}, []string{"Y"}); !exact(r.L, with(v("X"), f(v("X"), v("Y_1")))) || !exact(r.R, with()) {
			t.Errorf("Rule of %v = %v", x, r)
		}
		if l := Canon([]api.Term{v("Z"), x}); len(l) != 2 || !exact(l[1], with(v("X1"), f(v("X1"), v("X2")))) {
			t.Errorf("Canon of %v = %v", x, l)
		}
		if !slices.Equal(Vars(api.Rule{L: with(), R: x}), []string{"X", "Y"}) {
			t.Errorf("Vars of %v", x)
		}
		if kind == api.KName {
			continue
		}
		if got := Hold(x); !exact(got, with(private("X"), f(private("X"), private("Y")))) || !exact(Loose(got), x) {
			t.Errorf("Hold(%v) = %v", x, got)
		}
	}
}

// P6: a variable, or a private name, with a number or with arguments is taken whole: what its kind doesn't need is zero in the answer.
func TestStrange(t *testing.T) {
	numbered, with := api.Term{Kind: api.KVar, Name: "X", N: 3}, api.Term{Kind: api.KVar, Name: "X", Args: vs("Y X")}
	for _, x := range []api.Term{numbered, with} {
		if u, l := Apart(f(x, v("Z")), []string{"X"}); !exact(u, f(v("X_1"), v("Z"))) || !exact(u, subst.Apply(l, f(x, v("Z")))) {
			t.Errorf("Apart of %v = %v", x, u)
		}
		if got := Canon([]api.Term{v("Z"), x}); len(got) != 2 || !exact(got[1], v("X1")) {
			t.Errorf("Canon of %v = %v", x, got)
		}
		if r := Rule(api.Rule{L: v("X"), R: x}, []string{"X"}); !exact(r.R, v("X_1")) {
			t.Errorf("Rule of %v = %v", x, r)
		}
		if got := Hold(f(x)); !exact(got, f(private("X"))) {
			t.Errorf("Hold of %v = %v", x, got)
		}
		x.Kind = api.KName
		if got := Loose(f(x)); !exact(got, f(v("X"))) {
			t.Errorf("Loose of %v = %v", x, got)
		}
	}
	if _, l := Apart(with, nil); shown(l) != "X: X; Y: Y" {
		t.Error(shown(l))
	}
}

// P3: lists without anything are none, in arguments and answers.
func TestNone(t *testing.T) {
	if got := Fresh("X", []string{}); got != "X" {
		t.Error(got)
	}
	for _, used := range [][]string{nil, {}} {
		u, l := Apart(api.Term{Kind: api.KFun, Name: "c", Args: []api.Term{}}, used)
		if !exact(u, term.Fun("c")) || len(l) != 0 {
			t.Error(u, l)
		}
		if r := Rule(api.Rule{}, used); !exact(r.L, api.Term{}) || !exact(r.R, api.Term{}) {
			t.Error(r)
		}
	}
	if !Same(api.Rule{L: term.Fun("c")}, api.Rule{L: api.Term{Kind: api.KFun, Name: "c", Args: []api.Term{}}}) {
		t.Error("a nil list and an empty one differ")
	}
	if len(Canon(nil)) != 0 || len(Canon([]api.Term{})) != 0 || len(Vars(api.Rule{})) != 0 {
		t.Error("something of nothing")
	}
}

// roomy tells a list with room behind its length, where something else stands.
func roomy[E any](l []E, behind E) []E { return append(slices.Clone(l), behind)[:len(l)] }

// P2: no call changes what it is given, nor reads or tells what lies behind its lists.
func TestUnchanged(t *testing.T) {
	used := roomy([]string{"X", "Z"}, "Y")
	x := api.Term{Kind: api.KFun, Name: "f", Args: roomy([]api.Term{v("X"), private("k"), v("Y")}, v("Behind"))}
	l := roomy([]api.Term{x, v("Z")}, v("Behind"))
	for range 2 {
		if Fresh("Y", used) != "Y" {
			t.Error("what lies behind a list is used")
		}
		if u, b := Apart(x, used); term.Show(u) != "f(X_1, k, Y)" || shown(b) != "X: X_1; Y: Y" {
			t.Error(term.Show(u), shown(b))
		}
		if r := Rule(api.Rule{L: x, R: l[1]}, used); term.Show(r.L) != "f(X_1, k, Y)" || term.Show(r.R) != "Z_1" {
			t.Error(r)
		}
		if got := written(Canon(l)); got != "f(X0, k, X1); X2" {
			t.Error(got)
		}
		if got := Vars(api.Rule{L: x, R: x}); !slices.Equal(got, []string{"X", "Y"}) {
			t.Error(got)
		}
		if !exact(Hold(x), f(private("X"), private("k"), private("Y"))) || !exact(Loose(x), f(v("X"), v("k"), v("Y"))) {
			t.Error("Hold, Loose:", Hold(x), Loose(x))
		}
	}
	if !slices.Equal(used[:3], []string{"X", "Z", "Y"}) || written(l[:3]) != "f(X, k, Y); Z; Behind" || written(x.Args[:4]) != "X; k; Y; Behind" {
		t.Error("what is given is changed:", used[:3], l[:3], x.Args[:4])
	}
}

// P2: what is done to an answer is done to nothing else.
func TestNewLists(t *testing.T) {
	x := f(v("X"), private("k"))
	l := []api.Term{x, term.Fun("c")}
	for _, call := range []func() []api.Term{
		func() []api.Term { return Canon(l) },
		func() []api.Term { return Canon(l[1:]) },
		func() []api.Term { u, _ := Apart(x, []string{"X"}); return u.Args },
		func() []api.Term { return Rule(api.Rule{L: x}, []string{"X"}).L.Args },
		func() []api.Term { return Hold(x).Args },
		func() []api.Term { return Loose(x).Args },
		func() []api.Term {
			_, b := Apart(x, nil)
			return []api.Term{b[0].T}
		},
	} {
		a, b := call(), call()
		want := written(b)
		for i := range a {
			a[i] = private("changed")
		}
		_ = append(a, private("more"))
		if written(b) != want || written(l) != "f(X, k); c" {
			t.Error("shared:", written(b), written(l))
		}
	}
	a, b := Vars(api.Rule{L: x}), Vars(api.Rule{L: x})
	a[0] = "changed"
	_, c := Apart(x, nil)
	_, d := Apart(x, nil)
	c[0].Name = "changed"
	if b[0] != "X" || d[0].Name != "X" {
		t.Error("shared:", b, d)
	}
}

// chain is f(f(.. f(leaf))), with that many f.
func chain(n int, leaf api.Term) api.Term {
	for range n {
		leaf = f(leaf)
	}
	return leaf
}

// P1: terms that lie in one another 2^16 deep.
func TestDeep(t *testing.T) {
	const n = 1<<16 - 1
	x := chain(n, v("X"))
	if u, l := Apart(x, []string{"X"}); !exact(u, chain(n, v("X_1"))) || shown(l) != "X: X_1" {
		t.Error("Apart", shown(l))
	}
	if r := Rule(api.Rule{L: x, R: x}, []string{"X"}); !exact(r.L, r.R) || !exact(r.R, chain(n, v("X_1"))) {
		t.Error("Rule")
	}
	if l := Canon([]api.Term{x, v("Y"), x}); len(l) != 3 || !exact(l[2], chain(n, v("X0"))) || l[1].Name != "X1" {
		t.Error("Canon")
	}
	if !Same(api.Rule{L: x, R: v("X")}, api.Rule{L: chain(n, v("Y")), R: v("Y")}) || Same(api.Rule{L: x, R: v("X")}, api.Rule{L: x, R: v("Y")}) {
		t.Error("Same")
	}
	if !exact(Hold(x), chain(n, private("X"))) || !exact(Loose(chain(n, private("X"))), x) {
		t.Error("Hold, Loose")
	}
}

// P1: long lists of names that are used, and terms with many variables.
func TestLong(t *testing.T) {
	const n = 1 << 16
	used := []string{"X"}
	var own, numbered []api.Term
	for i := 1; i <= n; i++ {
		used = append(used, "X_"+strconv.Itoa(i))
		own = append(own, v("V"+strconv.Itoa(i)))
		numbered = append(numbered, v("X"+strconv.Itoa(i-1)))
	}
	if got := Fresh("X", used); got != "X_"+strconv.Itoa(n+1) {
		t.Error(got)
	}
	if got := Fresh("X", slices.Delete(slices.Clone(used), n/2, n/2+1)); got != "X_"+strconv.Itoa(n/2) {
		t.Error(got)
	}
	if u, l := Apart(f(own...), term.Vars(f(own...))); len(l) != n || len(u.Args) != n || u.Args[n-1].Name != own[n-1].Name+"_1" {
		t.Error("Apart:", len(l))
	}
	// All that X may be is used, or still to come.
	u, l := Apart(f(append(vs("X"), vs(strings.Join(used[1:], " "))...)...), used[:1])
	if len(l) != n+1 || u.Args[0].Name != "X_"+strconv.Itoa(n+1) || u.Args[n].Name != used[n] {
		t.Error("Apart of what is to come:", len(l), u.Args[0])
	}
	if got := Canon(own); !slices.EqualFunc(got, numbered, exact) {
		t.Error("Canon:", len(got))
	}
	if !Same(api.Rule{L: f(own...), R: f(own...)}, api.Rule{L: f(numbered...), R: f(numbered...)}) || len(Vars(api.Rule{L: f(own...), R: f(numbered...)})) != 2*n {
		t.Error("Same, Vars")
	}
	if got := Hold(f(own...)); !term.Ground(got) || !reflect.DeepEqual(Loose(got), f(own...)) {
		t.Error("Hold, Loose")
	}
}
