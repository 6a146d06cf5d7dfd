package place

import (
	"math"
	"slices"
	"testing"

	"picklock/api"
	"picklock/term"
)

func named(name string) api.Term { return api.Term{Kind: api.KName, Name: name} }

func hand(n int) api.Term { return api.Term{Kind: api.KHand, N: n} }

// chain is f(f(.. f(leaf))), with that many f.
func chain(n int, leaf api.Term) api.Term {
	t := leaf
	for range n {
		t = term.Fun("f", t)
	}
	return t
}

// several are terms of all kinds, alone and in one another, also with arguments where a kind needs none.
func several() []api.Term {
	l := []api.Term{{}, term.Var("X"), named("k"), hand(1), {Kind: api.KFresh}, term.Fun("c"), {Kind: -1, N: 3}, {Kind: math.MaxInt, Name: "\xff"}}
	for _, a := range slices.Clone(l) {
		l = append(l, term.Fun("f", a), term.Fun("g", a, term.Fun("f", a)), term.Fun("h", term.Fun("g", term.Var("X"), a), a, term.Fun("c")))
	}
	for _, kind := range []int{0, api.KVar, api.KName, api.KHand, api.KFresh, 6, -1} {
		l = append(l, api.Term{Kind: kind, Name: "o", Args: []api.Term{named("k"), term.Fun("f", named("k"))}})
	}
	for _, a := range slices.Clone(l[len(l)-9:]) {
		l = append(l, term.Fun("g", term.Fun("f", a), a), api.Term{Kind: api.KName, Args: []api.Term{a, a, term.Fun("c")}})
	}
	return l
}

// rows are all rows of the numbers from -1 to 2, up to that length.
func rows(length int) [][]int {
	l := [][]int{nil}
	for n := 0; len(l[n]) < length; n++ {
		for i := -1; i <= 2; i++ {
			l = append(l, append(slices.Clone(l[n]), i))
		}
	}
	return l
}

// byRule tells by the words of P4.1 which places there are: the root, then those in each argument, in their order.
func byRule(t api.Term) [][]int {
	l := [][]int{{}}
	for i, a := range t.Args {
		for _, p := range byRule(a) {
			l = append(l, append([]int{i}, p...))
		}
	}
	return l
}

// parts tells what term.All tells, as a list: what stands at the places, one after the other.
func parts(t api.Term) []api.Term { return slices.Collect(term.All(t)) }

// rowsAlike holds two lists of places against each other.
func rowsAlike(a, b [][]int) bool { return slices.EqualFunc(a, b, slices.Equal[[]int]) }

// equal holds two terms against each other, by all fields.
func equal(a, b api.Term) bool {
	return a.Kind == b.Kind && a.N == b.N && a.Name == b.Name && slices.EqualFunc(a.Args, b.Args, equal)
}

// deepCopy tells the same term, with lists of its own, behind whose lengths stands something else.
func deepCopy(t api.Term) api.Term {
	if len(t.Args) == 0 {
		return t
	}
	l := make([]api.Term, 0, len(t.Args)+1)
	for _, a := range t.Args {
		l = append(l, deepCopy(a))
	}
	t.Args = append(l, term.Var("Behind"))[:len(l)]
	return t
}

// untouched tells whether what stands behind the lists of a deepCopy is as it was.
func untouched(t api.Term) bool {
	n := len(t.Args)
	return n == 0 || equal(t.Args[:n+1][n], term.Var("Behind")) && !slices.ContainsFunc(t.Args, func(a api.Term) bool { return !untouched(a) })
}

// zero tells whether a term is the zero value.
func zero(t api.Term) bool { return t.Kind == 0 && t.N == 0 && t.Name == "" && t.Args == nil }

// P4.1, with the chapter's example: what stands at a place.
func TestAt(t *testing.T) {
	x, k := term.Var("X"), named("k")
	g := term.Fun("g", x, k)
	f := term.Fun("f", g, k, hand(2))
	for _, c := range []struct {
		t    api.Term
		p    []int
		want api.Term
	}{
		{term.Fun("f", named("x"), k), []int{1}, k},
		{f, nil, f}, {f, []int{}, f}, {f, []int{0}, g}, {f, []int{1}, k}, {f, []int{2}, hand(2)}, {f, []int{0, 0}, x}, {f, []int{0, 1}, k},
		{api.Term{}, nil, api.Term{}}, {x, nil, x}, {api.Term{Kind: api.KVar, Args: []api.Term{k}}, []int{0}, k},
	} {
		if got, is := At(c.t, c.p); !is || !equal(got, c.want) {
			t.Errorf("At(%s, %v) = %v, %v", term.Show(c.t), c.p, got, is)
		}
	}
	for _, p := range [][]int{{3}, {-1}, {math.MinInt}, {math.MaxInt}, {0, 2}, {0, -1}, {1, 0}, {0, 0, 0}, {-1, 0}, {3, 0}, make([]int, 100)} {
		if got, is := At(f, p); is || !zero(got) {
			t.Errorf("At(%s, %v) = %v, %v", term.Show(f), p, got, is)
		}
	}
	if got, is := At(api.Term{}, []int{0}); is || !zero(got) {
		t.Error("a place in nothing:", got)
	}
}

// P4.1: a term with another one at a place.
func TestPut(t *testing.T) {
	x, k := term.Var("X"), named("k")
	f := term.Fun("f", term.Fun("g", x, k), k)
	for _, c := range []struct {
		p    []int
		x    api.Term
		want string
	}{
		{nil, k, "k"}, {[]int{}, api.Term{}, "?"}, {[]int{0}, k, "f(k, k)"}, {[]int{1}, x, "f(g(X, k), X)"}, {[]int{0, 0}, k, "f(g(k, k), k)"},
		{[]int{0, 1}, f, "f(g(X, f(g(X, k), k)), k)"}, {[]int{1}, api.Term{}, "f(g(X, k), ?)"},
	} {
		if got, is := Put(f, c.p, c.x); !is || term.Show(got) != c.want {
			t.Errorf("Put at %v = %v, %v; want %s", c.p, got, is, c.want)
		}
	}
	for _, p := range [][]int{{2}, {-1}, {math.MinInt}, {math.MaxInt}, {0, 2}, {0, -1}, {1, 0}, {0, 0, 0}, {2, 0}, make([]int, 100)} {
		if got, is := Put(f, p, k); is || !zero(got) {
			t.Errorf("Put at %v = %v, %v", p, got, is)
		}
	}
	odd := api.Term{Kind: api.KHand, N: 7, Name: "o", Args: []api.Term{x, k}}
	if got, is := Put(odd, []int{1}, x); !is || !equal(got, api.Term{Kind: api.KHand, N: 7, Name: "o", Args: []api.Term{x, x}}) {
		t.Error("the other fields are lost:", got)
	}
}

// P4.1: which places there are, and which of them are of functions.
func TestAll(t *testing.T) {
	k := named("k")
	f := term.Fun("f", term.Fun("g", term.Var("X"), k), k, term.Fun("h", term.Fun("c")))
	if got := All(f); !rowsAlike(got, [][]int{{}, {0}, {0, 0}, {0, 1}, {1}, {2}, {2, 0}}) {
		t.Error("All:", got)
	}
	if got := Inner(f); !rowsAlike(got, [][]int{{}, {0}, {2}, {2, 0}}) {
		t.Error("Inner:", got)
	}
	for _, x := range []api.Term{{}, term.Var("X"), k, hand(1), {Kind: api.KFresh}, {Kind: 6}, {Kind: -1}} {
		if got := All(x); !rowsAlike(got, [][]int{nil}) || len(Inner(x)) != 0 {
			t.Errorf("%v: All %v, Inner %v", x, got, Inner(x))
		}
	}
	if got := Inner(api.Term{Kind: api.KName, Args: []api.Term{f.Args[2], {Kind: api.KVar, Args: []api.Term{term.Fun("c")}}}}); !rowsAlike(got, [][]int{{0}, {0, 0}, {1, 0}}) {
		t.Error("Inner below others:", got)
	}
}

// P4.1: all of several terms: the places in the order of term.All, and nothing at any other row.
func TestAllSeveral(t *testing.T) {
	all := rows(4)
	for _, x := range several() {
		places, stand := All(x), parts(x)
		if !rowsAlike(places, byRule(x)) || len(places) != len(stand) {
			t.Fatalf("All(%v) = %v", x, places)
		}
		var inner [][]int
		for n, p := range places {
			if got, is := At(x, p); !is || !equal(got, stand[n]) {
				t.Fatalf("At(%v, %v) = %v, %v", x, p, got, is)
			}
			if stand[n].Kind == api.KFun {
				inner = append(inner, p)
			}
		}
		if got := Inner(x); !rowsAlike(got, inner) {
			t.Fatalf("Inner(%v) = %v", x, got)
		}
		for _, p := range all {
			want := slices.ContainsFunc(places, func(q []int) bool { return slices.Equal(p, q) })
			got, is := At(x, p)
			put, too := Put(x, p, hand(9))
			if is != want || too != want || !is && (!zero(got) || !zero(put)) {
				t.Fatalf("%v at %v: At %v, %v, Put %v, %v", x, p, got, is, put, too)
			}
		}
	}
}

// P2: no two places of All or Inner share their numbers, and none is handed out twice.
func TestAllSharesNothing(t *testing.T) {
	x := term.Fun("g", term.Fun("f", term.Fun("f", term.Fun("c"))), term.Fun("f", term.Fun("g", term.Fun("c"), term.Fun("c"))))
	for _, call := range []func(api.Term) [][]int{All, Inner} {
		a, b := call(x), call(x)
		for n := range a {
			others := slices.Concat(a[n+1:], b)
			kept := make([][]int, len(others))
			for i, p := range others {
				kept[i] = slices.Clone(p)
			}
			for i := range a[n] {
				a[n][i] = -7
			}
			_ = append(a[n], -8, -9)
			if !rowsAlike(others, kept) {
				t.Fatalf("place %d is shared: %v", n, others)
			}
		}
		_ = append(a, []int{5})
		a[0] = []int{6}
		if !rowsAlike(b, byRule(x)) {
			t.Fatal("a list is handed out twice:", b)
		}
	}
}

// begins tells by the words of P4.2 whether q begins with p.
func begins(p, q []int) bool {
	for n := range p {
		if n >= len(q) || p[n] != q[n] {
			return false
		}
	}
	return true
}

// ahead tells by the words of P4.2 how two places stand: number by number, then the shorter first.
func ahead(p, q []int) int {
	for n := range min(len(p), len(q)) {
		if p[n] < q[n] {
			return -1
		}
		if p[n] > q[n] {
			return 1
		}
	}
	switch {
	case len(p) < len(q):
		return -1
	case len(p) > len(q):
		return 1
	}
	return 0
}

// P4.2: Below, Apart and Compare of places that are named.
func TestOrder(t *testing.T) {
	for _, c := range []struct {
		p, q         []int
		below, apart bool
		order        int
	}{
		{nil, nil, true, false, 0}, {nil, []int{}, true, false, 0}, {[]int{}, nil, true, false, 0}, {nil, []int{0}, true, false, -1},
		{[]int{0}, nil, false, false, 1}, {[]int{1}, []int{1}, true, false, 0}, {[]int{1}, []int{1, 0}, true, false, -1},
		{[]int{1, 0}, []int{1}, false, false, 1}, {[]int{0, 5}, []int{1}, false, true, -1}, {[]int{1}, []int{0, 5}, false, true, 1},
		{[]int{2}, []int{10}, false, true, -1}, {[]int{0, 1, 2}, []int{0, 1, 3}, false, true, -1}, {[]int{0, 1, 2}, []int{0, 1, 2, 0}, true, false, -1},
		{[]int{-1}, []int{0}, false, true, -1}, {[]int{-1}, []int{-1, -1}, true, false, -1}, {[]int{-1}, nil, false, false, 1},
		{[]int{math.MinInt}, []int{math.MaxInt}, false, true, -1}, {[]int{math.MaxInt}, []int{math.MinInt, 0}, false, true, 1},
	} {
		if Below(c.p, c.q) != c.below || Apart(c.p, c.q) != c.apart || Compare(c.p, c.q) != c.order {
			t.Errorf("%v, %v: Below %v, Apart %v, Compare %d", c.p, c.q, Below(c.p, c.q), Apart(c.p, c.q), Compare(c.p, c.q))
		}
	}
}

// P4.2: all rows of a few numbers, each with each.
func TestOrderSeveral(t *testing.T) {
	l := rows(4)
	for _, p := range l {
		for _, q := range l {
			if Below(p, q) != begins(p, q) || Apart(p, q) != (!begins(p, q) && !begins(q, p)) || Compare(p, q) != ahead(p, q) {
				t.Fatalf("%v, %v: Below %v, Apart %v, Compare %d", p, q, Below(p, q), Apart(p, q), Compare(p, q))
			}
		}
	}
}

// P4.2: the first place of a term.
func TestFind(t *testing.T) {
	x, k, c := term.Var("X"), named("k"), term.Fun("c")
	g := term.Fun("g", x, k)
	f := term.Fun("f", term.Fun("h", g), g, k, term.Fun("g", x, term.Fun("g", x, k)), c)
	for _, s := range []struct {
		t, sub api.Term
		want   []int
	}{
		{f, f, nil}, {f, g, []int{0, 0}}, {f, x, []int{0, 0, 0}}, {f, k, []int{0, 0, 1}}, {f, c, []int{4}}, {f, f.Args[0], []int{0}}, {f, f.Args[3], []int{3}},
		{term.Fun("f", k, g), k, []int{0}}, {term.Fun("f", c, g, g), g, []int{1}}, {term.Fun("f", x, k, k), k, []int{1}}, {k, k, nil}, {api.Term{}, api.Term{}, nil},
		{term.Fun("f", term.Fun("f", term.Fun("f", k))), term.Fun("f", k), []int{0, 0}},
		{api.Term{Kind: api.KName, Name: "o", Args: []api.Term{x, k}}, k, []int{1}}, {term.Fun("f", api.Term{}), api.Term{}, []int{0}},
	} {
		if got, is := Find(s.t, s.sub); !is || !slices.Equal(got, s.want) {
			t.Errorf("Find(%s, %s) = %v, %v", term.Show(s.t), term.Show(s.sub), got, is)
		}
	}
	for _, out := range []api.Term{{}, term.Var("Y"), term.Var("k"), named("X"), hand(1), term.Fun("k"), term.Fun("g"), term.Fun("g", k, x), term.Fun("f", f), {Kind: api.KName, Name: "k", N: 1}} {
		if got, is := Find(f, out); is || got != nil {
			t.Errorf("Find(%s, %v) = %v, %v", term.Show(f), out, got, is)
		}
	}
}

// P4.2: several terms, each in each; P2: a place that is found is told anew.
func TestFindSeveral(t *testing.T) {
	l := several()
	for _, x := range l {
		stand := parts(x)
		for _, sub := range l {
			n := slices.IndexFunc(stand, func(y api.Term) bool { return term.Same(y, sub) })
			a, is := Find(x, sub)
			b, _ := Find(x, sub)
			if is != (n >= 0) || !is && a != nil || is && !slices.Equal(a, byRule(x)[n]) {
				t.Fatalf("Find(%v, %v) = %v, %v", x, sub, a, is)
			}
			kept := slices.Clone(b)
			for i := range a {
				a[i] = -7
			}
			if !slices.Equal(b, kept) {
				t.Fatal("a place is shared:", b)
			}
		}
	}
}

// P4.3: At of Put is x; Put of what stands there is the term.
func TestPutAt(t *testing.T) {
	l := several()
	for _, x := range l {
		for _, p := range All(x) {
			for _, y := range l {
				put, is := Put(x, p, y)
				got, there := At(put, p)
				if !is || !there || !equal(got, y) {
					t.Fatalf("At of Put(%v, %v, %v) = %v", x, p, y, got)
				}
			}
			stands, _ := At(x, p)
			if put, is := Put(x, p, stands); !is || !equal(put, x) {
				t.Fatalf("Put(%v, %v) of what stands there: %v", x, p, put)
			}
		}
	}
}

// P4.3: what is put at places that are Apart stands, whichever was first; so does what no place is below.
func TestPutApart(t *testing.T) {
	u, v := term.Fun("u", term.Var("U")), api.Term{}
	for _, x := range several() {
		for _, p := range All(x) {
			for _, q := range All(x) {
				if !Apart(p, q) {
					continue
				}
				before, _ := At(x, q)
				first, _ := Put(x, p, u)
				if stays, is := At(first, q); !is || !equal(stays, before) {
					t.Fatalf("%v: Put at %v changes %v", x, p, q)
				}
				both, is := Put(first, q, v)
				second, _ := Put(x, q, v)
				turned, too := Put(second, p, u)
				if !is || !too || !equal(both, turned) {
					t.Fatalf("%v: Put at %v and %v: %v and %v", x, p, q, both, turned)
				}
				gotU, _ := At(both, p)
				gotV, _ := At(both, q)
				if !equal(gotU, u) || !equal(gotV, v) {
					t.Fatalf("%v: at %v and %v stand %v and %v", x, p, q, gotU, gotV)
				}
			}
		}
	}
}

// P2: no call changes what it is given, nor reads what lies behind its lists.
func TestUnchanged(t *testing.T) {
	behind := term.Var("Behind")
	for _, x := range several() {
		given, sub := deepCopy(x), deepCopy(term.Fun("f", named("k")))
		for _, p := range byRule(x) {
			row := append(slices.Clone(p), 0)[:len(p)]
			At(given, row)
			put, _ := Put(given, row, sub)
			if got := row[:len(p)+1]; !slices.Equal(got, append(slices.Clone(p), 0)) || !equal(given, x) || !untouched(given) || !untouched(sub) {
				t.Fatalf("%v at %v: changed: %v, %v", x, p, got, given)
			}
			if got, _ := At(given, row); !untouched(got) || term.Has(put, behind) {
				t.Fatalf("%v at %v: %v, %v", x, p, got, put)
			}
			changed := put
			for _, i := range p { // the lists on the way to the place are new
				next := changed.Args[i]
				changed.Args[i] = behind
				_ = append(changed.Args, behind)
				changed = next
			}
			if !equal(given, x) || !untouched(given) {
				t.Fatalf("%v: Put at %v shares a list that it changed", x, p)
			}
		}
		if len(All(given)) != len(byRule(x)) || !rowsAlike(Inner(given), Inner(x)) {
			t.Fatalf("%v: what lies behind a list is told", x)
		}
		if got, is := Find(given, behind); is {
			t.Fatalf("%v: what lies behind a list is found at %v", x, got)
		}
		if Find(given, sub); !equal(given, x) || !untouched(given) || !untouched(sub) {
			t.Fatalf("%v is changed", x)
		}
	}
	row := append([]int{1}, 0)
	if !Below(row[:1], []int{1}) || Compare(row[:1], []int{1}) != 0 || Apart(row[:1], []int{1, 1}) || Below([]int{1, 0}, row[:1]) {
		t.Error("what lies behind a place is read")
	}
}

// P1: terms that lie in one another 2^16 deep, and lists that are long.
func TestDeep(t *testing.T) {
	const n = 1<<16 - 1
	x, y := term.Var("X"), term.Var("Y")
	deep, row := chain(n, x), make([]int, n)
	if got, is := At(deep, row); !is || !equal(got, x) {
		t.Error("At deep:", got.Name, is)
	}
	if _, is := At(deep, make([]int, n+1)); is {
		t.Error("At below all")
	}
	put, is := Put(deep, row, y)
	if !is || term.Compare(put, chain(n, y)) != 0 || term.Compare(deep, chain(n, x)) != 0 {
		t.Error("Put deep:", is)
	}
	if _, is := Put(deep, make([]int, n+1), y); is {
		t.Error("Put below all")
	}
	if p, is := Find(deep, x); !is || !slices.Equal(p, row) {
		t.Error("Find deep:", len(p), is)
	}
	if p, is := Find(deep, chain(n/2, x)); !is || len(p) != n-n/2 {
		t.Error("Find half:", len(p), is)
	}
	if p, is := Find(deep, chain(n/2, y)); is || p != nil {
		t.Error("Find none:", len(p), is)
	}
	if !Below(row[1:], row) || Apart(row[1:], row) || Compare(row, row[1:]) != 1 {
		t.Error("long places")
	}
	if all := All(chain(2000, x)); len(all) != 2001 || len(all[2000]) != 2000 || len(Inner(chain(2000, x))) != 2000 {
		t.Error("All deep:", len(all))
	}
	wide := term.Fun("f", make([]api.Term, 1<<16)...)
	if all := All(wide); len(all) != 1<<16+1 || all[1<<16][0] != 1<<16-1 || len(Inner(wide)) != 1 {
		t.Error("All wide:", len(all))
	}
}
