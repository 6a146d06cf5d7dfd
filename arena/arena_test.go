package arena

import (
	"math"
	"slices"
	"testing"

	"picklock/api"
	"picklock/term"
)

func v(name string) api.Term { return term.Var(name) }

func f(args ...api.Term) api.Term { return term.Fun("f", args...) }

func g(args ...api.Term) api.Term { return term.Fun("g", args...) }

func private(name string) api.Term { return api.Term{Kind: api.KName, Name: name} }

func handle(n int) api.Term { return api.Term{Kind: api.KHand, N: n} }

func fresh(n int) api.Term { return api.Term{Kind: api.KFresh, N: n} }

// of is a function's node.
func of(name string, args ...int) api.Node {
	return api.Node{Kind: api.KFun, Name: name, Args: args}
}

// alike tells whether two nodes are the same in all fields, where a list without numbers is none.
func alike(a, b api.Node) bool {
	return a.Kind == b.Kind && a.Name == b.Name && a.N == b.N && slices.Equal(a.Args, b.Args)
}

// exact tells whether two terms are the same in all fields, where a list without terms is none.
func exact(a, b api.Term) bool {
	return a.Kind == b.Kind && a.Name == b.Name && a.N == b.N && slices.EqualFunc(a.Args, b.Args, exact)
}

// leaves are terms without arguments, no two of them the same, also such as differ in one field alone.
func leaves() []api.Term {
	l := []api.Term{{}, v("X"), v(""), private("X"), term.Fun("X"), handle(1), handle(2), fresh(1), fresh(0)}
	for _, n := range []int{math.MinInt, -1, 1, 12, math.MaxInt} {
		l = append(l, api.Term{Kind: n}, api.Term{Kind: 7, N: n}, api.Term{Kind: api.KFun, Name: "X", N: n})
	}
	for _, name := range []string{"0", "0,", "1,2", "\x00", "f"} {
		l = append(l, term.Fun(name), v(name))
	}
	return l
}

// several are terms of all kinds, no two of them the same.
func several() []api.Term {
	x, c, k := v("X"), term.Fun("c"), private("k")
	l := append(leaves(), c, k)
	for _, a := range []api.Term{x, c, k} {
		l = append(l, f(a), g(a), f(f(a)), f(a, a), f(a, a, a), f(f(a), a), f(a, f(a)), f(f(a, a)))
		for _, b := range []api.Term{x, c, k, f(k), g(c, k)} {
			if !exact(a, b) {
				l = append(l, f(a, b), g(a, b), g(b, a, b), f(g(a, b), a))
			}
		}
	}
	for _, kind := range []int{0, api.KVar, api.KName, api.KHand, api.KFresh, 6, -1} {
		l = append(l, api.Term{Kind: kind, Name: "f", N: 3, Args: []api.Term{k, c}})
	}
	return term.Set(l)
}

// naive does what the document says, word by word: its nodes stand in a list that is looked through.
type naive struct{ nodes []api.Node }

func (a *naive) node(n api.Node) (int, bool) {
	for _, i := range n.Args {
		if i < 0 || i >= len(a.nodes) {
			return 0, false
		}
	}
	if i := slices.IndexFunc(a.nodes, func(m api.Node) bool { return alike(m, n) }); i >= 0 {
		return i, true
	}
	n.Args = slices.Clone(n.Args)
	a.nodes = append(a.nodes, n)
	return len(a.nodes) - 1, true
}

func (a *naive) put(t api.Term) int {
	var args []int
	for _, x := range t.Args {
		args = append(args, a.put(x))
	}
	i, _ := a.node(api.Node{Kind: t.Kind, Name: t.Name, N: t.N, Args: args})
	return i
}

func (a *naive) get(i int) api.Term {
	n := a.nodes[i]
	t := api.Term{Kind: n.Kind, Name: n.Name, N: n.N}
	for _, x := range n.Args {
		t.Args = append(t.Args, a.get(x))
	}
	return t
}

// find looks for a term among all that are there.
func (a *naive) find(t api.Term) (int, bool) {
	for i := range a.nodes {
		if term.Same(a.get(i), t) {
			return i, true
		}
	}
	return 0, false
}

// within are the numbers of the nodes whose terms the term of that node is or has in it.
func (a *naive) within(i int) []int {
	var l []int
	for k := range a.nodes {
		if term.Has(a.get(i), a.get(k)) {
			l = append(l, k)
		}
	}
	return l
}

// check holds all that an Arena tells against what is told word by word.
func check(t *testing.T, a *Arena, by *naive) {
	t.Helper()
	if a.Len() != len(by.nodes) {
		t.Fatalf("%d nodes; want %d", a.Len(), len(by.nodes))
	}
	for i, want := range by.nodes {
		n, is := a.At(i)
		if !is || !alike(n, want) {
			t.Fatalf("At(%d) = %v, %v; want %v", i, n, is, want)
		}
		for _, k := range n.Args {
			if k < 0 || k >= i {
				t.Fatalf("At(%d) has the node %d", i, k)
			}
		}
		x, is := a.Get(i)
		if !is || !exact(x, by.get(i)) {
			t.Fatalf("Get(%d) = %v, %v; want %v", i, x, is, by.get(i))
		}
		if k, is := a.Find(x); k != i || !is {
			t.Fatalf("Find(%v) = %d, %v; want %d", x, k, is, i)
		}
		if a.Size(i) != term.Size(x) {
			t.Fatalf("Size(%d) = %d; want %d", i, a.Size(i), term.Size(x))
		}
		if got := a.Within(i); !slices.Equal(got, by.within(i)) {
			t.Fatalf("Within(%d) = %v; want %v", i, got, by.within(i))
		}
	}
}

// none asks what is told of a number that no node has.
func none(t *testing.T, a *Arena, i int) {
	t.Helper()
	if n, is := a.At(i); is || !alike(n, api.Node{}) {
		t.Errorf("At(%d) = %v, %v", i, n, is)
	}
	if x, is := a.Get(i); is || !exact(x, api.Term{}) {
		t.Errorf("Get(%d) = %v, %v", i, x, is)
	}
	if a.Size(i) != 0 {
		t.Errorf("Size(%d) = %d", i, a.Size(i))
	}
	if l := a.Within(i); len(l) != 0 {
		t.Errorf("Within(%d) = %v", i, l)
	}
}

// others are numbers that no node of an Arena with so many has.
func others(n int) []int { return []int{-1, n, n + 1, math.MinInt, math.MaxInt, 1 << 32} }

// P9.1: the document's example, and the order in which nodes are added.
func TestPut(t *testing.T) {
	k := private("k")
	a := New()
	if a.Len() != 0 {
		t.Error(a.Len())
	}
	if a.Put(f(k, k)) != 1 || a.Len() != 2 {
		t.Error("f(k, k):", a.Len())
	}
	// arguments from the left, each ahead of what it is in, and none again
	if a.Put(g(f(v("X")), f(k, k), v("Y"), f(v("X")))) != 5 || a.Len() != 6 {
		t.Error("g:", a.Len())
	}
	for i, want := range []api.Term{k, f(k, k), v("X"), f(v("X")), v("Y"), g(f(v("X")), f(k, k), v("Y"), f(v("X")))} {
		if x, is := a.Get(i); !is || !exact(x, want) {
			t.Errorf("Get(%d) = %v, %v; want %v", i, x, is, want)
		}
		if a.Put(want) != i || a.Len() != 6 {
			t.Errorf("Put(%v) isn't %d, or adds something", want, i)
		}
	}
	if n, is := a.At(5); !is || !alike(n, of("g", 3, 1, 4, 3)) {
		t.Error(n, is)
	}
}

// P9.1: nodes of nodes that are there, and none of others.
func TestNode(t *testing.T) {
	a := New()
	for _, c := range []struct {
		n   api.Node
		i   int
		is  bool
		len int
	}{
		{of("f", 0), 0, false, 0},
		{of("c"), 0, true, 1},
		{of("c"), 0, true, 1},
		{of("f", 1), 0, false, 1},
		{of("f", -1), 0, false, 1},
		{of("f", 0, 1), 0, false, 1},
		{of("f", 1, 0), 0, false, 1},
		{of("f", 0, 0, math.MaxInt, 0), 0, false, 1},
		{of("f", math.MinInt), 0, false, 1},
		{of("f", 0), 1, true, 2},
		{of("f", 1), 2, true, 3},
		{of("f", 0), 1, true, 3},
		{of("f", 2, 1), 3, true, 4},
		{of("f", 1, 2), 4, true, 5},
		{of("f", 4), 5, true, 6},
		{of("f", 6), 0, false, 6},
		{api.Node{}, 6, true, 7},
		{api.Node{Args: []int{}}, 6, true, 7},
		{api.Node{Kind: api.KVar, Name: "X", N: -3, Args: []int{6}}, 7, true, 8},
		{api.Node{Kind: api.KVar, Name: "X", Args: []int{6}}, 8, true, 9},
		{api.Node{Kind: api.KVar, Name: "X", N: -3}, 9, true, 10},
		{api.Node{Kind: -1, Name: "c"}, 10, true, 11},
		{of("c"), 0, true, 11},
	} {
		if i, is := a.Node(c.n); i != c.i || is != c.is || a.Len() != c.len {
			t.Errorf("Node(%v) = %d, %v, %d nodes; want %d, %v, %d", c.n, i, is, a.Len(), c.i, c.is, c.len)
		}
	}
	// a node is the term that Put puts
	c := term.Fun("c")
	if a.Put(f(f(f(c)), f(c))) != 3 || a.Put(f(f(f(c), f(f(c))))) != 5 || a.Len() != 11 {
		t.Error("nodes and terms are not the same")
	}
	if i, is := a.Find(f(f(f(c)), f(f(c)))); is || i != 0 {
		t.Error(i, is)
	}
}

// P9.1, P9.2: what is told of numbers that no node has.
func TestNoNode(t *testing.T) {
	a := New()
	for _, i := range append(others(0), 0) {
		none(t, a, i)
	}
	a.Put(f(private("k"), g(v("X"))))
	for _, i := range others(a.Len()) {
		none(t, a, i)
		if k, is := a.Node(of("f", 0, i)); is || k != 0 || a.Len() != 4 {
			t.Errorf("Node with %d: %d, %v", i, k, is)
		}
	}
}

// P9.1 to P9.3: terms of all kinds, put in several orders: all as the document's words have it.
func TestByRule(t *testing.T) {
	forth := several()
	back := slices.Clone(forth)
	slices.Reverse(back)
	for _, l := range [][]api.Term{forth, back, slices.Concat(forth[40:], forth[:50])} {
		a, by := New(), &naive{}
		for _, x := range l {
			i, is := by.find(x)
			if k, told := a.Find(x); k != i || told != is || a.Len() != len(by.nodes) {
				t.Fatalf("Find(%v) = %d, %v; want %d, %v", x, k, told, i, is)
			}
			if got, want := a.Put(x), by.put(x); got != want || a.Len() != len(by.nodes) {
				t.Fatalf("Put(%v) = %d; want %d", x, got, want)
			}
		}
		check(t, a, by)
	}
}

// P9.1 to P9.3: many nodes, told by their numbers: all as the document's words have it.
func TestNodesByRule(t *testing.T) {
	a, by := New(), &naive{}
	again, wrong := 0, 0
	for i := range 3000 {
		// numbers without a plain pattern, some of which no node has
		k := (i*i*31 + i*7) % 101
		n := api.Node{Kind: 4 + k%2, Name: []string{"", "f"}[k/2%2], N: k / 4 % 2}
		for j := range i % 4 {
			n.Args = append(n.Args, (k*(j+3)+i*j)%(3+min(60, len(by.nodes)))-k%17/16)
		}
		got, is := a.Node(n)
		had := len(by.nodes)
		want, told := by.node(n)
		if got != want || is != told || a.Len() != len(by.nodes) {
			t.Fatalf("Node(%v) = %d, %v; want %d, %v", n, got, is, want, told)
		}
		if !told {
			wrong++
		} else if had == len(by.nodes) {
			again++
		}
		if had > 150 {
			break
		}
	}
	if again < 10 || wrong < 10 || a.Len() < 100 {
		t.Error("too few to say much:", again, wrong, a.Len())
	}
	for i := range by.nodes {
		if n, is := a.At(i); !is || !alike(n, by.nodes[i]) {
			t.Errorf("At(%d) = %v, %v; want %v", i, n, is, by.nodes[i])
		}
		want := []int{}
		for k := i; k >= 0; k-- {
			if k == i || slices.ContainsFunc(want, func(j int) bool { return slices.Contains(by.nodes[j].Args, k) }) {
				want = append(want, k)
			}
		}
		slices.Reverse(want)
		if got := a.Within(i); !slices.Equal(got, want) {
			t.Errorf("Within(%d) = %v; want %v", i, got, want)
		}
	}
}

// P9.3: the same number just if two terms are the same.
func TestEachOnce(t *testing.T) {
	l := several()
	a := New()
	for _, x := range l {
		a.Put(x)
	}
	for _, x := range l {
		for _, y := range l {
			if (a.Put(x) == a.Put(y)) != term.Same(x, y) {
				t.Errorf("%v and %v", x, y)
			}
		}
	}
	// rows of numbers that read alike when they are written together
	b := New()
	for i := range 124 {
		b.Put(handle(i))
	}
	seen := map[int]struct{}{}
	rows := [][]int{{1, 23}, {12, 3}, {123}, {1, 2, 3}, {12, 3, 0}, {0, 12, 3}, {3, 12}, {23, 1}, {}, {0}, {0, 0}}
	for _, row := range rows {
		i, is := b.Node(of("f", row...))
		if !is {
			t.Fatal(row)
		}
		seen[i] = struct{}{}
	}
	if len(seen) != len(rows) || b.Len() != 124+len(rows) {
		t.Error(len(seen), b.Len())
	}
}

// P9.2: what isn't there isn't found, and nothing is added.
func TestFind(t *testing.T) {
	k, c := private("k"), term.Fun("c")
	a := New()
	a.Put(f(k, g(c)))
	for _, x := range []struct {
		t  api.Term
		i  int
		is bool
	}{
		{k, 0, true},
		{c, 1, true},
		{g(c), 2, true},
		{f(k, g(c)), 3, true},
		{f(k, k), 0, false},
		{f(k, g(c), c), 0, false},
		{f(g(c), k), 0, false},
		{f(k), 0, false},
		{f(), 0, false},
		{g(k), 0, false},
		{g(v("c")), 0, false},
		{v("k"), 0, false},
		{term.Fun("k"), 0, false},
		{f(v("X"), g(c)), 0, false},
		{f(k, v("X")), 0, false},
		{handle(0), 0, false},
		{api.Term{Kind: api.KName, Name: "k", N: 1}, 0, false},
		{api.Term{}, 0, false},
	} {
		if i, is := a.Find(x.t); i != x.i || is != x.is || a.Len() != 4 {
			t.Errorf("Find(%v) = %d, %v; want %d, %v", x.t, i, is, x.i, x.is)
		}
	}
}

// P9.2: sizes, to the greatest that is told, and behind it.
func TestSize(t *testing.T) {
	a := New()
	i, _ := a.Node(of("c"))
	for n := 1; n <= 39; n++ {
		// each has the one ahead twice: 2^n - 1 terms
		if a.Size(i) != 1<<n-1 {
			t.Errorf("Size(%d) = %d", i, a.Size(i))
		}
		i, _ = a.Node(of("f", i, i))
	}
	top := i // 2^40 - 1 terms
	if a.Size(top) != 1<<40-1 {
		t.Error(a.Size(top))
	}
	for _, c := range []struct {
		n    api.Node
		want int
	}{
		{of("g", top), 1 << 40},
		{of("g", top, 0), 1 << 40},
		{of("g", 0, top), 1 << 40},
		{of("g", top, top), 1 << 40},
		{of("g", top-1, top-1), 1<<40 - 1},
		{of("g", top-1, top-1, 0), 1 << 40},
		{of("g", top-1, top-1, 1), 1 << 40},
		{of("g", top-1, 0), 1<<39 + 1},
	} {
		k, _ := a.Node(c.n)
		if a.Size(k) != c.want {
			t.Errorf("Size of %v = %d; want %d", c.n, a.Size(k), c.want)
		}
	}
	// a number that would be too great for all numbers
	for range 100 {
		i, _ = a.Node(of("f", i, i, i, i, i, i, i, i))
		if i <= top || a.Size(i) != 1<<40 {
			t.Errorf("Size(%d) = %d", i, a.Size(i))
		}
	}
	if l := a.Within(i); len(l) != 140 || l[0] != 0 || l[139] != i || !slices.IsSorted(l) {
		t.Error(len(l))
	}
	if x, is := a.Get(i); !is || len(x.Args) != 8 || x.Name != "f" {
		t.Error("Get")
	}
}

// P9.3: a copy goes its own way, and so does what it is a copy of.
func TestCopy(t *testing.T) {
	a, by := New(), &naive{}
	for _, x := range several()[:60] {
		a.Put(x)
		by.put(x)
	}
	b, alone := a.Copy(), &naive{nodes: slices.Clone(by.nodes)}
	check(t, b, alone)
	// the same number in both, of another term
	for n := range 20 {
		x, y := f(handle(n), private("a")), g(handle(n), private("b"))
		if a.Put(x) != by.put(x) || b.Put(y) != alone.put(y) {
			t.Fatal(n)
		}
	}
	check(t, a, by)
	check(t, b, alone)
	if _, is := b.Find(private("a")); is {
		t.Error("a copy has what was added to the other one")
	}
	c := New().Copy()
	if c == nil || c.Len() != 0 || c.Put(v("X")) != 0 || c.Put(f(v("X"))) != 1 || c.Len() != 2 {
		t.Error("a copy of an Arena without nodes")
	}
}

// P9.3, P1: an Arena that nobody made.
func TestNobodyMade(t *testing.T) {
	var not *Arena
	for _, a := range []*Arena{not, {}, new(Arena)} {
		for range 2 {
			if a.Put(f(v("X"))) != 0 || a.Put(v("X")) != 0 || a.Len() != 0 || a.Copy() != nil {
				t.Error("Put, Len, Copy:", a.Len())
			}
			if i, is := a.Node(of("c")); i != 0 || is {
				t.Error("Node:", i, is)
			}
			if i, is := a.Node(of("f", 0)); i != 0 || is {
				t.Error("Node:", i, is)
			}
			if i, is := a.Find(v("X")); i != 0 || is {
				t.Error("Find:", i, is)
			}
			for _, i := range append(others(1), 0) {
				none(t, a, i)
			}
		}
	}
}

// roomy is the same list, with room behind it in which another item lies.
func roomy[E any](l []E, behind E) []E { return append(slices.Clone(l), behind)[:len(l)] }

// P2: nothing that is given is changed or kept, and no list that is told is kept.
func TestUnchanged(t *testing.T) {
	a := New()
	x := api.Term{Kind: api.KFun, Name: "f", Args: roomy([]api.Term{v("X"), private("k")}, v("Behind"))}
	if a.Put(x) != 2 || a.Len() != 3 || !exact(x.Args[:3][2], v("Behind")) {
		t.Error(a.Len())
	}
	x.Args[0] = v("Y")
	if y, is := a.Get(2); !is || !exact(y, f(v("X"), private("k"))) {
		t.Error("a term that was put is kept with its list:", y)
	}
	args := roomy([]int{0, 2}, 7)
	if i, is := a.Node(of("g", args...)); !is || i != 3 || !slices.Equal(args[:3], []int{0, 2, 7}) {
		t.Error(i, is, args[:3])
	}
	args[0] = 1
	for range 2 {
		n, is := a.At(3)
		if !is || !alike(n, of("g", 0, 2)) {
			t.Error("a node's list is kept:", n)
		}
		n.Args[1] = 0
		l := a.Within(3)
		if !slices.Equal(l, []int{0, 1, 2, 3}) {
			t.Error(l)
		}
		l[0] = 9
	}
	a.Put(f(v("A"), v("B"), v("C")))
	y, _ := a.Get(a.Len() - 1)
	z, _ := a.Get(a.Len() - 1)
	y.Args, z.Args = append(y.Args, v("Y")), append(z.Args, v("Z"))
	if !exact(y, f(v("A"), v("B"), v("C"), v("Y"))) || !exact(z, f(v("A"), v("B"), v("C"), v("Z"))) {
		t.Error("what lies behind a list is handed out:", y, z)
	}
}

// P3: a node with an empty list is the one without.
func TestNone(t *testing.T) {
	a := New()
	i, _ := a.Node(api.Node{Kind: api.KFun, Name: "c", Args: []int{}})
	k, _ := a.Node(of("c"))
	if i != k || a.Put(api.Term{Kind: api.KFun, Name: "c", Args: []api.Term{}}) != i || a.Put(term.Fun("c")) != i || a.Len() != 1 {
		t.Error(i, k, a.Len())
	}
	if n, is := a.At(0); !is || len(n.Args) != 0 {
		t.Error(n)
	}
	if l := a.Within(0); !slices.Equal(l, []int{0}) {
		t.Error(l)
	}
}

// chain is a leaf in that many f.
func chain(n int, leaf api.Term) api.Term {
	for range n {
		leaf = f(leaf)
	}
	return leaf
}

// P1: terms as deep as the bound allows.
func TestDeep(t *testing.T) {
	const n = 1<<16 - 1
	x := chain(n, v("X"))
	a := New()
	if a.Put(x) != n || a.Len() != n+1 || a.Put(x) != n || a.Len() != n+1 {
		t.Error("Put", a.Len())
	}
	if y, is := a.Get(n); !is || !exact(y, x) {
		t.Error("Get")
	}
	if i, is := a.Find(x); !is || i != n {
		t.Error("Find", i)
	}
	if i, is := a.Find(chain(n, v("Y"))); is || i != 0 {
		t.Error("Find", i)
	}
	if i, is := a.Find(f(x)); is || i != 0 {
		t.Error("Find", i)
	}
	if a.Size(n) != n+1 || len(a.Within(n)) != n+1 || a.Copy().Len() != n+1 {
		t.Error("Size, Within, Copy")
	}
}

// P1: lists as long as the bound allows.
func TestLong(t *testing.T) {
	const n = 1 << 16
	var l []api.Term
	for i := range n {
		l = append(l, handle(i))
	}
	a := New()
	if a.Put(f(l...)) != n || a.Put(f(l...)) != n || a.Len() != n+1 || a.Size(n) != n+1 || len(a.Within(n)) != n+1 {
		t.Error(a.Len())
	}
	if i, is := a.Find(f(l[1:]...)); is || i != 0 {
		t.Error(i)
	}
	if a.Put(f(slices.Repeat(l[:1], n)...)) != n+1 || a.Size(n+1) != n+1 || !slices.Equal(a.Within(n+1), []int{0, n + 1}) {
		t.Error("a list of one term")
	}
}
