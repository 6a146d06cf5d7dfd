package sign

import (
	"math"
	"reflect"
	"slices"
	"strconv"
	"strings"
	"testing"

	"picklock/api"
	"picklock/chars"
	"picklock/place"
	"picklock/term"
)

// fun is a symbol.
func fun(name string, arity int) api.Fun { return api.Fun{Name: name, Arity: arity} }

func v(name string) api.Term { return term.Var(name) }

func f(args ...api.Term) api.Term { return term.Fun("f", args...) }

func g(args ...api.Term) api.Term { return term.Fun("g", args...) }

func private(name string, args ...api.Term) api.Term {
	return api.Term{Kind: api.KName, Name: name, Args: args}
}

// funs reads symbols, as f/1 g/2, one behind each blank; of an empty text there are none.
func funs(s string) []api.Fun {
	var l []api.Fun
	for _, word := range strings.Fields(s) {
		name, arity, _ := strings.Cut(word, "/")
		n, _ := strconv.Atoi(arity)
		l = append(l, fun(name, n))
	}
	return l
}

// written writes symbols, as funs reads them.
func written(l []api.Fun) string {
	var words []string
	for _, x := range l {
		words = append(words, x.Name+"/"+strconv.Itoa(x.Arity))
	}
	return strings.Join(words, " ")
}

// many are that many symbols, each of a name of its own.
func many(n int) []api.Fun {
	var l []api.Fun
	for i := range n {
		l = append(l, fun("n"+strconv.Itoa(i), i%(api.MaxArity+1)))
	}
	return l
}

// rows are all lists of at most that many of the symbols.
func rows(most int, of []api.Fun) [][]api.Fun {
	l := [][]api.Fun{nil}
	for n := 0; len(l[n]) < most; n++ {
		for _, x := range of {
			l = append(l, append(slices.Clone(l[n]), x))
		}
	}
	return l
}

// several are terms of functions, and of all kinds, also odd ones, with and without arguments.
func several() []api.Term {
	l := []api.Term{{}, v("f"), private("f"), {Kind: api.KHand, N: 1}, {Kind: api.KFresh}, f(), g(), {Kind: api.KFun}, {Kind: api.KFun, Name: "f", N: 3}, {Kind: -1, Name: "f"}, {Kind: math.MaxInt, Name: "g"}}
	for _, a := range slices.Clone(l) {
		l = append(l, f(a), g(a, f()), private("g", a))
	}
	for _, a := range slices.Clone(l) {
		l = append(l, f(f(a), a), g(f(f()), a), g(a, g(a)), api.Term{Kind: api.KVar, Name: "g", Args: []api.Term{g(), a, f(a)}}, api.Term{Kind: 0, Args: []api.Term{a, a}})
	}
	return l
}

// addByRule is Add, word by word.
func addByRule(l []api.Fun, x api.Fun) ([]api.Fun, api.Errno) {
	if !chars.Word(x.Name) || x.Arity < 0 || x.Arity > 6 {
		return nil, api.ErrArg
	}
	for _, y := range l {
		if y.Name == x.Name {
			return nil, api.ErrTwice
		}
	}
	if len(l) >= 40 {
		return nil, api.ErrLong
	}
	return append(slices.Clone(l), x), api.OK
}

// joinByRule is Join, word by word.
func joinByRule(a, b []api.Fun) ([]api.Fun, api.Errno) {
	joined, e := a, api.OK
	for _, x := range b {
		if slices.Contains(a, x) {
			continue
		}
		if joined, e = addByRule(joined, x); e != api.OK {
			return nil, e
		}
	}
	return joined, api.OK
}

// rightByRule is Right, word by word.
func rightByRule(l []api.Fun) bool {
	e := api.OK
	for n, x := range l {
		if e == api.OK {
			_, e = addByRule(l[:n], x)
		}
	}
	return e == api.OK
}

// fitsByRule is Fits, word by word.
func fitsByRule(l []api.Fun, t api.Term) (api.Errno, []int) {
	for _, p := range place.All(t) {
		x, _ := place.At(t, p)
		if x.Kind != api.KFun || slices.Contains(l, fun(x.Name, len(x.Args))) {
			continue
		}
		if slices.ContainsFunc(l, func(y api.Fun) bool { return y.Name == x.Name }) {
			return api.ErrArity, p
		}
		return api.ErrScope, p
	}
	return api.OK, nil
}

// P10.1: how many arguments a symbol takes.
func TestArity(t *testing.T) {
	for _, c := range []struct {
		l, name string
		want    int
		is      bool
	}{
		{"f/1 g/2", "f", 1, true}, {"f/1 g/2", "g", 2, true}, {"f/0", "f", 0, true}, {"f/1", "F", 0, false}, {"f/1 g/2", "h", 0, false}, {"f/1", "", 0, false}, {"f/1", "ff", 0, false}, {"ff/1", "f", 0, false},
		{"f/1 f/2", "f", 1, true}, {"g/3 f/2 f/1 f/2", "f", 2, true}, {"rule/5", "rule", 5, true}, {"f/-1", "f", -1, true}, {"f/70", "f", 70, true}, {"/4", "", 4, true}, {"", "f", 0, false}, {"", "", 0, false},
	} {
		if n, is := Arity(funs(c.l), c.name); n != c.want || is != c.is {
			t.Errorf("Arity(%s, %q) = %d, %v", c.l, c.name, n, is)
		}
	}
}

// P10.1: what may be added, and which error is the first.
func TestAdd(t *testing.T) {
	full, over := many(api.MaxFuns), many(api.MaxFuns+1)
	for _, c := range []struct {
		l    []api.Fun
		f    api.Fun
		want api.Errno
	}{
		{nil, fun("f", 0), api.OK}, {nil, fun("f", 6), api.OK}, {nil, fun("f", 7), api.ErrArg}, {nil, fun("f", -1), api.ErrArg}, {nil, fun("f", math.MinInt), api.ErrArg}, {nil, fun("f", math.MaxInt), api.ErrArg},
		{nil, fun("", 0), api.ErrArg}, {nil, fun("F", 0), api.ErrArg}, {nil, fun("1f", 0), api.ErrArg}, {nil, fun("f-", 0), api.ErrArg}, {nil, fun("f g", 0), api.ErrArg}, {nil, fun("\xff", 0), api.ErrArg},
		{nil, fun("f_1X", 3), api.OK}, {nil, fun(strings.Repeat("f", 20), 0), api.OK}, {nil, fun(strings.Repeat("f", 21), 0), api.ErrArg}, {nil, fun("rule", 1), api.ErrArg}, {nil, fun("rules", 1), api.OK}, {nil, fun("use", 0), api.ErrArg},
		{funs("f/2"), fun("f", 2), api.ErrTwice}, {funs("f/2"), fun("f", 1), api.ErrTwice}, {funs("g/0 f/2"), fun("f", 0), api.ErrTwice}, {funs("f/2"), fun("f", 7), api.ErrArg}, {funs("f/2"), fun("g", 2), api.OK}, {funs("F/1"), fun("F", 1), api.ErrArg},
		{funs("f/9 F/1 f/9"), fun("g", 2), api.OK}, {full[:39], fun("f", 2), api.OK}, {full, fun("f", 2), api.ErrLong}, {over, fun("f", 2), api.ErrLong}, {full, fun("n39", 4), api.ErrTwice}, {over, fun("n0", 0), api.ErrTwice}, {full, fun("f", 7), api.ErrArg}, {full, fun("rule", 1), api.ErrArg}, {full, fun("n0", -1), api.ErrArg},
	} {
		l, e := Add(c.l, c.f)
		var want []api.Fun
		if c.want == api.OK {
			want = append(slices.Clone(c.l), c.f)
		}
		if e != c.want || !slices.Equal(l, want) {
			t.Errorf("Add(%s, %v) = %s, %d; want %d", written(c.l), c.f, written(l), e, c.want)
		}
	}
}

// P10.1: each of one list added to another one, but what is there alike.
func TestJoin(t *testing.T) {
	for _, c := range []struct {
		a, b, want string
		e          api.Errno
	}{
		{"f/1", "g/2", "f/1 g/2", api.OK}, {"f/1 g/2", "g/2 h/0 f/1 a/0", "f/1 g/2 h/0 a/0", api.OK}, {"", "f/1 g/2", "f/1 g/2", api.OK}, {"f/1 g/2", "", "f/1 g/2", api.OK}, {"", "", "", api.OK},
		{"f/1", "f/2", "", api.ErrTwice}, {"f/1", "g/2 f/0", "", api.ErrTwice}, {"f/1", "g/7", "", api.ErrArg}, {"f/1", "F/1", "", api.ErrArg}, {"f/1", "g/7 f/2", "", api.ErrArg}, {"f/1", "f/2 g/7", "", api.ErrTwice}, {"f/1", "f/7", "", api.ErrArg},
		{"", "f/1 f/1", "", api.ErrTwice}, {"", "b/2 b/2", "", api.ErrTwice}, {"", "b/2 a/0 a/0", "", api.ErrTwice}, {"", "f/1 f/2", "", api.ErrTwice}, {"g/1", "f/1 g/1 f/1", "", api.ErrTwice}, {"g/1", "f/1 g/1 f/7 f/1", "", api.ErrArg}, {"g/1", "f/1 f/1 g/7", "", api.ErrTwice},
		{"b/2", "b/2 b/2", "b/2", api.OK}, {"g/1", "g/1 f/1 g/1 h/1 g/1", "g/1 f/1 h/1", api.OK}, {"g/1", "g/1 f/1 g/1 f/1 g/1", "", api.ErrTwice}, {"f/1 f/1", "f/1 g/1 f/1", "f/1 f/1 g/1", api.OK}, {"f/1 f/1", "g/1 g/1", "", api.ErrTwice}, {written(many(39)), "f/1 f/1", "", api.ErrTwice},
		{"f/1 f/1", "f/1", "f/1 f/1", api.OK}, {"f/1 f/2", "f/2 g/1", "f/1 f/2 g/1", api.OK}, {"F/9 f/-1", "f/-1 F/9 g/1", "F/9 f/-1 g/1", api.OK},
		{written(many(39)), "f/1 n0/0", written(many(39)) + " f/1", api.OK}, {written(many(39)), "f/1 g/1", "", api.ErrLong}, {written(many(40)), written(many(40)), written(many(40)), api.OK}, {written(many(50)), written(many(45)), written(many(50)), api.OK},
		{written(many(40)), "f/1", "", api.ErrLong}, {written(many(40)), "n0/1", "", api.ErrTwice}, {"", written(many(40)), written(many(40)), api.OK}, {"", written(many(41)), "", api.ErrLong}, {"", written(many(41)) + " f/7", "", api.ErrLong}, {"n41/0", written(many(39)), "n41/0 " + written(many(39)), api.OK},
	} {
		if l, e := Join(funs(c.a), funs(c.b)); e != c.e || written(l) != c.want {
			t.Errorf("Join(%s, %s) = %s, %d", c.a, c.b, written(l), e)
		}
	}
}

// P10.1: symbols that may stand together.
func TestRight(t *testing.T) {
	for _, c := range []struct {
		l    string
		want bool
	}{
		{"", true}, {"f/1", true}, {"f/0 g/6 f_1/3", true}, {"f/1 f/1", false}, {"f/1 g/1 f/2", false}, {"f/7", false}, {"f/-1", false}, {"g/1 F/1", false}, {"g/1 rule/1", false}, {"/0", false},
		{written(many(40)), true}, {written(many(41)), false}, {written(many(39)) + " n0/0", false}, {written(many(39)) + " f/6", true}, {written(many(39)) + " f/7", false},
	} {
		if Right(funs(c.l)) != c.want {
			t.Errorf("Right(%s) isn't %v", c.l, c.want)
		}
	}
}

// P10.1, held against the words of the rules, for all short lists.
func TestListsByRule(t *testing.T) {
	of := funs("f/0 f/1 g/6 g/7 h/-1 rule/0 H/1 a/0")
	all := rows(3, of)
	for _, a := range all {
		for _, x := range of {
			l, e := Add(a, x)
			if want, we := addByRule(a, x); e != we || !slices.Equal(l, want) {
				t.Fatalf("Add(%s, %v) = %s, %d; want %s, %d", written(a), x, written(l), e, written(want), we)
			}
			n, is := Arity(a, x.Name)
			i := slices.IndexFunc(a, func(y api.Fun) bool { return y.Name == x.Name })
			if is != (i >= 0) || is && n != a[i].Arity || !is && n != 0 {
				t.Fatalf("Arity(%s, %s) = %d, %v", written(a), x.Name, n, is)
			}
		}
		for _, b := range all {
			l, e := Join(a, b)
			if want, we := joinByRule(a, b); e != we || !slices.Equal(l, want) {
				t.Fatalf("Join(%s, %s) = %s, %d; want %s, %d", written(a), written(b), written(l), e, written(want), we)
			}
		}
		if Right(a) != rightByRule(a) {
			t.Fatalf("Right(%s) = %v", written(a), Right(a))
		}
	}
}

// P10.2, with the chapter's example.
func TestFits(t *testing.T) {
	a, x := term.Fun("a"), v("X")
	for _, c := range []struct {
		l    string
		t    api.Term
		want api.Errno
		at   []int
	}{
		{"f/1", f(a), api.ErrScope, []int{0}}, {"f/1 a/0", f(a), api.OK, nil}, {"a/0", f(a), api.ErrScope, nil}, {"f/2 a/0", f(a), api.ErrArity, nil}, {"f/0 a/1", f(a), api.ErrArity, nil}, {"f/1 a/1", f(a), api.ErrArity, []int{0}},
		{"f/2 a/0", f(a, f(a, x)), api.OK, nil}, {"f/2 a/0", f(a, f(a)), api.ErrArity, []int{1}}, {"f/2", f(x, f(x, a)), api.ErrScope, []int{1, 1}}, {"f/2 g/1", f(g(a), f(x)), api.ErrScope, []int{0, 0}}, {"f/2 g/1 a/0", f(g(a), f(x)), api.ErrArity, []int{1}},
		{"f/3", f(x, private("a"), api.Term{Kind: api.KHand, N: 1}), api.OK, nil}, {"", x, api.OK, nil}, {"", private("a"), api.OK, nil}, {"", api.Term{}, api.OK, nil}, {"", api.Term{Kind: api.KFun}, api.ErrScope, nil}, {"/0", api.Term{Kind: api.KFun}, api.OK, nil},
		{"f/1", private("a", x, f(x), a), api.ErrScope, []int{2}}, {"", api.Term{Kind: 9, Args: []api.Term{x, private("k", x, a)}}, api.ErrScope, []int{1, 1}}, {"f/1", api.Term{Kind: api.KFun, Name: "f", N: 7, Args: []api.Term{x}}, api.OK, nil},
		{"f/2 f/1 a/0", f(f(a), a), api.OK, nil}, {"f/-1 f/7 F/0", f(f(), f()), api.ErrArity, nil}, {"f/7 a/0", f(a, a, a, a, a, a, a), api.OK, nil}, {"f/2 a/0", f(f(a, g()), g()), api.ErrScope, []int{0, 1}},
	} {
		if e, p := Fits(funs(c.l), c.t); e != c.want || !slices.Equal(p, c.at) {
			t.Errorf("Fits(%s, %s) = %d, %v", c.l, term.Show(c.t), e, p)
		}
	}
}

// P10.2, held against the words of the rule.
func TestFitsByRule(t *testing.T) {
	lists := rows(3, funs("f/0 f/1 f/2 g/0 g/1 g/2 /0"))
	for _, x := range several() {
		for _, l := range lists {
			e, p := Fits(l, x)
			if we, wp := fitsByRule(l, x); e != we || !slices.Equal(p, wp) {
				t.Fatalf("Fits(%s, %s) = %d, %v; want %d, %v", written(l), term.Show(x), e, p, we, wp)
			}
		}
	}
}

// P10.3: the symbols of a term.
func TestOf(t *testing.T) {
	a, x := term.Fun("a"), v("X")
	for _, c := range []struct {
		t    api.Term
		want string
	}{
		{f(a, a), "f/2 a/0"}, {a, "a/0"}, {x, ""}, {private("a"), ""}, {api.Term{}, ""}, {f(), "f/0"}, {f(g(x), f(a), g(a, a)), "f/3 g/1 f/1 a/0 g/2"}, {f(x, g(f(a, g(x)))), "f/2 g/1 a/0"},
		{private("k", a, f(a)), "a/0 f/1"}, {api.Term{Kind: api.KFun, N: 5}, "/0"}, {f(api.Term{Kind: api.KFun, Name: "f", N: 5, Args: []api.Term{x}}), "f/1"}, {api.Term{Kind: 6, Name: "f", Args: []api.Term{g(x)}}, "g/1"},
		{f(x, x, x, x, x, x, x, x), "f/8"},
	} {
		if got := written(Of(c.t)); got != c.want {
			t.Errorf("Of(%s) = %s, not %s", term.Show(c.t), got, c.want)
		}
	}
}

// P10.3 with P10.2: a term is of its own symbols, and of nothing less.
func TestOfByRule(t *testing.T) {
	for _, x := range several() {
		var want []api.Fun
		for y := range term.All(x) {
			if s := fun(y.Name, len(y.Args)); y.Kind == api.KFun && !slices.Contains(want, s) {
				want = append(want, s)
			}
		}
		l := Of(x)
		if !slices.Equal(l, want) {
			t.Fatalf("Of(%s) = %s; want %s", term.Show(x), written(l), written(want))
		}
		if e, _ := Fits(l, x); e != api.OK {
			t.Fatalf("%s isn't of its own symbols: %d", term.Show(x), e)
		}
		for i := range l {
			if e, _ := Fits(slices.Delete(slices.Clone(l), i, i+1), x); e == api.OK {
				t.Fatalf("%s is without %v", term.Show(x), l[i])
			}
		}
	}
}

// P10.3: constants as terms.
func TestConsts(t *testing.T) {
	for _, c := range []struct{ l, want string }{
		{"f/2 a/0", "a"}, {"b/0 f/1 a/0 c/0", "b a c"}, {"f/1 g/-1 h/6", ""}, {"", ""}, {"a/0 a/0 a/1", "a a"}, {"rule/0 A/0", "rule A"},
	} {
		var want []api.Term
		for _, name := range strings.Fields(c.want) {
			want = append(want, api.Term{Kind: api.KFun, Name: name})
		}
		got := Consts(funs(c.l))
		if len(got) != len(want) || len(got) > 0 && !reflect.DeepEqual(got, want) {
			t.Errorf("Consts(%s) = %v", c.l, got)
		}
	}
}

// behind is what stands behind the length of a roomy list.
var behind = api.Fun{Name: "behind", Arity: 3}

// roomy is a list with room behind its length, in which something stands.
func roomy(l []api.Fun) []api.Fun {
	return append(append(make([]api.Fun, 0, len(l)+2), l...), behind)[:len(l)]
}

// P2: nothing that is handed in is changed, also not behind its length, and no answer shares memory.
func TestUnchanged(t *testing.T) {
	for _, c := range rows(2, funs("f/1 g/2 a/0 rule/1")) {
		for _, d := range rows(2, funs("f/1 h/2 a/0")) {
			a, b := roomy(c), roomy(d)
			first, e := Add(a, fun("new", 1))
			joined, _ := Join(a, b)
			again, _ := Join(a, b)
			for _, l := range [][]api.Fun{first, joined, again} {
				for i := range l {
					l[i] = fun("other", 5)
				}
			}
			Right(a)
			Consts(a)
			Fits(a, f(v("X")))
			if !slices.Equal(a, c) || !slices.Equal(b, d) || a[:len(a)+1][len(a)] != behind || b[:len(b)+1][len(b)] != behind || e != api.OK {
				t.Fatal("changed:", a, b, c, d, e)
			}
		}
	}
	l, _ := Join(nil, funs("f/1 g/2"))
	m, _ := Add(l, fun("h", 1))
	n, _ := Add(l, fun("i", 1))
	m[0] = behind
	if written(l) != "f/1 g/2" || written(m) != "behind/3 g/2 h/1" || written(n) != "f/1 g/2 i/1" {
		t.Error("answers share memory:", l, m, n)
	}
	x := f(g(v("X")), f())
	p := Of(x)
	p[0] = behind
	if got := written(Of(x)); got != "f/2 g/1 f/0" || term.Show(x) != "f(g(X), f)" {
		t.Error("changed by what is done to an answer:", got)
	}
}

// P3: a nil list and an empty one are the same.
func TestNone(t *testing.T) {
	for _, none := range [][]api.Fun{nil, {}, make([]api.Fun, 0, 3)} {
		l, e := Add(none, fun("f", 1))
		if written(l) != "f/1" || e != api.OK {
			t.Error("Add:", l, e)
		}
		if l, e := Join(none, none); len(l) != 0 || e != api.OK {
			t.Error("Join:", l, e)
		}
		if _, is := Arity(none, ""); is || !Right(none) || len(Consts(none)) != 0 {
			t.Error("there is something in nothing")
		}
		if e, p := Fits(none, api.Term{Kind: api.KFun, Args: []api.Term{}}); e != api.ErrScope || len(p) != 0 {
			t.Error("Fits:", e, p)
		}
	}
	if len(Of(api.Term{})) != 0 || written(Of(api.Term{Kind: api.KFun, Name: "a", Args: []api.Term{}})) != "a/0" {
		t.Error("Of: a constant is one without arguments, and without a list")
	}
}

// P1: terms that lie deep in one another, up to the bound.
func TestDeep(t *testing.T) {
	const deep = 1<<16 - 1
	x := g()
	for range deep {
		x = f(x)
	}
	if got := written(Of(x)); got != "f/1 g/0" {
		t.Error("Of:", got)
	}
	if e, p := Fits(funs("f/1 g/0"), x); e != api.OK || p != nil {
		t.Error("Fits:", e, len(p))
	}
	if e, p := Fits(funs("f/1"), x); e != api.ErrScope || !slices.Equal(p, make([]int, deep)) {
		t.Error("Fits:", e, len(p))
	}
	if e, p := Fits(funs("f/2"), x); e != api.ErrArity || len(p) != 0 {
		t.Error("Fits:", e, len(p))
	}
}

// P1: lists that are long, and terms of many symbols.
func TestLong(t *testing.T) {
	const long = 1 << 16
	l := many(long)
	var args []api.Term
	for _, x := range l {
		args = append(args, term.Fun(x.Name, make([]api.Term, x.Arity)...))
	}
	if joined, e := Join(l, l); e != api.OK || !slices.Equal(joined, l) {
		t.Error("Join:", e, len(joined))
	}
	if _, e := Join(l, append(slices.Clone(l), fun("f", 1))); e != api.ErrLong {
		t.Error("Join:", e)
	}
	if _, e := Join(l, append(slices.Clone(l), fun("n0", 1))); e != api.ErrTwice {
		t.Error("Join:", e)
	}
	if n, is := Arity(l, "n65535"); n != 65535%7 || !is || Right(l) {
		t.Error("Arity:", n, is)
	}
	if e, p := Fits(l, private("k", args...)); e != api.OK || p != nil {
		t.Error("Fits:", e, p)
	}
	if e, p := Fits(l, private("k", append(args, f())...)); e != api.ErrScope || !slices.Equal(p, []int{long}) {
		t.Error("Fits:", e, p)
	}
	if got := Of(private("k", args...)); !slices.Equal(got, l) {
		t.Error("Of:", len(got))
	}
	if got := Consts(l); len(got) != (long+6)/7 || !term.Same(got[1], term.Fun("n7")) {
		t.Error("Consts:", len(got))
	}
}
