package library

import (
	"reflect"
	"slices"
	"strconv"
	"strings"
	"testing"

	"picklock/api"
	"picklock/grammar"
	"picklock/lex"
	"picklock/rename"
	"picklock/sign"
	"picklock/term"
)

// chapter is the chapter's list, in the grammar's words: each primitive's name, functions and rules.
var chapter = []struct{ name, text string }{
	{"pair", "fun pair/2. fun fst/1. fun snd/1. rule fst(pair(X, Y)) = X. rule snd(pair(X, Y)) = Y."},
	{"senc", "fun senc/2. fun sdec/2. rule sdec(senc(X, K), K) = X."},
	{"renc", "fun renc/3. fun rdec/2. rule rdec(renc(X, R, K), K) = X."},
	{"aenc", "fun aenc/2. fun adec/2. fun pk/1. rule adec(aenc(X, pk(K)), K) = X."},
	{"raenc", "fun raenc/3. fun radec/2. fun pk/1. rule radec(raenc(X, R, pk(K)), K) = X."},
	{"sign", "fun sign/2. fun check/2. fun open/1. fun vk/1. fun ok/0. rule check(sign(X, K), vk(K)) = ok. rule open(sign(X, K)) = X."},
	{"hash", "fun hash/1. fun mac/2."},
	{"blind", "fun blind/2. fun unblind/2. fun bsign/2. fun bopen/1. rule unblind(blind(X, Y), Y) = X. rule bopen(bsign(X, K)) = X."},
	{"wrap", "fun wrap/2. fun unwrap/2. fun probe/2. fun yes/0. rule unwrap(wrap(X, K), K) = X. rule probe(wrap(X, K), K) = yes."},
}

// theory reads the functions and rules of a text.
func theory(t *testing.T, text string) api.Theory {
	t.Helper()
	l, fault := grammar.Parse(text)
	if fault.Err != api.OK {
		t.Fatal(text, fault)
	}
	var th api.Theory
	for _, i := range l {
		switch i.Key {
		case "fun":
			th.Funs = append(th.Funs, api.Fun{Name: i.Words[0].Text, Arity: i.Words[1].N})
		case "rule":
			th.Rules = append(th.Rules, api.Rule{L: grammar.Plain(i.Trees[0]), R: grammar.Plain(i.Trees[1])})
		default:
			t.Fatal(text)
		}
	}
	return th
}

// of is the chapter's text of a primitive.
func of(name string) string {
	for _, c := range chapter {
		if c.name == name {
			return c.text
		}
	}
	return ""
}

// sameRule tells whether two rules are alike to the letter.
func sameRule(a, b api.Rule) bool { return term.Same(a.L, b.L) && term.Same(a.R, b.R) }

// same tells whether two theories are alike to the letter.
func same(a, b api.Theory) bool {
	return slices.Equal(a.Funs, b.Funs) && slices.EqualFunc(a.Rules, b.Rules, sameRule)
}

// theoryOf is an entry's functions and rules.
func theoryOf(e Entry) api.Theory { return api.Theory{Funs: e.Funs, Rules: e.Rules} }

// number is a rule that is unlike all others but that of its number.
func number(n int) api.Rule {
	return api.Rule{L: term.Fun("n", term.Fun("n"+strconv.Itoa(n))), R: term.Fun("n")}
}

// numbers are that many rules, each unlike the others.
func numbers(n int) []api.Rule {
	var l []api.Rule
	for i := range n {
		l = append(l, number(i))
	}
	return l
}

// useByRule is Use, word by word, of the chapter's own texts.
func useByRule(t *testing.T, th api.Theory, name string) (api.Theory, api.Errno) {
	text := of(name)
	if text == "" {
		return api.Theory{}, api.ErrNone
	}
	p := theory(t, text)
	funs, e := sign.Join(th.Funs, p.Funs)
	if e != api.OK {
		return api.Theory{}, e
	}
	rules := slices.Clone(th.Rules)
	for _, r := range p.Rules {
		has := false
		for _, x := range th.Rules {
			has = has || rename.Same(x, r)
		}
		if !has {
			rules = append(rules, r)
		}
	}
	if len(rules) > 24 {
		return api.Theory{}, api.ErrLong
	}
	return api.Theory{Funs: funs, Rules: rules}, api.OK
}

// P12.1: the primitives, in order.
func TestNames(t *testing.T) {
	var want []string
	for _, c := range chapter {
		want = append(want, c.name)
	}
	if got := Names(); !slices.Equal(got, want) {
		t.Errorf("Names() = %q", got)
	}
}

// P12.1, P12.2: each primitive's functions and rules, as the chapter writes them.
func TestGet(t *testing.T) {
	for _, c := range chapter {
		e, is := Get(c.name)
		if want := theory(t, c.text); !is || e.Name != c.name || !same(theoryOf(e), want) {
			t.Errorf("Get(%s) = %v, %v", c.name, e, is)
		}
	}
}

// P12.1: what there is may stand together, fits its own functions, and isn't twice there.
func TestEntriesAreRight(t *testing.T) {
	for _, name := range Names() {
		e, _ := Get(name)
		if !sign.Right(e.Funs) {
			t.Error(name, e.Funs)
		}
		for i, r := range e.Rules {
			for _, side := range []api.Term{r.L, r.R} {
				if err, p := sign.Fits(e.Funs, side); err != api.OK {
					t.Error(name, term.Show(side), err, p)
				}
			}
			if slices.ContainsFunc(e.Rules[:i], func(x api.Rule) bool { return rename.Same(x, r) }) {
				t.Error(name, "has a rule twice:", i)
			}
		}
	}
}

// P12.2: of any other name there is none.
func TestGetNone(t *testing.T) {
	for _, name := range []string{"", " ", "pai", "pairs", "Pair", "PAIR", " pair", "pair ", "pair/2", "fst", "pk", "ok", "use", "all", "\x00", "\xff", "pair\x00", strings.Repeat("pair", 1<<16)} {
		if e, is := Get(name); is || !reflect.DeepEqual(e, Entry{}) {
			t.Errorf("Get(%.20q) = %v, %v", name, e, is)
		}
		for _, th := range []api.Theory{{}, All(), {Funs: []api.Fun{{Name: "F", Arity: 9}}}, {Rules: numbers(30)}} {
			if got, e := Use(th, name); e != api.ErrNone || !reflect.DeepEqual(got, api.Theory{}) {
				t.Errorf("Use(%.20q) = %v, %d", name, got, e)
			}
		}
	}
}

// P12.2: what is used, behind what is there.
func TestUse(t *testing.T) {
	for _, c := range []struct{ there, name, want string }{
		{"", "pair", of("pair")}, {"", "hash", of("hash")}, {"fun f/1. rule f(X) = X.", "hash", "fun f/1. fun hash/1. fun mac/2. rule f(X) = X."},
		{"fun f/1. rule f(X) = X.", "senc", "fun f/1. fun senc/2. fun sdec/2. rule f(X) = X. rule sdec(senc(X, K), K) = X."},
		{of("pair"), "pair", of("pair")}, {of("sign"), "sign", of("sign")}, {of("hash"), "hash", of("hash")},
		{of("aenc"), "raenc", of("aenc") + " fun raenc/3. fun radec/2. rule radec(raenc(X, R, pk(K)), K) = X."}, {of("raenc"), "aenc", of("raenc") + " fun aenc/2. fun adec/2. rule adec(aenc(X, pk(K)), K) = X."},
		// A rule that is there is left out whatever its variables' names, and keeps its own; what isn't quite that rule doesn't count.
		{"rule fst(pair(B, A)) = B.", "pair", "rule fst(pair(B, A)) = B. rule snd(pair(X, Y)) = Y. fun pair/2. fun fst/1. fun snd/1."},
		{"rule snd(pair(Y, X)) = X. rule fst(pair(Y, X)) = Y.", "pair", "rule snd(pair(Y, X)) = X. rule fst(pair(Y, X)) = Y. fun pair/2. fun fst/1. fun snd/1."},
		{"rule fst(pair(X, Y)) = Y.", "pair", "rule fst(pair(X, Y)) = Y. " + of("pair")}, {"rule fst(pair(X, X)) = X.", "pair", "rule fst(pair(X, X)) = X. " + of("pair")}, {"rule fst(pair(x, Y)) = x.", "pair", "rule fst(pair(x, Y)) = x. " + of("pair")},
		{"rule X = fst(pair(X, Y)).", "pair", "rule X = fst(pair(X, Y)). " + of("pair")}, {"rule open(sign(X, K)) = X. rule open(sign(X, K)) = X.", "sign", "rule open(sign(X, K)) = X. rule open(sign(X, K)) = X. " + strings.Replace(of("sign"), "rule open(sign(X, K)) = X.", "", 1)},
		{"fun snd/1. fun f/0. fun pair/2.", "pair", "fun snd/1. fun f/0. fun pair/2. fun fst/1. rule fst(pair(X, Y)) = X. rule snd(pair(X, Y)) = Y."},
	} {
		th := theory(t, c.there)
		got, e := Use(th, c.name)
		if want := theory(t, c.want); e != api.OK || !same(got, want) {
			t.Errorf("Use(%s, %s) = %v, %d", c.there, c.name, got, e)
		}
	}
}

// P12.2: the errors, and which of them is the first.
func TestUseErrors(t *testing.T) {
	symbols := func(n int) []api.Fun {
		var l []api.Fun
		for i := range n {
			l = append(l, api.Fun{Name: "f" + strconv.Itoa(i)})
		}
		return l
	}
	with := func(n int, more ...api.Rule) []api.Rule { return append(numbers(n), more...) }
	fst := theory(t, of("pair")).Rules[0]
	for _, c := range []struct {
		funs  []api.Fun
		rules []api.Rule
		name  string
		want  api.Errno
	}{
		{nil, numbers(22), "pair", api.OK}, {nil, numbers(23), "pair", api.ErrLong}, {nil, numbers(24), "pair", api.ErrLong}, {nil, numbers(23), "senc", api.OK}, {nil, numbers(24), "senc", api.ErrLong},
		{nil, with(22, fst), "pair", api.OK}, {nil, with(23, fst), "pair", api.ErrLong}, {nil, numbers(24), "hash", api.OK}, {nil, numbers(25), "hash", api.ErrLong}, {nil, with(22, theory(t, of("wrap")).Rules...), "wrap", api.OK}, {nil, with(23, theory(t, of("wrap")).Rules...), "wrap", api.ErrLong},
		{symbols(37), nil, "pair", api.OK}, {symbols(38), nil, "pair", api.ErrLong}, {symbols(38), nil, "hash", api.OK}, {symbols(39), nil, "hash", api.ErrLong}, {symbols(40), nil, "senc", api.ErrLong}, {append(symbols(50), theory(t, of("senc")).Funs...), nil, "senc", api.OK},
		{[]api.Fun{{Name: "pk", Arity: 2}}, nil, "aenc", api.ErrTwice}, {[]api.Fun{{Name: "pk", Arity: 1}}, nil, "aenc", api.OK}, {[]api.Fun{{Name: "ok", Arity: 1}}, nil, "sign", api.ErrTwice}, {[]api.Fun{{Name: "ok", Arity: 1}}, nil, "pair", api.OK},
		{[]api.Fun{{Name: "pk", Arity: 2}}, numbers(24), "aenc", api.ErrTwice}, {[]api.Fun{{Name: "pk", Arity: 2}}, numbers(24), "nothing", api.ErrNone}, {[]api.Fun{{Name: "pk", Arity: 2}}, numbers(24), "senc", api.ErrLong},
		{append(symbols(39), api.Fun{Name: "fst", Arity: 3}), nil, "pair", api.ErrLong}, {append(symbols(38), api.Fun{Name: "fst", Arity: 3}), nil, "pair", api.ErrTwice},
		{[]api.Fun{{Name: "F", Arity: -3}, {Name: "F", Arity: 9}}, []api.Rule{{}, {}}, "blind", api.OK}, {nil, make([]api.Rule, 22), "pair", api.OK}, {nil, make([]api.Rule, 23), "pair", api.ErrLong},
	} {
		th := api.Theory{Funs: c.funs, Rules: c.rules}
		got, e := Use(th, c.name)
		want, we := useByRule(t, th, c.name)
		if e != c.want || we != c.want || !same(got, want) {
			t.Errorf("Use(%d functions, %d rules, %s) = %v, %d; want %d", len(c.funs), len(c.rules), c.name, got, e, c.want)
		}
	}
}

// P12.2, held against the words of the rule: from several theories on, each two primitives, one behind the other; and the chapter's example.
func TestUseByRule(t *testing.T) {
	starts := []string{"", "fun f/1. rule f(X) = X.", "fun pk/2.", "fun pk/1.", "rule sdec(senc(A, B), B) = A. rule bopen(bsign(X, Y)) = X. rule bopen(bsign(X, Y)) = Y.", "rule probe(wrap(yes, K), K) = yes. rule probe(wrap(K, X), X) = yes.", "fun yes/1.", "fun ok/0. fun open/1. rule check(sign(K, X), vk(X)) = ok. rule check(sign(K, X), vk(K)) = ok."}
	for _, start := range starts {
		th := theory(t, start)
		for _, a := range append(Names(), "none") {
			first, once := Use(th, a)
			if want, we := useByRule(t, th, a); once != we || !same(first, want) {
				t.Fatalf("Use(%s, %s) = %v, %d; want %v, %d", start, a, first, once, want, we)
			}
			for _, b := range append(Names(), "none") {
				second, e := Use(first, b)
				if want, we := useByRule(t, first, b); e != we || !same(second, want) {
					t.Fatalf("Use(Use(%s, %s), %s) = %v, %d; want %v, %d", start, a, b, second, e, want, we)
				}
				if a == b && once == api.OK && !same(first, second) {
					t.Fatalf("Use of %s twice isn't the same as once: %v", a, second)
				}
			}
		}
	}
}

// P12.2: all primitives together, each once.
func TestAll(t *testing.T) {
	var want api.Theory
	for _, c := range chapter {
		want, _ = useByRule(t, want, c.name)
	}
	all := All()
	if !same(all, want) || len(all.Funs) != 27 || len(all.Rules) != 12 || Rules() != 12 {
		t.Errorf("All() = %v, of %d rules", all, Rules())
	}
	for _, name := range Names() {
		if again, e := Use(all, name); e != api.OK || !same(again, all) {
			t.Errorf("Use(All(), %s) = %v, %d", name, again, e)
		}
	}
}

// P12.1 with G1: each primitive, written as a text, is one that the grammar reads, with words that may be words.
func TestAsText(t *testing.T) {
	all := All()
	text := ""
	for _, f := range all.Funs {
		text += "fun " + f.Name + "/" + strconv.Itoa(f.Arity) + ". "
	}
	for _, r := range all.Rules {
		text += "rule " + term.Show(r.L) + " = " + term.Show(r.R) + ". "
	}
	if _, fault := lex.Scan(text); fault.Err != api.OK {
		t.Fatal(fault)
	}
	if !same(theory(t, text), all) {
		t.Error(text)
	}
}

// spoil writes something else into all lists of a theory, also into its terms'.
func spoil(th api.Theory) {
	for i := range th.Funs {
		th.Funs[i] = api.Fun{Name: "spoilt", Arity: 5}
	}
	for i, r := range th.Rules {
		spoilTerm(r.L)
		spoilTerm(r.R)
		th.Rules[i] = number(7)
	}
}

// spoilTerm writes something else into a term's lists.
func spoilTerm(x api.Term) {
	for i, a := range x.Args {
		spoilTerm(a)
		x.Args[i] = term.Fun("spoilt")
	}
}

// P2: what is done to an answer is seen in no other one.
func TestOwn(t *testing.T) {
	l := Names()
	for i := range l {
		l[i] = "spoilt"
	}
	for range 2 {
		spoil(All())
		for _, c := range chapter {
			e, _ := Get(c.name)
			spoil(theoryOf(e))
			th, _ := Use(api.Theory{}, c.name)
			spoil(th)
		}
	}
	TestNames(t)
	TestGet(t)
	TestAll(t)
}

// P2: nothing that is handed in is changed, also not behind its length, and what is answered shares no list with it.
func TestUnchanged(t *testing.T) {
	behind, last := api.Fun{Name: "behind", Arity: 3}, number(99)
	for _, c := range chapter {
		for _, start := range []string{"", "fun f/1. rule f(X) = X.", c.text, of("aenc")} {
			th := theory(t, start)
			roomy := api.Theory{Funs: append(append(make([]api.Fun, 0, len(th.Funs)+40), th.Funs...), behind)[:len(th.Funs)], Rules: append(append(make([]api.Rule, 0, len(th.Rules)+40), th.Rules...), last)[:len(th.Rules)]}
			got, e := Use(roomy, c.name)
			again, _ := Use(roomy, c.name)
			want, _ := useByRule(t, th, c.name)
			for i := range got.Funs {
				got.Funs[i] = behind
			}
			for i := range got.Rules {
				got.Rules[i] = last
			}
			if e != api.OK || !same(roomy, th) || !same(again, want) || roomy.Funs[:len(th.Funs)+1][len(th.Funs)] != behind || !sameRule(roomy.Rules[:len(th.Rules)+1][len(th.Rules)], last) {
				t.Error("changed:", start, c.name, roomy, again, e)
			}
		}
	}
}

// P3: a nil list and an empty one are the same; and of nothing there is nothing.
func TestNone(t *testing.T) {
	for _, none := range []api.Theory{{}, {Funs: []api.Fun{}, Rules: []api.Rule{}}, {Funs: make([]api.Fun, 0, 3)}, {Rules: make([]api.Rule, 0, 3)}} {
		for _, c := range chapter {
			if got, e := Use(none, c.name); e != api.OK || !same(got, theory(t, c.text)) {
				t.Errorf("Use(none, %s) = %v, %d", c.name, got, e)
			}
		}
	}
	empty := theory(t, of("sign"))
	empty.Rules[0].R.Args = []api.Term{}
	if got, e := Use(empty, "sign"); e != api.OK || len(got.Rules) != 2 {
		t.Error("a constant is one without arguments, and without a list:", got, e)
	}
}

// P1: theories that are long, or lie deep, up to the bound, and odd ones.
func TestWild(t *testing.T) {
	const deep = 1<<16 - 1
	x := term.Var("X")
	for range deep {
		x = term.Fun("f", x)
	}
	nested := api.Theory{Rules: []api.Rule{{L: x, R: term.Var("X")}, {L: term.Fun("fst", term.Fun("pair", term.Var("A"), x)), R: term.Var("A")}}}
	if got, e := Use(nested, "pair"); e != api.OK || len(got.Rules) != 4 {
		t.Error("deep:", e, len(got.Rules))
	}
	for _, name := range append(Names(), "none") {
		long := api.Theory{Funs: make([]api.Fun, 1<<16), Rules: make([]api.Rule, 1<<16)}
		want := api.ErrLong
		if name == "none" {
			want = api.ErrNone
		}
		if got, e := Use(long, name); e != want || !reflect.DeepEqual(got, api.Theory{}) {
			t.Error("long:", name, e)
		}
	}
	odd := api.Theory{Funs: []api.Fun{{Name: "", Arity: -1}, {Name: "\xff", Arity: 1 << 40}}, Rules: []api.Rule{{}, {L: api.Term{Kind: -1, N: -5, Args: []api.Term{{}}}, R: api.Term{Kind: 99}}, {L: term.Var("X"), R: term.Var("Y")}}}
	for _, name := range Names() {
		got, e := Use(odd, name)
		if want, we := useByRule(t, odd, name); e != we || !same(got, want) {
			t.Error("odd:", name, got, e)
		}
	}
}
