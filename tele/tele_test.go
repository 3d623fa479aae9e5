package tele

import (
	"math"
	"reflect"
	"runtime/debug"
	"slices"
	"testing"

	"porism/api"
	"porism/term"
)

func leaf(kind, n int) api.Term { return api.Term{Kind: kind, N: n} }

func node(kind int, kids ...api.Term) api.Term { return api.Term{Kind: kind, Kids: kids} }

func v(n int) api.Term { return leaf(api.Var, n) }
func u(n int) api.Term { return leaf(api.Univ, n) }
func c(n int) api.Term { return leaf(api.Const, n) }

func pi(a, b api.Term) api.Term  { return node(api.Pi, a, b) }
func lam(a, b api.Term) api.Term { return node(api.Lam, a, b) }
func app(a, b api.Term) api.Term { return node(api.App, a, b) }

func row(args ...api.Term) []api.Term { return args }

// numbered is t with that N, which no right term that is no leaf has.
func numbered(n int, t api.Term) api.Term {
	t.N = n
	return t
}

// chain is a term of so many nodes below one another, with inner as the last of them.
func chain(depth int, inner api.Term) api.Term {
	t := inner
	for range depth - 1 {
		t = node(api.Fst, t)
	}
	return t
}

// arity is what chapter 1 says of the kinds, written out; its index is the kind.
var arity = []int{-1, 0, 0, 0, 2, 2, 2, 2, 3, 1, 1, 3, 2, 3}

// right is terms of one, two and three storeys.
func right() []api.Term {
	all := row(v(0), v(1), v(65535), u(0), u(6), c(0), c(65535))
	for kind := api.Pi; kind <= api.Jay; kind++ {
		for _, a := range row(v(0), u(3), pi(u(1), v(0)), app(v(2), c(1)), lam(v(4), app(v(0), v(1)))) {
			for i := range arity[kind] {
				kids := row(v(1), c(2), u(0))[:arity[kind]]
				kids[i] = a
				all = append(all, node(kind, kids...))
			}
		}
	}
	return all
}

// odd is terms that aren't right: of no kind, with wrong numbers, with Kids too many or too few.
func odd() []api.Term {
	all := row(
		api.Term{}, leaf(0, 9), leaf(api.Jay+1, 0), leaf(-api.App, 3), leaf(math.MinInt, math.MaxInt),
		v(-1), v(65536), v(math.MinInt), u(math.MaxInt), c(-5),
		node(0, v(0), v(1)), node(20, v(0), v(1)), node(-api.Pi, v(0), v(1)),
		api.Term{Kind: api.Var, N: 3, Kids: []api.Term{}},
		api.Term{Kind: api.Var, N: 3, Kids: row(app(v(0), v(1)), u(2))},
	)
	for kind := api.Var; kind <= api.Jay; kind++ {
		for n := range 5 {
			kids := row(v(0), c(1), pi(u(0), v(3)), api.Term{})[:n]
			if n != arity[kind] {
				all = append(all, node(kind, kids...), numbered(7, node(kind, kids...)))
			}
			all = append(all, numbered(-1, node(kind, kids...)), numbered(math.MaxInt, node(kind, kids...)))
		}
	}
	return all
}

func anyTerms() []api.Term {
	return append(right(), odd()...)
}

// rows is lists: empty, of one, of several, of right terms and of others.
func rows() [][]api.Term {
	return [][]api.Term{
		nil,
		{},
		row(u(0)),
		row(app(v(1), v(0))),
		row(pi(u(1), v(0)), lam(u(1), v(0))),
		row(u(0), v(0), app(v(1), v(0))),
		row(app(app(c(1), v(1)), v(2)), pi(u(0), pi(v(0), v(1))), node(api.Id, v(1), v(0), c(9)), v(3)),
		row(api.Term{}, v(-1), node(api.App, v(0), v(1), v(2))),
		odd()[:20],
	}
}

func sameRow(a, b []api.Term) bool {
	return slices.EqualFunc(a, b, term.Equal)
}

// P6.1: ordinary lists, by hand; Lams differs in its kind alone.
func TestPisAndLams(t *testing.T) {
	for _, x := range []struct {
		l         []api.Term
		body      api.Term
		pis, lams api.Term
	}{
		{nil, v(4), v(4), v(4)},
		{nil, pi(u(0), v(0)), pi(u(0), v(0)), pi(u(0), v(0))},
		{row(u(0)), v(0), pi(u(0), v(0)), lam(u(0), v(0))},
		{row(u(0), v(0)), v(1), pi(u(0), pi(v(0), v(1))), lam(u(0), lam(v(0), v(1)))},
		{row(u(0), v(0), app(v(1), v(0))), c(3), pi(u(0), pi(v(0), pi(app(v(1), v(0)), c(3)))), lam(u(0), lam(v(0), lam(app(v(1), v(0)), c(3))))},
		{row(pi(u(1), u(2))), lam(u(3), v(0)), pi(pi(u(1), u(2)), lam(u(3), v(0))), lam(pi(u(1), u(2)), lam(u(3), v(0)))},
		{row(u(5), u(4)), pi(u(3), u(2)), pi(u(5), pi(u(4), pi(u(3), u(2)))), lam(u(5), lam(u(4), pi(u(3), u(2))))},
		{row(v(-1), api.Term{}), node(api.Pi, v(9)), pi(v(-1), pi(api.Term{}, node(api.Pi, v(9)))), lam(v(-1), lam(api.Term{}, node(api.Pi, v(9))))},
	} {
		if got := Pis(x.l, x.body); !term.Equal(got, x.pis) {
			t.Error(x.l, x.body, "by Pis:", got)
		}
		if got := Lams(x.l, x.body); !term.Equal(got, x.lams) {
			t.Error(x.l, x.body, "by Lams:", got)
		}
	}
}

// P6.1: ordinary args, by hand.
func TestSpine(t *testing.T) {
	for _, x := range []struct {
		f    api.Term
		args []api.Term
		want api.Term
	}{
		{c(3), nil, c(3)},
		{app(c(3), v(0)), nil, app(c(3), v(0))},
		{c(3), row(v(0)), app(c(3), v(0))},
		{c(3), row(v(0), u(0)), app(app(c(3), v(0)), u(0))},
		{c(3), row(v(2), v(1), v(0)), app(app(app(c(3), v(2)), v(1)), v(0))},
		{app(c(3), v(9)), row(v(1), v(0)), app(app(app(c(3), v(9)), v(1)), v(0))},
		{v(0), row(app(v(1), v(2)), app(v(3), v(4))), app(app(v(0), app(v(1), v(2))), app(v(3), v(4)))},
		{lam(u(0), v(0)), row(lam(u(1), v(0))), app(lam(u(0), v(0)), lam(u(1), v(0)))},
		{api.Term{}, row(v(-1), api.Term{}), app(app(api.Term{}, v(-1)), api.Term{})},
	} {
		if got := Spine(x.f, x.args); !term.Equal(got, x.want) {
			t.Error(x.f, x.args, got)
		}
	}
}

// P6.1: the longest list, by hand; only Apps with two Kids count, whatever their N.
func TestUnspine(t *testing.T) {
	three := node(api.App, v(0), v(1), v(2))
	for _, x := range []struct {
		t, f api.Term
		args []api.Term
	}{
		{v(3), v(3), nil},
		{api.Term{}, api.Term{}, nil},
		{app(c(3), v(0)), c(3), row(v(0))},
		{app(app(app(c(3), v(2)), v(1)), v(0)), c(3), row(v(2), v(1), v(0))},
		{app(v(0), app(v(1), v(2))), v(0), row(app(v(1), v(2)))},
		{app(app(v(0), app(app(v(1), v(2)), v(3))), v(4)), v(0), row(app(app(v(1), v(2)), v(3)), v(4))},
		{app(lam(u(0), app(v(0), v(1))), v(5)), lam(u(0), app(v(0), v(1))), row(v(5))},
		{numbered(7, app(c(3), v(0))), c(3), row(v(0))},
		{numbered(-1, app(numbered(math.MaxInt, app(c(3), v(1))), v(0))), c(3), row(v(1), v(0))},
		{app(numbered(1, app(app(c(3), v(2)), v(1))), v(0)), c(3), row(v(2), v(1), v(0))},
		{three, three, nil},
		{app(three, v(5)), three, row(v(5))},
		{node(api.App, app(v(0), v(1)), v(2), v(3)), node(api.App, app(v(0), v(1)), v(2), v(3)), nil},
		{node(api.App, app(v(0), v(1))), node(api.App, app(v(0), v(1))), nil},
		{app(node(api.App), v(5)), node(api.App), row(v(5))},
		{numbered(4, three), numbered(4, three), nil},
		{app(v(0), numbered(4, app(v(1), v(2)))), v(0), row(numbered(4, app(v(1), v(2))))},
		{app(numbered(4, lam(v(0), v(1))), v(2)), numbered(4, lam(v(0), v(1))), row(v(2))},
		{pi(app(v(0), v(1)), app(v(2), v(3))), pi(app(v(0), v(1)), app(v(2), v(3))), nil},
	} {
		if f, args := Unspine(x.t); !term.Equal(f, x.f) || !sameRow(args, x.args) {
			t.Error(x.t, "gives", f, args)
		}
	}
}

// P6.1: all the Pis in front, by hand; only those with two Kids count, whatever their N.
func TestUnpis(t *testing.T) {
	three := node(api.Pi, v(0), v(1), v(2))
	for _, x := range []struct {
		t, inside api.Term
		domains   []api.Term
	}{
		{v(3), v(3), nil},
		{api.Term{}, api.Term{}, nil},
		{pi(u(0), v(0)), v(0), row(u(0))},
		{pi(u(0), pi(v(0), pi(v(1), v(5)))), v(5), row(u(0), v(0), v(1))},
		{pi(pi(u(0), u(1)), u(2)), u(2), row(pi(u(0), u(1)))},
		{pi(u(0), app(pi(u(1), u(2)), u(3))), app(pi(u(1), u(2)), u(3)), row(u(0))},
		{pi(u(0), lam(u(1), pi(u(2), u(3)))), lam(u(1), pi(u(2), u(3))), row(u(0))},
		{numbered(7, pi(u(0), v(0))), v(0), row(u(0))},
		{numbered(-1, pi(u(0), numbered(math.MaxInt, pi(u(1), v(0))))), v(0), row(u(0), u(1))},
		{pi(u(0), numbered(1, pi(u(1), pi(u(2), v(0))))), v(0), row(u(0), u(1), u(2))},
		{three, three, nil},
		{pi(v(5), three), three, row(v(5))},
		{node(api.Pi, v(0), pi(v(1), v(2)), v(3)), node(api.Pi, v(0), pi(v(1), v(2)), v(3)), nil},
		{node(api.Pi, pi(v(1), v(2))), node(api.Pi, pi(v(1), v(2))), nil},
		{pi(v(5), node(api.Pi)), node(api.Pi), row(v(5))},
		{numbered(4, three), numbered(4, three), nil},
		{pi(numbered(4, pi(v(1), v(2))), v(0)), v(0), row(numbered(4, pi(v(1), v(2))))},
		{pi(v(2), numbered(4, node(api.Sig, v(0), v(1)))), numbered(4, node(api.Sig, v(0), v(1))), row(v(2))},
		{lam(u(0), pi(u(1), u(2))), lam(u(0), pi(u(1), u(2))), nil},
	} {
		if domains, inside := Unpis(x.t); !term.Equal(inside, x.inside) || !sameRow(domains, x.domains) {
			t.Error(x.t, "gives", domains, inside)
		}
	}
}

// P6.1: of all kinds with two Kids only App is taken apart by Unspine, and only Pi by Unpis.
func TestOnlyTheirOwnKind(t *testing.T) {
	for kind := -1; kind <= 20; kind++ {
		x := node(kind, v(0), v(1))
		if f, args := Unspine(x); (kind == api.App) != (len(args) == 1) || (kind == api.App) == term.Equal(f, x) {
			t.Error(kind, f, args)
		}
		if domains, inside := Unpis(x); (kind == api.Pi) != (len(domains) == 1) || (kind == api.Pi) == term.Equal(inside, x) {
			t.Error(kind, domains, inside)
		}
	}
}

// P6.1: the variables, from the outermost to Var 0, up to the greatest number; none beyond it, and none below 1.
func TestVars(t *testing.T) {
	for _, n := range []int{1, 2, 3, 12, 40, 41, 200, 1000, 65535, 65536} {
		got := Vars(n)
		if len(got) != n {
			t.Fatal(n, len(got))
		}
		for i, x := range got {
			if x.Kind != api.Var || x.N != n-1-i || x.Kids != nil {
				t.Fatal(n, i, x)
			}
		}
	}
	for _, n := range []int{0, -1, -2, -65536, 65537, 65538, 1 << 17, 1 << 32, 1<<32 + 1, math.MaxInt, math.MaxInt - 1, math.MinInt, math.MinInt + 1} {
		if got := Vars(n); len(got) != 0 {
			t.Error(n, len(got))
		}
	}
}

// plainPis is the chapter's sentence: the first element, and then the remaining ones and the body.
func plainPis(kind int, l []api.Term, body api.Term) api.Term {
	if len(l) == 0 {
		return body
	}
	return node(kind, l[0], plainPis(kind, l[1:], body))
}

// plainSpine applies f to all but the last, and that to the last.
func plainSpine(f api.Term, args []api.Term) api.Term {
	if len(args) == 0 {
		return f
	}
	last := len(args) - 1
	return app(plainSpine(f, args[:last]), args[last])
}

// taken is a term's front taken off: the side that leads on, and the other sides in the order in which they are met.
func taken(kind, on int, t api.Term) (api.Term, []api.Term) {
	if t.Kind != kind || len(t.Kids) != 2 {
		return t, nil
	}
	rest, l := taken(kind, on, t.Kids[on])
	return rest, append(row(t.Kids[1-on]), l...)
}

// P6.1: all against the chapter's sentences, of terms that are right and others.
func TestAgainstThePlainWords(t *testing.T) {
	for _, x := range anyTerms() {
		for _, l := range append(rows(), row(x), row(x, x), row(v(1), x), row(x, u(0), x)) {
			pis, lams, spine := plainPis(api.Pi, l, x), plainPis(api.Lam, l, x), plainSpine(x, l)
			if !term.Equal(Pis(l, x), pis) || !term.Equal(Lams(l, x), lams) || !term.Equal(Spine(x, l), spine) {
				t.Fatal(x, l)
			}
			for _, y := range row(x, pis, lams, spine, numbered(3, pis), numbered(3, spine), pi(u(0), spine), app(pis, u(0))) {
				wantF, wantArgs := taken(api.App, 0, y)
				slices.Reverse(wantArgs)
				if f, args := Unspine(y); !term.Equal(f, wantF) || !sameRow(args, wantArgs) {
					t.Fatal(y, f, args)
				}
				wantIn, wantDomains := taken(api.Pi, 1, y)
				if domains, inside := Unpis(y); !term.Equal(inside, wantIn) || !sameRow(domains, wantDomains) {
					t.Fatal(y, domains, inside)
				}
			}
		}
	}
}

// P6.2: Unspine and Unpis give back what was built, where what was inside is not of their own kind.
func TestTakeApartWhatWasBuilt(t *testing.T) {
	apps, pis := 0, 0
	for _, x := range anyTerms() {
		for _, l := range append(rows(), row(x), row(x, v(0), x)) {
			if x.Kind != api.App || len(x.Kids) != 2 {
				apps++
				if f, args := Unspine(Spine(x, l)); !term.Equal(f, x) || !sameRow(args, l) {
					t.Fatal(x, l, f, args)
				}
			}
			if x.Kind != api.Pi || len(x.Kids) != 2 {
				pis++
				if domains, inside := Unpis(Pis(l, x)); !term.Equal(inside, x) || !sameRow(domains, l) {
					t.Fatal(x, l, domains, inside)
				}
			}
		}
	}
	if apps < 1000 || pis < 1000 {
		t.Error(apps, pis)
	}
}

// P6.2: where it is, its own args and domains come with them; and what is taken apart of a right term is built again.
func TestBuildAgain(t *testing.T) {
	for _, x := range anyTerms() {
		f, args := Unspine(x)
		domains, inside := Unpis(x)
		if term.Check(x) == api.OK && (!term.Equal(Spine(f, args), x) || !term.Equal(Pis(domains, inside), x)) {
			t.Error(x)
		}
		for _, l := range rows() {
			if g, all := Unspine(Spine(x, l)); !term.Equal(g, f) || !sameRow(all, slices.Concat(args, l)) {
				t.Fatal(x, l, g, all)
			}
			if all, rest := Unpis(Pis(l, x)); !term.Equal(rest, inside) || !sameRow(all, slices.Concat(l, domains)) {
				t.Fatal(x, l, all, rest)
			}
		}
	}
}

// P6.1: no bound of a right term holds here: neither its size, nor its depth.
func TestBeyondTheBounds(t *testing.T) {
	many := make([]api.Term, 20000)
	for i := range many {
		many[i] = c(i % 65536)
	}
	wide, deep := node(20, many...), chain(5000, v(1))
	if f, args := Unspine(Spine(wide, many)); !term.Equal(f, wide) || !sameRow(args, many) {
		t.Error("Spine", f.Kind, len(args))
	}
	if domains, inside := Unpis(Pis(many, deep)); !term.Equal(inside, deep) || !sameRow(domains, many) {
		t.Error("Pis", len(domains), inside.Kind)
	}
	in := Lams(many, deep)
	for i := range many {
		if in.Kind != api.Lam || len(in.Kids) != 2 || !term.Equal(in.Kids[0], c(i)) {
			t.Fatal("Lams", i, in.Kind)
		}
		in = in.Kids[1]
	}
	if !term.Equal(in, deep) {
		t.Error("Lams", in.Kind)
	}
}

// R1: terms far deeper than right ones are copied, built and taken apart without a stack as deep.
func TestVeryDeepTerms(t *testing.T) {
	defer debug.SetMaxStack(debug.SetMaxStack(16 << 20))
	const far = 400_000
	deep := chain(far, c(5))
	long := make([]api.Term, far)
	for i := range long {
		long[i] = v(i)
	}
	if x := Pis(row(u(0), deep), deep); !term.Equal(x, pi(u(0), pi(deep, deep))) {
		t.Error("Pis")
	}
	if x := Lams(row(deep), u(0)); !term.Equal(x, lam(deep, u(0))) {
		t.Error("Lams")
	}
	if x := Spine(deep, row(u(0), deep)); !term.Equal(x, app(app(deep, u(0)), deep)) {
		t.Error("Spine")
	}
	spine, pis, lams := Spine(deep, long), Pis(long, deep), Lams(long, deep)
	if f, args := Unspine(spine); !term.Equal(f, deep) || !sameRow(args, long) {
		t.Error("Unspine", f.Kind, len(args))
	}
	if domains, inside := Unpis(pis); !term.Equal(inside, deep) || !sameRow(domains, long) {
		t.Error("Unpis", len(domains), inside.Kind)
	}
	for _, x := range row(deep, lams) {
		f, args := Unspine(x)
		domains, inside := Unpis(x)
		if !term.Equal(f, x) || len(args) != 0 || !term.Equal(inside, x) || len(domains) != 0 {
			t.Error("nothing to take apart", x.Kind)
		}
	}
}

// roomy is a copy of the term with spare capacity behind each list, which holds terms that must stay as they are.
func roomy(t api.Term) api.Term {
	t.Kids = roomyRow(t.Kids)
	return t
}

func roomyRow(l []api.Term) []api.Term {
	out := make([]api.Term, 0, len(l)+2)
	for _, k := range l {
		out = append(out, roomy(k))
	}
	spare := out[:cap(out)]
	for i := len(out); i < len(spare); i++ {
		spare[i] = lam(v(2), v(3))
	}
	return out
}

func spareKept(l []api.Term) bool {
	for i, k := range l[:cap(l)] {
		if i < len(l) && !spareKept(k.Kids) || i >= len(l) && !term.Equal(k, lam(v(2), v(3))) {
			return false
		}
	}
	return true
}

// R2, R6: what is handed in stays as it is, and what lies behind its lists is not looked at.
func TestArgumentsStay(t *testing.T) {
	for _, x := range anyTerms() {
		for _, l := range rows() {
			given, givenL := roomy(x), roomyRow(l)
			if !term.Equal(Pis(givenL, given), Pis(l, x)) || !term.Equal(Lams(givenL, given), Lams(l, x)) || !term.Equal(Spine(given, givenL), Spine(x, l)) {
				t.Fatal(x, l)
			}
			f, args := Unspine(given)
			wantF, wantArgs := Unspine(x)
			domains, inside := Unpis(given)
			wantDomains, wantIn := Unpis(x)
			if !term.Equal(f, wantF) || !sameRow(args, wantArgs) || !sameRow(domains, wantDomains) || !term.Equal(inside, wantIn) {
				t.Fatal(x)
			}
			if !term.Equal(given, x) || !sameRow(givenL, l) || !spareKept(given.Kids) || !spareKept(givenL) {
				t.Fatal(x, l, "are others now")
			}
		}
	}
}

// copyOf is a copy in new memory, by plain recursion.
func copyOf(t api.Term) api.Term {
	out := api.Term{Kind: t.Kind, N: t.N}
	for _, k := range t.Kids {
		out.Kids = append(out.Kids, copyOf(k))
	}
	return out
}

// memory is the places that were met so far. As pointers they keep what they point to from being used again.
type memory map[*api.Term]bool

// fresh tells whether no place of the list, its spare capacity and all that lies within it was met before.
func (m memory) fresh(l []api.Term) bool {
	before := len(m)
	places := 0
	var meet func([]api.Term)
	meet = func(l []api.Term) {
		spare := l[:cap(l)]
		places += len(spare)
		for i := range spare {
			m[&spare[i]] = true
		}
		for _, k := range l {
			meet(k.Kids)
		}
	}
	meet(l)
	return len(m) == before+places
}

// R2: what is built is new memory, each place of one term as well, and where there is nothing to build.
func TestBuiltIsNewMemory(t *testing.T) {
	for _, x := range anyTerms() {
		for _, l := range append(rows(), row(x), row(x, x), row(x, u(0), x)) {
			met := memory{}
			met.fresh(l)
			met.fresh(x.Kids)
			for range 2 {
				for i, got := range row(Pis(l, x), Lams(l, x), Spine(x, l)) {
					if !met.fresh(got.Kids) {
						t.Fatal(x, l, i)
					}
				}
			}
		}
	}
}

// R2: what is taken apart is new memory: the list, each of its terms, and the term beside it.
func TestTakenApartIsNewMemory(t *testing.T) {
	for _, x := range anyTerms() {
		for _, y := range row(x, app(x, x), pi(x, x), app(app(x, v(0)), x), pi(x, pi(v(0), x)), pi(app(x, x), app(x, x))) {
			met := memory{}
			met.fresh(y.Kids)
			for range 2 {
				f, args := Unspine(y)
				domains, inside := Unpis(y)
				if !met.fresh(args) || !met.fresh(f.Kids) || !met.fresh(domains) || !met.fresh(inside.Kids) {
					t.Fatal(y)
				}
			}
		}
	}
	met := memory{}
	for range 2 {
		for _, n := range []int{1, 2, 20} {
			if !met.fresh(Vars(n)) {
				t.Error(n)
			}
		}
	}
}

// R2: an empty list with spare capacity is not handed on either.
func TestEmptyListsAreNotHandedOn(t *testing.T) {
	spare := make([]api.Term, 0, 4)
	x := api.Term{Kind: api.Univ, N: 2, Kids: spare}
	f, none := Unspine(x)
	_, args := Unspine(app(v(0), x))
	domains, inside := Unpis(pi(x, x))
	met := memory{}
	met.fresh(spare)
	for i, l := range [][]api.Term{Pis(nil, x).Kids, Lams(spare, x).Kids, Spine(x, spare).Kids, Pis(row(x), x).Kids, Lams(row(x), x).Kids, Spine(x, row(x)).Kids, f.Kids, none, args, domains, inside.Kids} {
		if !met.fresh(l) {
			t.Error(i)
		}
	}
}

// R2, R4: the result of one call is whole: what was built has N 0, and leaves have no list.
func TestResultsAreWhole(t *testing.T) {
	for _, x := range right() {
		for _, l := range [][]api.Term{nil, row(v(0)), row(app(v(1), v(0)), u(0)), row(pi(u(0), v(0)), c(1), x)} {
			given, givenL := roomy(x), roomyRow(l)
			if got := Pis(givenL, given); !reflect.DeepEqual(got, copyOf(plainPis(api.Pi, l, x))) {
				t.Error(x, l, got)
			}
			if got := Lams(givenL, given); !reflect.DeepEqual(got, copyOf(plainPis(api.Lam, l, x))) {
				t.Error(x, l, got)
			}
			if got := Spine(given, givenL); !reflect.DeepEqual(got, copyOf(plainSpine(x, l))) {
				t.Error(x, l, got)
			}
		}
	}
}

// Example 1 of the chapter.
func TestExample(t *testing.T) {
	f, args := Unspine(app(app(c(3), v(0)), u(0)))
	if !term.Equal(f, c(3)) || !sameRow(args, row(v(0), u(0))) {
		t.Error(f, args)
	}
}
