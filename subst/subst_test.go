package subst

import (
	"math"
	"reflect"
	"runtime"
	"runtime/debug"
	"slices"
	"testing"

	"porism/api"
	"porism/shift"
	"porism/term"
)

func leaf(kind, n int) api.Term { return api.Term{Kind: kind, N: n} }

func node(kind int, kids ...api.Term) api.Term { return api.Term{Kind: kind, Kids: kids} }

func v(n int) api.Term { return leaf(api.Var, n) }
func u(n int) api.Term { return leaf(api.Univ, n) }
func c(n int) api.Term { return leaf(api.Const, n) }

func lam(a, b api.Term) api.Term { return node(api.Lam, a, b) }
func app(a, b api.Term) api.Term { return node(api.App, a, b) }

func row(args ...api.Term) []api.Term { return args }

// chain is a term of so many nodes below one another, with inner as the last of them.
func chain(depth int, inner api.Term) api.Term {
	t := inner
	for range depth - 1 {
		t = node(api.Fst, t)
	}
	return t
}

// under is inner below so many binders of the kind.
func under(kind, binders int, inner api.Term) api.Term {
	t := inner
	for range binders {
		t = node(kind, u(0), t)
	}
	return t
}

// bush is a term of so many nodes that is nowhere near too deep, with inner as each leaf.
func bush(size int, inner api.Term) api.Term {
	switch size {
	case 1:
		return inner
	case 2:
		return node(api.Snd, inner)
	}
	left := (size - 1) / 2
	return app(bush(left, inner), bush(size-1-left, inner))
}

// arity is what chapter 1 says of the kinds, written out; its index is the kind.
var arity = []int{-1, 0, 0, 0, 2, 2, 2, 2, 3, 1, 1, 3, 2, 3}

// binds is what chapter 1 says of the Kids with one more variable.
func binds(kind, i int) bool {
	return i == 1 && (kind == api.Pi || kind == api.Lam || kind == api.Sig)
}

// inner is a right term of the kind with these Kids, as many of them as it has.
func inner(kind int, kids ...api.Term) api.Term {
	return api.Term{Kind: kind, Kids: slices.Clone(kids[:arity[kind]])}
}

// small is right terms of one and two storeys.
func small() []api.Term {
	leaves := []api.Term{v(0), v(1), v(2), v(3), u(0), u(3), c(0), c(2), v(65534), v(65535)}
	all := slices.Clone(leaves)
	for kind := api.Pi; kind <= api.Jay; kind++ {
		for _, a := range leaves {
			all = append(all, inner(kind, a, u(1), v(2)), inner(kind, v(1), a, c(1)), inner(kind, c(3), v(0), a), inner(kind, a, a, a))
		}
	}
	return all
}

// towers is small's terms and each of them in each place of each kind.
func towers() []api.Term {
	all := small()
	for _, t := range small() {
		for kind := api.Pi; kind <= api.Jay; kind++ {
			for i := range arity[kind] {
				kids := []api.Term{v(1), v(2), v(0)}
				kids[i] = t
				all = append(all, inner(kind, kids...))
			}
		}
		all = append(all, under(api.Pi, 2, t), under(api.Sig, 3, t), lam(t, lam(t, t)))
	}
	return all
}

// rows is lists of args: none, one, several, with free and bound variables, small and great.
func rows() [][]api.Term {
	return [][]api.Term{
		nil,
		{},
		row(u(2)),
		row(v(0)),
		row(v(3)),
		row(v(65534)),
		row(lam(v(0), app(v(0), v(1)))),
		row(v(7), v(8)),
		row(lam(u(0), v(0)), node(api.Id, v(0), v(1), c(9))),
		row(v(65535), u(1)),
		row(c(1), v(65535)),
		row(app(v(2), v(2)), v(0), node(api.Sig, v(1), v(65534))),
		row(v(0), v(1), v(2), v(3), v(4)),
	}
}

type fault struct {
	name string
	t    api.Term
	want api.Errno
}

// wrong holds terms that aren't right, with the error that chapter 2 gives them.
func wrong() []fault {
	return []fault{
		{"zero", api.Term{}, api.ErrArg},
		{"no kind", leaf(api.Jay+1, 0), api.ErrArg},
		{"negative kind", leaf(-api.Var, 0), api.ErrArg},
		{"Var -1", v(-1), api.ErrArg},
		{"Var 65536", v(65536), api.ErrArg},
		{"Var MinInt", v(math.MinInt), api.ErrArg},
		{"Var MaxInt", v(math.MaxInt), api.ErrArg},
		{"Univ 65536", u(65536), api.ErrArg},
		{"Const -1", c(-1), api.ErrArg},
		{"Lam with N", api.Term{Kind: api.Lam, N: 1, Kids: row(u(0), v(0))}, api.ErrArg},
		{"Var with a Kid", node(api.Var, v(7)), api.ErrArg},
		{"Lam of one", node(api.Lam, v(7)), api.ErrArg},
		{"Fst of none", node(api.Fst), api.ErrArg},
		{"Fst of two", node(api.Fst, v(7), v(7)), api.ErrArg},
		{"far inside", lam(u(0), app(v(0), node(api.Refl, v(7), api.Term{}))), api.ErrArg},
		{"too great", bush(api.MaxSize+1, v(7)), api.ErrSize},
		{"too great, wide", node(20, make([]api.Term, api.MaxSize)...), api.ErrSize},
		{"too deep", chain(api.MaxDepth+1, v(7)), api.ErrDepth},
		{"too deep and wrong", chain(api.MaxDepth+1, v(-7)), api.ErrDepth},
	}
}

// noNumbers holds what is not from 0 to 65535.
var noNumbers = []int{-1, -2, -65536, 65536, 65537, 1 << 17, 1 << 32, 1<<32 + 1, math.MaxInt, math.MaxInt - 1, math.MinInt, math.MinInt + 1}

func none(t api.Term) bool {
	return t.Kind == 0 && t.N == 0 && len(t.Kids) == 0
}

// gives holds Inst to a term, and SizeOf to its size.
func gives(t *testing.T, x api.Term, args []api.Term, under int, want api.Term) {
	t.Helper()
	if got, e := Inst(x, args, under); e != api.OK || !term.Equal(got, want) {
		t.Error(x, args, "under", under, ":", got, e, "and not", want)
	}
	if got := SizeOf(x, args, under); got != term.Size(want) {
		t.Error(x, args, "under", under, ":", got, "and not", term.Size(want))
	}
}

// fails holds Inst to an error and to the zero Term beside it, and SizeOf to a size.
func fails(t *testing.T, x api.Term, args []api.Term, under int, want api.Errno, size int) {
	t.Helper()
	if got, e := Inst(x, args, under); e != want || !none(got) {
		t.Error("of kind", x.Kind, x.N, "with", len(args), "under", under, ":", got.Kind, e, "and not", want)
	}
	if got := SizeOf(x, args, under); got != size {
		t.Error("of kind", x.Kind, x.N, "with", len(args), "under", under, ": size", got, "and not", size)
	}
}

// P5.1, P5.2: ordinary terms, by hand.
func TestInst(t *testing.T) {
	for _, x := range []struct {
		t     api.Term
		args  []api.Term
		under int
		want  api.Term
	}{
		{v(0), row(u(3)), 0, u(3)},
		{v(1), row(u(3)), 0, v(0)},
		{v(5), row(u(3)), 0, v(4)},
		{u(0), row(c(3)), 0, u(0)},
		{c(0), row(u(3)), 0, c(0)},
		{v(0), nil, 0, v(0)},
		{v(9), nil, 4, v(9)},
		{v(0), row(u(3)), 1, v(0)},
		{v(1), row(u(3)), 1, u(3)},
		{v(2), row(u(3)), 1, v(1)},
		{v(1), row(v(0)), 1, v(1)},
		{v(3), row(v(4)), 3, v(7)},
		{v(0), row(u(0), u(1), u(2)), 0, u(2)},
		{v(1), row(u(0), u(1), u(2)), 0, u(1)},
		{v(2), row(u(0), u(1), u(2)), 0, u(0)},
		{v(3), row(u(0), u(1), u(2)), 0, v(0)},
		{v(4), row(u(0), u(1), u(2)), 0, v(1)},
		{v(4), row(u(0), u(1), u(2)), 2, u(0)},
		{v(5), row(u(0), u(1), u(2)), 2, v(2)},
		{v(1), row(u(0), u(1), u(2)), 2, v(1)},
		{v(2), row(c(0), v(1), v(3)), 2, v(5)},
		{v(3), row(c(0), v(1), v(3)), 2, v(3)},
		{lam(v(0), v(0)), row(c(5)), 0, lam(c(5), v(0))},
		{lam(v(0), v(1)), row(c(5)), 0, lam(c(5), c(5))},
		{lam(v(1), v(2)), row(c(5)), 0, lam(v(0), v(1))},
		{lam(v(0), v(1)), row(v(0)), 0, lam(v(0), v(1))},
		{lam(v(0), v(1)), row(v(7)), 0, lam(v(7), v(8))},
		{lam(u(0), lam(v(1), v(2))), row(v(7)), 0, lam(u(0), lam(v(8), v(9)))},
		{lam(u(0), lam(v(2), v(3))), row(v(7)), 0, lam(u(0), lam(v(1), v(2)))},
		{lam(u(0), lam(v(2), v(3))), row(v(7)), 1, lam(u(0), lam(v(9), v(10)))},
		{lam(lam(v(0), v(1)), v(1)), row(v(7)), 0, lam(lam(v(7), v(8)), v(8))},
		{lam(u(0), app(lam(v(1), v(2)), v(1))), row(v(4)), 0, lam(u(0), app(lam(v(5), v(6)), v(5)))},
		{lam(u(0), v(1)), row(lam(v(0), app(v(0), v(1)))), 0, lam(u(0), lam(v(1), app(v(0), v(2))))},
		{node(api.Pi, v(0), node(api.Sig, v(1), v(2))), row(v(3)), 0, node(api.Pi, v(3), node(api.Sig, v(4), v(5)))},
		{node(api.Jay, v(0), v(1), v(2)), row(c(1), c(2)), 0, node(api.Jay, c(2), c(1), v(0))},
		{node(api.Pair, node(api.Sig, v(0), v(0)), v(0), v(1)), row(v(5)), 0, node(api.Pair, node(api.Sig, v(5), v(0)), v(5), v(0))},
		{node(api.Id, v(0), node(api.Fst, v(0)), node(api.Snd, v(0))), row(c(7)), 0, node(api.Id, c(7), node(api.Fst, c(7)), node(api.Snd, c(7)))},
		{app(app(v(3), v(2)), app(v(1), v(0))), row(v(9), c(9)), 1, app(app(v(1), v(10)), app(c(9), v(0)))},
	} {
		gives(t, x.t, x.args, x.under, x.want)
	}
}

// P5.1: in each Kid of each kind, a Var below, at and above those that are replaced.
func TestInstUnderEachKid(t *testing.T) {
	args := row(c(10), v(20), v(30))
	for kind := api.Pi; kind <= api.Jay; kind++ {
		for i := range arity[kind] {
			for kept := range 3 {
				here := kept
				if binds(kind, i) {
					here++
				}
				for n := range here + 6 {
					want := v(n - 3)
					switch n - here {
					case 0:
						want = v(30 + here)
					case 1:
						want = v(20 + here)
					case 2:
						want = c(10)
					}
					if n < here {
						want = v(n)
					}
					in, out := row(u(0), u(1), u(2)), row(u(0), u(1), u(2))
					in[i], out[i] = node(api.Snd, v(n)), node(api.Snd, want)
					gives(t, inner(kind, in...), args, kept, inner(kind, out...))
				}
			}
		}
	}
}

// P5.1: the greatest N, the greatest under, and more args than there are numbers.
func TestInstAtTheGreatestNumbers(t *testing.T) {
	gives(t, v(65535), nil, 65535, v(65535))
	gives(t, v(65535), row(u(1)), 65535, u(1))
	gives(t, v(65535), row(v(0)), 65535, v(65535))
	gives(t, v(65535), row(u(1), v(0)), 65535, v(65535))
	gives(t, v(65535), row(u(1)), 65534, v(65534))
	gives(t, v(65535), row(u(1), u(2)), 65534, u(1))
	gives(t, v(65534), row(v(1)), 65534, v(65535))
	gives(t, v(65534), row(u(1)), 65535, v(65534))
	gives(t, v(65535), row(u(1), u(2), u(3)), 65530, v(65532))
	gives(t, lam(v(65535), v(65535)), row(c(1)), 65535, lam(c(1), v(65535)))
	gives(t, lam(v(65535), v(65535)), row(c(1)), 65534, lam(v(65534), c(1)))
	gives(t, under(api.Pi, 150, v(65535)), row(c(1)), 65535, under(api.Pi, 150, v(65535)))
	gives(t, v(0), row(v(65535)), 0, v(65535))
	gives(t, u(65535), row(c(1)), 65535, u(65535))
	gives(t, c(65535), row(u(1)), 65535, c(65535))
	many := make([]api.Term, 70000)
	for i := range many {
		many[i] = c(i % 65536)
	}
	gives(t, v(0), many, 0, c(70000-1-65536))
	gives(t, v(65535), many, 0, c(70000-1-65535))
	gives(t, lam(v(1), v(1)), many, 0, lam(c(70000-2-65536), c(70000-1-65536)))
	gives(t, v(65535), many, 65535, c(70000-1-65536))
	gives(t, v(65535), many[:65535], 0, v(0))
	gives(t, v(65535), many[:65536], 0, c(0))
	gives(t, v(65534), many[:65535], 0, c(0))
}

// P5.1: a shift that goes too far is ErrScope, but only where a Var is replaced by that arg.
func TestInstScope(t *testing.T) {
	far := v(65535)
	fails(t, lam(u(0), v(1)), row(far), 0, api.ErrScope, 3)
	fails(t, v(1), row(far), 1, api.ErrScope, 1)
	fails(t, v(65535), row(v(1)), 65535, api.ErrScope, 1)
	fails(t, v(2), row(v(65534)), 2, api.ErrScope, 1)
	gives(t, v(2), row(v(65533)), 2, v(65535))
	gives(t, lam(u(0), v(0)), row(far), 0, lam(u(0), v(0)))
	gives(t, lam(u(0), v(2)), row(far), 0, lam(u(0), v(1)))
	gives(t, lam(v(0), v(0)), row(far), 0, lam(far, v(0)))
	gives(t, v(0), row(far), 1, v(0))
	gives(t, v(2), row(far), 1, v(1))
	gives(t, v(9), row(lam(u(0), v(0))), 9, lam(u(0), v(0)))
	gives(t, lam(u(0), v(1)), row(lam(u(0), far)), 65535, lam(u(0), v(1)))
	gives(t, v(65535), row(lam(v(0), v(0))), 65535, lam(far, v(0)))
	gives(t, v(1), row(lam(u(0), v(65534))), 1, lam(u(0), far))
	fails(t, v(1), row(lam(u(0), far)), 1, api.ErrScope, 3)
	gives(t, app(lam(u(0), v(1)), v(1)), row(far, v(0)), 0, app(lam(u(0), v(1)), far))
	fails(t, app(lam(u(0), v(1)), v(1)), row(v(0), far), 0, api.ErrScope, 5)
	fails(t, app(lam(u(0), v(2)), v(0)), row(far, v(0)), 0, api.ErrScope, 5)
}

// P5.1: the farthest shift decides, whether it comes first, last or between nearer ones.
func TestInstScopeOfTheFarthest(t *testing.T) {
	near, mid, deep := v(0), lam(u(0), v(1)), lam(u(0), lam(u(0), v(2)))
	arg := v(65534)
	for _, x := range [][]api.Term{{near, mid, deep}, {near, deep, mid}, {mid, near, deep}, {mid, deep, near}, {deep, near, mid}, {deep, mid, near}} {
		all := node(api.Jay, x...)
		fails(t, all, row(arg), 0, api.ErrScope, term.Size(all))
		want := node(api.Jay)
		for _, k := range x {
			want.Kids = append(want.Kids, plain(k, row(v(65533)), 0))
		}
		gives(t, all, row(v(65533)), 0, want)
	}
}

// P5.1: one such Var fails the whole, in whatever place it stands.
func TestInstScopeAnywhere(t *testing.T) {
	for kind := api.Pi; kind <= api.Jay; kind++ {
		for i := range arity[kind] {
			kids := row(c(1), c(1), c(1))
			kids[i] = lam(c(0), v(1))
			if binds(kind, i) {
				kids[i] = lam(c(0), v(2))
			}
			x := inner(kind, kids...)
			fails(t, x, row(v(65535)), 0, api.ErrScope, term.Size(x))
			fails(t, app(c(0), x), row(app(v(0), v(65535))), 0, api.ErrScope, term.Size(x)+4)
		}
	}
}

// P5.1, P5.2: exactly as great as a term may be, and one more.
func TestInstSize(t *testing.T) {
	great := bush(api.MaxSize, v(0))
	gives(t, v(0), row(great), 0, great)
	gives(t, great, row(u(0)), 0, bush(api.MaxSize, u(0)))
	gives(t, great, row(great), 1, great)
	gives(t, node(api.Fst, v(0)), row(bush(api.MaxSize-1, v(2))), 0, node(api.Fst, bush(api.MaxSize-1, v(2))))
	fails(t, node(api.Fst, v(0)), row(great), 0, api.ErrSize, api.MaxSize+1)
	half := bush((api.MaxSize-2)/2, u(1))
	gives(t, node(api.Fst, app(v(0), v(0))), row(half), 0, node(api.Fst, app(half, half)))
	fails(t, node(api.Fst, node(api.Fst, app(v(0), v(0)))), row(half), 0, api.ErrSize, api.MaxSize+1)
	gives(t, app(v(0), v(1)), row(half, half), 0, app(half, half))
	fails(t, app(v(0), app(v(1), v(0))), row(half, half), 0, api.ErrSize, 3*term.Size(half)+2)
	fails(t, app(v(0), v(0)), row(great), 0, api.ErrSize, 2*api.MaxSize+1)
	fails(t, app(v(0), v(0)), row(u(0), great), 0, api.ErrSize, 2*api.MaxSize+1)
	gives(t, app(v(0), v(0)), row(great, u(0)), 0, app(u(0), u(0)))
	gives(t, app(v(1), v(2)), row(great), 0, app(v(0), v(1)))
}

// P5.1: exactly as deep as a term may be, and one more; what isn't replaced makes it no deeper.
func TestInstDepth(t *testing.T) {
	for _, upper := range []int{1, 2, 100, api.MaxDepth - 1, api.MaxDepth} {
		lower := api.MaxDepth - upper + 1
		gives(t, chain(upper, v(0)), row(chain(lower, v(3))), 0, chain(api.MaxDepth, v(3)))
		if upper > 1 {
			fails(t, chain(upper, v(0)), row(chain(lower+1, v(3))), 0, api.ErrDepth, api.MaxDepth+1)
			gives(t, chain(upper, v(1)), row(chain(lower+1, v(3))), 0, chain(upper, v(0)))
			gives(t, app(chain(upper-1, u(0)), v(0)), row(chain(api.MaxDepth-1, v(3))), 0, app(chain(upper-1, u(0)), chain(api.MaxDepth-1, v(3))))
			fails(t, app(chain(upper-1, u(0)), v(0)), row(chain(api.MaxDepth, v(3))), 0, api.ErrDepth, upper+api.MaxDepth)
		}
	}
	deep := api.MaxDepth - 1
	gives(t, under(api.Sig, deep, v(deep)), row(v(2)), 0, under(api.Sig, deep, v(deep+2)))
	gives(t, under(api.Sig, deep, v(deep-1)), row(v(2)), 0, under(api.Sig, deep, v(deep-1)))
	fails(t, under(api.Sig, deep, v(deep)), row(node(api.Fst, v(2))), 0, api.ErrDepth, 2*deep+2)
}

// P5.1: in each Kid of each kind, the depth is that of the whole.
func TestInstDepthAnywhere(t *testing.T) {
	for kind := api.Pi; kind <= api.Jay; kind++ {
		for i := range arity[kind] {
			in, out := row(u(0), u(1), u(2)), row(u(0), u(1), u(2))
			in[i] = v(0)
			if binds(kind, i) {
				in[i] = v(1)
			}
			out[i] = chain(api.MaxDepth-1, u(5))
			gives(t, inner(kind, in...), row(out[i]), 0, inner(kind, out...))
			fails(t, inner(kind, in...), row(chain(api.MaxDepth, u(5))), 0, api.ErrDepth, api.MaxDepth+arity[kind])
		}
	}
}

// P5.1, R4: t's error, the first arg's, ErrArg, ErrScope, ErrSize, ErrDepth: each ahead of all that are named behind it.
func TestOrderOfErrors(t *testing.T) {
	far := lam(u(0), v(1))
	great, deep, free := bush(api.MaxSize, u(0)), chain(api.MaxDepth, u(0)), v(65535)
	scope := node(api.Jay, far, app(v(1), v(1)), node(api.Fst, v(2)))
	fails(t, scope, row(deep, great, free), 0, api.ErrScope, 6+2*api.MaxSize+api.MaxDepth)
	fails(t, scope, row(deep, great, u(0)), 0, api.ErrSize, 6+2*api.MaxSize+api.MaxDepth)
	fails(t, scope, row(deep, u(1), u(0)), 0, api.ErrDepth, 8+api.MaxDepth)
	fails(t, app(v(0), far), row(app(bush(5000, u(0)), free)), 0, api.ErrScope, 3+2*5002)
	fails(t, app(far, v(0)), row(app(bush(5000, u(0)), v(65534))), 0, api.ErrSize, 3+2*5002)
	fails(t, node(api.Fst, far), row(chain(api.MaxDepth, free)), 0, api.ErrScope, 3+api.MaxDepth)
	fails(t, node(api.Fst, far), row(chain(api.MaxDepth, v(65534))), 0, api.ErrDepth, 3+api.MaxDepth)
	for _, under := range noNumbers {
		fails(t, scope, row(deep, great, free), under, api.ErrArg, 0)
		fails(t, v(0), nil, under, api.ErrArg, 0)
		fails(t, c(0), row(u(0)), under, api.ErrArg, 0)
		fails(t, v(65535), row(v(0), v(65535)), under, api.ErrArg, 0)
	}
}

// P5.1, P5.2: no right term, or no right arg, wherever it stands and whether it's used or not.
func TestRefusesWrongTerms(t *testing.T) {
	for _, w := range wrong() {
		if e := term.Check(w.t); e != w.want {
			t.Error(w.name, e)
		}
		for _, under := range append(noNumbers, 0, 1, 65535) {
			fails(t, w.t, nil, under, w.want, 0)
			fails(t, w.t, row(v(0), u(0)), under, w.want, 0)
			fails(t, v(0), row(w.t), under, w.want, 0)
			fails(t, v(0), row(w.t, u(0)), under, w.want, 0)
			fails(t, v(0), row(u(0), u(1), w.t), under, w.want, 0)
			fails(t, c(5), row(u(0), w.t, u(1)), under, w.want, 0)
			fails(t, lam(u(0), v(1)), row(v(65535), w.t), under, w.want, 0)
			fails(t, app(v(0), v(0)), row(w.t, bush(api.MaxSize, v(0))), under, w.want, 0)
			for _, other := range wrong() {
				fails(t, w.t, row(other.t), under, w.want, 0)
				fails(t, v(0), row(v(3), w.t, other.t), under, w.want, 0)
			}
		}
	}
}

// P5.2: a size far beyond a right term's, and the errors of such a term, told without building it.
func TestVastSize(t *testing.T) {
	many := node(api.Jay, bush(1999, v(0)), bush(1999, v(0)), bush(2001, v(0)))
	vars := plainCount(many, 0, 0)
	if term.Size(many) != api.MaxSize || vars < 2900 {
		t.Fatal(term.Size(many), vars)
	}
	want := api.MaxSize + vars*(api.MaxSize-1)
	var before, after runtime.MemStats
	runtime.ReadMemStats(&before)
	fails(t, many, row(many), 0, api.ErrSize, want)
	fails(t, many, row(v(65535), many), 0, api.ErrSize, want)
	fails(t, plain(many, row(v(1)), 0), row(v(0), many), 1, api.ErrSize, want)
	fails(t, plain(many, row(v(1)), 0), row(v(0), app(bush(api.MaxSize-2, u(0)), v(65535))), 1, api.ErrScope, want)
	runtime.ReadMemStats(&after)
	if grown := after.TotalAlloc - before.TotalAlloc; grown > 64<<20 {
		t.Error(grown, "bytes for terms that are refused")
	}
}

// plainCount is the number of Vars that lie at the level n.
func plainCount(t api.Term, binders, n int) int {
	count := 0
	if t.Kind == api.Var && t.N-binders == n {
		count++
	}
	for i, k := range t.Kids {
		b := binders
		if binds(t.Kind, i) {
			b++
		}
		count += plainCount(k, b, n)
	}
	return count
}

// plain is the chapter's sentence in a plain recursion, without its bounds.
func plain(t api.Term, args []api.Term, u int) api.Term {
	p := len(args)
	if t.Kind == api.Var {
		switch {
		case t.N < u:
			return v(t.N)
		case t.N <= u+p-1:
			return plainShift(args[p-1-(t.N-u)], u, 0)
		}
		return v(t.N - p)
	}
	out := api.Term{Kind: t.Kind, N: t.N}
	for i, k := range t.Kids {
		d := u
		if binds(t.Kind, i) {
			d++
		}
		out.Kids = append(out.Kids, plain(k, args, d))
	}
	return out
}

// plainShift adds by to each Var that isn't bound, out of all bounds as well.
func plainShift(t api.Term, by, binders int) api.Term {
	out := api.Term{Kind: t.Kind, N: t.N}
	if t.Kind == api.Var && t.N >= binders {
		out.N += by
	}
	for i, k := range t.Kids {
		b := binders
		if binds(t.Kind, i) {
			b++
		}
		out.Kids = append(out.Kids, plainShift(k, by, b))
	}
	return out
}

// P5.1, P5.2: all against the chapter's sentences.
func TestAgainstThePlainWords(t *testing.T) {
	found, refused := 0, 0
	for _, x := range towers() {
		for _, args := range rows() {
			for _, under := range []int{0, 1, 65532, 65534, 65535} {
				want := plain(x, args, under)
				if term.Check(want) == api.OK {
					found++
					gives(t, x, args, under, want)
				} else {
					refused++
					fails(t, x, args, under, api.ErrScope, term.Size(want))
				}
				if t.Failed() {
					t.FailNow()
				}
			}
		}
	}
	if found < 1000 || refused < 1000 {
		t.Error(found, refused)
	}
}

// P5.3: one variable after the other, from the outermost one on.
func TestOneAfterTheOtherFromOutside(t *testing.T) {
	found := 0
	for _, x := range towers() {
		for _, args := range rows() {
			for _, under := range []int{0, 1, 65530} {
				whole, e := Inst(x, args, under)
				part, ok := x, e == api.OK
				for i := range args {
					if ok {
						part, e = Inst(part, args[i:i+1], under+len(args)-1-i)
						ok = e == api.OK
					}
				}
				if !ok {
					continue
				}
				found++
				if !term.Equal(part, whole) {
					t.Fatal(x, args, under, part, whole)
				}
			}
		}
	}
	if found < 1000 {
		t.Error("only", found)
	}
}

// P5.3: one variable after the other, from the innermost one on; each arg is shifted past the variables that are still to come.
func TestOneAfterTheOtherFromInside(t *testing.T) {
	found := 0
	for _, x := range towers() {
		for _, args := range rows() {
			for _, under := range []int{0, 1, 65530} {
				whole, e := Inst(x, args, under)
				part, ok := x, e == api.OK
				for i := len(args) - 1; i >= 0 && ok; i-- {
					arg, e := shift.Shift(args[i], i, 0)
					if ok = e == api.OK; ok {
						part, e = Inst(part, row(arg), under)
						ok = e == api.OK
					}
				}
				if !ok {
					continue
				}
				found++
				if !term.Equal(part, whole) {
					t.Fatal(x, args, under, part, whole)
				}
			}
		}
	}
	if found < 1000 {
		t.Error("only", found)
	}
}

// P5.3: all at once is also any two lists, one behind the other.
func TestListAfterList(t *testing.T) {
	args := row(app(v(2), v(0)), c(4), lam(v(0), v(1)), v(6))
	for _, x := range towers() {
		for _, under := range []int{0, 1, 2} {
			whole, e := Inst(x, args, under)
			if e != api.OK {
				t.Fatal(x, e)
			}
			for cut := range len(args) + 1 {
				outer, e := Inst(x, args[:cut], under+len(args)-cut)
				if e != api.OK {
					t.Fatal(x, cut, e)
				}
				gives(t, outer, args[cut:], under, whole)
			}
			if t.Failed() {
				t.FailNow()
			}
		}
	}
}

// P5.3: for a variable that doesn't occur it is Lower, whatever the arg is.
func TestForNoVariableIsLower(t *testing.T) {
	found := 0
	for _, x := range towers() {
		for _, n := range []int{0, 1, 2, 4, 65532, 65534, 65535} {
			down, ok := shift.Lower(x, n)
			if !ok {
				continue
			}
			found++
			for _, arg := range []api.Term{u(0), v(65535)} {
				gives(t, x, row(arg), n, down)
			}
			if t.Failed() {
				t.FailNow()
			}
		}
	}
	if found < 1000 {
		t.Error("only", found)
	}
	gives(t, bush(api.MaxSize, v(3)), row(bush(api.MaxSize, v(3))), 1, bush(api.MaxSize, v(2)))
	gives(t, chain(api.MaxDepth, v(3)), row(chain(api.MaxDepth, v(3))), 4, chain(api.MaxDepth, v(3)))
}

// P5.3: what was shifted by 1 is restored by a substitution for the new variable, and a Var for itself changes nothing.
func TestSubstitutionTakesBackAShift(t *testing.T) {
	for _, x := range towers() {
		for _, n := range []int{0, 1, 2, 3} {
			if up, e := shift.Shift(x, 1, n); e == api.OK {
				gives(t, up, row(lam(v(5), v(0))), n, x)
			}
			if up, e := shift.Shift(x, 1, n+1); e == api.OK {
				gives(t, up, row(v(0)), n, x)
			}
		}
		if t.Failed() {
			t.FailNow()
		}
	}
}

// R1: terms far deeper than right ones are refused without a stack as deep.
func TestVeryDeepTerms(t *testing.T) {
	defer debug.SetMaxStack(debug.SetMaxStack(16 << 20))
	deep := under(api.Sig, 1_000_000, v(1_000_000))
	fails(t, deep, row(u(0)), 0, api.ErrSize, 0)
	fails(t, v(0), row(u(0), deep), 0, api.ErrSize, 0)
}

// roomy is a copy of the term with spare capacity behind each list, which holds Vars that must stay as they are.
func roomy(t api.Term) api.Term {
	t.Kids = roomyRow(t.Kids)
	return t
}

func roomyRow(l []api.Term) []api.Term {
	out := make([]api.Term, 0, len(l)+2)
	for _, k := range l {
		out = append(out, roomy(k))
	}
	spare := out[:cap(out)]
	for i := len(out); i < len(spare); i++ {
		spare[i] = lam(v(2), v(3))
	}
	return out
}

func spareKept(l []api.Term) bool {
	for i, k := range l[:cap(l)] {
		if i < len(l) && !spareKept(k.Kids) || i >= len(l) && !term.Equal(k, lam(v(2), v(3))) {
			return false
		}
	}
	return true
}

// R2, R6: what is handed in stays as it is, and what lies behind its lists is not looked at.
func TestArgumentsStay(t *testing.T) {
	all := small()
	for _, w := range wrong() {
		all = append(all, w.t)
	}
	for _, x := range all {
		for _, args := range append(rows(), row(x), row(x, v(0)), row(v(1), x)) {
			given, givenArgs := roomy(x), roomyRow(args)
			for _, under := range []int{0, 1, 2} {
				want, wantE := Inst(x, args, under)
				got, e := Inst(given, givenArgs, under)
				if e != wantE || !term.Equal(got, want) || SizeOf(given, givenArgs, under) != SizeOf(x, args, under) {
					t.Fatal(x, args, under, e)
				}
			}
			if !term.Equal(given, x) || !spareKept(given.Kids) || !spareKept(givenArgs) || !slices.EqualFunc(givenArgs, args, term.Equal) {
				t.Fatal(x, args, "are others now")
			}
		}
	}
}

// spoil writes over all that a term's lists hold, their spare capacity as well, from the inside out.
func spoil(t api.Term) {
	for _, k := range t.Kids {
		spoil(k)
	}
	spare := t.Kids[:cap(t.Kids)]
	for i := range spare {
		spare[i] = leaf(88, 88)
	}
}

// apart spoils a result, list by list, and holds what must not share memory with it to what it was.
func apart(t *testing.T, result api.Term, others ...api.Term) {
	t.Helper()
	kept := []api.Term{}
	for _, x := range others {
		kept = append(kept, plainShift(x, 0, 0))
	}
	whole := plainShift(result, 0, 0)
	for i := range result.Kids {
		spoil(result.Kids[i])
		for j := i + 1; j < len(result.Kids); j++ {
			if !term.Equal(result.Kids[j], whole.Kids[j]) {
				t.Error("two lists of a result share memory")
			}
		}
	}
	spoil(result)
	for i, x := range others {
		if !term.Equal(x, kept[i]) {
			t.Error("a result shares memory with", i)
		}
	}
}

// R2: results are new memory, each place of one arg as well, and where nothing is replaced or shifted too.
func TestResultsAreNewMemory(t *testing.T) {
	shared := app(v(1), lam(v(1), v(2)))
	arg := app(lam(v(3), v(0)), node(api.Fst, c(2)))
	all := append(small(), app(shared, shared), node(api.Pair, shared, app(shared, v(0)), shared),
		node(api.Jay, v(0), v(0), v(0)), node(api.Id, v(0), app(v(0), v(1)), lam(v(1), v(1))), app(v(0), node(api.Snd, v(1))))
	for _, x := range all {
		for _, args := range [][]api.Term{nil, row(arg), row(arg, arg), row(arg, u(0), arg)} {
			for _, under := range []int{0, 1, 60000} {
				one, e := Inst(x, args, under)
				two, _ := Inst(x, args, under)
				if e != api.OK {
					t.Fatal(x, e)
				}
				apart(t, one, append(row(two, x), args...)...)
			}
		}
	}
}

// R4: each field that has no meaning for its kind is zero, and leaves have no list.
func TestResultsAreWhole(t *testing.T) {
	for _, x := range small() {
		for _, args := range rows() {
			for _, under := range []int{0, 1} {
				got, e := Inst(roomy(x), roomyRow(args), under)
				if e == api.OK && !reflect.DeepEqual(got, plain(x, args, under)) {
					t.Error(x, args, got)
				}
			}
		}
	}
}

// Example 1 of the chapter.
func TestExample(t *testing.T) {
	gives(t, app(v(1), v(0)), row(u(0), u(1)), 0, app(u(0), u(1)))
}
