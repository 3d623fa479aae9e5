package shift

import (
	"math"
	"reflect"
	"runtime/debug"
	"slices"
	"testing"

	"porism/api"
	"porism/term"
)

func leaf(kind, n int) api.Term { return api.Term{Kind: kind, N: n} }

func node(kind int, kids ...api.Term) api.Term { return api.Term{Kind: kind, Kids: kids} }

func v(n int) api.Term { return leaf(api.Var, n) }
func u(n int) api.Term { return leaf(api.Univ, n) }
func c(n int) api.Term { return leaf(api.Const, n) }

func lam(a, b api.Term) api.Term { return node(api.Lam, a, b) }
func app(a, b api.Term) api.Term { return node(api.App, a, b) }

// chain is a term of so many nodes below one another, with inner as the last of them.
func chain(depth int, inner api.Term) api.Term {
	t := inner
	for range depth - 1 {
		t = node(api.Fst, t)
	}
	return t
}

// under is inner below so many binders of the kind.
func under(kind, binders int, inner api.Term) api.Term {
	t := inner
	for range binders {
		t = node(kind, u(0), t)
	}
	return t
}

// bush is a term of so many nodes that is nowhere near too deep, with inner as each Var.
func bush(size int, inner api.Term) api.Term {
	switch size {
	case 1:
		return inner
	case 2:
		return node(api.Snd, inner)
	}
	left := (size - 1) / 2
	return app(bush(left, inner), bush(size-1-left, inner))
}

// arity is what chapter 1 says of the kinds, written out; its index is the kind.
var arity = []int{-1, 0, 0, 0, 2, 2, 2, 2, 3, 1, 1, 3, 2, 3}

// binds is what chapter 1 says of the Kids with one more variable.
func binds(kind, i int) bool {
	return i == 1 && (kind == api.Pi || kind == api.Lam || kind == api.Sig)
}

// inner is a right term of the kind with these Kids, as many of them as it has.
func inner(kind int, kids ...api.Term) api.Term {
	return api.Term{Kind: kind, Kids: slices.Clone(kids[:arity[kind]])}
}

// small is right terms of one and two storeys.
func small() []api.Term {
	leaves := []api.Term{v(0), v(1), v(2), v(3), u(0), u(3), c(0), c(2), v(65534), v(65535)}
	all := slices.Clone(leaves)
	for kind := api.Pi; kind <= api.Jay; kind++ {
		for _, a := range leaves {
			all = append(all, inner(kind, a, u(1), v(2)), inner(kind, v(1), a, c(1)), inner(kind, c(3), v(0), a), inner(kind, a, a, a))
		}
	}
	return all
}

// towers is small's terms and each of them in each place of each kind.
func towers() []api.Term {
	all := small()
	for _, t := range small() {
		for kind := api.Pi; kind <= api.Jay; kind++ {
			for i := range arity[kind] {
				kids := []api.Term{v(1), v(2), v(0)}
				kids[i] = t
				all = append(all, inner(kind, kids...))
			}
		}
		all = append(all, under(api.Pi, 2, t), under(api.Sig, 3, t), lam(t, lam(t, t)))
	}
	return all
}

// wrong holds terms that aren't right, with the error that chapter 2 gives them.
func wrong() map[string]api.Term {
	return map[string]api.Term{
		"zero":            {},
		"no kind":         leaf(api.Jay+1, 0),
		"negative kind":   leaf(-api.Var, 0),
		"Var -1":          v(-1),
		"Var 65536":       v(65536),
		"Var MinInt":      v(math.MinInt),
		"Var MaxInt":      v(math.MaxInt),
		"Univ 65536":      u(65536),
		"Const -1":        c(-1),
		"Lam with N":      {Kind: api.Lam, N: 1, Kids: []api.Term{u(0), v(0)}},
		"Var with a Kid":  node(api.Var, v(7)),
		"Lam of one":      node(api.Lam, v(7)),
		"Fst of none":     node(api.Fst),
		"Fst of two":      node(api.Fst, v(7), v(7)),
		"far inside":      lam(u(0), app(v(0), node(api.Refl, v(7), api.Term{}))),
		"too great":       bush(api.MaxSize+1, v(7)),
		"too great, wide": node(20, make([]api.Term, api.MaxSize)...),
		"too deep":        chain(api.MaxDepth+1, v(7)),
	}
}

func none(t api.Term) bool {
	return t.Kind == 0 && t.N == 0 && len(t.Kids) == 0
}

// fails holds Shift to an error, and to the zero Term beside it.
func fails(t *testing.T, x api.Term, by, from int, want api.Errno) {
	t.Helper()
	if got, e := Shift(x, by, from); e != want || !none(got) {
		t.Error("of kind", x.Kind, x.N, "by", by, "from", from, ":", got.Kind, e, "and not", want)
	}
}

func gives(t *testing.T, x api.Term, by, from int, want api.Term) {
	t.Helper()
	if got, e := Shift(x, by, from); e != api.OK || !term.Equal(got, want) {
		t.Error(x, "by", by, "from", from, ":", got, e, "and not", want)
	}
}

// P4.1: ordinary terms, by hand.
func TestShift(t *testing.T) {
	for _, x := range []struct {
		t        api.Term
		by, from int
		want     api.Term
	}{
		{v(0), 0, 0, v(0)},
		{v(0), 1, 0, v(1)},
		{v(0), 1, 1, v(0)},
		{v(5), 3, 5, v(8)},
		{v(5), 3, 4, v(8)},
		{v(5), 3, 6, v(5)},
		{u(5), 3, 0, u(5)},
		{c(5), 3, 0, c(5)},
		{lam(v(0), v(1)), 2, 0, lam(v(2), v(3))},
		{lam(v(0), v(0)), 2, 0, lam(v(2), v(0))},
		{lam(v(1), v(2)), 2, 1, lam(v(3), v(4))},
		{lam(v(1), v(1)), 2, 1, lam(v(3), v(1))},
		{lam(v(0), lam(v(1), v(2))), 7, 0, lam(v(7), lam(v(8), v(9)))},
		{lam(v(0), lam(v(0), v(1))), 7, 0, lam(v(7), lam(v(0), v(1)))},
		{lam(lam(v(0), v(1)), v(0)), 7, 0, lam(lam(v(7), v(8)), v(0))},
		{lam(u(0), lam(u(0), app(v(0), app(v(1), v(2))))), 1, 0, lam(u(0), lam(u(0), app(v(0), app(v(1), v(3)))))},
		{lam(u(0), app(lam(v(1), v(2)), v(1))), 4, 0, lam(u(0), app(lam(v(5), v(6)), v(5)))},
		{node(api.Pi, v(0), node(api.Sig, v(1), v(2))), 7, 0, node(api.Pi, v(7), node(api.Sig, v(8), v(9)))},
		{node(api.Jay, v(0), v(1), v(2)), 4, 1, node(api.Jay, v(0), v(5), v(6))},
		{node(api.Pair, node(api.Sig, v(0), v(0)), v(0), v(0)), 4, 0, node(api.Pair, node(api.Sig, v(4), v(0)), v(4), v(4))},
		{node(api.Id, c(1), u(6), v(0)), 9, 0, node(api.Id, c(1), u(6), v(9))},
	} {
		gives(t, x.t, x.by, x.from, x.want)
	}
}

// P4.1: in each Kid of each kind, a Var on either side of the level.
func TestShiftUnderEachKid(t *testing.T) {
	for kind := api.Pi; kind <= api.Jay; kind++ {
		for i := range arity[kind] {
			for n := range 6 {
				for from := range 4 {
					want := n
					if n >= from && !binds(kind, i) || n > from {
						want += 10
					}
					in, out := []api.Term{u(0), u(1), u(2)}, []api.Term{u(0), u(1), u(2)}
					in[i], out[i] = node(api.Snd, v(n)), node(api.Snd, v(want))
					gives(t, inner(kind, in...), 10, from, inner(kind, out...))
				}
			}
		}
	}
}

// P4.1: the greatest N, by and from, and one more.
func TestShiftEdges(t *testing.T) {
	gives(t, v(65535), 0, 0, v(65535))
	gives(t, v(65535), 0, 65535, v(65535))
	gives(t, v(65534), 1, 0, v(65535))
	gives(t, v(0), 65535, 0, v(65535))
	gives(t, v(65534), 65535, 65535, v(65534))
	gives(t, u(65535), 65535, 0, u(65535))
	gives(t, c(65535), 65535, 0, c(65535))
	gives(t, lam(u(0), v(65534)), 1, 65533, lam(u(0), v(65535)))
	gives(t, lam(u(0), v(65535)), 1, 65535, lam(u(0), v(65535)))
	gives(t, lam(v(65534), v(0)), 1, 65534, lam(v(65535), v(0)))
	fails(t, v(65535), 1, 0, api.ErrScope)
	fails(t, v(65535), 1, 65535, api.ErrScope)
	fails(t, v(65534), 2, 0, api.ErrScope)
	fails(t, v(1), 65535, 0, api.ErrScope)
	fails(t, v(1), 65535, 1, api.ErrScope)
	gives(t, v(1), 65535, 2, v(1))
	fails(t, v(65535), 65535, 65535, api.ErrScope)
	fails(t, lam(u(0), v(65535)), 1, 65534, api.ErrScope)
	fails(t, lam(u(0), v(65535)), 1, 9, api.ErrScope)
	fails(t, lam(u(0), v(1)), 65535, 0, api.ErrScope)
	gives(t, lam(u(0), v(0)), 65535, 0, lam(u(0), v(0)))
	gives(t, bush(api.MaxSize, v(2)), 1, 0, bush(api.MaxSize, v(3)))
	gives(t, chain(api.MaxDepth, v(2)), 1, 0, chain(api.MaxDepth, v(3)))
	for _, kind := range []int{api.Pi, api.Lam, api.Sig} {
		deepest := api.MaxDepth - 1
		gives(t, under(kind, deepest, v(deepest-1)), 1, 0, under(kind, deepest, v(deepest-1)))
		gives(t, under(kind, deepest, v(deepest)), 1, 0, under(kind, deepest, v(deepest+1)))
		gives(t, under(kind, deepest, v(deepest)), 1, 1, under(kind, deepest, v(deepest)))
	}
}

// P4.1: one Var that has no number fails the whole, in whatever place it stands.
func TestShiftScopeAnywhere(t *testing.T) {
	for kind := api.Pi; kind <= api.Jay; kind++ {
		for i := range arity[kind] {
			kids := []api.Term{v(1), v(1), v(1)}
			kids[i] = app(v(0), v(65535))
			fails(t, inner(kind, kids...), 1, 0, api.ErrScope)
			fails(t, app(c(0), inner(kind, kids...)), 1, 0, api.ErrScope)
		}
	}
}

// P4.1: by and from that may not be.
func TestShiftRefusesNumbers(t *testing.T) {
	for _, x := range []api.Term{v(0), u(0), c(0), v(65535), lam(u(0), v(0))} {
		for _, n := range []int{-1, -2, -65536, 65536, 65537, 1 << 17, 1 << 32, math.MaxInt, math.MaxInt - 1, math.MinInt, math.MinInt + 1} {
			fails(t, x, n, 0, api.ErrArg)
			fails(t, x, 0, n, api.ErrArg)
			fails(t, x, 1, n, api.ErrArg)
			fails(t, x, n, 65535, api.ErrArg)
			fails(t, x, n, n, api.ErrArg)
		}
	}
}

// P4.1: what isn't right has term.Check's error, ahead of the others.
func TestShiftRefusesWrongTerms(t *testing.T) {
	for name, x := range wrong() {
		want := api.ErrArg
		switch name {
		case "too great", "too great, wide":
			want = api.ErrSize
		case "too deep":
			want = api.ErrDepth
		}
		if e := term.Check(x); e != want {
			t.Error(name, e)
		}
		for _, n := range []int{0, 1, 65535, -1, 65536} {
			fails(t, x, n, 0, want)
			fails(t, x, 0, n, want)
			fails(t, app(x, v(65535)), n, n, term.Check(app(x, v(65535))))
		}
	}
	fails(t, chain(api.MaxSize, v(-1)), -1, -1, api.ErrDepth)
	fails(t, chain(api.MaxSize+1, v(-1)), -1, -1, api.ErrSize)
}

// P4.1: Vars at the level, by hand; terms that aren't right among them.
func TestCount(t *testing.T) {
	x := node(api.Pi, v(0), app(v(1), lam(v(1), app(v(2), app(v(0), v(3))))))
	raw := api.Term{Kind: 50, N: 4, Kids: []api.Term{v(2), v(2), {Kind: api.Var, N: 2, Kids: []api.Term{v(2), lam(v(2), v(3))}}}}
	for k, c := range []struct {
		t       api.Term
		n, want int
	}{
		{x, 0, 4}, {x, 1, 1}, {x, 2, 0},
		{v(0), 0, 1}, {v(0), 1, 0}, {v(1), 0, 0}, {v(65535), 65535, 1}, {v(65535), 65534, 0},
		{u(0), 0, 0}, {c(0), 0, 0}, {api.Term{}, 0, 0},
		{lam(u(0), v(0)), 0, 0}, {lam(u(0), v(1)), 0, 1}, {lam(v(0), v(1)), 0, 2}, {lam(v(0), v(0)), 0, 1},
		{lam(u(0), v(65535)), 65535, 0}, {lam(u(0), v(65535)), 65534, 1}, {lam(u(0), v(65536)), 65535, 1},
		{lam(u(0), v(65537)), 65535, 0},
		{raw, 2, 6}, {raw, 3, 0}, {raw, 1, 0}, {raw, 4, 0},
		{node(api.Lam, v(0)), 0, 1},
		{node(api.Lam, v(0), v(1), v(0), v(1)), 0, 3},
		{node(api.Pi, v(5), v(5), v(5)), 5, 2}, {node(api.Sig, v(5), v(5), v(5)), 4, 1},
		{node(api.Pi, u(0), api.Term{Kind: 0, Kids: []api.Term{v(4)}}), 3, 1},
		{node(-api.Lam, v(0), v(1)), 0, 1}, {node(256+api.Lam, v(0), v(1)), 0, 1},
		{api.Term{Kind: api.Lam, N: 9, Kids: []api.Term{v(0), v(1)}}, 0, 2},
		{node(api.Var, v(0), v(1)), 0, 2}, {leaf(256+api.Var, 0), 0, 0}, {leaf(-api.Var, 0), 0, 0},
		{bush(api.MaxSize, v(3)), 3, plainCount(bush(api.MaxSize, v(3)), 0, 3)},
		{bush(3*api.MaxSize, v(3)), 3, plainCount(bush(3*api.MaxSize, v(3)), 0, 3)},
		{node(api.Var, make([]api.Term, 100)...), 0, 1},
	} {
		if got := Count(c.t, c.n); got != c.want {
			t.Error(k, c.n, got, "want", c.want)
		}
	}
}

// P4.1: a level that is none has no Vars, not even those whose N is out of all bounds.
func TestCountOfNoLevel(t *testing.T) {
	ns := []int{-1, -2, -65536, 65536, 65537, 1 << 17, 1 << 32, math.MaxInt, math.MaxInt - 1, math.MinInt, math.MinInt + 1}
	for _, n := range ns {
		for _, x := range []api.Term{v(n), lam(u(0), v(n)), lam(u(0), v(n+1)), under(api.Pi, 3, v(n)), lam(u(0), v(0)), v(0)} {
			if got := Count(x, n); got != 0 {
				t.Error(x, n, got)
			}
		}
	}
}

// P4.1, R5: an N so small that a subtraction would wrap round lies at no level.
func TestCountOfVastNumbers(t *testing.T) {
	for _, n := range []int{math.MinInt, math.MinInt + 1, math.MaxInt, math.MaxInt - 1, 1 << 32, 1 << 16, -1 << 32, -1} {
		for binders := range 4 {
			for _, level := range []int{0, 1, 2, 65533, 65534, 65535} {
				want := 0
				if n == level+binders {
					want = 1
				}
				if got := Count(under(api.Lam, binders, v(n)), level); got != want {
					t.Error(n, binders, level, got)
				}
			}
		}
	}
}

// P4.1, R1: terms far deeper than right ones; a call within a call for each node would break the bound on the stack.
func TestVeryDeepTerms(t *testing.T) {
	defer debug.SetMaxStack(debug.SetMaxStack(16 << 20))
	const deep = 1_000_000
	if got := Count(chain(deep, v(5)), 5); got != 1 {
		t.Error(got)
	}
	x := under(api.Sig, deep, app(v(deep+5), v(deep+5)))
	if Count(x, 5) != 2 || Count(x, 4) != 0 || Count(x, 6) != 0 {
		t.Error(Count(x, 5), Count(x, 4), Count(x, 6))
	}
	fails(t, x, 1, 0, api.ErrSize)
	if got, ok := Lower(x, 9); ok || !none(got) {
		t.Error("Lower of a term too great")
	}
}

// lowers holds Lower to a term, or to the zero Term and false where want is that.
func lowers(t *testing.T, x api.Term, n int, want api.Term) {
	t.Helper()
	got, ok := Lower(x, n)
	if ok == none(want) || !term.Equal(got, want) || none(want) && !none(got) {
		t.Error(x, n, ":", got, ok, "and not", want)
	}
}

// P4.1: ordinary terms and the levels around them, by hand.
func TestLower(t *testing.T) {
	refused := api.Term{}
	for _, x := range []struct {
		t    api.Term
		n    int
		want api.Term
	}{
		{v(0), 0, refused}, {v(0), 1, v(0)}, {v(1), 0, v(0)}, {v(1), 1, refused}, {v(1), 2, v(1)},
		{v(5), 4, v(4)}, {v(5), 5, refused}, {v(5), 6, v(5)}, {v(5), 65535, v(5)}, {v(5), 0, v(4)},
		{u(5), 0, u(5)}, {c(5), 0, c(5)}, {u(65535), 65535, u(65535)}, {c(65535), 65535, c(65535)},
		{v(65535), 65535, refused}, {v(65535), 65534, v(65534)}, {v(65534), 65535, v(65534)}, {v(65535), 0, v(65534)},
		{lam(u(0), v(0)), 0, lam(u(0), v(0))},
		{lam(u(0), v(1)), 0, refused},
		{lam(u(0), v(1)), 1, lam(u(0), v(1))},
		{lam(u(0), v(2)), 0, lam(u(0), v(1))},
		{lam(v(1), v(2)), 0, lam(v(0), v(1))},
		{lam(v(0), v(2)), 0, refused},
		{lam(v(1), v(1)), 0, refused},
		{lam(v(2), lam(v(2), v(2))), 0, refused},
		{lam(v(1), lam(v(2), v(3))), 0, lam(v(0), lam(v(1), v(2)))},
		{lam(v(0), lam(v(0), v(0))), 1, lam(v(0), lam(v(0), v(0)))},
		{lam(u(0), v(65535)), 65534, refused}, {lam(u(0), v(65535)), 65535, lam(u(0), v(65535))},
		{lam(u(0), v(65535)), 65533, lam(u(0), v(65534))},
		{app(v(1), lam(v(2), v(3))), 0, app(v(0), lam(v(1), v(2)))},
		{app(v(1), lam(v(2), v(3))), 1, refused}, {app(v(1), lam(v(2), v(3))), 2, refused},
		{app(v(1), lam(v(2), v(3))), 3, app(v(1), lam(v(2), v(3)))},
		{node(api.Jay, v(4), v(2), v(0)), 3, node(api.Jay, v(3), v(2), v(0))},
		{bush(api.MaxSize, v(3)), 1, bush(api.MaxSize, v(2))}, {bush(api.MaxSize, v(3)), 3, refused},
		{chain(api.MaxDepth, v(3)), 1, chain(api.MaxDepth, v(2))},
		{under(api.Sig, api.MaxDepth-1, v(0)), 0, under(api.Sig, api.MaxDepth-1, v(0))},
		{under(api.Sig, api.MaxDepth-1, v(api.MaxDepth-1)), 0, refused},
		{under(api.Sig, api.MaxDepth-1, v(api.MaxDepth)), 0, under(api.Sig, api.MaxDepth-1, v(api.MaxDepth-1))},
	} {
		lowers(t, x.t, x.n, x.want)
	}
}

// P4.1: in each Kid of each kind, a Var below, at and above the level.
func TestLowerUnderEachKid(t *testing.T) {
	for kind := api.Pi; kind <= api.Jay; kind++ {
		for i := range arity[kind] {
			for number := range 6 {
				for n := range 4 {
					level := number
					if binds(kind, i) {
						level--
					}
					in, out := []api.Term{u(0), u(1), u(2)}, []api.Term{u(0), u(1), u(2)}
					in[i], out[i] = node(api.Snd, v(number)), node(api.Snd, v(number))
					if level > n {
						out[i] = node(api.Snd, v(number-1))
					}
					want := inner(kind, out...)
					if level == n {
						want = api.Term{}
					}
					lowers(t, inner(kind, in...), n, want)
				}
			}
		}
	}
}

// P4.1: no right term, or no level.
func TestLowerRefuses(t *testing.T) {
	for _, x := range wrong() {
		for _, n := range []int{-1, 0, 1, 9, 65535, 65536} {
			lowers(t, x, n, api.Term{})
		}
	}
	for _, n := range []int{-1, -2, -65536, 65536, 65537, 1 << 32, math.MaxInt, math.MinInt} {
		for _, x := range []api.Term{v(0), v(65535), u(0), c(0), lam(u(0), v(0)), lam(u(0), v(3))} {
			lowers(t, x, n, api.Term{})
		}
	}
}

// The chapter's sentences in a plain recursion.

func plainLevel(t api.Term, binders int) (int, bool) {
	return t.N - binders, t.Kind == api.Var
}

func plainCount(t api.Term, binders, n int) int {
	count := 0
	if level, ok := plainLevel(t, binders); ok && level == n {
		count++
	}
	for i, k := range t.Kids {
		b := binders
		if binds(t.Kind, i) {
			b++
		}
		count += plainCount(k, b, n)
	}
	return count
}

// plainChange adds by to each Var that lies at a level of at least from.
func plainChange(t api.Term, binders, by, from int) api.Term {
	out := api.Term{Kind: t.Kind, N: t.N}
	if level, ok := plainLevel(t, binders); ok && level >= from {
		out.N += by
	}
	for i, k := range t.Kids {
		b := binders
		if binds(t.Kind, i) {
			b++
		}
		out.Kids = append(out.Kids, plainChange(k, b, by, from))
	}
	return out
}

// P4.1: all against the chapter's sentences.
func TestAgainstThePlainWords(t *testing.T) {
	for _, x := range towers() {
		for _, n := range []int{0, 1, 2, 3, 65533, 65534, 65535} {
			if got, want := Count(x, n), plainCount(x, 0, n); got != want {
				t.Fatal(x, n, got, want)
			}
			want := plainChange(x, 0, -1, n+1)
			if plainCount(x, 0, n) != 0 {
				want = api.Term{}
			}
			lowers(t, x, n, want)
			for _, by := range []int{0, 1, 2, 100, 65531, 65535} {
				want := plainChange(x, 0, by, n)
				if term.Check(want) == api.OK {
					gives(t, x, by, n, want)
				} else {
					fails(t, x, by, n, api.ErrScope)
				}
			}
		}
	}
}

// P4.2: two shifts from one level are one by the sum, in what they answer and in what they refuse.
func TestShiftsAddUp(t *testing.T) {
	found, refused := 0, 0
	for _, x := range towers() {
		for _, from := range []int{0, 1, 2, 3, 65534, 65535} {
			for _, by := range [][2]int{{0, 0}, {0, 1}, {1, 0}, {1, 1}, {2, 5}, {5, 2}, {40000, 25000}, {25000, 25000}, {65535, 0}, {0, 65535}} {
				whole, wholeE := Shift(x, by[0]+by[1], from)
				part, e := Shift(x, by[0], from)
				if e == api.OK {
					part, e = Shift(part, by[1], from)
				}
				if e != wholeE || !term.Equal(part, whole) {
					t.Fatal(x, from, by, e, wholeE)
				}
				if e == api.OK {
					found++
				} else {
					refused++
				}
			}
		}
	}
	if found < 1000 || refused < 1000 {
		t.Error(found, refused)
	}
}

// P4.2: a shift by 1 leaves no Var at its level, and Lower takes it back.
func TestLowerRestores(t *testing.T) {
	found := 0
	for _, x := range towers() {
		for _, from := range []int{0, 1, 2, 3, 4, 65533, 65534, 65535} {
			up, e := Shift(x, 1, from)
			if e != api.OK {
				continue
			}
			found++
			if Count(up, from) != 0 {
				t.Fatal(x, from, Count(up, from))
			}
			lowers(t, up, from, x)
		}
	}
	if found < 1000 {
		t.Error("only", found)
	}
}

// P4.2: where Lower gives a term, a shift by 1 takes it back.
func TestShiftRestores(t *testing.T) {
	found := 0
	for _, x := range towers() {
		for _, n := range []int{0, 1, 2, 3, 65534, 65535} {
			down, ok := Lower(x, n)
			if ok != (Count(x, n) == 0) {
				t.Fatal(x, n, ok)
			}
			if ok {
				found++
				gives(t, down, 1, n, x)
			}
		}
	}
	if found < 1000 {
		t.Error("only", found)
	}
}

// roomy is a copy of the term with spare capacity behind each list, which holds Vars that must stay as they are.
func roomy(t api.Term) api.Term {
	kids := make([]api.Term, 0, len(t.Kids)+2)
	for _, k := range t.Kids {
		kids = append(kids, roomy(k))
	}
	spare := kids[:cap(kids)]
	for i := len(kids); i < len(spare); i++ {
		spare[i] = lam(v(2), v(3))
	}
	t.Kids = kids
	return t
}

func spareKept(t api.Term) bool {
	for i, k := range t.Kids[:cap(t.Kids)] {
		if i < len(t.Kids) && !spareKept(k) || i >= len(t.Kids) && !term.Equal(k, lam(v(2), v(3))) {
			return false
		}
	}
	return true
}

// P4.1, R2, R6: what is handed in stays as it is, and what lies behind its lists is not looked at.
func TestArgumentsStay(t *testing.T) {
	all := small()
	for _, x := range wrong() {
		all = append(all, x)
	}
	for _, x := range all {
		given := roomy(x)
		for _, n := range []int{0, 1, 2, 3} {
			wantUp, wantE := Shift(x, 3, n)
			wantDown, wantOk := Lower(x, n)
			up, e := Shift(given, 3, n)
			down, ok := Lower(given, n)
			if e != wantE || ok != wantOk || !term.Equal(up, wantUp) || !term.Equal(down, wantDown) || Count(given, n) != Count(x, n) {
				t.Error(x, n, e, ok)
			}
		}
		if !term.Equal(given, x) || !spareKept(given) {
			t.Error(x, "is another now")
		}
	}
}

// spoil writes over all that a term's lists hold, their spare capacity as well, from the inside out.
func spoil(t api.Term) {
	for _, k := range t.Kids {
		spoil(k)
	}
	spare := t.Kids[:cap(t.Kids)]
	for i := range spare {
		spare[i] = leaf(88, 88)
	}
}

// apart spoils a result, list by list, and holds what must not share memory with it to what it was.
func apart(t *testing.T, result api.Term, others ...api.Term) {
	t.Helper()
	kept := []api.Term{}
	for _, x := range others {
		kept = append(kept, plainChange(x, 0, 0, 0))
	}
	whole := plainChange(result, 0, 0, 0)
	for i := range result.Kids {
		spoil(result.Kids[i])
		for j := i + 1; j < len(result.Kids); j++ {
			if !term.Equal(result.Kids[j], whole.Kids[j]) {
				t.Error("two lists of a result share memory")
			}
		}
	}
	spoil(result)
	for i, x := range others {
		if !term.Equal(x, kept[i]) {
			t.Error("a result shares memory with", i)
		}
	}
}

// P4.1, R2: results are new memory, even where they say the same as the argument.
func TestResultsAreNewMemory(t *testing.T) {
	shared := app(v(1), lam(v(1), v(2)))
	all := append(small(), app(shared, shared), node(api.Pair, shared, app(shared, shared), shared), lam(c(0), app(u(1), c(2))))
	for _, x := range all {
		for _, n := range []int{0, 4, 60000} {
			one, e := Shift(x, 1, n)
			two, _ := Shift(x, 1, n)
			if e == api.OK {
				apart(t, one, two, x)
			}
			same, e := Shift(x, 0, n)
			if e != api.OK {
				t.Error(x, e)
			}
			apart(t, same, x)
			down, _ := Lower(x, n)
			again, _ := Lower(x, n)
			apart(t, down, again, x)
		}
	}
}

// P4.1, R4: each field that has no meaning for its kind is zero, and leaves have no list.
func TestResultsAreWhole(t *testing.T) {
	for _, x := range small() {
		given := roomy(x)
		up, e := Shift(given, 0, 0)
		if e != api.OK || !reflect.DeepEqual(up, x) {
			t.Error(x, up, e)
		}
		if down, ok := Lower(given, 500); !ok || !reflect.DeepEqual(down, plainChange(x, 0, -1, 501)) {
			t.Error(x, down, ok)
		}
	}
}

// Example 1 of the chapter.
func TestExample(t *testing.T) {
	gives(t, lam(v(0), v(1)), 2, 0, lam(v(2), v(3)))
	gives(t, lam(v(0), v(0)), 2, 0, lam(v(2), v(0)))
}
