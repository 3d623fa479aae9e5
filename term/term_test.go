package term

import (
	"math"
	"runtime/debug"
	"slices"
	"strconv"
	"strings"
	"testing"

	"porism/api"
)

func leaf(kind, n int) api.Term { return api.Term{Kind: kind, N: n} }

func node(kind int, kids ...api.Term) api.Term { return api.Term{Kind: kind, Kids: kids} }

func v(n int) api.Term { return leaf(api.Var, n) }
func u(n int) api.Term { return leaf(api.Univ, n) }
func c(n int) api.Term { return leaf(api.Const, n) }

// chain is a term of so many nodes below one another, with inner as the last of them.
func chain(depth int, inner api.Term) api.Term {
	t := inner
	for range depth - 1 {
		t = node(api.Fst, t)
	}
	return t
}

// bush is a right term of so many nodes that is nowhere near too deep.
func bush(size int) api.Term {
	switch size {
	case 1:
		return v(0)
	case 2:
		return node(api.Snd, v(0))
	}
	left := (size - 1) / 2
	return node(api.App, bush(left), bush(size-1-left))
}

// write writes a term so that no two terms are written alike.
func write(t api.Term) string {
	var b strings.Builder
	b.WriteString(strconv.Itoa(t.Kind) + "." + strconv.Itoa(t.N) + "(")
	for _, k := range t.Kids {
		b.WriteString(write(k))
	}
	b.WriteString(")")
	return b.String()
}

// arity is what chapter 1 says of the kinds, written out.
var arity = map[int]int{
	api.Var: 0, api.Univ: 0, api.Const: 0,
	api.Fst: 1, api.Snd: 1,
	api.Pi: 2, api.Lam: 2, api.App: 2, api.Sig: 2, api.Refl: 2,
	api.Pair: 3, api.Id: 3, api.Jay: 3,
}

// inKind is a right term of the kind, if its leaves are.
func inKind(kind int, kids []api.Term) api.Term {
	return api.Term{Kind: kind, Kids: slices.Clone(kids[:arity[kind]])}
}

// noKinds holds numbers that would come back into the kinds if one cut them to 8, 16 or 32 bits.
var noKinds = []int{
	0, -1, -13, api.Jay + 1, 255, 256 + api.Var, 1<<16 + api.Pi, 1<<32 + api.Univ, -1<<32 + api.Lam,
	math.MaxInt, math.MinInt,
}

// small is every term of at most two storeys over these leaves, right and wrong.
func small() []api.Term {
	leaves := []api.Term{v(0), v(1), u(0), u(api.MaxLevel + 1), c(0), c(2), v(-1)}
	all := slices.Clone(leaves)
	for kind := api.Var; kind <= api.Jay; kind++ {
		switch arity[kind] {
		case 1:
			for _, a := range leaves {
				all = append(all, node(kind, a))
			}
		case 2:
			for _, a := range leaves {
				for _, b := range leaves {
					all = append(all, node(kind, a, b))
				}
			}
		case 3:
			for _, a := range leaves {
				all = append(all, node(kind, a, v(0), c(2)), node(kind, v(1), a, u(0)), node(kind, c(0), u(0), a))
			}
		}
	}
	return all
}

// towers is small's terms and each of them in each place of each binder.
func towers() []api.Term {
	all := small()
	for _, t := range small() {
		for _, kind := range []int{api.Pi, api.Lam, api.Sig, api.App} {
			all = append(all, node(kind, t, v(0)), node(kind, u(0), t), node(kind, u(0), node(kind, v(0), t)))
		}
		all = append(all, node(api.Pair, node(api.Sig, u(0), t), t, v(0)))
	}
	return all
}

// P2.1: right terms of each kind, and N at both ends.
func TestCheckTakesRightTerms(t *testing.T) {
	for _, kind := range []int{api.Var, api.Univ, api.Const} {
		for _, n := range []int{0, 1, api.MaxLevel, api.MaxLevel + 1, api.MaxConsts, 255, 256, 65534, 65535} {
			if e := Check(leaf(kind, n)); e != api.OK {
				t.Error(kind, n, e)
			}
		}
	}
	kids := []api.Term{v(65535), u(65535), c(65535)}
	for kind := range arity {
		x := inKind(kind, kids)
		if e := Check(x); e != api.OK {
			t.Error(kind, e)
		}
		if e := Check(node(api.Pi, u(0), node(api.Snd, x))); e != api.OK {
			t.Error(kind, "further in", e)
		}
	}
	if e := Check(api.Term{Kind: api.Var, Kids: []api.Term{}}); e != api.OK {
		t.Error("an empty list is as none:", e)
	}
}

// wrong holds terms that are small enough and not right, each for one reason.
func wrong() []api.Term {
	all := []api.Term{{}}
	for _, kind := range noKinds {
		all = append(all, leaf(kind, 0), node(kind, v(0)), node(kind, v(0), v(0)), node(kind, v(0), v(0), v(0)))
	}
	ns := []int{-1, -2, -65536, math.MinInt, 1, 65535, 65536, 65537, 1 << 17, 1 << 32, 1<<32 + 1, math.MaxInt}
	kids := []api.Term{v(0), u(0), c(0), v(0)}
	for kind, count := range arity {
		for _, n := range ns {
			if count > 0 || n < 0 || n > 65535 {
				x := inKind(kind, kids)
				x.N = n
				all = append(all, x)
			}
		}
		for others := range len(kids) + 1 {
			if others != count {
				all = append(all, api.Term{Kind: kind, Kids: kids[:others]})
			}
		}
	}
	return all
}

// P2.1
func TestCheckRefusesWrongTerms(t *testing.T) {
	for _, x := range wrong() {
		if e := Check(x); e != api.ErrArg {
			t.Error(write(x), e)
		}
	}
}

// P2.1: a wrong node makes wrong every term that it is in, at whatever place.
func TestCheckLooksEverywhere(t *testing.T) {
	for _, x := range wrong() {
		for kind, count := range arity {
			for i := range count {
				kids := []api.Term{v(0), u(0), c(0)}
				kids[i] = node(api.Fst, x)
				if e := Check(inKind(kind, kids)); e != api.ErrArg {
					t.Error(kind, i, write(x), e)
				}
			}
		}
	}
}

// P2.1: exactly as great as a term may be, and one more.
func TestCheckSize(t *testing.T) {
	for size, want := range map[int]api.Errno{
		1: api.OK, api.MaxSize - 1: api.OK, api.MaxSize: api.OK,
		api.MaxSize + 1: api.ErrSize, api.MaxSize + 2: api.ErrSize, 2 * api.MaxSize: api.ErrSize,
	} {
		if e := Check(bush(size)); e != want {
			t.Error(size, e, "want", want)
		}
	}
}

// P2.1: exactly as deep as a term may be, and one more; through each Kid of each kind.
func TestCheckDepth(t *testing.T) {
	for kind, count := range arity {
		for i := range count {
			kids := []api.Term{v(0), v(0), v(0)}
			for depth, want := range map[int]api.Errno{
				api.MaxDepth - 1: api.OK, api.MaxDepth: api.OK,
				api.MaxDepth + 1: api.ErrDepth, api.MaxDepth + 2: api.ErrDepth,
			} {
				kids[i] = chain(depth-1, v(0))
				if e := Check(inKind(kind, kids)); e != want {
					t.Error(kind, i, depth, e, "want", want)
				}
			}
		}
	}
}

// P2.1: the errors in the order in which they are named, where more than one applies.
func TestCheckOrder(t *testing.T) {
	bad := leaf(api.Jay+1, -1)
	for i, x := range []struct {
		t    api.Term
		want api.Errno
	}{
		{chain(api.MaxSize+1, v(0)), api.ErrSize},
		{chain(api.MaxSize+1, bad), api.ErrSize},
		{chain(api.MaxSize, bad), api.ErrDepth},
		{node(api.App, chain(api.MaxDepth, v(0)), bush(api.MaxSize)), api.ErrSize},
		{node(api.App, bush(api.MaxSize), chain(api.MaxDepth, v(0))), api.ErrSize},
		{node(api.App, bad, bush(api.MaxSize-1)), api.ErrSize},
		{node(api.App, bush(api.MaxSize-1), bad), api.ErrSize},
		{node(api.App, bad, bush(api.MaxSize-2)), api.ErrArg},
		{node(api.App, bush(api.MaxSize-2), bad), api.ErrArg},
		{node(api.App, bad, chain(api.MaxDepth, v(0))), api.ErrDepth},
		{node(api.App, chain(api.MaxDepth, v(0)), bad), api.ErrDepth},
		{node(api.App, bad, chain(api.MaxDepth-1, v(0))), api.ErrArg},
		{chain(api.MaxDepth+1, bad), api.ErrDepth},
		{chain(api.MaxDepth, bad), api.ErrArg},
		{api.Term{Kind: api.Var, Kids: make([]api.Term, api.MaxSize)}, api.ErrSize},
		{api.Term{Kind: api.Var, Kids: make([]api.Term, api.MaxSize-1)}, api.ErrArg},
		{api.Term{Kids: []api.Term{chain(api.MaxDepth, bad)}}, api.ErrDepth},
	} {
		if e := Check(x.t); e != x.want {
			t.Error(i, e, "want", x.want)
		}
	}
}

// P2.1, R1: a term that is small in memory and endlessly great as a term doesn't keep Check and Scope busy.
func TestCheckStopsAtTheSize(t *testing.T) {
	x := v(0)
	for range 200 {
		x = node(api.App, x, x)
	}
	if e := Check(x); e != api.ErrSize {
		t.Error(e)
	}
	if Scope(x, 9, 9) {
		t.Error("in scope")
	}
}

// odd is a term that isn't right, of 10 nodes and 4 storeys.
func odd() api.Term {
	return api.Term{Kind: 77, N: -5, Kids: []api.Term{
		{Kind: api.Const, N: 9},
		{},
		{Kind: api.Const, N: -2, Kids: []api.Term{c(9), {Kind: -api.Const, N: 4}}},
		{Kind: api.Pi, N: 3, Kids: []api.Term{{Kind: api.Univ, N: 8, Kids: []api.Term{c(math.MaxInt)}}}},
		{Kind: api.Var, N: 7},
	}}
}

// P2.1
func TestSizeAndDepth(t *testing.T) {
	for i, x := range []struct {
		t           api.Term
		size, depth int
	}{
		{api.Term{}, 1, 1},
		{v(3), 1, 1},
		{node(api.Snd, v(3)), 2, 2},
		{node(api.Lam, u(0), v(0)), 3, 2},
		{node(api.Pi, u(0), node(api.Lam, u(0), v(1))), 5, 3},
		{node(api.Pi, node(api.Lam, u(0), v(1)), u(0)), 5, 3},
		{node(api.Jay, v(0), node(api.Fst, node(api.Fst, v(0))), v(0)), 6, 4},
		{api.Term{Kids: make([]api.Term, 1000)}, 1001, 2},
		{api.Term{Kind: api.Const, Kids: []api.Term{}}, 1, 1},
		{odd(), 10, 4},
		{node(0, odd()), 11, 5},
		{chain(api.MaxDepth+1, odd()), 10 + api.MaxDepth, 4 + api.MaxDepth},
		{bush(api.MaxSize), api.MaxSize, 13},
		{bush(3*api.MaxSize + 1), 3*api.MaxSize + 1, 15},
	} {
		if Size(x.t) != x.size || Depth(x.t) != x.depth {
			t.Error(i, Size(x.t), Depth(x.t), "want", x.size, x.depth)
		}
	}
}

// P2.1, R1: terms far deeper than right ones. The bound on the stack is what a call within a call for each node would break.
func TestVeryDeepTerms(t *testing.T) {
	defer debug.SetMaxStack(debug.SetMaxStack(16 << 20))
	const depth = 1_000_000
	a, b, other := chain(depth, c(5)), chain(depth, c(5)), chain(depth, c(6))
	if Size(a) != depth || Depth(a) != depth {
		t.Error(Size(a), Depth(a))
	}
	if !Equal(a, b) || Equal(a, other) {
		t.Error("Equal")
	}
	if got := Consts(a); !slices.Equal(got, []int{5}) {
		t.Error(got)
	}
	if Check(a) != api.ErrSize || Scope(a, 9, 9) {
		t.Error(Check(a))
	}
}

// P2.1: Equal holds where what is written is the same, and only there.
func TestEqual(t *testing.T) {
	all := small()
	all = append(all, odd(), api.Term{}, leaf(77, 0), node(api.Var, v(0)), node(api.Var, v(0), v(0)), node(0), node(0, api.Term{}))
	written := []string{}
	for _, x := range all {
		written = append(written, write(x))
	}
	for i, a := range all {
		for k, b := range all {
			if Equal(a, b) != (written[i] == written[k]) {
				t.Error(written[i], written[k], Equal(a, b))
			}
		}
	}
}

// P2.1: one difference anywhere is seen, from both sides.
func TestEqualSeesEveryPlace(t *testing.T) {
	for i, x := range []api.Term{
		node(api.Pi, u(0), node(api.Lam, u(1), v(0))),
		node(api.Pi, u(0), node(api.Lam, u(0), v(1))),
		node(api.Pi, u(0), node(api.Sig, u(0), v(0))),
		node(api.Pi, u(1), node(api.Lam, u(0), v(0))),
		node(api.Pi, u(0), node(api.Lam, u(0), c(0))),
		node(api.Pi, u(0), node(api.Lam, u(0), v(0), v(0))),
		node(api.Pi, u(0), node(api.Lam, u(0))),
		node(api.Pi, u(0), node(api.Lam)),
		node(api.Pi, u(0), node(api.Lam, u(0), node(api.Fst, v(0)))),
		{Kind: api.Pi, N: 1, Kids: []api.Term{u(0), node(api.Lam, u(0), v(0))}},
	} {
		base := node(api.Pi, u(0), node(api.Lam, u(0), v(0)))
		if Equal(base, x) || Equal(x, base) {
			t.Error(i)
		}
	}
	if !Equal(odd(), odd()) || Equal(odd(), api.Term{}) {
		t.Error("a term that is not right")
	}
	if !Equal(bush(2*api.MaxSize), bush(2*api.MaxSize)) || Equal(bush(2*api.MaxSize), bush(2*api.MaxSize+1)) {
		t.Error("a great term")
	}
	if !Equal(api.Term{Kind: api.Var, Kids: []api.Term{}}, v(0)) {
		t.Error("an empty list is as none")
	}
}

// P2.1: the edges of the scope, by hand.
func TestScope(t *testing.T) {
	pi := func(a, b api.Term) api.Term { return node(api.Pi, a, b) }
	for i, x := range []struct {
		t            api.Term
		vars, consts int
		want         bool
	}{
		{v(0), 0, 9, false}, {v(0), 1, 0, true}, {v(1), 1, 9, false}, {v(1), 2, 0, true},
		{v(65535), 65535, 0, false}, {v(65535), 65536, 0, true}, {v(65535), math.MaxInt, math.MaxInt, true},
		{c(0), 9, 0, false}, {c(0), 0, 1, true}, {c(5), 9, 5, false}, {c(5), 0, 6, true},
		{c(65535), 0, 65535, false}, {c(65535), 0, 65536, true}, {c(65535), 0, math.MaxInt, true},
		{u(0), 0, 0, true}, {u(api.MaxLevel), 0, 0, true}, {u(api.MaxLevel + 1), math.MaxInt, math.MaxInt, false}, {u(65535), 9, 9, false},
		{u(0), -1, 0, false}, {u(0), 0, -1, false}, {u(0), -1, -1, false}, {u(0), math.MinInt, math.MaxInt, false}, {u(0), math.MaxInt, math.MinInt, false},
		{pi(u(0), v(0)), -1, 0, false}, {pi(u(0), u(0)), -1, 0, false},
		{pi(u(0), v(0)), 0, 0, true}, {pi(u(0), v(1)), 0, 0, false}, {pi(u(0), v(1)), 1, 0, true},
		{pi(v(0), u(0)), 0, 0, false}, {pi(v(0), u(0)), 1, 0, true}, {pi(v(0), v(1)), 1, 0, true}, {pi(v(1), v(1)), 1, 0, false},
		{pi(u(0), v(1)), math.MaxInt, 0, true}, {pi(u(0), v(65535)), math.MaxInt, 0, true},
		{pi(u(0), v(65535)), 65535, 0, true}, {pi(u(0), v(65535)), 65534, 0, false},
		{pi(u(0), pi(v(0), v(1))), 0, 0, true}, {pi(u(0), pi(v(1), v(1))), 0, 0, false}, {pi(u(0), pi(v(0), v(2))), 0, 0, false},
		{pi(pi(u(0), v(0)), v(0)), 0, 0, true}, {pi(pi(u(0), v(0)), v(1)), 0, 0, false}, {pi(pi(u(0), v(1)), v(0)), 0, 0, false},
		{pi(u(0), node(api.App, v(0), v(1))), 0, 0, false}, {pi(u(0), node(api.App, v(1), v(0))), 0, 0, false}, {pi(u(0), node(api.App, v(0), v(0))), 0, 0, true},
		{pi(u(0), u(7)), 0, 0, false}, {pi(u(0), c(1)), 9, 1, false}, {pi(u(0), c(0)), 0, 1, true},
		{node(api.Pair, node(api.Sig, u(0), v(0)), v(0), v(0)), 0, 0, false},
		{node(api.Pair, node(api.Sig, u(0), v(0)), u(0), u(0)), 0, 0, true},
		{node(api.Lam, u(0), v(0)), 0, 0, true},
	} {
		if got := Scope(x.t, x.vars, x.consts); got != x.want {
			t.Error(i, write(x.t), x.vars, x.consts, got)
		}
	}
}

// P2.1: which Kid of which kind has one more variable, and that it has no more than one.
func TestScopeUnderEachKid(t *testing.T) {
	for kind, count := range arity {
		for i := range count {
			binds := i == 1 && (kind == api.Pi || kind == api.Lam || kind == api.Sig)
			for vars := range 4 {
				for n := range 6 {
					kids := []api.Term{u(0), u(0), u(0)}
					kids[i] = node(api.Snd, v(n))
					want := n < vars || binds && n == vars
					if got := Scope(inKind(kind, kids), vars, 0); got != want {
						t.Error(kind, i, vars, n, got)
					}
				}
			}
		}
	}
}

// P2.1: as many binders as a right term can have.
func TestScopeUnderManyBinders(t *testing.T) {
	for _, kind := range []int{api.Pi, api.Lam, api.Sig} {
		for n, want := range map[int]bool{0: true, api.MaxDepth - 2: true, api.MaxDepth - 1: false, api.MaxDepth: false} {
			x := v(n)
			for range api.MaxDepth - 1 {
				x = node(kind, u(0), x)
			}
			if got := Scope(x, 0, 0); got != want {
				t.Error(kind, n, got)
			}
		}
	}
}

// P2.1: what isn't right is in no scope.
func TestScopeOfWrongTerms(t *testing.T) {
	all := append(wrong(), odd(), bush(api.MaxSize+1), chain(api.MaxDepth+1, v(0)))
	for i, x := range all {
		if Scope(x, 9, 9) || Scope(x, math.MaxInt, math.MaxInt) {
			t.Error(i)
		}
	}
	if !Scope(bush(api.MaxSize), 1, 0) || !Scope(chain(api.MaxDepth, v(0)), 1, 0) {
		t.Error("the greatest and the deepest right terms")
	}
}

// P2.1
func TestConsts(t *testing.T) {
	for i, x := range []struct {
		t    api.Term
		want []int
	}{
		{api.Term{}, nil},
		{v(3), nil},
		{u(3), nil},
		{c(3), []int{3}},
		{c(0), []int{0}},
		{c(-1), []int{-1}},
		{node(api.App, c(2), c(1)), []int{1, 2}},
		{node(api.App, c(2), c(2)), []int{2}},
		{node(api.Pi, c(7), node(api.App, node(api.App, c(1), c(7)), node(api.Lam, c(3), c(0)))), []int{0, 1, 3, 7}},
		{node(api.Id, c(10), c(9), c(100)), []int{9, 10, 100}},
		{node(api.Jay, v(1), u(1), node(api.Fst, v(1))), nil},
		{api.Term{Kind: api.Const, N: 1, Kids: []api.Term{c(0), v(5), c(1)}}, []int{0, 1}},
		{odd(), []int{-2, 9, math.MaxInt}},
		{node(api.App, c(math.MinInt), c(65535)), []int{math.MinInt, 65535}},
	} {
		if got := Consts(x.t); !slices.Equal(got, x.want) {
			t.Error(i, got, "want", x.want)
		}
	}
}

// P2.1: many constants, handed in out of order and twice.
func TestConstsAreAscending(t *testing.T) {
	kids, want := []api.Term{}, []int{}
	for i := range 1009 {
		kids = append(kids, c(i*37%1009), node(api.Fst, c(i*101%1009)))
		want = append(want, i)
	}
	if got := Consts(node(api.Var, kids...)); !slices.Equal(got, want) {
		t.Error(got)
	}
}

// P2.1, R2: no two answers share memory.
func TestConstsAreNewMemory(t *testing.T) {
	x := node(api.App, c(2), node(api.App, c(1), c(4)))
	first := Consts(x)
	for i := range first[:cap(first)] {
		first[:cap(first)][i] = 99
	}
	if got := Consts(x); !slices.Equal(got, []int{1, 2, 4}) {
		t.Error(got)
	}
}

// roomy is a copy of t whose lists have room behind them, with something in it.
func roomy(t api.Term) api.Term {
	kids := []api.Term{}
	for _, k := range t.Kids {
		kids = append(kids, roomy(k))
	}
	behind := append(kids, c(1000), leaf(99, -9), node(api.Lam, u(1), v(5)))
	t.Kids = behind[:len(kids)]
	return t
}

// writeAll writes a roomy term with what lies behind its lists.
func writeAll(t api.Term) string {
	all := write(t)
	for _, k := range t.Kids[:cap(t.Kids)] {
		all += writeAll(k)
	}
	return all
}

// P2.1, R2, R6: what is handed in stays as it is, and what lies behind its lists is not looked at.
func TestArgumentsStay(t *testing.T) {
	for _, x := range append(small(), odd()) {
		y, z := roomy(x), roomy(x)
		before := writeAll(y)
		size, depth, consts := Size(y), Depth(y), Consts(y)
		if size != Size(x) || depth != Depth(x) || !slices.Equal(consts, Consts(x)) {
			t.Error(write(x), size, depth, consts)
		}
		if Check(y) != Check(x) || Scope(y, 2, 2) != Scope(x, 2, 2) || !Equal(y, z) || !Equal(x, y) {
			t.Error(write(x), Check(y))
		}
		if writeAll(y) != before || writeAll(z) != before {
			t.Error(write(x), "is another now")
		}
	}
}

// P2.1: all against the chapter's sentences, in a plain recursion, for terms that aren't too great.
func TestAgainstThePlainWords(t *testing.T) {
	for _, x := range append(towers(), wrong()...) {
		if e := Check(x); (e == api.OK) != plainRight(x) || e != api.OK && e != api.ErrArg {
			t.Error(write(x), e)
		}
		if Size(x) != plainSize(x) || Depth(x) != plainDepth(x) {
			t.Error(write(x), Size(x), Depth(x))
		}
		for vars := -1; vars < 4; vars++ {
			for consts := -1; consts < 4; consts++ {
				want := vars >= 0 && consts >= 0 && plainRight(x) && plainScope(x, vars, consts)
				if got := Scope(x, vars, consts); got != want {
					t.Error(write(x), vars, consts, got)
				}
			}
		}
	}
}

func plainRight(t api.Term) bool {
	kids, ok := arity[t.Kind]
	ok = ok && len(t.Kids) == kids && t.N >= 0 && t.N <= 65535 && (kids == 0 || t.N == 0)
	for _, k := range t.Kids {
		ok = ok && plainRight(k)
	}
	return ok
}

func plainSize(t api.Term) int {
	size := 1
	for _, k := range t.Kids {
		size += plainSize(k)
	}
	return size
}

func plainDepth(t api.Term) int {
	depth := 0
	for _, k := range t.Kids {
		depth = max(depth, plainDepth(k))
	}
	return depth + 1
}

func plainScope(t api.Term, vars, consts int) bool {
	switch t.Kind {
	case api.Var:
		return t.N < vars
	case api.Univ:
		return t.N <= api.MaxLevel
	case api.Const:
		return t.N < consts
	case api.Pi, api.Lam, api.Sig:
		return plainScope(t.Kids[0], vars, consts) && plainScope(t.Kids[1], vars+1, consts)
	}
	for _, k := range t.Kids {
		if !plainScope(k, vars, consts) {
			return false
		}
	}
	return true
}

// P2.2: what is in scope is in scope of more, on either side and on both.
func TestScopeGrows(t *testing.T) {
	found := 0
	for _, x := range append(towers(), bush(api.MaxSize), chain(api.MaxDepth, v(3)), c(65535), v(65535)) {
		for _, vars := range []int{0, 1, 2, 3, 4, 65535, 65536} {
			for _, consts := range []int{0, 1, 2, 3, 65535, 65536} {
				if !Scope(x, vars, consts) {
					continue
				}
				found++
				for _, more := range []int{1, 2, 200, 65536, math.MaxInt - 65536} {
					if !Scope(x, vars+more, consts) || !Scope(x, vars, consts+more) || !Scope(x, vars+more, consts+more) {
						t.Error(write(x), vars, consts, more)
					}
				}
			}
		}
	}
	if found < 1000 {
		t.Error("only", found, "in scope: nothing was asked")
	}
}

// P2.2: with no variables and no constants too many, a right term of right levels comes into scope at last.
func TestScopeOfEverything(t *testing.T) {
	for _, x := range []api.Term{v(65535), c(65535), node(api.Pi, v(65535), c(65535)), node(api.Lam, u(api.MaxLevel), v(65535))} {
		if !Scope(x, 65536, 65536) || !Scope(x, math.MaxInt, math.MaxInt) {
			t.Error(write(x))
		}
	}
}

// Example 1 of the chapter.
func TestExample(t *testing.T) {
	if !Scope(node(api.Lam, u(0), v(0)), 0, 0) {
		t.Error("the example is not in scope")
	}
}
