package posit

import (
	"math"
	"reflect"
	"runtime/debug"
	"slices"
	"strconv"
	"testing"

	"porism/api"
	"porism/kind"
	"porism/shape"
	"porism/tele"
	"porism/term"
)

func leaf(kind, n int) api.Term { return api.Term{Kind: kind, N: n} }

func node(kind int, kids ...api.Term) api.Term { return api.Term{Kind: kind, Kids: kids} }

func v(n int) api.Term { return leaf(api.Var, n) }
func u(n int) api.Term { return leaf(api.Univ, n) }
func c(n int) api.Term { return leaf(api.Const, n) }

func pi(a, b api.Term) api.Term  { return node(api.Pi, a, b) }
func lam(a, b api.Term) api.Term { return node(api.Lam, a, b) }

// on is a spine of f.
func on(f api.Term, args ...api.Term) api.Term {
	for _, a := range args {
		f = node(api.App, f, a)
	}
	return f
}

func row(l ...api.Term) []api.Term { return l }

// many is so many terms, each the same.
func many(n int, t api.Term) []api.Term {
	l := make([]api.Term, n)
	for i := range l {
		l[i] = t
	}
	return l
}

func of(t api.Term) api.Arg { return api.Arg{Type: t} }

func rec(sort int, idx ...api.Term) api.Arg { return api.Arg{Rec: true, Sort: sort, Idx: idx} }

func fun(dom []api.Term, sort int, idx ...api.Term) api.Arg {
	return api.Arg{Rec: true, Dom: dom, Sort: sort, Idx: idx}
}

func args(l ...api.Arg) []api.Arg { return l }

// nat is the natural numbers.
func nat() api.Block {
	return api.Block{Sorts: []api.Sort{{}}, Cons: []api.Con{{}, {Args: args(rec(0))}}}
}

// vec is vectors over the numbers, whose constants are 0 to 3; its own are 20 to 23.
func vec() api.Block {
	return api.Block{Sorts: []api.Sort{{Idx: args(of(c(0)))}}, Cons: []api.Con{
		{Idx: row(c(1))},
		{Args: args(of(u(0)), of(c(0)), rec(0, v(0))), Idx: row(on(c(2), v(1)))},
	}}
}

// universe is types with the decoder 21, and functions from what one decodes to; 22 and 23 are its constructors.
func universe() api.Block {
	return api.Block{Sorts: []api.Sort{{Level: 1, Dec: true, DecType: u(0)}}, Cons: []api.Con{
		{Dec: c(0)},
		{Args: args(rec(0), fun(row(on(c(21), v(0))), 0)), Dec: pi(on(c(21), v(1)), on(c(21), on(v(1), v(0))))},
	}}
}

// contexts is contexts and types over contexts: 20 and 21. 22 and 23 are the contexts' constructors, 24 and 25 the types'.
func contexts() api.Block {
	return api.Block{Sorts: []api.Sort{{}, {Idx: args(rec(0))}}, Cons: []api.Con{
		{},
		{Args: args(rec(0), rec(1, v(0)))},
		{Sort: 1, Args: args(rec(0)), Idx: row(v(0))},
		{Sort: 1, Args: args(rec(0), rec(1, v(0)), rec(1, on(c(23), v(1), v(0)))), Idx: row(v(2))},
	}}
}

// mixed has the formers 20 to 23, the decoders 24 of the first sort (with two indices) and 25 of the third, the constructors 26 to 30, and eliminators up to 34.
func mixed() api.Block {
	return api.Block{
		Sorts: []api.Sort{
			{Idx: args(of(c(5)), of(on(c(6), v(0)))), Level: 2, Dec: true, DecType: pi(v(1), u(1))},
			{Idx: args(rec(0, c(7), c(8)), of(on(c(24), c(7), c(8), v(0))))},
			{Dec: true, DecType: c(7)},
			{Idx: args(rec(0, u(0), c(5)), rec(1, v(0), u(1)), of(c(5)))},
		},
		Cons: []api.Con{
			{Sort: 2, Dec: c(5)},
			{Args: args(of(c(5)), rec(2), fun(row(on(c(25), v(0)), v(2)), 0, v(0), v(3))), Idx: row(v(2), u(0)), Dec: pi(on(c(25), v(1)), on(c(24), v(3), c(9), on(v(1), v(0), u(0))))},
			{Sort: 1, Args: args(rec(0, c(7), c(8)), of(on(c(24), c(7), c(8), v(0)))), Idx: row(v(1), v(0))},
			{Sort: 1, Args: args(rec(0, u(0), u(1)), fun(row(c(5)), 0, v(0), u(1)), rec(2), fun(row(u(0), v(0)), 0, v(0), v(1))), Idx: row(on(c(27), u(1), v(1), v(0)), on(c(25), v(1)))},
			{Sort: 3, Args: args(rec(0, c(5), c(5)), rec(1, v(0), u(0)), fun(row(u(0)), 3, v(2), v(1), v(0))), Idx: row(v(2), on(c(28), v(2), u(0)), on(c(25), v(1)))},
		},
	}
}

// base is what the terms of all blocks below are made for.
const base = 20

// family is one of the positive blocks that the tests begin with.
type family struct {
	name string
	of   func() api.Block
}

func families() []family {
	return []family{{"nat", nat}, {"vec", vec}, {"universe", universe}, {"contexts", contexts}, {"mixed", mixed}}
}

// errorOf is what Check must answer of a right block.
func errorOf(ok bool) api.Errno {
	if ok {
		return api.OK
	}
	return api.ErrPos
}

// spot is a place of a block where a term stands: in the context of the Args and of so many Doms; where a good term is asked for, with so many constructors.
type spot struct {
	b     *api.Block
	name  string
	t     *api.Term
	args  []api.Arg
	doms  int
	good  bool
	known int
}

// spots lists all places by the chapter's words.
func spots(b *api.Block) []spot {
	var l []spot
	for k := range b.Sorts {
		s := &b.Sorts[k]
		name := "sort " + strconv.Itoa(k)
		l = append(l, spotsOfArgs(b, name, s.Idx, 0)...)
		if s.Dec {
			l = append(l, spot{b: b, name: name + " dectype", t: &s.DecType, args: s.Idx})
		}
	}
	for k := range b.Cons {
		x := &b.Cons[k]
		name := "con " + strconv.Itoa(k)
		l = append(l, spotsOfArgs(b, name, x.Args, k)...)
		for j := range x.Idx {
			good := b.Sorts[x.Sort].Idx[j].Rec
			l = append(l, spot{b, name + " idx " + strconv.Itoa(j), &x.Idx[j], x.Args, 0, good, k})
		}
		if b.Sorts[x.Sort].Dec {
			l = append(l, spot{b: b, name: name + " dec", t: &x.Dec, args: x.Args})
		}
	}
	return l
}

func spotsOfArgs(b *api.Block, name string, l []api.Arg, known int) []spot {
	var out []spot
	for i := range l {
		a, before, name := &l[i], l[:i], name+" arg "+strconv.Itoa(i)
		if !a.Rec {
			out = append(out, spot{b: b, name: name + " type", t: &a.Type, args: before})
			continue
		}
		for j := range a.Dom {
			out = append(out, spot{b: b, name: name + " dom " + strconv.Itoa(j), t: &a.Dom[j], args: before, doms: j})
		}
		for j := range a.Idx {
			good := b.Sorts[a.Sort].Idx[j].Rec
			out = append(out, spot{b, name + " idx " + strconv.Itoa(j), &a.Idx[j], before, len(a.Dom), good, known})
		}
	}
	return out
}

// context lists a spot's variables from the outermost on: for each the Arg that it belongs to if it is guarded, and nil otherwise.
func (s spot) context() []*api.Arg {
	var l []*api.Arg
	for i := range s.args {
		if s.args[i].Rec {
			l = append(l, &s.args[i])
		} else {
			l = append(l, nil)
		}
	}
	return append(l, make([]*api.Arg, s.doms)...)
}

// arity is what chapter 1 says of the kinds with Kids, written out.
var arity = []struct{ kind, kids int }{
	{api.Fst, 1}, {api.Snd, 1},
	{api.Pi, 2}, {api.Lam, 2}, {api.App, 2}, {api.Sig, 2}, {api.Refl, 2},
	{api.Pair, 3}, {api.Id, 3}, {api.Jay, 3},
}

// around is terms with t as each Kid of each kind. What t is, lies under so many more binders there.
func around(t func(binders int) api.Term, binders int) []api.Term {
	var l []api.Term
	for _, a := range arity {
		for i := range a.kids {
			x := api.Term{Kind: a.kind, Kids: many(a.kids, u(0))}
			x.Kids[i] = t(binders + kind.Binds(a.kind, i))
			l = append(l, x)
		}
	}
	return l
}

// within is t itself, and t inside of one and of two other terms.
func within(t func(binders int) api.Term) []api.Term {
	l := row(t(0))
	l = append(l, around(t, 0)...)
	for _, a := range []int{api.Pi, api.Lam, api.App, api.Jay} {
		l = append(l, around(func(n int) api.Term {
			x := api.Term{Kind: a, Kids: many(2, u(0))}
			if a == api.Jay {
				x.Kids = many(3, u(0))
			}
			x.Kids[1] = t(n + kind.Binds(a, 1))
			return x
		}, 0)...)
	}
	return l
}

// try is what Check answers of the spot's block with another term at the spot.
func (s spot) try(t api.Term) api.Errno {
	kept := *s.t
	*s.t = t
	e := Check(*s.b, base)
	*s.t = kept
	return e
}

// each is all places of the families: those where a good term is asked for, or those where a clean one is.
func each(good bool) []spot {
	var l []spot
	for _, f := range families() {
		b := f.of()
		for _, s := range spots(&b) {
			if s.good == good {
				s.name = f.name + ", " + s.name
				l = append(l, s)
			}
		}
	}
	return l
}

// P8.1: there are many places of either sort for the tests below to try.
func TestPlaces(t *testing.T) {
	if len(each(false)) < 40 || len(each(true)) < 10 {
		t.Error(len(each(false)), len(each(true)))
	}
}

// P8.1: positive blocks, at the base that they are made for; and those without constants of their own at each.
func TestPositiveBlocks(t *testing.T) {
	for _, f := range families() {
		if e := Check(f.of(), base); e != api.OK {
			t.Error(f.name, e)
		}
	}
	for _, n := range []int{0, 1, 300, 65534, 65535} {
		if e := Check(nat(), n); e != api.OK {
			t.Error(n, e)
		}
		if e := Check(api.Block{Sorts: []api.Sort{{}}}, n); e != api.OK {
			t.Error(n, "no cons", e)
		}
	}
}

// P8.1: the errors, and which of them is first.
func TestErrorsInOrder(t *testing.T) {
	wrong, negative, both := nat(), nat(), nat()
	wrong.Elim = 7
	negative.Cons[0].Args = args(of(c(base)))
	both.Cons[0].Args, both.Elim = args(of(c(base))), -1
	for _, n := range []int{-1, -2, 65536, 65537, 1 << 32, 1<<32 + base, -1<<32 + base, math.MaxInt, math.MinInt} {
		for i, b := range []api.Block{wrong, both, {}} {
			if e := Check(b, n); e != api.ErrForm {
				t.Error(i, n, e)
			}
		}
		for i, b := range []api.Block{nat(), negative, mixed()} {
			if e := Check(b, n); e != api.ErrArg {
				t.Error(i, n, e)
			}
		}
	}
	for i, b := range []api.Block{wrong, both, {}} {
		if e := Check(b, base); e != api.ErrForm {
			t.Error(i, e)
		}
	}
	if e := Check(negative, base); e != api.ErrPos {
		t.Error(e)
	}
}

// P8.1: which constants are the block's hangs on the base; beside them any may stand.
func TestBase(t *testing.T) {
	for n := range 40 {
		b := nat()
		b.Cons[0].Args = args(of(c(n)))
		for at := range 40 {
			if e := Check(b, at); e != errorOf(n < at || n >= at+4) {
				t.Error(n, at, e)
			}
		}
	}
	for _, n := range []int{65530, 65531, 65534, 65535} {
		b := nat()
		b.Cons[0].Args = args(of(c(n)))
		for at := 65525; at <= 65535; at++ {
			if e := Check(b, at); e != errorOf(n < at || n >= at+4) {
				t.Error(n, at, e)
			}
		}
	}
	for _, x := range []struct {
		f  family
		at []int
	}{{family{"vec", vec}, []int{0, 1, 2}}, {family{"universe", universe}, []int{0, 18, 19, 21}}, {family{"contexts", contexts}, []int{19, 21, 22}}, {family{"mixed", mixed}, []int{19, 21, 5}}} {
		for _, at := range x.at {
			if e := Check(x.f.of(), at); e != api.ErrPos {
				t.Error(x.f.name, at, e)
			}
		}
	}
}

// P8.1: no constant of the block stands in a clean term, however deep; those beside them may.
func TestConstantsInCleanTerms(t *testing.T) {
	for _, s := range each(false) {
		count := shape.Count(*s.b)
		for n := base - 1; n <= base+count; n++ {
			for k, x := range within(func(int) api.Term { return c(n) }) {
				if e := s.try(x); e != errorOf(n < base || n >= base+count) {
					t.Error(s.name, n, k, e)
				}
			}
		}
	}
}

// P8.1: no guarded variable stands in a clean term, under whatever binders; the others may, those of Doms and of binders too.
func TestVariablesInCleanTerms(t *testing.T) {
	guarded, others := 0, 0
	for _, s := range each(false) {
		l := s.context()
		for n, a := range l {
			for k, x := range within(func(binders int) api.Term { return v(len(l) - 1 - n + binders) }) {
				if e := s.try(x); e != errorOf(a == nil) {
					t.Error(s.name, n, k, e)
				}
			}
			if a == nil {
				others++
			} else {
				guarded++
			}
		}
		for k, x := range row(lam(u(0), v(0)), pi(u(0), on(v(0), v(0))), pi(u(0), lam(u(0), on(v(0), v(1))))) {
			if e := s.try(x); e != api.OK {
				t.Error(s.name, "bound", k, e)
			}
		}
	}
	if guarded < 20 || others < 20 {
		t.Error(guarded, others)
	}
}

// P8.1: where good terms are asked for, a variable is one if it is guarded and takes as many arguments.
func TestVariablesAsGoodTerms(t *testing.T) {
	right, others := 0, 0
	for _, s := range each(true) {
		l := s.context()
		for n, a := range l {
			for taken := range 4 {
				ok := a != nil && len(a.Dom) == taken
				if e := s.try(on(v(len(l)-1-n), many(taken, u(0))...)); e != errorOf(ok) {
					t.Error(s.name, n, taken, e)
				}
				if ok {
					right++
				} else {
					others++
				}
			}
		}
	}
	if right < 10 || others < 40 {
		t.Error(right, others)
	}
}

// P8.1: where good terms are asked for, nothing stands that begins otherwise, and nothing that only has a good term in it.
func TestNoOtherGoodTerms(t *testing.T) {
	for _, s := range each(true) {
		bad := row(u(0), c(base-1), on(c(5), u(0)), lam(u(0), v(0)), on(lam(u(0), v(0)), u(0)))
		for n := range shape.Count(*s.b) {
			if what, _ := shape.Of(*s.b, base, base+n); what != api.Constructor {
				bad = append(bad, c(base+n), on(c(base+n), u(0)), on(c(base+n), u(0), u(0)))
			}
		}
		for k, x := range append(bad, aroundGood(s)...) {
			if e := s.try(x); e != api.ErrPos {
				t.Error(s.name, k, e)
			}
		}
	}
}

// aroundGood is terms that have a good variable of the spot in them, but begin with none.
func aroundGood(s spot) []api.Term {
	var out []api.Term
	l := s.context()
	for n, a := range l {
		if a == nil {
			continue
		}
		whole := func(binders int) api.Term {
			return on(v(len(l)-1-n+binders), many(len(a.Dom), u(0))...)
		}
		for _, x := range within(whole) {
			if head, _ := tele.Unspine(x); head.Kind != api.Var {
				out = append(out, x)
			}
		}
	}
	return out
}

// edit is a change of a block, after which it is positive or isn't.
type edit struct {
	name string
	of   func() api.Block
	f    func(b *api.Block)
	ok   bool
}

func tryEdits(t *testing.T, l []edit) {
	t.Helper()
	for _, x := range l {
		b := x.of()
		x.f(&b)
		if e := Check(b, base); e != errorOf(x.ok) {
			t.Error(x.name, e)
		}
	}
}

// probe is a term, and whether it may stand where it is tried.
type probe struct {
	name string
	t    api.Term
	ok   bool
}

// tryProbes tries them at the spot of that name.
func tryProbes(t *testing.T, b api.Block, name string, l []probe) {
	t.Helper()
	all := spots(&b)
	s := all[slices.IndexFunc(all, func(s spot) bool { return s.name == name })]
	for _, x := range l {
		if e := s.try(x.t); e != errorOf(x.ok) {
			t.Error(name, x.name, e)
		}
	}
}

// P8.1: decodings by a decoder without indices. Var 1 is a guarded variable without Dom, Var 0 one with a Dom.
func TestDecodings(t *testing.T) {
	dec := c(21)
	tryProbes(t, universe(), "con 1 dec", []probe{
		{"of a variable", on(dec, v(1)), true},
		{"of a variable without its argument", on(dec, v(0)), true},
		{"of a variable on an argument", on(dec, on(v(0), u(0))), true},
		{"of a variable on too many", on(dec, on(v(0), u(0), u(1))), true},
		{"of a variable on what it may not be on", on(dec, on(v(0), v(1))), false},
		{"of a variable on a decoding", on(dec, on(v(0), on(dec, v(1)))), true},
		{"of a variable on a decoding of a constructor", on(dec, on(v(0), on(dec, c(22)))), false},
		{"the decoder alone", dec, false},
		{"of a constructor", on(dec, c(22)), false},
		{"of a constructor on variables", on(dec, on(c(23), v(1), v(0))), false},
		{"of a universe", on(dec, u(0)), false},
		{"of another constant", on(dec, c(5)), false},
		{"of a decoding", on(dec, on(dec, v(1))), false},
		{"of the decoder", on(dec, dec), false},
		{"of a function on a variable", on(dec, on(lam(u(0), v(0)), v(1))), false},
		{"of a function that makes a variable", on(dec, on(lam(u(0), v(2)), u(0))), false},
		{"of a pair's part", on(dec, node(api.Fst, v(1))), false},
		{"on more", on(dec, v(1), u(0)), true},
		{"on much more", on(dec, v(1), u(0), on(dec, v(0)), c(5)), true},
		{"on more that may not be", on(dec, v(1), v(1)), false},
		{"on the decoder", on(dec, v(1), dec), false},
		{"on more, with a variable at the end", on(dec, u(0), v(1)), false},
		{"under a binder", lam(u(0), on(dec, v(2))), true},
		{"of the binder's variable", lam(u(0), on(dec, v(0))), false},
		{"of that, behind a Pi", pi(on(dec, v(1)), on(dec, v(0))), false},
		{"under two binders", pi(u(0), lam(v(0), on(dec, on(v(2), v(0), v(1))))), true},
		{"beside a bare variable", pi(on(dec, v(1)), v(2)), false},
		{"in an argument of another constant", on(c(5), on(dec, v(1))), true},
		{"as what is applied", on(on(dec, v(1)), on(dec, v(0))), true},
		{"in each Kid", node(api.Jay, on(dec, v(1)), on(dec, v(0)), on(dec, v(1))), true},
		{"in each Kid but one", node(api.Jay, on(dec, v(1)), dec, on(dec, v(1))), false},
		{"in another decoding's argument, under a binder", on(dec, on(v(0), lam(u(0), on(dec, v(2))))), true},
	})
	tryEdits(t, []edit{
		{"of a variable that isn't guarded", universe, func(b *api.Block) { b.Cons[1].Args[0] = of(u(0)) }, false},
		{"in a type", universe, func(b *api.Block) { b.Cons[1].Args = append(b.Cons[1].Args, of(on(c(21), v(1)))); b.Cons[1].Dec = u(0) }, true},
		{"of the variable of a Dom", universe, func(b *api.Block) { b.Cons[1].Args[1].Dom = row(on(c(21), v(0)), on(c(21), v(0))) }, false},
		{"beside a Dom", universe, func(b *api.Block) { b.Cons[1].Args[1].Dom = row(on(c(21), v(0)), on(c(21), v(1))) }, true},
		{"of a variable of another sort", mixed, func(b *api.Block) { b.Cons[2].Args[1] = of(on(c(25), v(0))) }, true},
		{"in the type of an index", mixed, func(b *api.Block) { b.Sorts[3].Idx[2] = of(on(c(25), v(0))) }, true},
	})
}

// P8.1: a decoder takes as many arguments as its sort has indices, and one more. Var 2 is not guarded, Var 1 is, and Var 0 is with two Doms.
func TestDecodingsWithIndices(t *testing.T) {
	first, third := c(24), c(25)
	tryProbes(t, mixed(), "con 1 dec", []probe{
		{"all", on(first, u(0), v(2), v(0)), true},
		{"one index", on(first, v(2), v(0)), false},
		{"no index", on(first, v(0)), false},
		{"a variable among the indices", on(first, v(0), v(2), v(0)), false},
		{"a variable as the last index", on(first, v(2), v(0), v(0)), false},
		{"three indices", on(first, v(2), v(2), v(2), v(0)), false},
		{"the indices alone", on(first, v(2), v(2)), false},
		{"what isn't guarded", on(first, v(2), v(2), v(2)), false},
		{"the decoder alone", first, false},
		{"on more", on(first, v(2), v(2), v(0), v(2)), true},
		{"on a variable more", on(first, v(2), v(2), v(0), v(0)), false},
		{"a decoding as an index", on(first, on(third, v(1)), on(first, u(0), u(0), v(0)), v(0)), true},
		{"a constructor as an index", on(first, c(26), v(2), v(0)), false},
		{"a decoder as an index", on(first, v(2), third, v(1)), false},
		{"a variable on what it may be on", on(first, v(2), v(2), on(v(0), u(0), on(third, v(1)))), true},
		{"a variable on a variable", on(first, v(2), v(2), on(v(0), u(0), v(1))), false},
		{"of one without indices", on(third, v(1)), true},
		{"of one without indices, with indices", on(third, u(0), u(0), v(1)), false},
		{"another constant, with indices", on(c(9), v(2), v(2), v(0)), false},
		{"another constant, without a variable", on(c(9), v(2), v(2), on(third, v(1))), true},
	})
}

// P8.1: the Args of a con decide which variables are guarded, and their Doms how many arguments those take.
func TestGoodVariables(t *testing.T) {
	tryProbes(t, contexts(), "con 3 idx 0", []probe{
		{"the first", v(2), true},
		{"one of another sort", v(1), true},
		{"on an argument", on(v(2), u(0)), false},
	})
	tryProbes(t, mixed(), "con 3 idx 0", []probe{
		{"without Dom", v(3), true},
		{"without its argument", v(2), false},
		{"with its argument", on(v(2), u(0)), true},
		{"with a decoding", on(v(2), on(c(25), v(1))), true},
		{"with a variable", on(v(2), v(1)), false},
		{"with a good term", on(v(2), v(3)), false},
		{"with two", on(v(2), u(0), u(0)), false},
		{"with both of two", on(v(0), u(0), lam(u(0), v(0))), true},
		{"with one of two", on(v(0), u(0)), false},
		{"with a constructor", on(v(0), u(0), c(26)), false},
		{"with a former", on(v(0), c(20), u(0)), false},
		{"a decoding", on(c(24), u(0), u(0), v(3)), false},
		{"a constructor without arguments", c(26), true},
	})
	tryProbes(t, mixed(), "con 4 arg 2 idx 0", []probe{
		{"a guarded variable behind the Dom", v(1), true},
		{"another", v(2), true},
		{"the Dom's", v(0), false},
		{"a constructor on what lies behind the Dom", on(c(28), v(2), v(0)), true},
		{"a constructor on the Dom's", on(c(28), v(0), u(0)), false},
	})
	tryProbes(t, mixed(), "con 4 arg 2 idx 2", []probe{
		{"clean: the Dom's", v(0), true},
		{"clean: a variable", v(2), false},
		{"clean: a decoding", on(c(25), v(2)), true},
		{"clean: a decoding of the Dom's", on(c(25), v(0)), false},
	})
}

// P8.1: constructors as good terms. 27 takes a term, a guarded variable's term, and a guarded variable; 26 takes nothing; 28 takes a good term and a clean one.
func TestGoodConstructors(t *testing.T) {
	con := func(l ...api.Term) api.Term { return on(c(27), l...) }
	tryProbes(t, mixed(), "con 3 idx 0", []probe{
		{"all", con(u(0), v(3), v(0)), true},
		{"none", c(27), false},
		{"too few", con(u(0), v(3)), false},
		{"too many", con(u(0), v(3), v(0), u(0)), false},
		{"too many of none", on(c(26), u(0)), false},
		{"a variable for a term", con(v(3), v(3), v(0)), false},
		{"a constructor for a term", con(c(26), v(3), v(0)), false},
		{"a decoding for a term", con(on(c(25), v(1)), v(3), v(0)), true},
		{"a decoder for a term", con(c(25), v(3), v(0)), false},
		{"a constructor for a good term", con(u(0), c(26), v(0)), true},
		{"a great constructor for a good term", con(u(0), con(u(1), c(26), v(2)), v(0)), true},
		{"a wrong constructor for a good term", con(u(0), con(u(1), c(20), v(2)), v(0)), false},
		{"a variable with its argument for a good term", con(u(0), on(v(2), u(0)), v(0)), true},
		{"a variable without its argument for a good term", con(u(0), v(2), v(0)), false},
		{"a clean term for a good term", con(u(0), u(0), v(0)), false},
		{"a decoding for a good term", con(u(0), on(c(25), v(1)), v(0)), false},
		{"a variable with one Dom for one with two", con(u(0), v(3), v(2)), true},
		{"a variable without Dom for one with two", con(u(0), v(3), v(1)), true},
		{"a variable on arguments", con(u(0), v(3), on(v(0), u(0), u(0))), false},
		{"a variable on an argument", con(u(0), v(3), on(v(2), u(0))), false},
		{"a function for a variable", con(u(0), v(3), lam(u(0), lam(u(0), on(v(2), v(1), v(0))))), false},
		{"a constructor for a variable", con(u(0), v(3), c(26)), false},
		{"a term for a variable", con(u(0), v(3), u(0)), false},
		{"another constant", on(c(5), u(0), v(3), v(0)), false},
		{"a former", on(c(20), u(0), u(0)), false},
		{"an eliminator", on(c(31), u(0), v(3), v(0)), false},
		{"one that is clean in its argument", on(c(28), v(3), u(0)), true},
		{"one that isn't", on(c(28), v(3), v(3)), false},
		{"itself", on(c(29), v(3), v(2), v(1), v(0)), false},
		{"a later one", on(c(30), v(3), v(3), v(0)), false},
	})
	tryEdits(t, []edit{
		{"what is guarded made a term", mixed, func(b *api.Block) { b.Cons[3].Args[3] = of(u(0)) }, false},
		{"no constructor's, where a Dom's variable would be", mixed, func(b *api.Block) { b.Cons[4].Args[2].Idx[0] = on(c(27), u(0), v(2), v(0)) }, false},
		{"where it is guarded", mixed, func(b *api.Block) { b.Cons[4].Args[2].Idx[0] = on(c(27), u(0), v(2), v(1)) }, true},
	})
}

// flat is a block of two sorts, of which the second is over the first, with a con of the first, and so many of the second.
func flat(count int) api.Block {
	b := api.Block{Sorts: []api.Sort{{}, {Idx: args(rec(0))}}}
	for range count {
		b.Cons = append(b.Cons, api.Con{Sort: 1, Args: args(rec(0)), Idx: row(v(0))})
	}
	b.Cons[0] = api.Con{}
	return b
}

// P8.1: only earlier constructors make a good term, be it in a con's own Idx, or in an Arg's, or further in.
func TestEarlierConstructors(t *testing.T) {
	con := func(j int) api.Term { return c(base + 2 + j) }
	for at := 1; at < 8; at++ {
		for j := range 8 {
			x := on(con(j), v(0))
			if j == 0 {
				x = con(0)
			}
			own, others, further := flat(8), flat(8), flat(8)
			own.Cons[at].Idx[0] = x
			others.Cons[at].Args = append(others.Cons[at].Args, rec(1, x))
			others.Cons[at].Idx[0] = v(1)
			further.Cons[at].Idx[0] = on(con(1), on(con(j), con(0)))
			for k, y := range []struct {
				b  api.Block
				ok bool
			}{{own, j < at}, {others, j < at}, {further, 1 < at && 0 < j && j < at}} {
				if e := Check(y.b, base); e != errorOf(y.ok) {
					t.Error(at, j, k, e)
				}
			}
		}
	}
	for j := range 8 {
		b := flat(8)
		b.Cons[0].Args = args(rec(1, con(j)))
		if e := Check(b, base); e != api.ErrPos {
			t.Error("the first con", j, e)
		}
	}
}

// P8.1: among the indices of a sort no constructor makes a good term.
func TestNoConstructorsAmongIndices(t *testing.T) {
	b := flat(2)
	b.Sorts = append(b.Sorts, api.Sort{Idx: args(rec(0), rec(1, v(0)))})
	if e := Check(b, base); e != api.OK {
		t.Error(e)
	}
	for n := range shape.Count(b) {
		for k, x := range row(c(base+n), on(c(base+n), v(0)), on(c(base+n), u(0))) {
			b.Sorts[2].Idx[1].Idx[0] = x
			if e := Check(b, base); e != api.ErrPos {
				t.Error(n, k, e)
			}
		}
	}
	tryProbes(t, mixed(), "sort 3 arg 1 idx 0", []probe{
		{"a variable", v(0), true},
		{"a constructor", c(26), false},
		{"a constructor on a variable", on(c(28), v(0), u(0)), false},
		{"a variable on an argument", on(v(0), u(0)), false},
	})
	tryProbes(t, mixed(), "sort 3 arg 1 idx 1", []probe{
		{"clean", u(0), true},
		{"clean: a variable", v(0), false},
		{"clean: a decoding", on(c(24), u(0), u(0), v(0)), true},
		{"clean: a constructor", c(26), false},
	})
}

// P8.2: a former to the left of an arrow, in whatever term of a block.
func TestFormersToTheLeft(t *testing.T) {
	for _, s := range append(each(false), each(true)...) {
		for k := range s.b.Sorts {
			former := c(shape.Former(*s.b, base, k))
			for j, x := range row(
				pi(former, u(0)), pi(former, former), pi(u(0), pi(former, u(0))), pi(pi(former, u(0)), u(0)),
				pi(on(former, u(0)), u(0)), pi(on(former, u(0), u(1)), c(5)), pi(pi(u(0), former), u(0)),
				pi(node(api.Sig, u(0), former), u(0)), lam(u(0), pi(former, v(0))), on(c(5), pi(former, u(0))),
			) {
				if e := s.try(x); e != api.ErrPos {
					t.Error(s.name, k, j, e)
				}
			}
		}
	}
	tryEdits(t, []edit{
		{"the first con", nat, func(b *api.Block) { b.Cons[0].Args = args(of(pi(c(20), c(20)))) }, false},
		{"the last arg", nat, func(b *api.Block) { b.Cons[1].Args = append(b.Cons[1].Args, of(u(0)), of(pi(c(20), u(0)))) }, false},
		{"a Dom", nat, func(b *api.Block) { b.Cons[1].Args[0].Dom = row(c(20)) }, false},
		{"a Dom behind another", nat, func(b *api.Block) { b.Cons[1].Args[0].Dom = row(u(0), pi(u(0), c(20))) }, false},
		{"a Dom of another sort", contexts, func(b *api.Block) { b.Cons[0].Args = args(fun(row(on(c(21), u(0))), 0)) }, false},
		{"of another constant", nat, func(b *api.Block) { b.Cons[0].Args = args(of(pi(c(19), c(24)))) }, true},
		{"another Dom", nat, func(b *api.Block) { b.Cons[1].Args[0].Dom = row(c(19), pi(v(0), c(24))) }, true},
	})
}

// reading is the chapter's sentences, word by word: a list of the variables, from the outermost on, with their Args if those are guarded.
type reading struct {
	b    api.Block
	vars []*api.Arg
	c    int
}

func (r reading) guarded(t api.Term) *api.Arg {
	if t.Kind != api.Var {
		return nil
	}
	return r.vars[len(r.vars)-1-t.N]
}

func (r reading) is(t api.Term, kind int) (int, bool) {
	if t.Kind != api.Const {
		return 0, false
	}
	what, which := shape.Of(r.b, base, t.N)
	return which, what == kind
}

func (r reading) isOwn(t api.Term) bool {
	return t.Kind == api.Const && t.N >= base && t.N < base+shape.Count(r.b)
}

func (r reading) allClean(l []api.Term) bool {
	return !slices.ContainsFunc(l, func(t api.Term) bool { return !r.clean(t) })
}

func (r reading) decoding(t api.Term) bool {
	f, l := tele.Unspine(t)
	k, ok := r.is(f, api.Decoder)
	if !ok || len(l) != len(r.b.Sorts[k].Idx)+1 {
		return false
	}
	g, m := tele.Unspine(l[len(l)-1])
	return r.allClean(l[:len(l)-1]) && r.guarded(g) != nil && r.allClean(m)
}

func (r reading) clean(t api.Term) bool {
	if r.decoding(t) {
		return true
	}
	if r.isOwn(t) || r.guarded(t) != nil {
		return false
	}
	for i, k := range t.Kids {
		in := r
		in.vars = append(slices.Clone(r.vars), make([]*api.Arg, kind.Binds(t.Kind, i))...)
		if !in.clean(k) {
			return false
		}
	}
	return true
}

func (r reading) good(t api.Term) bool {
	f, l := tele.Unspine(t)
	if a := r.guarded(f); a != nil {
		return len(l) == len(a.Dom) && r.allClean(l)
	}
	j, ok := r.is(f, api.Constructor)
	if !ok || j >= r.c || len(l) != len(r.b.Cons[j].Args) {
		return false
	}
	for i, a := range r.b.Cons[j].Args {
		switch {
		case !a.Rec:
			ok = r.clean(l[i])
		case len(a.Dom) == 0:
			ok = r.good(l[i])
		default:
			ok = r.guarded(l[i]) != nil
		}
		if !ok {
			return false
		}
	}
	return true
}

// takes tells whether a term may stand at the spot.
func (s spot) takes(t api.Term) bool {
	r := reading{*s.b, s.context(), s.known}
	if s.good {
		return r.good(t)
	}
	return r.clean(t)
}

// leaves is variables and constants that count in a block, and others.
func leaves(b api.Block, vars int) []api.Term {
	l := row(u(0), c(base-1))
	for n := range vars {
		l = append(l, v(n))
	}
	for n := range shape.Count(b) {
		l = append(l, c(base+n))
	}
	return l
}

// P8.1: small terms at each place of each block, against the chapter's sentences.
func TestAgainstThePlainWords(t *testing.T) {
	found := map[bool]int{}
	for _, s := range append(each(false), each(true)...) {
		for _, x := range smallTerms(leaves(*s.b, len(s.context()))) {
			ok := s.takes(x)
			found[ok]++
			if e := s.try(x); e != errorOf(ok) {
				t.Fatal(s.name, x, e)
			}
		}
	}
	if found[true] < 2000 || found[false] < 100000 {
		t.Error(found)
	}
}

// smallTerms is spines of one and of two arguments, some under a binder. Of what may be third, each couple gets its own fifth part, so that there are not too many.
func smallTerms(l []api.Term) []api.Term {
	out := slices.Clone(l)
	for i, a := range l {
		for j, b := range l {
			out = append(out, on(a, b), pi(a, b), lam(u(0), on(a, b)))
			for k := (i + j) % 5; k < len(l); k += 5 {
				out = append(out, on(a, b, l[k]), on(a, on(b, l[k])))
			}
		}
	}
	return out
}

// P8.1: blocks whose Args are made Rec, or not, against the chapter's sentences.
func TestOtherArgsAgainstThePlainWords(t *testing.T) {
	found := map[bool]int{}
	for _, f := range families() {
		given := f.of()
		for k := range given.Cons {
			for i := range given.Cons[k].Args {
				for j, a := range []api.Arg{of(u(0)), of(c(5)), fun(row(u(0)), 0), fun(row(u(0), v(0)), 0), rec(0)} {
					b := f.of()
					if a.Rec {
						a.Idx = many(len(b.Sorts[0].Idx), u(0))
					}
					b.Cons[k].Args[i] = a
					ok := !slices.ContainsFunc(spots(&b), func(s spot) bool { return !s.takes(*s.t) })
					found[ok]++
					if e := Check(b, base); e != errorOf(ok) {
						t.Error(f.name, k, i, j, e)
					}
				}
			}
		}
	}
	if found[true] < 20 || found[false] < 20 {
		t.Error(found)
	}
}

// nested is a term of so many spines within one another, about as great and as deep as a term may be.
func nested(depth int, inner api.Term) api.Term {
	t := inner
	for range depth {
		t = on(c(5), t)
	}
	return t
}

// bush is a right term of 2^storeys - 1 nodes.
func bush(storeys int, inner api.Term) api.Term {
	t := inner
	for range storeys - 1 {
		t = on(t, t)
	}
	return t
}

// widest is as much of everything as a right block may have, with the same term everywhere.
func widest(t api.Term) api.Block {
	b := api.Block{}
	for range api.MaxSorts {
		s := api.Sort{Dec: true, DecType: t}
		for range api.MaxTele {
			s.Idx = append(s.Idx, of(t))
		}
		b.Sorts = append(b.Sorts, s)
	}
	for range api.MaxCons {
		x := api.Con{Sort: 3, Idx: many(api.MaxTele, t), Dec: t}
		for range api.MaxTele {
			x.Args = append(x.Args, fun(many(api.MaxTele, t), 2, many(api.MaxTele, t)...))
		}
		b.Cons = append(b.Cons, x)
	}
	return b
}

// R1: Check is done soon with all that a right block may hold, and finds a fault in the last of it.
func TestGreatestBlock(t *testing.T) {
	great := nested(187, bush(12, u(0)))
	if term.Check(great) != api.OK || term.Depth(great) < 195 || term.Size(great) < 4000 {
		t.Fatal(term.Check(great), term.Size(great))
	}
	b := widest(great)
	if e := Check(b, base); e != api.OK {
		t.Error(e)
	}
	for i, edit := range []func(b *api.Block){
		func(b *api.Block) { b.Cons[7].Dec = nested(199, c(base+19)) },
		func(b *api.Block) { b.Cons[7].Dec = nested(199, v(0)) },
		func(b *api.Block) { b.Cons[7].Idx[11] = nested(199, v(11)) },
		func(b *api.Block) { b.Cons[7].Args[11].Idx[11] = nested(199, v(22)) },
		func(b *api.Block) { b.Cons[7].Args[11].Dom[11] = nested(199, v(21)) },
		func(b *api.Block) { b.Sorts[3].DecType = nested(199, c(base)) },
		func(b *api.Block) { b.Sorts[3].Idx[11].Type = nested(199, c(base)) },
	} {
		b := widest(u(0))
		if e := Check(b, base); e != api.OK {
			t.Fatal(e)
		}
		edit(&b)
		if e := Check(b, base); e != api.ErrPos {
			t.Error(i, e)
		}
	}
}

// R1: a spine as long, and a good term as deep, as there may be; and terms that are far too deep.
func TestDeepTerms(t *testing.T) {
	defer debug.SetMaxStack(debug.SetMaxStack(16 << 20))
	b := flat(3)
	b.Cons = []api.Con{{}, {Args: args(rec(0))}, {Sort: 1, Args: args(rec(0)), Idx: row(v(0))}}
	succ, other := v(0), on(c(24), v(0))
	for range 198 {
		succ, other = on(c(23), succ), on(c(23), other)
	}
	tryProbes(t, b, "con 2 idx 0", []probe{
		{"deep", on(c(23), succ), true},
		{"deep, on another", other, false},
		{"long", on(v(0), many(199, u(0))...), false},
		{"long, on a constructor", on(c(23), many(199, v(0))...), false},
	})
	deep := u(0)
	for range 400000 {
		deep = node(api.Fst, deep)
	}
	for i := range 3 {
		for _, x := range row(deep, on(deep, deep), on(c(21), deep)) {
			b := mixed()
			*spots(&b)[i].t = x
			if e := Check(b, base); e != api.ErrForm {
				t.Error(i, e)
			}
		}
	}
}

// copyOf is a copy in new memory, with spare capacity behind each list, which holds what must not be looked at and must stay.
func copyOf(b api.Block) api.Block {
	b.Sorts = roomy(b.Sorts, func(s api.Sort) api.Sort {
		s.Idx, s.DecType = roomy(s.Idx, copyOfArg, spareArg()), copyOfTerm(s.DecType)
		return s
	}, api.Sort{Dec: true, DecType: c(base)})
	b.Cons = roomy(b.Cons, func(x api.Con) api.Con {
		x.Args, x.Idx, x.Dec = roomy(x.Args, copyOfArg, spareArg()), roomy(x.Idx, copyOfTerm, c(base)), copyOfTerm(x.Dec)
		return x
	}, api.Con{Dec: c(base)})
	return b
}

func spareArg() api.Arg { return api.Arg{Rec: true, Dom: row(c(base))} }

func copyOfArg(a api.Arg) api.Arg {
	a.Type, a.Dom, a.Idx = copyOfTerm(a.Type), roomy(a.Dom, copyOfTerm, c(base)), roomy(a.Idx, copyOfTerm, c(base))
	return a
}

func copyOfTerm(t api.Term) api.Term {
	t.Kids = roomy(t.Kids, copyOfTerm, c(base))
	return t
}

func roomy[T any](l []T, copied func(T) T, spare T) []T {
	out := make([]T, len(l), len(l)+2)
	for i, x := range l {
		out[i] = copied(x)
	}
	for i := len(l); i < cap(out); i++ {
		out[:cap(out)][i] = spare
	}
	return out
}

// whole is a block in which each list is as long as its capacity, so that what is spare is compared too.
func whole(b api.Block) api.Block {
	b.Sorts = roomy(b.Sorts[:cap(b.Sorts)], func(s api.Sort) api.Sort {
		s.Idx, s.DecType = roomy(s.Idx[:cap(s.Idx)], wholeArg, api.Arg{}), wholeTerm(s.DecType)
		return s
	}, api.Sort{})
	b.Cons = roomy(b.Cons[:cap(b.Cons)], func(x api.Con) api.Con {
		x.Args, x.Idx, x.Dec = roomy(x.Args[:cap(x.Args)], wholeArg, api.Arg{}), roomy(x.Idx[:cap(x.Idx)], wholeTerm, api.Term{}), wholeTerm(x.Dec)
		return x
	}, api.Con{})
	return b
}

func wholeArg(a api.Arg) api.Arg {
	a.Type, a.Dom, a.Idx = wholeTerm(a.Type), roomy(a.Dom[:cap(a.Dom)], wholeTerm, api.Term{}), roomy(a.Idx[:cap(a.Idx)], wholeTerm, api.Term{})
	return a
}

func wholeTerm(t api.Term) api.Term {
	t.Kids = roomy(t.Kids[:cap(t.Kids)], wholeTerm, api.Term{})
	return t
}

// R2, R3, R6: a block stays as it is, what lies behind its lists is not looked at, and a second call answers the same.
func TestBlocksStay(t *testing.T) {
	for _, s := range append(each(false), each(true)...) {
		for k, x := range row(*s.t, c(base), on(c(24), u(0), u(0), v(0)), on(c(26), u(0))) {
			want, was := s.try(x), *s.t
			*s.t = x
			given, kept := copyOf(*s.b), copyOf(*s.b)
			*s.t = was
			for range 2 {
				if e := Check(given, base); e != want {
					t.Error(s.name, k, e, "want", want)
				}
			}
			if !reflect.DeepEqual(whole(given), whole(kept)) {
				t.Error(s.name, k, "is another now")
			}
		}
	}
}

// Example 1 of the chapter.
func TestExample(t *testing.T) {
	for _, n := range []int{0, 1, base, 65535} {
		b := nat()
		b.Cons[0].Args = args(of(pi(c(n), c(n))))
		if e := Check(b, n); e != api.ErrPos {
			t.Error(n, e)
		}
	}
}
