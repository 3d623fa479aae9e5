package shape

import (
	"math"
	"reflect"
	"runtime/debug"
	"strconv"
	"testing"

	"porism/api"
)

func leaf(kind, n int) api.Term { return api.Term{Kind: kind, N: n} }

func node(kind int, kids ...api.Term) api.Term { return api.Term{Kind: kind, Kids: kids} }

func v(n int) api.Term { return leaf(api.Var, n) }
func u(n int) api.Term { return leaf(api.Univ, n) }
func c(n int) api.Term { return leaf(api.Const, n) }

func pi(a, b api.Term) api.Term  { return node(api.Pi, a, b) }
func lam(a, b api.Term) api.Term { return node(api.Lam, a, b) }
func app(a, b api.Term) api.Term { return node(api.App, a, b) }

func row(l ...api.Term) []api.Term { return l }

// many is so many terms, each the same leaf.
func many(n int, t api.Term) []api.Term {
	l := make([]api.Term, n)
	for i := range l {
		l[i] = t
	}
	return l
}

// chain is a term of so many nodes below one another, with inner as the last of them.
func chain(depth int, inner api.Term) api.Term {
	t := inner
	for range depth - 1 {
		t = node(api.Fst, t)
	}
	return t
}

// bushy is a right term but for its size: 2n+1 nodes, none deeper than the bound.
func bushy(n int) api.Term {
	l := many(n+1, u(0))
	for len(l) > 1 {
		var next []api.Term
		for i := 0; i+1 < len(l); i += 2 {
			next = append(next, app(l[i], l[i+1]))
		}
		if len(l)%2 == 1 {
			next = append(next, l[len(l)-1])
		}
		l = next
	}
	return l[0]
}

func of(t api.Term) api.Arg { return api.Arg{Type: t} }

func rec(sort int, idx ...api.Term) api.Arg { return api.Arg{Rec: true, Sort: sort, Idx: idx} }

func fun(dom []api.Term, sort int, idx ...api.Term) api.Arg {
	return api.Arg{Rec: true, Dom: dom, Sort: sort, Idx: idx}
}

func args(l ...api.Arg) []api.Arg { return l }

// manyArgs is so many Args, each the same.
func manyArgs(n int, a api.Arg) []api.Arg {
	l := make([]api.Arg, n)
	for i := range l {
		l[i] = a
	}
	return l
}

// nat is the natural numbers.
func nat() api.Block {
	return api.Block{Sorts: []api.Sort{{}}, Cons: []api.Con{{}, {Args: args(rec(0))}}}
}

// vec is vectors over the numbers that are the constants from 0 on.
func vec() api.Block {
	return api.Block{
		Sorts: []api.Sort{{Idx: args(of(c(0)))}},
		Cons: []api.Con{
			{Idx: row(c(1))},
			{Args: args(of(u(0)), of(c(0)), rec(0, v(0))), Idx: row(app(c(2), v(1)))},
		},
		Elim: 6,
	}
}

// universe is types with a decoder, and functions from what one decodes to.
func universe() api.Block {
	return api.Block{
		Sorts: []api.Sort{{Level: 1, Dec: true, DecType: u(0)}},
		Cons: []api.Con{
			{Dec: c(0)},
			{Args: args(rec(0), fun(row(app(c(9), v(0))), 0)), Dec: pi(app(c(9), v(1)), app(c(9), app(v(1), v(0))))},
		},
		Elim: 1,
	}
}

// contexts is contexts, types over contexts, and terms over both.
func contexts() api.Block {
	return api.Block{
		Sorts: []api.Sort{{}, {Idx: args(rec(0))}, {Idx: args(rec(0), rec(1, v(0))), Level: 6}},
		Cons: []api.Con{
			{},
			{Args: args(rec(0), rec(1, v(0)))},
			{Sort: 1, Args: args(rec(0)), Idx: row(v(0))},
			{Sort: 2, Args: args(rec(0), rec(1, v(0)), of(u(3))), Idx: row(v(2), v(1))},
		},
	}
}

// mixed is four sorts, of which the first and the third have decoders, with arguments of each form.
func mixed() api.Block {
	return api.Block{
		Sorts: []api.Sort{
			{Idx: args(of(u(0)), of(v(0))), Level: 2, Dec: true, DecType: pi(v(1), u(1))},
			{Idx: args(of(c(5)), rec(0, c(5), v(0)))},
			{Dec: true, DecType: c(7)},
			{Idx: args(of(lam(u(0), v(0)))), Level: 6},
		},
		Cons: []api.Con{
			{Sort: 2, Dec: u(2)},
			{Sort: 0, Args: args(of(u(1)), fun(row(v(0), app(v(1), v(0))), 3, v(2)), rec(2)), Idx: row(v(2), v(0)), Dec: app(v(1), v(2))},
			{Sort: 3, Args: args(fun(row(u(0)), 1, v(0), c(0)), of(v(0))), Idx: row(v(1))},
			{Sort: 1, Idx: row(c(1), c(2))},
			{Sort: 2, Args: args(rec(2)), Dec: v(0)},
		},
		Elim: 3,
	}
}

// widest is as much of everything as a right block may have.
func widest() api.Block {
	indices := manyArgs(api.MaxTele, of(c(65535)))
	con := api.Con{
		Sort: 3,
		Args: manyArgs(api.MaxTele, fun(many(api.MaxTele, u(6)), 0, many(api.MaxTele, c(0))...)),
		Idx:  many(api.MaxTele, v(11)),
		Dec:  u(6),
	}
	b := api.Block{Elim: 6}
	for range api.MaxSorts {
		b.Sorts = append(b.Sorts, api.Sort{Idx: indices, Level: 6, Dec: true, DecType: v(11)})
	}
	for range api.MaxCons {
		b.Cons = append(b.Cons, con)
	}
	return copyOf(b)
}

// family is one of the right blocks that the tests begin with, and how many constants it has.
type family struct {
	name  string
	of    func() api.Block
	count int
}

// families leaves the widest out, since there are too many places in it to try each.
func families() []family {
	return []family{
		{"nat", nat, 4},
		{"vec", vec, 4},
		{"universe", universe, 5},
		{"contexts", contexts, 10},
		{"mixed", mixed, 15},
		{"empty", func() api.Block { return api.Block{Sorts: []api.Sort{{}}} }, 2},
	}
}

// copyOf is a copy in new memory, with spare capacity behind each list, which holds what must not be looked at and must stay.
func copyOf(b api.Block) api.Block {
	b.Sorts = roomy(b.Sorts, func(s api.Sort) api.Sort {
		s.Idx, s.DecType = roomy(s.Idx, copyOfArg, spareArg()), copyOfTerm(s.DecType)
		return s
	}, api.Sort{Dec: true, Level: -1})
	b.Cons = roomy(b.Cons, func(x api.Con) api.Con {
		x.Args, x.Idx, x.Dec = roomy(x.Args, copyOfArg, spareArg()), roomy(x.Idx, copyOfTerm, v(-1)), copyOfTerm(x.Dec)
		return x
	}, api.Con{Sort: -1})
	return b
}

func spareArg() api.Arg { return api.Arg{Rec: true, Sort: -1} }

func copyOfArg(a api.Arg) api.Arg {
	a.Type, a.Dom, a.Idx = copyOfTerm(a.Type), roomy(a.Dom, copyOfTerm, v(-1)), roomy(a.Idx, copyOfTerm, v(-1))
	return a
}

func copyOfTerm(t api.Term) api.Term {
	t.Kids = roomy(t.Kids, copyOfTerm, v(-1))
	return t
}

func roomy[T any](l []T, copied func(T) T, spare T) []T {
	out := make([]T, len(l), len(l)+2)
	for i, x := range l {
		out[i] = copied(x)
	}
	for i := len(l); i < cap(out); i++ {
		out[:cap(out)][i] = spare
	}
	return out
}

// whole is a block in which each list is as long as its capacity, so that what is spare is compared too.
func whole(b api.Block) api.Block {
	b.Sorts = roomy(b.Sorts[:cap(b.Sorts)], func(s api.Sort) api.Sort {
		s.Idx, s.DecType = roomy(s.Idx[:cap(s.Idx)], wholeArg, api.Arg{}), wholeTerm(s.DecType)
		return s
	}, api.Sort{})
	b.Cons = roomy(b.Cons[:cap(b.Cons)], func(x api.Con) api.Con {
		x.Args, x.Idx, x.Dec = roomy(x.Args[:cap(x.Args)], wholeArg, api.Arg{}), roomy(x.Idx[:cap(x.Idx)], wholeTerm, api.Term{}), wholeTerm(x.Dec)
		return x
	}, api.Con{})
	return b
}

func wholeArg(a api.Arg) api.Arg {
	a.Type, a.Dom, a.Idx = wholeTerm(a.Type), roomy(a.Dom[:cap(a.Dom)], wholeTerm, api.Term{}), roomy(a.Idx[:cap(a.Idx)], wholeTerm, api.Term{})
	return a
}

func wholeTerm(t api.Term) api.Term {
	t.Kids = roomy(t.Kids[:cap(t.Kids)], wholeTerm, api.Term{})
	return t
}

// errorOf is what Check must answer.
func errorOf(ok bool) api.Errno {
	if ok {
		return api.OK
	}
	return api.ErrForm
}

// P7.1: right blocks.
func TestRightBlocks(t *testing.T) {
	for _, f := range append(families(), family{"widest", widest, 20}) {
		if e := Check(f.of()); e != api.OK {
			t.Error(f.name, e)
		}
	}
}

// spot is a place of a block where a term stands, in so many variables; or none may stand, and vars is -1.
type spot struct {
	name string
	t    *api.Term
	vars int
}

// spots counts the variables by the chapter's words.
func spots(b *api.Block) []spot {
	var l []spot
	for k := range b.Sorts {
		s := &b.Sorts[k]
		name := "sort " + strconv.Itoa(k)
		for i := range s.Idx {
			l = append(l, spotsOfArg(name+" index "+strconv.Itoa(i), &s.Idx[i], i)...)
		}
		l = append(l, spotOfDec(name, &s.DecType, s.Dec, len(s.Idx)))
	}
	for k := range b.Cons {
		x := &b.Cons[k]
		name := "con " + strconv.Itoa(k)
		for i := range x.Args {
			l = append(l, spotsOfArg(name+" arg "+strconv.Itoa(i), &x.Args[i], i)...)
		}
		for j := range x.Idx {
			l = append(l, spot{name + " idx " + strconv.Itoa(j), &x.Idx[j], len(x.Args)})
		}
		l = append(l, spotOfDec(name, &x.Dec, b.Sorts[x.Sort].Dec, len(x.Args)))
	}
	return l
}

func spotOfDec(name string, t *api.Term, has bool, vars int) spot {
	if has {
		return spot{name + " dec", t, vars}
	}
	return spot{name + " no dec", t, -1}
}

func spotsOfArg(name string, a *api.Arg, i int) []spot {
	if !a.Rec {
		return []spot{{name + " type", &a.Type, i}}
	}
	l := []spot{{name + " no type", &a.Type, -1}}
	for j := range a.Dom {
		l = append(l, spot{name + " dom " + strconv.Itoa(j), &a.Dom[j], i + j})
	}
	for j := range a.Idx {
		l = append(l, spot{name + " idx " + strconv.Itoa(j), &a.Idx[j], i + len(a.Dom)})
	}
	return l
}

// probes are terms, and whether each is a term in so many variables.
func probes(vars int) map[string]struct {
	t  api.Term
	ok bool
} {
	type probe = struct {
		t  api.Term
		ok bool
	}
	return map[string]probe{
		"last":        {v(vars - 1), vars > 0},
		"beyond":      {v(vars), false},
		"far":         {v(65535), false},
		"bound":       {lam(u(0), v(vars)), true},
		"unbound":     {lam(u(0), v(vars+1)), false},
		"domain":      {pi(v(vars), u(0)), false},
		"deep":        {node(api.Sig, u(0), lam(u(0), v(vars+1))), true},
		"level":       {u(6), true},
		"no level":    {u(7), false},
		"deep level":  {app(u(0), u(7)), false},
		"const":       {c(65535), true},
		"no const":    {c(65536), false},
		"below":       {c(-1), false},
		"zero":        {api.Term{}, false},
		"no kind":     {leaf(api.Jay+1, 0), false},
		"few kids":    {node(api.App, u(0)), false},
		"many kids":   {node(api.Pi, u(0), u(0), u(0)), false},
		"leaf's kids": {node(api.Univ, u(0)), false},
		"numbered":    {api.Term{Kind: api.App, N: 1, Kids: row(u(0), u(0))}, false},
		"deepest":     {chain(200, u(0)), true},
		"too deep":    {chain(201, u(0)), false},
		"greatest":    {node(api.Fst, bushy(2999)), true},
		"too great":   {bushy(3000), false},
	}
}

// P7.1: every term of every right block is right in as many variables as the chapter says, and in no more.
func TestTermsInTheirVariables(t *testing.T) {
	asked := 0
	for _, f := range families() {
		given := f.of()
		for i, s := range spots(&given) {
			if s.vars < 0 {
				continue
			}
			asked++
			for name, p := range probes(s.vars) {
				b := f.of()
				*spots(&b)[i].t = p.t
				if e := Check(b); e != errorOf(p.ok) {
					t.Error(f.name, s.name, name, e)
				}
			}
		}
	}
	if asked < 40 {
		t.Error(asked, "terms")
	}
}

// P7.1: where no term may stand, only the zero Term may, whether its list of Kids is nil or empty.
func TestNoTermWhereNoneMayStand(t *testing.T) {
	asked := 0
	for _, f := range families() {
		given := f.of()
		for i, s := range spots(&given) {
			if s.vars >= 0 {
				continue
			}
			asked++
			for k, x := range row(u(0), c(0), v(0), leaf(0, 1), leaf(0, -1), node(0, api.Term{}), leaf(-1, 0), pi(u(0), u(0)), chain(400, u(0))) {
				b := f.of()
				*spots(&b)[i].t = x
				if e := Check(b); e != api.ErrForm {
					t.Error(f.name, s.name, k, e)
				}
			}
			b := f.of()
			*spots(&b)[i].t = api.Term{Kids: make([]api.Term, 0, 3)}
			if e := Check(b); e != api.OK {
				t.Error(f.name, s.name, "empty Kids", e)
			}
		}
	}
	if asked < 20 {
		t.Error(asked, "places")
	}
}

// eachArg lists the Args of a block, its sorts' indices first.
func eachArg(b *api.Block) []*api.Arg {
	var l []*api.Arg
	for k := range b.Sorts {
		for i := range b.Sorts[k].Idx {
			l = append(l, &b.Sorts[k].Idx[i])
		}
	}
	for k := range b.Cons {
		for i := range b.Cons[k].Args {
			l = append(l, &b.Cons[k].Args[i])
		}
	}
	return l
}

// far is numbers that would come back among the right ones if one cut them to 32 bits, and others that are out of bounds.
var far = []int{-1, -2, 1 << 32, -1 << 32, 1<<32 + 1, math.MaxInt, math.MinInt}

// P7.1: levels are from 0 to MaxLevel.
func TestLevels(t *testing.T) {
	for _, f := range families() {
		for n := -3; n < 12; n++ {
			b := f.of()
			b.Elim = n
			if e := Check(b); e != errorOf(0 <= n && n <= 6) {
				t.Error(f.name, "elim", n, e)
			}
			for k := range b.Sorts {
				b = f.of()
				b.Sorts[k].Level = n
				if e := Check(b); e != errorOf(0 <= n && n <= 6) {
					t.Error(f.name, "level", k, n, e)
				}
			}
		}
		for _, n := range far {
			b, d := f.of(), f.of()
			b.Elim, d.Sorts[0].Level = n, n
			if Check(b) != api.ErrForm || Check(d) != api.ErrForm {
				t.Error(f.name, n)
			}
		}
	}
}

// P7.1: what an Arg or a con names as its sort must be one; an Arg that isn't Rec names none.
func TestSortsThatThereAreNot(t *testing.T) {
	for _, f := range families() {
		given := f.of()
		for i := range eachArg(&given) {
			for _, n := range append(far, len(given.Sorts), len(given.Sorts)+1, 4, 65535) {
				b := f.of()
				eachArg(&b)[i].Sort = n
				if e := Check(b); e != api.ErrForm {
					t.Error(f.name, "arg", i, n, e)
				}
			}
		}
		for i := range given.Cons {
			for _, n := range append(far, len(given.Sorts), len(given.Sorts)+1, 4, 65535) {
				b := f.of()
				b.Cons[i].Sort = n
				if e := Check(b); e != api.ErrForm {
					t.Error(f.name, "con", i, n, e)
				}
			}
		}
	}
}

// P7.1: an Arg has the fields that its Rec calls for, and as many Idx as its sort has indices.
func TestArgsWithOtherFields(t *testing.T) {
	for _, f := range families() {
		given := f.of()
		for i, a := range eachArg(&given) {
			for name, edit := range map[string]func(a *api.Arg){
				"rec":      func(a *api.Arg) { a.Rec = !a.Rec },
				"more idx": func(a *api.Arg) { a.Idx = append(a.Idx, u(0)) },
				"less idx": func(a *api.Arg) { a.Idx = a.Idx[:max(len(a.Idx)-1, 0)] },
				"no idx":   func(a *api.Arg) { a.Idx = nil },
				"dom":      func(a *api.Arg) { a.Dom = many(13, u(0)) },
				"zero idx": func(a *api.Arg) { a.Idx = append(a.Idx, api.Term{}) },
			} {
				b := f.of()
				x := eachArg(&b)[i]
				edit(x)
				same := len(x.Idx) == len(a.Idx) && len(x.Dom) == len(a.Dom) && x.Rec == a.Rec
				if e := Check(b); e != errorOf(same) {
					t.Error(f.name, i, name, e)
				}
			}
			b := f.of()
			eachArg(&b)[i].Dom = row(u(0))
			if !a.Rec && Check(b) != api.ErrForm {
				t.Error(f.name, i, "a Dom that isn't Rec's")
			}
		}
	}
}

// P7.1: a con has as many Idx as its sort has indices.
func TestConsIdx(t *testing.T) {
	for _, f := range families() {
		given := f.of()
		for i, x := range given.Cons {
			for n := range 15 {
				b := f.of()
				b.Cons[i].Idx = many(n, u(0))
				if e := Check(b); e != errorOf(n == len(given.Sorts[x.Sort].Idx)) {
					t.Error(f.name, i, n, e)
				}
			}
		}
	}
}

// edit is a change of a block, after which it is right or isn't.
type edit struct {
	name string
	of   func() api.Block
	f    func(b *api.Block)
	ok   bool
}

func tryEdits(t *testing.T, l []edit) {
	t.Helper()
	for _, x := range l {
		b := x.of()
		x.f(&b)
		if e := Check(b); e != errorOf(x.ok) {
			t.Error(x.name, e)
		}
	}
}

// P7.1: how many there may be of each.
func TestLengths(t *testing.T) {
	tryEdits(t, []edit{
		{"no sorts", nat, func(b *api.Block) { b.Sorts = nil }, false},
		{"no sorts and no cons", nat, func(b *api.Block) { b.Sorts, b.Cons = nil, nil }, false},
		{"four sorts", nat, func(b *api.Block) { b.Sorts = make([]api.Sort, 4) }, true},
		{"five sorts", nat, func(b *api.Block) { b.Sorts = make([]api.Sort, 5) }, false},
		{"five sorts, no cons", nat, func(b *api.Block) { b.Sorts, b.Cons = make([]api.Sort, 5), nil }, false},
		{"a million sorts", nat, func(b *api.Block) { b.Sorts = make([]api.Sort, 1000000) }, false},
		{"no cons", nat, func(b *api.Block) { b.Cons = nil }, true},
		{"eight cons", nat, func(b *api.Block) { b.Cons = make([]api.Con, 8) }, true},
		{"nine cons", nat, func(b *api.Block) { b.Cons = make([]api.Con, 9) }, false},
		{"a million cons", nat, func(b *api.Block) { b.Cons = make([]api.Con, 1000000) }, false},
		{"twelve args", nat, func(b *api.Block) { b.Cons[1].Args = manyArgs(12, rec(0)) }, true},
		{"thirteen args", nat, func(b *api.Block) { b.Cons[1].Args = manyArgs(13, rec(0)) }, false},
		{"thirteen types", nat, func(b *api.Block) { b.Cons[1].Args = manyArgs(13, of(u(0))) }, false},
		{"no args", nat, func(b *api.Block) { b.Cons[1].Args = nil }, true},
		{"twelve indices", nat, func(b *api.Block) { b.Sorts[0].Idx, b.Cons = manyArgs(12, of(u(0))), nil }, true},
		{"thirteen indices", nat, func(b *api.Block) { b.Sorts[0].Idx, b.Cons = manyArgs(13, of(u(0))), nil }, false},
		{"thirteen indices of two sorts", contexts, func(b *api.Block) { b.Sorts[2].Idx = manyArgs(13, rec(0)); b.Cons = b.Cons[:3] }, false},
		{"twelve indices of two sorts", contexts, func(b *api.Block) { b.Sorts[2].Idx = manyArgs(12, rec(0)); b.Cons = b.Cons[:3] }, true},
		{"twelve Dom", nat, func(b *api.Block) { b.Cons[1].Args[0].Dom = many(12, u(0)) }, true},
		{"thirteen Dom", nat, func(b *api.Block) { b.Cons[1].Args[0].Dom = many(13, u(0)) }, false},
		{"empty lists for none", nat, func(b *api.Block) {
			b.Sorts[0].Idx, b.Sorts[0].DecType.Kids = []api.Arg{}, []api.Term{}
			b.Cons[0] = api.Con{Args: []api.Arg{}, Idx: []api.Term{}, Dec: api.Term{Kids: []api.Term{}}}
			b.Cons[1].Args[0] = api.Arg{Rec: true, Type: api.Term{Kids: []api.Term{}}, Dom: []api.Term{}, Idx: []api.Term{}}
		}, true},
		{"empty lists beside a type", vec, func(b *api.Block) { b.Cons[1].Args[0].Dom, b.Cons[1].Args[0].Idx = []api.Term{}, []api.Term{} }, true},
	})
	if Check(api.Block{}) != api.ErrForm {
		t.Error("the zero Block")
	}
}

// P7.1: a sort's indices that are Rec have no Dom, and earlier sorts.
func TestIndicesThatAreRec(t *testing.T) {
	tryEdits(t, []edit{
		{"of itself", nat, func(b *api.Block) { b.Sorts[0].Idx, b.Cons = args(rec(0, u(0))), nil }, false},
		{"of itself, without Idx", nat, func(b *api.Block) { b.Sorts[0].Idx, b.Cons = args(rec(0)), nil }, false},
		{"of itself, as the second", contexts, func(b *api.Block) { b.Sorts[1].Idx, b.Cons = args(rec(1, u(0))), nil }, false},
		{"of itself, behind another", contexts, func(b *api.Block) { b.Sorts[1].Idx, b.Cons = args(rec(0), rec(1, v(0), u(0))), nil }, false},
		{"of itself, as the last", contexts, func(b *api.Block) { b.Sorts[2].Idx, b.Cons = args(rec(0), rec(2, v(0), u(0))), nil }, false},
		{"of a later sort", contexts, func(b *api.Block) { b.Sorts[0].Idx, b.Cons = args(rec(1, u(0))), nil }, false},
		{"of the last sort", contexts, func(b *api.Block) { b.Sorts[1].Idx, b.Cons = args(rec(2, u(0), u(0))), nil }, false},
		{"with a Dom", contexts, func(b *api.Block) { b.Sorts[1].Idx[0].Dom = row(u(0)) }, false},
		{"with a Dom, and an Idx in its variable", contexts, func(b *api.Block) { b.Sorts[2].Idx[1] = fun(row(u(0)), 1, v(1)) }, false},
		{"of the one before", contexts, func(b *api.Block) { b.Sorts[2].Idx[1] = rec(0) }, true},
		{"with Idx missing", contexts, func(b *api.Block) { b.Sorts[2].Idx[1] = rec(1) }, false},
		{"of a sort with a decoder", mixed, func(b *api.Block) { b.Sorts[3].Idx[0] = rec(2) }, true},
		{"of a sort with a decoder and indices", mixed, func(b *api.Block) { b.Sorts[3].Idx = args(rec(0, u(0), u(1))) }, true},
		{"behind a type", mixed, func(b *api.Block) { b.Sorts[1].Idx = args(rec(0, u(0), u(0)), of(v(0))) }, true},
		{"of a sort with a decoder itself", mixed, func(b *api.Block) { b.Sorts[2].Idx, b.Cons = args(rec(0, u(0), u(0))), nil }, false},
		{"behind a type, of such a sort", mixed, func(b *api.Block) { b.Sorts[2].Idx, b.Cons = args(of(u(0)), rec(0, u(0), u(0))), nil }, false},
		{"of such a sort, if it had none", mixed, func(b *api.Block) {
			b.Sorts[2] = api.Sort{Idx: args(of(u(0)), rec(0, u(0), u(0)))}
			b.Cons = nil
		}, true},
	})
}

// P7.1: a con's own Args may be of every sort of the block, and of a function into it.
func TestArgsThatAreRec(t *testing.T) {
	tryEdits(t, []edit{
		{"of a later sort", contexts, func(b *api.Block) { b.Cons[0].Args = args(rec(2, u(0), u(0))) }, true},
		{"of a later sort, with too few Idx", contexts, func(b *api.Block) { b.Cons[0].Args = args(rec(2, u(0))) }, false},
		{"of an earlier sort", contexts, func(b *api.Block) { b.Cons[2].Args[0] = fun(row(u(0), v(0)), 0) }, true},
		{"of an earlier sort, with a variable too many", contexts, func(b *api.Block) { b.Cons[2].Args[0] = fun(row(u(0), v(1)), 0) }, false},
		{"Idx in the Dom's variables", contexts, func(b *api.Block) { b.Cons[2].Args[0] = fun(row(u(0), v(0)), 1, v(1)) }, true},
		{"Idx beyond the Dom's variables", contexts, func(b *api.Block) { b.Cons[2].Args[0] = fun(row(u(0), v(0)), 1, v(2)) }, false},
		{"no Type, and not Rec", nat, func(b *api.Block) { b.Cons[1].Args[0] = api.Arg{} }, false},
		{"a Type, and Rec", nat, func(b *api.Block) { b.Cons[1].Args[0].Type = u(0) }, false},
		{"a Sort, and not Rec", contexts, func(b *api.Block) { b.Cons[3].Args[2].Sort = 1 }, false},
		{"an Idx, and not Rec", contexts, func(b *api.Block) { b.Cons[3].Args[2].Idx = row(u(0)) }, false},
		{"a Dom, and not Rec", contexts, func(b *api.Block) { b.Cons[3].Args[2].Dom = row(u(0)) }, false},
	})
}

// P7.1: Dec and DecType are there exactly where the sort has Dec.
func TestDecoders(t *testing.T) {
	tryEdits(t, []edit{
		{"Dec without a type", nat, func(b *api.Block) { b.Sorts[0].Dec, b.Cons = true, nil }, false},
		{"Dec with a type", nat, func(b *api.Block) { b.Sorts[0].Dec, b.Sorts[0].DecType, b.Cons = true, u(0), nil }, true},
		{"a type without Dec", nat, func(b *api.Block) { b.Sorts[0].DecType = u(0) }, false},
		{"cons without Dec", universe, func(b *api.Block) { b.Cons[0].Dec = api.Term{} }, false},
		{"cons with Dec, whose sort has none", nat, func(b *api.Block) { b.Cons[0].Dec = u(0) }, false},
		{"the sort's Dec taken away", universe, func(b *api.Block) { b.Sorts[0].Dec, b.Sorts[0].DecType = false, api.Term{} }, false},
		{"all Dec taken away", universe, func(b *api.Block) {
			b.Sorts[0].Dec, b.Sorts[0].DecType = false, api.Term{}
			b.Cons[0].Dec, b.Cons[1].Dec = api.Term{}, api.Term{}
		}, true},
		{"a con moved to a sort with Dec", mixed, func(b *api.Block) { b.Cons[3].Sort = 0 }, false},
		{"a con moved to such a sort, with its Dec", mixed, func(b *api.Block) { b.Cons[3].Sort, b.Cons[3].Dec = 0, u(0) }, true},
		{"a con moved to a sort without Dec", mixed, func(b *api.Block) { b.Cons[1].Sort = 1 }, false},
		{"a con moved to such a sort, without its Dec", mixed, func(b *api.Block) { b.Cons[1].Sort, b.Cons[1].Dec = 1, api.Term{} }, true},
		{"an index that is Rec beside Dec", contexts, func(b *api.Block) { b.Sorts[1].Dec, b.Sorts[1].DecType = true, u(0); b.Cons[2].Dec = u(0) }, false},
		{"an index that isn't beside Dec", contexts, func(b *api.Block) {
			b.Sorts[1] = api.Sort{Idx: args(of(u(0))), Dec: true, DecType: v(0)}
			b.Cons[2].Dec = v(0)
		}, true},
	})
}

// P7.1: a fault counts wherever it is, among the last of everything too.
func TestFaultsInTheLast(t *testing.T) {
	tryEdits(t, []edit{
		{"the last sort", widest, func(b *api.Block) { b.Sorts[3].Level = 7 }, false},
		{"the last index", widest, func(b *api.Block) { b.Sorts[3].Idx[11].Type = v(11) }, false},
		{"the last DecType", widest, func(b *api.Block) { b.Sorts[3].DecType = v(12) }, false},
		{"the last con", widest, func(b *api.Block) { b.Cons[7].Sort = 4 }, false},
		{"the last arg", widest, func(b *api.Block) { b.Cons[7].Args[11].Sort = 4 }, false},
		{"the last Dom", widest, func(b *api.Block) { b.Cons[7].Args[11].Dom[11] = v(22) }, false},
		{"the last Dom's last variable", widest, func(b *api.Block) { b.Cons[7].Args[11].Dom[11] = v(21) }, true},
		{"the last arg's last Idx", widest, func(b *api.Block) { b.Cons[7].Args[11].Idx[11] = v(23) }, false},
		{"the last arg's last Idx' last variable", widest, func(b *api.Block) { b.Cons[7].Args[11].Idx[11] = v(22) }, true},
		{"the last Idx", widest, func(b *api.Block) { b.Cons[7].Idx[11] = v(12) }, false},
		{"the last Dec", widest, func(b *api.Block) { b.Cons[7].Dec = v(12) }, false},
		{"the last Dec's last variable", widest, func(b *api.Block) { b.Cons[7].Dec = v(11) }, true},
	})
}

// P7.1: the numbers, by hand, of a block with decoders at some of its sorts.
func TestNumbers(t *testing.T) {
	b := mixed()
	for i, want := range []struct{ kind, which int }{
		{api.Former, 0}, {api.Former, 1}, {api.Former, 2}, {api.Former, 3},
		{api.Decoder, 0}, {api.Decoder, 2},
		{api.Constructor, 0}, {api.Constructor, 1}, {api.Constructor, 2}, {api.Constructor, 3}, {api.Constructor, 4},
		{api.Eliminator, 0}, {api.Eliminator, 1}, {api.Eliminator, 2}, {api.Eliminator, 3},
	} {
		for _, base := range []int{0, 1, 100, 65535} {
			if kind, which := Of(b, base, base+i); kind != want.kind || which != want.which {
				t.Error(base, i, kind, which)
			}
			if got := number(b, base, want.kind, want.which); got != base+i {
				t.Error(base, want, got)
			}
		}
	}
	for _, k := range []int{1, 3} {
		if got := Decoder(b, 10, k); got != -1 {
			t.Error("sort", k, "has no Dec:", got)
		}
	}
}

// number calls the numbering function of that kind.
func number(b api.Block, base, kind, which int) int {
	switch kind {
	case api.Former:
		return Former(b, base, which)
	case api.Decoder:
		return Decoder(b, base, which)
	case api.Constructor:
		return Constructor(b, base, which)
	case api.Eliminator:
		return Eliminator(b, base, which)
	}
	return -2
}

// P7.1: how many there are, of right blocks and of others.
func TestCount(t *testing.T) {
	for _, f := range append(families(), family{"widest", widest, 20}) {
		if got := Count(f.of()); got != f.count {
			t.Error(f.name, got, "want", f.count)
		}
	}
	for _, x := range []struct {
		b    api.Block
		want int
	}{
		{api.Block{}, 0},
		{api.Block{Cons: make([]api.Con, 5)}, 5},
		{api.Block{Sorts: make([]api.Sort, 100)}, 200},
		{api.Block{Sorts: manySorts(100), Cons: make([]api.Con, 50)}, 284},
		{api.Block{Sorts: []api.Sort{{DecType: u(0)}}}, 2},
		{api.Block{Sorts: []api.Sort{{Dec: true}}}, 3},
	} {
		if got := Count(x.b); got != x.want {
			t.Error(len(x.b.Sorts), len(x.b.Cons), got, "want", x.want)
		}
	}
}

// manySorts is sorts of which every third has Dec: the first, the fourth, and so on.
func manySorts(n int) []api.Sort {
	l := make([]api.Sort, n)
	for k := range l {
		l[k].Dec = k%3 == 0
	}
	return l
}

// anyBlocks is blocks that are right, and others.
func anyBlocks() []api.Block {
	l := []api.Block{
		widest(),
		{},
		{Cons: make([]api.Con, 3)},
		{Sorts: make([]api.Sort, 7)},
		{Sorts: manySorts(100), Cons: make([]api.Con, 50)},
		{Sorts: []api.Sort{{Dec: true}, {}, {Dec: true}, {Dec: true}}, Elim: -1},
		{Sorts: []api.Sort{{}, {}, {Dec: true, Idx: make([]api.Arg, 40)}}, Cons: []api.Con{{Sort: 9}}},
		{Sorts: []api.Sort{{DecType: u(9)}}, Cons: []api.Con{{Dec: v(-1)}}},
	}
	for _, f := range families() {
		l = append(l, f.of())
	}
	return l
}

// noBases is numbers that are no base.
var noBases = []int{-1, -2, -65536, 65536, 65537, 1 << 32, 1<<32 + 5, math.MaxInt, math.MinInt}

// P7.1: -1 for what there is not, and 0, 0 by Of.
func TestWhatThereIsNot(t *testing.T) {
	kinds := []int{api.Former, api.Decoder, api.Constructor, api.Eliminator}
	for i, b := range anyBlocks() {
		for _, kind := range kinds {
			how := len(b.Sorts)
			if kind == api.Constructor {
				how = len(b.Cons)
			}
			for _, which := range append(far, how, how+1, 1000) {
				if got := number(b, 7, kind, which); got != -1 {
					t.Error(i, kind, which, got)
				}
			}
			for _, base := range noBases {
				for which := -1; which <= how; which++ {
					if got := number(b, base, kind, which); got != -1 {
						t.Error(i, base, kind, which, got)
					}
				}
			}
		}
		for _, base := range []int{0, 1, 7, 65535} {
			for _, n := range append(far, base-1, base+Count(b), base+Count(b)+1) {
				if kind, which := Of(b, base, n); kind != 0 || which != 0 {
					t.Error(i, base, n, kind, which)
				}
			}
		}
		for _, base := range noBases {
			for _, n := range []int{base - 1, base, base + 1, base + 2, 0, 1, 5, 65535, 65536, 65537, math.MaxInt, math.MinInt} {
				if kind, which := Of(b, base, n); kind != 0 || which != 0 {
					t.Error(i, base, n, kind, which)
				}
			}
		}
	}
}

// P7.1: the numbers, by the chapter's sentences.
func TestNumbersAgainstThePlainWords(t *testing.T) {
	for i, b := range anyBlocks() {
		for _, base := range []int{0, 3, 65535} {
			n, m, before := len(b.Sorts), len(b.Cons), 0
			for k, s := range b.Sorts {
				want := -1
				if s.Dec {
					want = base + n + before
					before++
				}
				if Former(b, base, k) != base+k || Decoder(b, base, k) != want {
					t.Error(i, base, k, Former(b, base, k), Decoder(b, base, k))
				}
			}
			for c := range b.Cons {
				if got := Constructor(b, base, c); got != base+n+before+c {
					t.Error(i, base, c, got)
				}
			}
			for k := range b.Sorts {
				if got := Eliminator(b, base, k); got != base+n+before+m+k {
					t.Error(i, base, k, got)
				}
			}
			if got := Count(b); got != 2*n+before+m {
				t.Error(i, got)
			}
		}
	}
}

// P7.2: what Of says of a number, the numbering function turns into the number again.
func TestOfAndBack(t *testing.T) {
	for i, b := range anyBlocks() {
		for _, base := range []int{0, 1, 300, 65535} {
			found := 0
			for n := base - 5; n < base+Count(b)+5; n++ {
				kind, which := Of(b, base, n)
				if kind == 0 && which == 0 {
					continue
				}
				found++
				if got := number(b, base, kind, which); got != n {
					t.Error(i, base, n, kind, which, got)
				}
			}
			if found != Count(b) {
				t.Error(i, base, found, "of", Count(b))
			}
		}
	}
}

// P7.2: what the numbering functions answer, Of turns into the kind and the place again.
func TestNumbersAndBack(t *testing.T) {
	for i, b := range anyBlocks() {
		for _, base := range []int{0, 1, 300, 65535} {
			found := 0
			for _, kind := range []int{api.Former, api.Decoder, api.Constructor, api.Eliminator} {
				for which := range len(b.Sorts) + len(b.Cons) {
					n := number(b, base, kind, which)
					if n < 0 {
						continue
					}
					found++
					if gotKind, got := Of(b, base, n); gotKind != kind || got != which {
						t.Error(i, base, kind, which, n, gotKind, got)
					}
				}
			}
			if found != Count(b) {
				t.Error(i, base, found, "of", Count(b))
			}
		}
	}
}

// R1: terms far deeper than right ones, wherever they stand, and lists far longer, are refused without a stack as deep.
func TestVeryDeepAndVeryLong(t *testing.T) {
	defer debug.SetMaxStack(debug.SetMaxStack(16 << 20))
	deep, long := chain(400000, v(0)), many(1000000, u(0))
	given := mixed()
	for i := range spots(&given) {
		b := mixed()
		*spots(&b)[i].t = deep
		if e := Check(b); e != api.ErrForm {
			t.Error(i, e)
		}
	}
	tryEdits(t, []edit{
		{"Dom", nat, func(b *api.Block) { b.Cons[1].Args[0].Dom = long }, false},
		{"Idx", nat, func(b *api.Block) { b.Cons[1].Args[0].Idx = long }, false},
		{"con's Idx", nat, func(b *api.Block) { b.Cons[1].Idx = long }, false},
		{"Args", nat, func(b *api.Block) { b.Cons[1].Args = manyArgs(1000000, rec(0)) }, false},
		{"indices", nat, func(b *api.Block) { b.Sorts[0].Idx = manyArgs(1000000, of(u(0))) }, false},
		{"Kids", vec, func(b *api.Block) { b.Cons[0].Idx[0].Kids = long }, false},
	})
}

// R1: Check is done soon with all that a right block may hold.
func TestGreatestBlock(t *testing.T) {
	b := widest()
	great := node(api.Fst, bushy(2999))
	for _, s := range spots(&b) {
		if s.vars >= 0 {
			*s.t = great
		}
	}
	if e := Check(b); e != api.OK {
		t.Error(e)
	}
}

// R2, R6: a block stays as it is, and what lies behind its lists is not looked at.
func TestBlocksStay(t *testing.T) {
	for i, b := range anyBlocks() {
		given, kept := copyOf(b), copyOf(b)
		if Check(given) != Check(b) || Count(given) != Count(b) {
			t.Error(i, Check(given), Count(given))
		}
		for n := -2; n < Count(b)+9; n++ {
			for _, kind := range []int{api.Former, api.Decoder, api.Constructor, api.Eliminator} {
				if number(given, 4, kind, n) != number(b, 4, kind, n) {
					t.Error(i, kind, n)
				}
			}
			gotKind, got := Of(given, 4, n)
			if kind, which := Of(b, 4, n); gotKind != kind || got != which {
				t.Error(i, n)
			}
		}
		if !reflect.DeepEqual(whole(given), whole(kept)) {
			t.Error(i, "is another now")
		}
	}
}

// Example 1 of the chapter.
func TestExample(t *testing.T) {
	b := nat()
	if Former(b, 5, 0) != 5 || Constructor(b, 5, 0) != 6 || Constructor(b, 5, 1) != 7 || Eliminator(b, 5, 0) != 8 {
		t.Error(Former(b, 5, 0), Constructor(b, 5, 0), Constructor(b, 5, 1), Eliminator(b, 5, 0))
	}
}
