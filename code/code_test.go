package code

import (
	"fmt"
	"math"
	"runtime/debug"
	"slices"
	"testing"

	"porism/api"
	"porism/shape"
	"porism/term"
)

func leaf(kind, n int) api.Term { return api.Term{Kind: kind, N: n} }

func node(kind int, kids ...api.Term) api.Term { return api.Term{Kind: kind, Kids: kids} }

func v(n int) api.Term { return leaf(api.Var, n) }
func u(n int) api.Term { return leaf(api.Univ, n) }
func c(n int) api.Term { return leaf(api.Const, n) }

func pi(a, b api.Term) api.Term  { return node(api.Pi, a, b) }
func lam(a, b api.Term) api.Term { return node(api.Lam, a, b) }
func app(a, b api.Term) api.Term { return node(api.App, a, b) }

func row(l ...api.Term) []api.Term { return l }

func of(t api.Term) api.Arg { return api.Arg{Type: t} }

func rec(sort int, idx ...api.Term) api.Arg { return api.Arg{Rec: true, Sort: sort, Idx: idx} }

func fun(dom []api.Term, sort int, idx ...api.Term) api.Arg {
	return api.Arg{Rec: true, Dom: dom, Sort: sort, Idx: idx}
}

func args(l ...api.Arg) []api.Arg { return l }

func take(t api.Term) api.Code { return api.Code{Kind: api.CodeTake, Type: t} }

func inner(dom []api.Term, sort int, idx ...api.Term) api.Code {
	return api.Code{Kind: api.CodeInner, Dom: dom, Sort: sort, Idx: idx}
}

func end(dec api.Term, idx ...api.Term) api.Code {
	return api.Code{Kind: api.CodeEnd, Idx: idx, Dec: dec}
}

func steps(l ...api.Code) []api.Code { return l }

// none is the zero Term.
var none = api.Term{}

// chain is a term of so many nodes below one another, with inside as the last of them.
func chain(depth int, inside api.Term) api.Term {
	t := inside
	for range depth - 1 {
		t = node(api.Fst, t)
	}
	return t
}

// shown is a con or a code as text, in which nil and an empty list are one.
func shown(x any) string { return fmt.Sprint(x) }

// couple is a con and its code, both by hand.
type couple struct {
	name string
	con  api.Con
	code []api.Code
}

// blocks are right ones: numbers, vectors, a universe with its decoder, contexts, trees.
func blocks() []api.Block {
	return []api.Block{
		{Sorts: []api.Sort{{}}, Cons: []api.Con{{}, {Args: args(rec(0))}}},
		{Sorts: []api.Sort{{Idx: args(of(c(0)))}}, Cons: []api.Con{{Idx: row(c(1))}, {Args: args(of(c(0)), of(c(0)), rec(0, v(1))), Idx: row(app(c(2), v(2)))}}},
		{Sorts: []api.Sort{{Level: 1, Dec: true, DecType: u(0)}}, Cons: []api.Con{{Dec: c(0)}, {Args: args(rec(0), fun(row(app(c(9), v(0))), 0)), Dec: pi(app(c(9), v(1)), app(c(9), app(v(1), v(0))))}}},
		{Sorts: []api.Sort{{}, {Idx: args(rec(0))}}, Cons: []api.Con{
			{}, {Args: args(rec(0), rec(1, v(0)))}, {Sort: 1, Args: args(rec(0)), Idx: row(v(0))},
			{Sort: 1, Args: args(rec(0), rec(1, v(0)), rec(1, app(app(c(16), v(1)), v(0)))), Idx: row(v(2))},
		}},
		{Sorts: []api.Sort{{}}, Cons: []api.Con{{Args: args(of(c(30)), fun(row(app(c(31), v(0))), 0))}}},
	}
}

// rightCons are those of right blocks.
func rightCons() []couple {
	return []couple{
		{"zero", api.Con{}, steps(end(none))},
		{"successor", api.Con{Args: args(rec(0))}, steps(inner(nil, 0), end(none))},
		{"no vector", api.Con{Idx: row(c(1))}, steps(end(none, c(1)))},
		{
			"longer vector",
			api.Con{Args: args(of(c(0)), of(c(0)), rec(0, v(1))), Idx: row(app(c(2), v(2)))},
			steps(take(c(0)), take(c(0)), inner(nil, 0, v(1)), end(none, app(c(2), v(2)))),
		},
		{"a code", api.Con{Dec: c(7)}, steps(end(c(7)))},
		{
			"functions",
			api.Con{Args: args(rec(0), fun(row(app(c(9), v(0))), 0)), Dec: pi(app(c(9), v(1)), app(c(9), app(v(1), v(0))))},
			steps(inner(nil, 0), inner(row(app(c(9), v(0))), 0), end(pi(app(c(9), v(1)), app(c(9), app(v(1), v(0)))))),
		},
		{
			"types over contexts",
			api.Con{Sort: 1, Args: args(rec(0), rec(1, v(0)), rec(1, app(app(c(16), v(1)), v(0)))), Idx: row(v(2))},
			steps(inner(nil, 0), inner(nil, 1, v(0)), inner(nil, 1, app(app(c(16), v(1)), v(0))), end(none, v(2))),
		},
		{
			"all of it",
			api.Con{Sort: 3, Args: args(fun(row(u(0), v(0)), 2, v(1), v(0)), of(lam(u(1), v(0))), fun(row(c(1)), 1), of(v(1))), Idx: row(v(3), v(0), c(4)), Dec: lam(u(0), v(4))},
			steps(inner(row(u(0), v(0)), 2, v(1), v(0)), take(lam(u(1), v(0))), inner(row(c(1)), 1), take(v(1)), end(lam(u(0), v(4)), v(3), v(0), c(4))),
		},
	}
}

// otherCons are no right ones: of sorts that there are not, of more than there may be, with terms that are none. Their Args have the fields that their Rec calls for.
func otherCons() []couple {
	wrong := node(api.Pi, v(-3), leaf(99, math.MinInt), none)
	many := couple{name: "many", con: api.Con{Sort: math.MaxInt}}
	for i := range 300 {
		many.con.Args = append(many.con.Args, of(c(i)), rec(-i, v(i)))
		many.code = append(many.code, take(c(i)), inner(nil, -i, v(i)))
	}
	many.code = append(many.code, end(none))
	return []couple{
		many,
		{"sort below 0", api.Con{Sort: -7}, steps(end(none))},
		{"least sort", api.Con{Sort: math.MinInt, Args: args(rec(math.MinInt))}, steps(inner(nil, math.MinInt), end(none))},
		{"zero Type", api.Con{Args: args(api.Arg{}, api.Arg{})}, steps(take(none), take(none), end(none))},
		{"wrong terms", api.Con{Args: args(of(wrong), fun(row(wrong, none), 9, none, wrong)), Idx: row(none, wrong), Dec: wrong}, steps(take(wrong), inner(row(wrong, none), 9, none, wrong), end(wrong, none, wrong))},
	}
}

func cons() []couple { return append(rightCons(), otherCons()...) }

// P9.1: codes, by hand, of cons that are right and of others.
func TestCompile(t *testing.T) {
	for _, x := range cons() {
		if got := Compile(x.con); shown(got) != shown(x.code) {
			t.Error(x.name, got, "want", x.code)
		}
	}
}

// P9.1: a con's code is the same whatever its sort is, since no step tells it.
func TestCompileLeavesOutTheSort(t *testing.T) {
	for _, x := range cons() {
		for _, sort := range []int{-1, 0, 5} {
			x.con.Sort = sort
			if got := Compile(x.con); shown(got) != shown(x.code) {
				t.Error(x.name, sort, got)
			}
		}
	}
}

// P9.1, R4: what an Arg's Rec doesn't call for is not in the code.
func TestCompileLeavesOutOtherFields(t *testing.T) {
	full := api.Arg{Type: u(1), Dom: row(v(0), v(1)), Sort: 3, Idx: row(c(2))}
	fullRec := full
	fullRec.Rec = true
	for _, x := range []couple{
		{"not Rec", api.Con{Args: args(full)}, steps(take(u(1)), end(none))},
		{"Rec", api.Con{Args: args(fullRec)}, steps(inner(row(v(0), v(1)), 3, c(2)), end(none))},
		{"both", api.Con{Args: args(full, fullRec, full), Idx: row(v(0)), Dec: c(1)}, steps(take(u(1)), inner(row(v(0), v(1)), 3, c(2)), take(u(1)), end(c(1), v(0)))},
		{"no Type", api.Con{Args: args(api.Arg{Dom: row(v(0)), Sort: 1, Idx: row(v(1))})}, steps(take(none), end(none))},
		{"only a Type", api.Con{Args: args(api.Arg{Rec: true, Type: u(0)})}, steps(inner(nil, 0), end(none))},
	} {
		if got := Compile(x.con); shown(got) != shown(x.code) {
			t.Error(x.name, got, "want", x.code)
		}
	}
}

// P9.1: cons, by hand, of each code; the sort is the one that is given, whatever it is.
func TestExpand(t *testing.T) {
	for _, x := range cons() {
		for _, sort := range []int{x.con.Sort, 0, 1, -1, 4, 65536, math.MaxInt, math.MinInt} {
			want := x.con
			want.Sort = sort
			if got, e := Expand(sort, x.code); e != api.OK || shown(got) != shown(want) {
				t.Error(x.name, sort, got, e, "want", want)
			}
		}
	}
}

// refused tells whether Expand refuses a code, with no con beside the error.
func refused(l []api.Code) bool {
	got, e := Expand(2, l)
	return e == api.ErrForm && shown(got) == shown(api.Con{})
}

// P9.1: a code has one CodeEnd, and that at its end.
func TestWhereTheEndIs(t *testing.T) {
	for _, x := range cons() {
		last := len(x.code) - 1
		for at := range last + 1 {
			if !refused(x.code[:at]) {
				t.Error(x.name, "cut to", at)
			}
			if !refused(slices.Concat(x.code[:at], x.code[last:], x.code[at:])) {
				t.Error(x.name, "an end too many at", at)
			}
		}
		for _, s := range steps(take(u(0)), inner(nil, 0), end(none)) {
			if !refused(slices.Concat(x.code, steps(s))) {
				t.Error(x.name, "with one behind", s)
			}
		}
	}
	if !refused(nil) || !refused(steps()) {
		t.Error("no steps")
	}
}

// The fields of a step beside its kind.
const (
	hasType = 1 << iota
	hasDom
	hasSort
	hasIdx
	hasDec
	allFields
)

// stepWith is a step of the kind with those fields, and with zero values as the others.
func stepWith(kind, fields int) api.Code {
	s := api.Code{Kind: kind}
	if fields&hasType != 0 {
		s.Type = u(0)
	}
	if fields&hasDom != 0 {
		s.Dom = row(none)
	}
	if fields&hasSort != 0 {
		s.Sort = 1
	}
	if fields&hasIdx != 0 {
		s.Idx = row(none)
	}
	if fields&hasDec != 0 {
		s.Dec = v(0)
	}
	return s
}

// mayHave is what the chapter lets a step of the kind have, and -1 where it lets there be none.
func mayHave(kind int, last bool) int {
	switch {
	case last && kind == api.CodeEnd:
		return hasIdx | hasDec
	case !last && kind == api.CodeTake:
		return hasType
	case !last && kind == api.CodeInner:
		return hasDom | hasSort | hasIdx
	}
	return -1
}

// P9.1: each kind, and numbers that are none, with each choice of fields, at each place of a code.
func TestFieldsOfSteps(t *testing.T) {
	code := steps(take(c(1)), inner(row(u(0)), 1, v(0)), take(v(1)), end(c(2), v(0)))
	kinds := []int{-3, -1, 0, api.CodeEnd, api.CodeTake, api.CodeInner, 4, 5, 257, 258, 259, 1<<32 + 1, 1<<32 + 2, math.MaxInt, math.MinInt}
	taken := 0
	for at := range code {
		for _, kind := range kinds {
			for fields := range allFields {
				l := slices.Clone(code)
				l[at] = stepWith(kind, fields)
				may := mayHave(kind, at == len(l)-1)
				if may < 0 || fields&^may != 0 {
					if !refused(l) {
						t.Error(at, kind, fields, "is taken")
					}
					continue
				}
				taken++
				if got, e := Expand(2, l); e != api.OK || shown(Compile(got)) != shown(l) {
					t.Error(at, kind, fields, got, e)
				}
			}
		}
	}
	if taken != 3*(2+8)+4 {
		t.Error(taken, "are taken")
	}
}

// P9.1: only the zero Term is none, be its list of Kids nil or empty.
func TestZeroTerms(t *testing.T) {
	zero := api.Term{Kids: row()}
	others := []api.Term{v(0), u(0), leaf(0, 1), leaf(0, -1), leaf(math.MinInt, 0), node(0, none), node(api.Jay)}
	for name, with := range map[string]func(api.Term) []api.Code{
		"a take's Dec":    func(x api.Term) []api.Code { return steps(api.Code{Kind: api.CodeTake, Type: u(0), Dec: x}, end(none)) },
		"an inner's Dec":  func(x api.Term) []api.Code { return steps(api.Code{Kind: api.CodeInner, Dec: x}, end(none)) },
		"an inner's Type": func(x api.Term) []api.Code { return steps(api.Code{Kind: api.CodeInner, Type: x}, end(none)) },
		"an end's Type":   func(x api.Term) []api.Code { return steps(take(u(0)), api.Code{Kind: api.CodeEnd, Type: x}) },
	} {
		if _, e := Expand(0, with(zero)); e != api.OK {
			t.Error(name, e)
		}
		for _, x := range others {
			if !refused(with(x)) {
				t.Error(name, x)
			}
		}
	}
}

// P9.1: an empty list is none.
func TestEmptyLists(t *testing.T) {
	l := steps(api.Code{Kind: api.CodeTake, Type: u(0), Dom: row(), Idx: row()}, api.Code{Kind: api.CodeInner, Dom: row(), Idx: row()}, api.Code{Kind: api.CodeEnd, Dom: row(), Idx: row()})
	want := api.Con{Args: args(of(u(0)), rec(0))}
	if got, e := Expand(0, l); e != api.OK || shown(got) != shown(want) {
		t.Error(got, e)
	}
}

// P9.1: any other Sort of a step that may have none is refused, below 0 as well.
func TestSortsOfSteps(t *testing.T) {
	for _, sort := range []int{1, -1, 256, 1 << 32, math.MaxInt, math.MinInt} {
		if !refused(steps(api.Code{Kind: api.CodeTake, Type: u(0), Sort: sort}, end(none))) || !refused(steps(api.Code{Kind: api.CodeEnd, Sort: sort})) {
			t.Error(sort)
		}
		if got, e := Expand(0, steps(inner(nil, sort), end(none))); e != api.OK || got.Args[0].Sort != sort {
			t.Error(sort, got, e)
		}
	}
}

// P9.2: the con comes back, and the block that it is of is as right as it was.
func TestConsComeBack(t *testing.T) {
	for _, x := range cons() {
		if got, e := Expand(x.con.Sort, Compile(x.con)); e != api.OK || shown(got) != shown(x.con) {
			t.Error(x.name, got, e)
		}
	}
	for k, b := range blocks() {
		before := shown(b)
		for i, con := range b.Cons {
			got, e := Expand(con.Sort, Compile(con))
			if e != api.OK {
				t.Error(k, i, e)
			}
			b.Cons[i] = got
		}
		if shape.Check(b) != api.OK || shown(b) != before {
			t.Error(k, shape.Check(b), b)
		}
	}
}

// P9.2: each choice of an Arg's fields; those with others than its Rec calls for come back without them, all others as they are.
func TestArgsComeBack(t *testing.T) {
	for fields := range allFields / 2 {
		s := stepWith(0, fields)
		for _, isRec := range []bool{false, true} {
			arg := api.Arg{Rec: isRec, Type: s.Type, Dom: s.Dom, Sort: s.Sort, Idx: s.Idx}
			want, calls := of(s.Type), hasType
			if isRec {
				want, calls = fun(s.Dom, s.Sort, s.Idx...), hasDom|hasSort|hasIdx
			}
			got, e := Expand(1, Compile(api.Con{Sort: 1, Args: args(of(u(0)), arg)}))
			if e != api.OK || shown(got) != shown(api.Con{Sort: 1, Args: args(of(u(0)), want)}) {
				t.Error(fields, isRec, got, e)
			}
			if (shown(want) == shown(arg)) != (fields&^calls == 0) {
				t.Error(fields, isRec, "the test is wrong")
			}
		}
	}
}

// P9.2: the code comes back too.
func TestCodesComeBack(t *testing.T) {
	for _, x := range cons() {
		con, e := Expand(3, x.code)
		if got := Compile(con); e != api.OK || shown(got) != shown(x.code) {
			t.Error(x.name, got, e)
		}
	}
}

// R1: terms far deeper than right ones, at every place that a term may have, without a stack as deep.
func TestVeryDeepTerms(t *testing.T) {
	defer debug.SetMaxStack(debug.SetMaxStack(16 << 20))
	deep := chain(400_000, c(5))
	con := api.Con{Args: args(of(deep), fun(row(deep), 0, deep)), Idx: row(deep), Dec: deep}
	l := Compile(con)
	got, e := Expand(0, l)
	if e != api.OK || len(l) != 3 || len(got.Args) != 2 {
		t.Fatal(len(l), e)
	}
	for i, x := range row(l[0].Type, l[1].Dom[0], l[1].Idx[0], l[2].Idx[0], l[2].Dec, got.Args[0].Type, got.Args[1].Dom[0], got.Args[1].Idx[0], got.Idx[0], got.Dec) {
		if !term.Equal(x, deep) {
			t.Error(i)
		}
	}
	for fields := range allFields {
		s := stepWith(api.CodeInner, fields)
		if s.Type.Kind != 0 {
			s.Type = deep
		}
		if s.Dec.Kind != 0 {
			s.Dec = deep
		}
		if fields&(hasType|hasDec) != 0 && !refused(steps(s, end(none))) {
			t.Error(fields)
		}
	}
}

// R1: lists far longer than those of right cons.
func TestVeryLongLists(t *testing.T) {
	const far = 200_000
	con := api.Con{Sort: 1}
	for i := range far {
		con.Args = append(con.Args, rec(i))
		con.Idx = append(con.Idx, v(i))
	}
	l := Compile(con)
	got, e := Expand(1, l)
	if len(l) != far+1 || e != api.OK || len(got.Args) != far || len(got.Idx) != far {
		t.Fatal(len(l), e, len(got.Args), len(got.Idx))
	}
	for i := range far {
		if l[i].Sort != i || l[far].Idx[i].N != i || got.Args[i].Sort != i || got.Idx[i].N != i {
			t.Fatal(i)
		}
	}
	l[far].Sort = 1
	if !refused(l) {
		t.Error("a fault in the last step")
	}
}

// roomy is a copy in new memory, with spare capacity behind the list that holds what must not be looked at and must stay.
func roomy[T any](l []T, copied func(T) T, spare T) []T {
	out := make([]T, len(l), len(l)+2)
	for i, x := range l {
		out[i] = copied(x)
	}
	for i := len(l); i < cap(out); i++ {
		out[:cap(out)][i] = spare
	}
	return out
}

func roomyTerm(t api.Term) api.Term {
	t.Kids = roomyRow(t.Kids)
	return t
}

func roomyRow(l []api.Term) []api.Term { return roomy(l, roomyTerm, v(-1)) }

func roomyCon(x api.Con) api.Con {
	x.Idx, x.Dec = roomyRow(x.Idx), roomyTerm(x.Dec)
	x.Args = roomy(x.Args, func(a api.Arg) api.Arg {
		a.Type, a.Dom, a.Idx = roomyTerm(a.Type), roomyRow(a.Dom), roomyRow(a.Idx)
		return a
	}, rec(-1))
	return x
}

func roomyCode(l []api.Code) []api.Code {
	return roomy(l, func(s api.Code) api.Code {
		s.Type, s.Dom, s.Idx, s.Dec = roomyTerm(s.Type), roomyRow(s.Dom), roomyRow(s.Idx), roomyTerm(s.Dec)
		return s
	}, end(none))
}

// memory is the places that were met so far. As pointers they keep what they point to from being used again.
type memory struct {
	met    map[any]bool
	shared int
}

// meet notes the list with its spare capacity, and goes on with what lies in each item, spare ones too.
func meet[T any](m *memory, l []T, within func(*memory, T)) {
	spare := l[:cap(l)]
	for i := range spare {
		if m.met[&spare[i]] {
			m.shared++
			continue
		}
		m.met[&spare[i]] = true
		within(m, spare[i])
	}
}

func meetTerm(m *memory, t api.Term)  { meet(m, t.Kids, meetTerm) }
func meetRow(m *memory, l []api.Term) { meet(m, l, meetTerm) }

func meetArg(m *memory, a api.Arg) {
	meetTerm(m, a.Type)
	meetRow(m, a.Dom)
	meetRow(m, a.Idx)
}

func meetCon(m *memory, x api.Con) {
	meet(m, x.Args, meetArg)
	meetRow(m, x.Idx)
	meetTerm(m, x.Dec)
}

func meetStep(m *memory, s api.Code) {
	meetTerm(m, s.Type)
	meetRow(m, s.Dom)
	meetRow(m, s.Idx)
	meetTerm(m, s.Dec)
}

// R2: results are new memory, though an argument has one list at many places or an empty one with spare capacity.
func TestResultsAreNewMemory(t *testing.T) {
	same := row(app(v(0), v(1)), u(0))
	x := node(api.Pi, same...)
	all := append(cons(), couple{
		"one list",
		api.Con{Args: args(of(x), fun(same, 0, same...), fun(same, 0, same...), of(x)), Idx: same, Dec: x},
		steps(take(x), inner(same, 0, same...), inner(same, 0, same...), take(x), end(x, same...)),
	})
	for _, x := range all {
		for _, given := range []couple{x, {x.name + ", roomy", roomyCon(x.con), roomyCode(x.code)}} {
			m := &memory{met: map[any]bool{}}
			meetCon(m, given.con)
			meet(m, given.code, meetStep)
			m.shared = 0
			for range 2 {
				con, _ := Expand(given.con.Sort, given.code)
				meetCon(m, con)
				meet(m, Compile(given.con), meetStep)
			}
			if m.shared != 0 {
				t.Error(given.name, m.shared)
			}
		}
	}
}

// R2, R3, R6: what is handed in stays as it is, with what lies behind its lists, which is not looked at; a second call answers the same.
func TestArgumentsStay(t *testing.T) {
	for _, x := range cons() {
		con, code := roomyCon(x.con), roomyCode(x.code)
		for range 2 {
			if got := Compile(con); shown(got) != shown(x.code) {
				t.Error(x.name, got)
			}
			if got, e := Expand(x.con.Sort, code); e != api.OK || shown(got) != shown(x.con) {
				t.Error(x.name, got, e)
			}
			if !refused(code[:len(code)-1]) {
				t.Error(x.name, "the end lies behind it")
			}
		}
		if shown(wholeCon(con)) != shown(wholeCon(roomyCon(x.con))) || shown(wholeCode(code)) != shown(wholeCode(roomyCode(x.code))) {
			t.Error(x.name, "is another now")
		}
	}
}

// wholeTerm, and those below it, are copies in which each list is as long as its capacity was, so that what is spare is compared too.
func wholeTerm(t api.Term) api.Term {
	t.Kids = wholeRow(t.Kids)
	return t
}

func wholeRow(l []api.Term) []api.Term { return roomy(l[:cap(l)], wholeTerm, none) }

func wholeCon(x api.Con) api.Con {
	x.Idx, x.Dec = wholeRow(x.Idx), wholeTerm(x.Dec)
	x.Args = roomy(x.Args[:cap(x.Args)], func(a api.Arg) api.Arg {
		a.Type, a.Dom, a.Idx = wholeTerm(a.Type), wholeRow(a.Dom), wholeRow(a.Idx)
		return a
	}, api.Arg{})
	return x
}

func wholeCode(l []api.Code) []api.Code {
	return roomy(l[:cap(l)], func(s api.Code) api.Code {
		s.Type, s.Dom, s.Idx, s.Dec = wholeTerm(s.Type), wholeRow(s.Dom), wholeRow(s.Idx), wholeTerm(s.Dec)
		return s
	}, api.Code{})
}

// Example 1 of the chapter.
func TestExample(t *testing.T) {
	if l := Compile(api.Con{}); len(l) != 1 || shown(l[0]) != shown(api.Code{Kind: api.CodeEnd}) {
		t.Error(l)
	}
}
