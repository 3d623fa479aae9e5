package pack

import (
	"bytes"
	"math"
	"reflect"
	"runtime/debug"
	"slices"
	"testing"

	"porism/api"
	"porism/term"
)

func leaf(kind, n int) api.Term { return api.Term{Kind: kind, N: n} }

func node(kind int, kids ...api.Term) api.Term { return api.Term{Kind: kind, Kids: kids} }

func v(n int) api.Term { return leaf(api.Var, n) }
func u(n int) api.Term { return leaf(api.Univ, n) }
func c(n int) api.Term { return leaf(api.Const, n) }

// chain is a term of so many nodes below one another, with inner as the last of them.
func chain(depth int, inner api.Term) api.Term {
	t := inner
	for range depth - 1 {
		t = node(api.Fst, t)
	}
	return t
}

// bush is a term of so many nodes that is nowhere near too deep.
func bush(size int) api.Term {
	switch size {
	case 1:
		return v(258)
	case 2:
		return node(api.Snd, u(1))
	}
	left := (size - 1) / 2
	return node(api.App, bush(left), bush(size-1-left))
}

// bushBytes is bush's bytes, written by themselves.
func bushBytes(size int) []byte {
	switch size {
	case 1:
		return []byte{1, 1, 2}
	case 2:
		return []byte{10, 2, 0, 1}
	}
	left := (size - 1) / 2
	return slices.Concat([]byte{6}, bushBytes(left), bushBytes(size-1-left))
}

// chainBytes is the bytes of a chain of Fst with Const 3 at its end.
func chainBytes(depth int) []byte {
	return append(bytes.Repeat([]byte{9}, depth-1), 3, 0, 3)
}

type written struct {
	t    api.Term
	want []byte
}

// byHand holds a term of each kind, and N at its edges, with their bytes.
func byHand() []written {
	all := []written{
		{v(0), []byte{1, 0, 0}},
		{v(1), []byte{1, 0, 1}},
		{v(255), []byte{1, 0, 255}},
		{v(256), []byte{1, 1, 0}},
		{v(65535), []byte{1, 255, 255}},
		{u(6), []byte{2, 0, 6}},
		{u(7), []byte{2, 0, 7}},
		{u(0x1234), []byte{2, 0x12, 0x34}},
		{c(200), []byte{3, 0, 200}},
		{c(65280), []byte{3, 255, 0}},
		{node(api.Pi, c(1), u(2)), []byte{4, 3, 0, 1, 2, 0, 2}},
		{node(api.Lam, u(0), v(0)), []byte{5, 2, 0, 0, 1, 0, 0}},
		{node(api.App, v(1), c(2)), []byte{6, 1, 0, 1, 3, 0, 2}},
		{node(api.Sig, v(0), v(1)), []byte{7, 1, 0, 0, 1, 0, 1}},
		{node(api.Pair, node(api.Sig, u(0), u(1)), v(2), v(3)), []byte{8, 7, 2, 0, 0, 2, 0, 1, 1, 0, 2, 1, 0, 3}},
		{node(api.Fst, v(4)), []byte{9, 1, 0, 4}},
		{node(api.Snd, c(4)), []byte{10, 3, 0, 4}},
		{node(api.Id, u(1), v(0), v(2)), []byte{11, 2, 0, 1, 1, 0, 0, 1, 0, 2}},
		{node(api.Refl, u(1), u(0)), []byte{12, 2, 0, 1, 2, 0, 0}},
		{node(api.Jay, v(0), v(1), v(2)), []byte{13, 1, 0, 0, 1, 0, 1, 1, 0, 2}},
		{node(api.Fst, node(api.Snd, node(api.Fst, c(772)))), []byte{9, 10, 9, 3, 3, 4}},
		{node(api.App, node(api.App, v(0), v(1)), node(api.Lam, u(2), v(3))), []byte{6, 6, 1, 0, 0, 1, 0, 1, 5, 2, 0, 2, 1, 0, 3}},
	}
	return append(all,
		written{bush(api.MaxSize), bushBytes(api.MaxSize)},
		written{chain(api.MaxDepth, c(3)), chainBytes(api.MaxDepth)})
}

// inside is every term of byHand in each place of each kind, among others.
func inside() []written {
	small := byHand()
	small = small[:len(small)-2]
	all := slices.Clone(small)
	for _, x := range small {
		for kind := api.Pi; kind <= api.Jay; kind++ {
			for count := range 3 {
				t, b := node(kind), []byte{byte(kind)}
				for i := range arity(kind) {
					kid := small[(i*5+count)%len(small)]
					if i == count {
						kid = x
					}
					t.Kids = append(t.Kids, kid.t)
					b = append(b, kid.want...)
				}
				all = append(all, written{t, b})
			}
		}
	}
	return all
}

// arity is what chapter 1 says of the kinds that have Kids.
func arity(kind int) int {
	switch kind {
	case api.Fst, api.Snd:
		return 1
	case api.Pair, api.Id, api.Jay:
		return 3
	}
	return 2
}

// fails holds Get to an error, and to zero values beside it.
func fails(t *testing.T, b []byte, at int, want api.Errno) {
	t.Helper()
	x, next, e := Get(b, at)
	if e != want || next != 0 || x.Kind != 0 || x.N != 0 || len(x.Kids) != 0 {
		t.Error("of", len(b), "bytes at", at, ":", x.Kind, next, e, "and not", want)
	}
}

// P3.1: the bytes of each kind behind those that are there.
func TestPutWritesBehind(t *testing.T) {
	for k, x := range append(byHand(), inside()...) {
		for _, before := range [][]byte{nil, {}, {7}, {1, 0, 0}, bytes.Repeat([]byte{200}, 5000)} {
			b, e := Put(before, x.t)
			if e != api.OK || !bytes.Equal(b, slices.Concat(before, x.want)) {
				t.Fatal(k, len(before), b, e)
			}
		}
	}
}

// P3.1: each kind's bytes, at the beginning, in the middle and at the end, with others behind them or none.
func TestGetReadsAtOffset(t *testing.T) {
	for k, x := range append(byHand(), inside()...) {
		for _, before := range [][]byte{nil, {7}, {0, 0}, {9, 9, 9}, {1, 0, 0}} {
			for _, behind := range [][]byte{nil, {0}, {1, 0, 0}, {255, 255, 255, 255}} {
				b := slices.Concat(before, x.want, behind)
				got, next, e := Get(b, len(before))
				if e != api.OK || next != len(before)+len(x.want) || !term.Equal(got, x.t) {
					t.Fatal(k, len(before), len(behind), next, e)
				}
			}
		}
	}
}

// P3.1: Put has term.Check's errors, in its order, and nothing beside them.
func TestPutRefusesWhatIsNotRight(t *testing.T) {
	wide := node(api.App, bush(api.MaxSize), c(0))
	cases := []struct {
		t    api.Term
		want api.Errno
	}{
		{api.Term{}, api.ErrArg},
		{leaf(14, 0), api.ErrArg},
		{leaf(-1, 0), api.ErrArg},
		{leaf(256+api.Var, 0), api.ErrArg},
		{leaf(256, 0), api.ErrArg},
		{v(-1), api.ErrArg},
		{v(65536), api.ErrArg},
		{u(math.MaxInt), api.ErrArg},
		{c(math.MinInt), api.ErrArg},
		{api.Term{Kind: api.Var, Kids: []api.Term{v(0)}}, api.ErrArg},
		{node(api.Fst), api.ErrArg},
		{node(api.Fst, v(0), v(0)), api.ErrArg},
		{node(api.Pi, v(0)), api.ErrArg},
		{node(api.Jay, v(0), v(0)), api.ErrArg},
		{api.Term{Kind: api.Snd, N: 1, Kids: []api.Term{v(0)}}, api.ErrArg},
		{node(api.Lam, u(0), node(api.Refl, v(0), api.Term{})), api.ErrArg},
		{chain(api.MaxDepth+1, v(0)), api.ErrDepth},
		{chain(api.MaxDepth+1, api.Term{}), api.ErrDepth},
		{chain(api.MaxSize, v(0)), api.ErrDepth},
		{chain(api.MaxSize+1, v(-1)), api.ErrSize},
		{wide, api.ErrSize},
		{node(20, make([]api.Term, api.MaxSize)...), api.ErrSize},
		{node(20, make([]api.Term, api.MaxSize-1)...), api.ErrArg},
	}
	for k, x := range cases {
		for _, before := range [][]byte{nil, {1, 2, 3}} {
			if b, e := Put(before, x.t); e != x.want || e != term.Check(x.t) || len(b) != 0 {
				t.Error(k, len(b), e)
			}
		}
	}
}

// P3.1: an offset that is none comes first; the length itself is one, with no bytes at it.
func TestGetRefusesOffsets(t *testing.T) {
	for _, b := range [][]byte{nil, {}, {1, 0, 0}, {0}, {9, 9}, bushBytes(50)} {
		for _, at := range []int{-1, -2, math.MinInt, len(b) + 1, len(b) + 2, math.MaxInt} {
			fails(t, b, at, api.ErrArg)
		}
		fails(t, b, len(b), api.ErrBytes)
	}
	b := slices.Concat([]byte{1, 0, 0}, make([]byte, 10))
	fails(t, b[:3], 4, api.ErrArg)
}

// P3.1: bytes that break off, wherever they do, though others lie in the spare capacity behind them.
func TestGetRefusesCutBytes(t *testing.T) {
	for _, x := range inside() {
		for cut := range len(x.want) {
			fails(t, x.want[:cut], 0, api.ErrBytes)
			fails(t, append([]byte{5}, x.want...)[:cut+1], 1, api.ErrBytes)
		}
	}
	for _, cut := range []int{1, api.MaxDepth - 1, api.MaxDepth, api.MaxDepth + 1} {
		fails(t, chainBytes(api.MaxDepth)[:cut], 0, api.ErrBytes)
	}
}

// P3.1: bytes that are no kind, first or in any place.
func TestGetRefusesNoKinds(t *testing.T) {
	for first := range 256 {
		if api.Var <= first && first <= api.Jay {
			continue
		}
		k := byte(first)
		fails(t, []byte{k}, 0, api.ErrBytes)
		fails(t, []byte{k, 1, 0, 0, 1, 0, 0, 1, 0, 0}, 0, api.ErrBytes)
		fails(t, []byte{9, k, 0, 0}, 0, api.ErrBytes)
		fails(t, []byte{4, k, 0, 0, 1, 0, 0}, 0, api.ErrBytes)
		fails(t, []byte{4, 1, 0, 0, k, 0, 0}, 0, api.ErrBytes)
		fails(t, []byte{13, 1, 0, 0, 1, 0, 0, k, 0, 0}, 0, api.ErrBytes)
	}
}

// P3.1: what is too great or too deep is no right term, to the very node.
func TestGetRefusesTooGreatAndTooDeep(t *testing.T) {
	for _, size := range []int{api.MaxSize + 1, api.MaxSize + 2, 2 * api.MaxSize} {
		fails(t, bushBytes(size), 0, api.ErrBytes)
	}
	if x, next, e := Get(append(bushBytes(api.MaxSize), bushBytes(api.MaxSize)...), 0); e != api.OK || next != len(bushBytes(api.MaxSize)) || term.Size(x) != api.MaxSize {
		t.Error(next, e)
	}
	for _, depth := range []int{api.MaxDepth + 1, api.MaxDepth + 2, api.MaxSize} {
		fails(t, chainBytes(depth), 0, api.ErrBytes)
	}
	for kind := api.Pi; kind <= api.Jay; kind++ {
		for place := range arity(kind) {
			for _, deep := range []int{api.MaxDepth - 1, api.MaxDepth} {
				b := []byte{byte(kind)}
				for i := range arity(kind) {
					if i == place {
						b = append(b, chainBytes(deep)...)
					} else {
						b = append(b, 1, 0, 0)
					}
				}
				x, next, e := Get(b, 0)
				if deep == api.MaxDepth {
					fails(t, b, 0, api.ErrBytes)
				} else if e != api.OK || next != len(b) || term.Depth(x) != api.MaxDepth {
					t.Error(kind, place, next, e)
				}
			}
		}
	}
}

// R1: bytes that would be a term of millions of storeys are refused without a stack as deep.
func TestGetOfEndlessBytes(t *testing.T) {
	defer debug.SetMaxStack(debug.SetMaxStack(1 << 20))
	for kind := api.Pi; kind <= api.Jay; kind++ {
		fails(t, bytes.Repeat([]byte{byte(kind)}, 1<<22), 0, api.ErrBytes)
		deep := v(0)
		for range 1 << 18 {
			deep = node(kind, deep)
		}
		if b, e := Put(nil, deep); len(b) != 0 || e != api.ErrSize {
			t.Error(kind, len(b), e)
		}
	}
}

// P3.2: what is put is got again, one behind the other, and is the same in all of api.Term's fields.
func TestGetReturnsWhatPutWrote(t *testing.T) {
	var b []byte
	var at []int
	all := append(byHand(), inside()...)
	for k, x := range all {
		at = append(at, len(b))
		var e api.Errno
		if b, e = Put(b, x.t); e != api.OK {
			t.Fatal(k, e)
		}
	}
	at = append(at, len(b))
	for k, x := range all {
		got, next, e := Get(b, at[k])
		if e != api.OK || next != at[k+1] || !reflect.DeepEqual(got, x.t) {
			t.Fatal(k, next, e)
		}
	}
	fails(t, b, len(b), api.ErrBytes)
}

// P3.2: whatever Get reads, right by chapter 2, is written again byte by byte; and it reads from bytes of many forms.
func TestPutWritesWhatGetRead(t *testing.T) {
	read, refused := 0, 0
	state := uint32(1)
	for range 60000 {
		b := make([]byte, 24)
		for i := range b {
			state = state*1664525 + 1013904223
			b[i] = byte(state>>24) % 15
		}
		x, next, e := Get(b, 3)
		if e != api.OK {
			refused++
			continue
		}
		read++
		again, e := Put(b[:3], x)
		if e != api.OK || term.Check(x) != api.OK || !bytes.Equal(again, b[:next]) {
			t.Fatal(b, next, e)
		}
	}
	if read < 1000 || refused < 1000 {
		t.Error(read, refused)
	}
}

// roomy is a copy of the term with spare capacity behind each list, which holds a term that must stay as it is.
func roomy(t api.Term) api.Term {
	kids := make([]api.Term, 0, len(t.Kids)+2)
	for _, k := range t.Kids {
		kids = append(kids, roomy(k))
	}
	spare := kids[:cap(kids)]
	for i := len(kids); i < len(spare); i++ {
		spare[i] = leaf(77, 77)
	}
	t.Kids = kids
	return t
}

func spareKept(t api.Term) bool {
	spare := t.Kids[:cap(t.Kids)]
	for i, k := range spare {
		if i < len(t.Kids) && !spareKept(k) || i >= len(t.Kids) && (k.Kind != 77 || k.N != 77) {
			return false
		}
	}
	return true
}

// R2: neither argument of Put is changed, and its answer is new memory.
func TestPutKeepsItsArguments(t *testing.T) {
	for k, x := range inside() {
		in := bytes.Repeat([]byte{5}, 64)
		given := roomy(x.t)
		one, e := Put(in[:8], given)
		if e != api.OK || !bytes.Equal(in, bytes.Repeat([]byte{5}, 64)) || !term.Equal(given, x.t) || !spareKept(given) {
			t.Fatal(k, in, e)
		}
		two, _ := Put(in[:8], given)
		for i := range one[:cap(one)] {
			one[:cap(one)][i] = 99
		}
		if !bytes.Equal(in, bytes.Repeat([]byte{5}, 64)) || !bytes.Equal(two[8:], x.want) {
			t.Fatal(k, in, two)
		}
	}
	in := bytes.Repeat([]byte{5}, 64)
	if _, e := Put(in[:0], v(9)); e != api.OK || !bytes.Equal(in, bytes.Repeat([]byte{5}, 64)) {
		t.Error(in, e)
	}
	if _, e := Put(in[:3], v(-9)); e != api.ErrArg || !bytes.Equal(in, bytes.Repeat([]byte{5}, 64)) {
		t.Error(in, e)
	}
}

// spoil writes over all that a term's lists hold, their spare capacity as well, from the inside out.
func spoil(t api.Term) {
	for _, k := range t.Kids {
		spoil(k)
	}
	spare := t.Kids[:cap(t.Kids)]
	for i := range spare {
		spare[i] = leaf(88, 88)
	}
}

// R2: Get changes no bytes, and no two lists of its answers share memory.
func TestGetAnswersNewMemory(t *testing.T) {
	for k, x := range inside() {
		b := slices.Concat(x.want, []byte{1, 2, 3})
		kept := slices.Clone(b)
		one, _, _ := Get(b, 0)
		two, _, _ := Get(b, 0)
		for i := range one.Kids {
			spoil(one.Kids[i])
			for j := range one.Kids {
				if j > i && !term.Equal(one.Kids[j], two.Kids[j]) {
					t.Fatal(k, i, j, "share memory")
				}
			}
		}
		spoil(one)
		if !term.Equal(two, x.t) || !bytes.Equal(b, kept) {
			t.Fatal(k, b)
		}
	}
}
