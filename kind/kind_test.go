package kind

import (
	"math"
	"testing"

	"porism/api"
)

// row is what the chapter says of a kind.
type row struct {
	kind   int
	name   string
	letter byte
	kids   int
	binder bool
	canon  bool
}

var rows = []row{
	{api.Var, "Var", 'v', 0, false, false},
	{api.Univ, "Univ", 'u', 0, false, true},
	{api.Const, "Const", 'c', 0, false, false},
	{api.Pi, "Pi", 'p', 2, true, true},
	{api.Lam, "Lam", 'l', 2, true, true},
	{api.App, "App", 'a', 2, false, false},
	{api.Sig, "Sig", 's', 2, true, true},
	{api.Pair, "Pair", 'o', 3, false, true},
	{api.Fst, "Fst", 'f', 1, false, false},
	{api.Snd, "Snd", 'g', 1, false, false},
	{api.Id, "Id", 'i', 3, false, true},
	{api.Refl, "Refl", 'r', 2, false, true},
	{api.Jay, "Jay", 'j', 3, false, false},
}

// noKinds holds numbers that would come back into the table if one cut them to 8, 16 or 32 bits.
var noKinds = []int{
	0, -1, -2, -3, -13, -14, api.Jay + 1, api.Jay + 2, 26, 100, 255, 256, 257, 260,
	1<<16 + api.Pi, 1<<32 + api.Lam, -1<<32 + api.Sig, 1 << 40, -1 << 62,
	math.MaxInt32, math.MinInt32, math.MaxInt, math.MaxInt - 1, math.MinInt, math.MinInt + 1,
}

// noKids holds indices that no term has a Kid at.
var noKids = []int{
	-1, -2, 3, 4, 5, 13, 255, 257, 1<<16 + 1, 1<<32 + 1, -1<<32 + 1,
	math.MaxInt, math.MaxInt - 1, math.MinInt, math.MinInt + 1,
}

func TestRowsAreAllKindsInOrder(t *testing.T) {
	if len(rows) != api.Jay-api.Var+1 {
		t.Fatal(len(rows), "rows")
	}
	for i, r := range rows {
		if r.kind != api.Var+i {
			t.Error(r.name, "stands at", i)
		}
	}
}

// P1.1
func TestKids(t *testing.T) {
	for _, r := range rows {
		if got := Kids(r.kind); got != r.kids {
			t.Error(r.name, got, "want", r.kids)
		}
	}
	for _, k := range noKinds {
		if got := Kids(k); got != -1 {
			t.Error(k, got, "want -1")
		}
	}
}

// P1.1
func TestBinds(t *testing.T) {
	for _, r := range rows {
		want := 0
		if r.binder {
			want = 1
		}
		if got := Binds(r.kind, 1); got != want {
			t.Error(r.name, 1, got, "want", want)
		}
		for _, i := range append([]int{0, 2}, noKids...) {
			if got := Binds(r.kind, i); got != 0 {
				t.Error(r.name, i, got, "want 0")
			}
		}
	}
}

// P1.1
func TestBindsOfNoKind(t *testing.T) {
	for _, k := range noKinds {
		for _, i := range append([]int{0, 1, 2}, noKids...) {
			if got := Binds(k, i); got != 0 {
				t.Error(k, i, got, "want 0")
			}
		}
	}
}

// P1.1: only a Kid that there is can have one more variable.
func TestBindersHaveTheKid(t *testing.T) {
	for k := -20; k < 40; k++ {
		for i := -20; i < 20; i++ {
			if Binds(k, i) != 0 && (i < 0 || i >= Kids(k)) {
				t.Error(k, i)
			}
		}
	}
}

// P1.1
func TestLeaf(t *testing.T) {
	for _, r := range rows {
		if got := Leaf(r.kind); got != (r.kids == 0) {
			t.Error(r.name, got)
		}
	}
	for _, k := range noKinds {
		if Leaf(k) {
			t.Error(k, "is no kind")
		}
	}
}

// P1.1
func TestLetter(t *testing.T) {
	for _, r := range rows {
		if got := Letter(r.kind); got != r.letter {
			t.Error(r.name, got, "want", r.letter)
		}
	}
	for _, k := range noKinds {
		if got := Letter(k); got != 0 {
			t.Error(k, got, "want 0")
		}
	}
}

// P1.1: every byte, those that are letters and those that are none.
func TestOf(t *testing.T) {
	want := [256]int{}
	for _, r := range rows {
		want[r.letter] = r.kind
	}
	for b := range 256 {
		got, ok := Of(byte(b))
		if got != want[b] || ok != (want[b] != 0) {
			t.Error(b, got, ok, "want", want[b])
		}
	}
}

// P1.1
func TestCanon(t *testing.T) {
	for _, r := range rows {
		if got := Canon(r.kind); got != r.canon {
			t.Error(r.name, got)
		}
	}
	for _, k := range noKinds {
		if Canon(k) {
			t.Error(k, "is no kind")
		}
	}
}

// P1.2
func TestLettersDiffer(t *testing.T) {
	for a := api.Var; a <= api.Jay; a++ {
		if Letter(a) == 0 {
			t.Error(a, "has no letter")
		}
		for b := a + 1; b <= api.Jay; b++ {
			if Letter(a) == Letter(b) {
				t.Error(a, b, "have one letter", Letter(a))
			}
		}
	}
}

// P1.2: what follows for Of, and that it finds as many letters as there are kinds.
func TestLetterAndOfAgree(t *testing.T) {
	for k := api.Var; k <= api.Jay; k++ {
		if got, ok := Of(Letter(k)); got != k || !ok {
			t.Error(k, got, ok)
		}
	}
	found := 0
	for b := range 256 {
		if k, ok := Of(byte(b)); ok {
			found++
			if Letter(k) != byte(b) {
				t.Error(b, k, Letter(k))
			}
		}
	}
	if found != len(rows) {
		t.Error(found, "letters, want", len(rows))
	}
}

// Example 1 of the chapter.
func TestExample(t *testing.T) {
	if Kids(api.Jay) != 3 || Letter(api.Jay) != 'j' {
		t.Error(Kids(api.Jay), Letter(api.Jay))
	}
}
