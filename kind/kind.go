// Package kind is layer 1: see ../shared/doc/01-kind.md.
package kind

import (
	"strings"

	"porism/api"
)

// letters keeps the order of package api, so that one text serves both ways: a letter's place gives its kind.
const letters = "vucplasofgirj"

func known(kind int) bool {
	return kind >= api.Var && kind <= api.Jay
}

// Kids: see the chapter. What is no kind answers -1, since 0 is the answer for a leaf.
func Kids(kind int) int {
	switch kind {
	case api.Var, api.Univ, api.Const:
		return 0
	case api.Fst, api.Snd:
		return 1
	case api.Pi, api.Lam, api.App, api.Sig, api.Refl:
		return 2
	case api.Pair, api.Id, api.Jay:
		return 3
	}
	return -1
}

// Binds: see the chapter. It answers a number, so that it can be added to a count of variables.
func Binds(kind, i int) int {
	if i != 1 {
		return 0
	}
	switch kind {
	case api.Pi, api.Lam, api.Sig:
		return 1
	}
	return 0
}

// Leaf: see the chapter.
func Leaf(kind int) bool {
	return Kids(kind) == 0
}

// Letter: see the chapter.
func Letter(kind int) byte {
	if !known(kind) {
		return 0
	}
	return letters[kind-api.Var]
}

// Of: see the chapter.
func Of(letter byte) (int, bool) {
	at := strings.IndexByte(letters, letter)
	if at < 0 {
		return 0, false
	}
	return api.Var + at, true
}

// Canon: see the chapter. Var and Const are left out, since they may stand for a term of any kind.
func Canon(kind int) bool {
	switch kind {
	case api.Univ, api.Pi, api.Lam, api.Sig, api.Pair, api.Id, api.Refl:
		return true
	}
	return false
}
