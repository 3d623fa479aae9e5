// Package kind is layer 1: see ../shared/doc/01-kind.md.
package kind

import (
	"strings"

	"porism/api"
)

// letters stands in the order of package api, so that a letter's place gives its kind.
const letters = "vucplasofgirj"

// known reports whether there is such a kind.
func known(kind int) bool {
	return kind >= api.Var && kind <= api.Jay
}

// Kids returns the number of Kids of a term of that kind, or -1 if there is no such kind.
func Kids(kind int) int {
	switch kind {
	case api.Var, api.Univ, api.Const:
		return 0
	case api.Fst, api.Snd:
		return 1
	case api.Pi, api.Lam, api.App, api.Sig, api.Refl:
		return 2
	case api.Pair, api.Id, api.Jay:
		return 3
	}
	return -1
}

// Binds returns 1 if the Kid with index i is in the scope of one more variable, otherwise 0.
func Binds(kind, i int) int {
	switch kind {
	case api.Pi, api.Lam, api.Sig:
		if i == 1 {
			return 1
		}
	}
	return 0
}

// Leaf reports whether kind is a kind without Kids.
func Leaf(kind int) bool {
	return Kids(kind) == 0
}

// Letter returns the letter of the kind, or 0 if there is no such kind.
func Letter(kind int) byte {
	if !known(kind) {
		return 0
	}
	return letters[kind-api.Var]
}

// Of returns the kind with that letter and true, or false if there is none.
func Of(letter byte) (int, bool) {
	at := strings.IndexByte(letters, letter)
	if at < 0 {
		return 0, false
	}
	return api.Var + at, true
}

// Canon reports whether terms of that kind are canonical: those that eliminate no other term.
// Var and Const are not, since what they stand for may be anything.
func Canon(kind int) bool {
	switch kind {
	case api.Univ, api.Pi, api.Lam, api.Sig, api.Pair, api.Id, api.Refl:
		return true
	}
	return false
}
