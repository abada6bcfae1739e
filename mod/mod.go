// Package mod is layer 1: modular arithmetic (see shared/doc/01-mod.md).
package mod

import (
	"math/bits"

	"consistory/api"
)

// witnesses suffice: the least composite number that is a probable prime to
// all nine of them is 3825123056546413051, which is above MaxP.
var witnesses = [9]uint64{2, 3, 5, 7, 11, 13, 17, 19, 23}

// allowed reports whether there are numbers modulo m.
func allowed(m uint64) bool { return m > 0 && m <= api.MaxP }

// Add returns a + b modulo m (P1.1).
func Add(a, b, m uint64) uint64 {
	if !allowed(m) {
		return 0
	}
	return (a%m + b%m) % m
}

// Sub returns a - b modulo m (P1.1).
func Sub(a, b, m uint64) uint64 {
	if !allowed(m) {
		return 0
	}
	return (a%m + m - b%m) % m
}

// Mul returns a times b modulo m (P1.1).
func Mul(a, b, m uint64) uint64 {
	if !allowed(m) {
		return 0
	}
	high, low := bits.Mul64(a, b)
	return bits.Rem64(high, low, m)
}

// Pow returns a to the power of e modulo m (P1.1).
func Pow(a, e, m uint64) uint64 {
	if !allowed(m) {
		return 0
	}
	power := 1 % m
	for ; e > 0; e >>= 1 {
		if e&1 == 1 {
			power = Mul(power, a, m)
		}
		a = Mul(a, a, m)
	}
	return power
}

// Inv returns the inverse of a modulo m (P1.2).
func Inv(a, m uint64) (uint64, api.Errno) {
	if !allowed(m) {
		return 0, api.ErrArg
	}
	// Modulo m, rest is always a times inverse, and so is next a times after.
	rest, next := m, a%m
	inverse, after := uint64(0), uint64(1)
	for next > 0 {
		times := rest / next
		rest, next = next, rest%next
		inverse, after = after, Sub(inverse, Mul(times, after, m), m)
	}
	if rest != 1 {
		return 0, api.ErrNone
	}
	return inverse, api.OK
}

// Prime reports whether n is a prime, at most MaxP (P1.2).
func Prime(n uint64) bool {
	if n < 2 || n > api.MaxP {
		return false
	}
	halvings := bits.TrailingZeros64(n - 1)
	odd := (n - 1) >> halvings
nextWitness:
	for _, w := range witnesses {
		if n%w == 0 {
			return n == w
		}
		x := Pow(w, odd, n)
		if x == 1 {
			continue
		}
		for range halvings {
			if x == n-1 {
				continue nextWitness
			}
			x = Mul(x, x, n)
		}
		return false
	}
	return true
}
