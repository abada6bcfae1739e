package mod_test

import (
	"math/big"
	"math/rand"
	"testing"

	"consistory/api"
	"consistory/mod"
)

const great = 1<<61 - 1

// wrongModuli are no moduli: 0, and numbers above MaxP.
var wrongModuli = []uint64{0, api.MaxP + 1, api.MaxP + 15, 1 << 62, 1<<62 + 1, 1 << 63, 1<<63 + 1, 1<<64 - 1}

var someModuli = []uint64{1, 2, 3, 4, 5, 6, 11, 12, 97, 256, 561, 65537, 1<<31 - 1, 1 << 32, 1<<32 + 1, 3215031751, 1 << 60, 1<<60 + 33, great - 1, great, api.MaxP}

var somePrimes = []uint64{2, 3, 5, 7, 11, 23, 97, 65537, 1<<31 - 1, 4294967291, 4294967311, 1000000007, great}

// numbersFor returns numbers at the edges of a modulus, far above it, and some others, the same in each run.
func numbersFor(m uint64) []uint64 {
	l := []uint64{0, 1, 2, 3, m / 2, m/2 + 1, m - 1, m, m + 1, 2*m - 1, 2 * m, 7*m + 5, great, api.MaxP, api.MaxP + 1, 1 << 63, 1<<64 - 2, 1<<64 - 1}
	r := rand.New(rand.NewSource(int64(m)))
	for range 6 {
		l = append(l, r.Uint64(), r.Uint64()%m)
	}
	return l
}

func bigOf(x uint64) *big.Int { return new(big.Int).SetUint64(x) }

// rest returns the remainder from 0 on, also of what is negative.
func rest(x *big.Int, m uint64) uint64 { return new(big.Int).Mod(x, bigOf(m)).Uint64() }

func divisor(a, b uint64) uint64 {
	for b > 0 {
		a, b = b, a%b
	}
	return a
}

func mustInv(t *testing.T, a, m uint64) uint64 {
	t.Helper()
	i, e := mod.Inv(a, m)
	if e != api.OK {
		t.Fatalf("Inv(%d, %d): %v", a, m, e)
	}
	return i
}

func TestP11Examples(t *testing.T) {
	for _, x := range []struct {
		name      string
		got, want uint64
	}{
		{"Add(5, 9, 11)", mod.Add(5, 9, 11), 3},
		{"Sub(2, 5, 11)", mod.Sub(2, 5, 11), 8},
		{"Mul(7, 8, 11)", mod.Mul(7, 8, 11), 1},
		{"Pow(2, 10, 11)", mod.Pow(2, 10, 11), 1},
		{"Pow(0, 0, 11)", mod.Pow(0, 0, 11), 1},
		{"Add(1, 1, 0)", mod.Add(1, 1, 0), 0},
		{"Pow(5, 0, 1)", mod.Pow(5, 0, 1), 0},
		{"Pow(13, 11, 11)", mod.Pow(13, 11, 11), 2},
		{"Mul of the greatest", mod.Mul(great-1, great-1, great), 1},
		{"Add of the greatest", mod.Add(great-1, great-1, great), great - 2},
		{"Sub of the greatest", mod.Sub(0, great-1, great), 1},
	} {
		if x.got != x.want {
			t.Errorf("%s: %d, want %d", x.name, x.got, x.want)
		}
	}
}

func TestP11SmallModuli(t *testing.T) {
	for m := uint64(1); m <= 13; m++ {
		for a := uint64(0); a <= 3*m; a++ {
			power := 1 % m
			for b := uint64(0); b <= 3*m; b++ {
				if got := mod.Add(a, b, m); got != (a+b)%m {
					t.Fatalf("Add(%d, %d, %d): %d", a, b, m, got)
				}
				if got := mod.Sub(a, b, m); got != (a+3*m-b)%m {
					t.Fatalf("Sub(%d, %d, %d): %d", a, b, m, got)
				}
				if got := mod.Mul(a, b, m); got != a*b%m {
					t.Fatalf("Mul(%d, %d, %d): %d", a, b, m, got)
				}
				if got := mod.Pow(a, b, m); got != power {
					t.Fatalf("Pow(%d, %d, %d): %d, want %d", a, b, m, got, power)
				}
				power = power * a % m
			}
		}
	}
}

func TestP11AnyModulus(t *testing.T) {
	for _, m := range someModuli {
		for _, a := range numbersFor(m) {
			for _, b := range numbersFor(m) {
				x, y := bigOf(a), bigOf(b)
				if got, want := mod.Add(a, b, m), rest(new(big.Int).Add(x, y), m); got != want {
					t.Fatalf("Add(%d, %d, %d): %d, want %d", a, b, m, got, want)
				}
				if got, want := mod.Sub(a, b, m), rest(new(big.Int).Sub(x, y), m); got != want {
					t.Fatalf("Sub(%d, %d, %d): %d, want %d", a, b, m, got, want)
				}
				if got, want := mod.Mul(a, b, m), rest(new(big.Int).Mul(x, y), m); got != want {
					t.Fatalf("Mul(%d, %d, %d): %d, want %d", a, b, m, got, want)
				}
				if got, want := mod.Pow(a, b, m), new(big.Int).Exp(x, y, bigOf(m)).Uint64(); got != want {
					t.Fatalf("Pow(%d, %d, %d): %d, want %d", a, b, m, got, want)
				}
			}
		}
	}
}

func TestP11ExponentsAreNotReduced(t *testing.T) {
	for _, x := range []struct{ a, e, m, want uint64 }{
		{2, 11, 11, 2},
		{0, 11, 11, 0},
		{3, 4, 4, 1},
		{2, 1 << 61, 3, 1},
		{2, 1<<63 + 1, 3, 2},
		{2, 1<<64 - 1, great, 1 << 15},
	} {
		if got := mod.Pow(x.a, x.e, x.m); got != x.want {
			t.Errorf("Pow(%d, %d, %d): %d, want %d", x.a, x.e, x.m, got, x.want)
		}
	}
}

func TestP11WrongModuli(t *testing.T) {
	for _, m := range wrongModuli {
		for _, a := range []uint64{0, 1, 5, great, api.MaxP, 1<<64 - 1} {
			for _, b := range []uint64{0, 1, 5, great, api.MaxP, 1<<64 - 1} {
				for i, f := range []func(a, b, m uint64) uint64{mod.Add, mod.Sub, mod.Mul, mod.Pow} {
					if got := f(a, b, m); got != 0 {
						t.Errorf("function %d of %d, %d modulo %d: %d, want 0", i, a, b, m, got)
					}
				}
			}
		}
	}
}

func TestP12InvExamples(t *testing.T) {
	for _, x := range []struct {
		a, m, want uint64
		e          api.Errno
	}{
		{7, 11, 8, api.OK},
		{6, 9, 0, api.ErrNone},
		{5, 1, 0, api.OK},
		{0, 1, 0, api.OK},
		{0, 2, 0, api.ErrNone},
		{1, 2, 1, api.OK},
		{0, 11, 0, api.ErrNone},
		{11, 11, 0, api.ErrNone},
		{18, 11, 8, api.OK},
		{great - 1, great, great - 1, api.OK},
		{2, great, 1 << 60, api.OK},
		{3, api.MaxP, 768614336404564651, api.OK},
		{2, api.MaxP, 0, api.ErrNone},
		{api.MaxP, api.MaxP, 0, api.ErrNone},
	} {
		if got, e := mod.Inv(x.a, x.m); got != x.want || e != x.e {
			t.Errorf("Inv(%d, %d): %d, %v, want %d, %v", x.a, x.m, got, e, x.want, x.e)
		}
	}
	for _, m := range wrongModuli {
		for _, a := range []uint64{0, 1, 7, m, 1<<64 - 1} {
			if got, e := mod.Inv(a, m); got != 0 || e != api.ErrArg {
				t.Errorf("Inv(%d, %d): %d, %v, want ErrArg", a, m, got, e)
			}
		}
	}
}

func TestP12PrimeExamples(t *testing.T) {
	for _, n := range []uint64{2, 3, 5, 7, 11, 13, 17, 19, 23, 29, 31, 97, 65537, 1<<31 - 1, 4294967291, 4294967311, great} {
		if !mod.Prime(n) {
			t.Errorf("%d is a prime", n)
		}
	}
	for _, n := range []uint64{
		0, 1, 4, 9, 25, 529, 841, 961,
		// Probable primes for all numbers with which they have no common divisor.
		561, 1105, 1729, 2465, 8911, 825265, 321197185,
		// The least strong probable primes for the first 1 to 7 primes, that for 8 is the same, and that for 9.
		2047, 1373653, 25326001, 3215031751, 2152302898747, 3474749660383, 341550071728321, 3825123056546413051,
		// Great, with no small divisor.
		1518500213 * 1518500183, 1518500213 * 1518500213, great - 2,
		// Above MaxP, some of them divided by 1 and themselves only.
		api.MaxP, api.MaxP + 1, api.MaxP + 15, 1<<63 - 25, 1<<64 - 59, 1<<64 - 1,
	} {
		if mod.Prime(n) {
			t.Errorf("%d is no prime", n)
		}
	}
}

func TestP12PrimesNearTheEnds(t *testing.T) {
	for _, end := range []uint64{1 << 31, 1 << 32, 1 << 40, 1 << 52, 1 << 60, api.MaxP} {
		for n := end - 1500; n <= end+1500; n++ {
			if want := n <= api.MaxP && bigOf(n).ProbablyPrime(10); mod.Prime(n) != want {
				t.Errorf("Prime(%d): %v", n, !want)
			}
		}
	}
}

func TestP13Ring(t *testing.T) {
	for _, m := range someModuli {
		l := numbersFor(m)
		for _, a := range l {
			for _, b := range l {
				ringOfTwo(t, a, b, m)
				for _, c := range l[4:] {
					ringOfThree(t, a, b, c, m)
				}
			}
		}
	}
}

func ringOfTwo(t *testing.T, a, b, m uint64) {
	for _, x := range []uint64{mod.Add(a, b, m), mod.Sub(a, b, m), mod.Mul(a, b, m), mod.Pow(a, b, m)} {
		if x >= m {
			t.Fatalf("%d, %d: %d is not below %d", a, b, x, m)
		}
	}
	if mod.Add(a, b, m) != mod.Add(b, a, m) || mod.Mul(a, b, m) != mod.Mul(b, a, m) {
		t.Fatalf("%d, %d modulo %d: not commutative", a, b, m)
	}
	if mod.Sub(mod.Add(a, b, m), b, m) != a%m || mod.Add(mod.Sub(a, b, m), b, m) != a%m {
		t.Fatalf("%d, %d modulo %d: Sub and Add do not undo each other", a, b, m)
	}
}

func ringOfThree(t *testing.T, a, b, c, m uint64) {
	if mod.Add(mod.Add(a, b, m), c, m) != mod.Add(a, mod.Add(b, c, m), m) || mod.Mul(mod.Mul(a, b, m), c, m) != mod.Mul(a, mod.Mul(b, c, m), m) {
		t.Fatalf("%d, %d, %d modulo %d: not associative", a, b, c, m)
	}
	if mod.Mul(a, mod.Add(b, c, m), m) != mod.Add(mod.Mul(a, b, m), mod.Mul(a, c, m), m) {
		t.Fatalf("%d, %d, %d modulo %d: not distributive", a, b, c, m)
	}
}

func TestP14Powers(t *testing.T) {
	exponents := []uint64{0, 1, 2, 3, 7, 60, 61, 1000003, 1<<31 - 1}
	for _, m := range someModuli {
		for _, a := range numbersFor(m) {
			for _, e := range exponents {
				for _, f := range exponents {
					if mod.Mul(mod.Pow(a, e, m), mod.Pow(a, f, m), m) != mod.Pow(a, e+f, m) {
						t.Fatalf("%d by %d + %d modulo %d", a, e, f, m)
					}
					if mod.Pow(mod.Pow(a, e, m), f, m) != mod.Pow(a, e*f, m) {
						t.Fatalf("%d by %d times %d modulo %d", a, e, f, m)
					}
				}
				for _, b := range numbersFor(m)[:12] {
					if mod.Pow(mod.Mul(a, b, m), e, m) != mod.Mul(mod.Pow(a, e, m), mod.Pow(b, e, m), m) {
						t.Fatalf("%d times %d by %d modulo %d", a, b, e, m)
					}
				}
			}
		}
	}
}

func TestP15Inverses(t *testing.T) {
	for m := uint64(1); m <= 40; m++ {
		for a := uint64(0); a <= 2*m; a++ {
			inverse(t, a, m)
			for b := uint64(0); b < m; b++ {
				inverseOfProduct(t, a, b, m)
			}
		}
	}
	for _, m := range someModuli {
		for _, a := range numbersFor(m) {
			inverse(t, a, m)
			for _, b := range numbersFor(m) {
				inverseOfProduct(t, a, b, m)
			}
		}
	}
}

func inverse(t *testing.T, a, m uint64) {
	t.Helper()
	i, e := mod.Inv(a, m)
	if divisor(a, m) != 1 {
		if e != api.ErrNone || i != 0 {
			t.Fatalf("Inv(%d, %d): %d, %v, but there is none", a, m, i, e)
		}
		return
	}
	if e != api.OK || i >= m || mod.Mul(a, i, m) != 1%m {
		t.Fatalf("Inv(%d, %d): %d, %v", a, m, i, e)
	}
	if mustInv(t, i, m) != a%m {
		t.Fatalf("Inv(%d, %d): its inverse is another number", i, m)
	}
}

func inverseOfProduct(t *testing.T, a, b, m uint64) {
	t.Helper()
	x, e := mod.Inv(a, m)
	y, f := mod.Inv(b, m)
	z, g := mod.Inv(mod.Mul(a, b, m), m)
	if (e == api.OK && f == api.OK) != (g == api.OK) {
		t.Fatalf("%d, %d modulo %d: %v, %v, but their product: %v", a, b, m, e, f, g)
	}
	if g == api.OK && z != mod.Mul(x, y, m) {
		t.Fatalf("%d, %d modulo %d: the inverse of the product is %d", a, b, m, z)
	}
}

func TestP16Fermat(t *testing.T) {
	for _, p := range somePrimes {
		for _, a := range numbersFor(p) {
			if mod.Pow(a, p, p) != a%p {
				t.Fatalf("%d by %d", a, p)
			}
			if a%p != 0 && mod.Pow(a, p-2, p) != mustInv(t, a, p) {
				t.Fatalf("%d by %d - 2 is not its inverse", a, p)
			}
		}
	}
	for p := uint64(2); p < 200; p++ {
		for a := uint64(0); mod.Prime(p) && a < p; a++ {
			if mod.Pow(a, p, p) != a || a > 0 && mod.Pow(a, p-2, p) != mustInv(t, a, p) {
				t.Fatalf("%d modulo %d", a, p)
			}
		}
	}
}

func TestP17Divisors(t *testing.T) {
	const end = 1 << 20
	product := make([]bool, end+1)
	for a := 2; a*a <= end; a++ {
		for n := a * a; !product[a] && n <= end; n += a {
			product[n] = true
		}
	}
	for n := 2; n <= end; n++ {
		if mod.Prime(uint64(n)) == product[n] {
			t.Fatalf("Prime(%d): %v", n, product[n])
		}
	}
	r := rand.New(rand.NewSource(17))
	for range 20000 {
		a := 2 + r.Uint64()%(1<<30)
		b := 2 + r.Uint64()%(api.MaxP/a-1)
		if mod.Prime(a * b) {
			t.Fatalf("%d times %d is a prime", a, b)
		}
	}
	// Composite numbers that are taken for primes are mostly of this kind.
	for a := uint64(3); a < 30000; a += 2 {
		for k := uint64(2); k <= 8; k++ {
			if b := k*(a-1) + 1; mod.Prime(a*b) || mod.Prime(a*a*b) {
				t.Fatalf("%d times %d, or that times %d, is a prime", a, b, a)
			}
		}
	}
}
