package params_test

import (
	"errors"
	"math"
	"math/big"
	"testing"

	"geyser/api"
	"geyser/fault"
	"geyser/params"
)

// The calls' signatures are the chapter's.
var (
	_ func(int) bool                = params.IsPrime
	_ func(int) (int, error)        = params.Prime
	_ func(int, int) (int, error)   = params.Choose
	_ func(int) (api.Params, error) = params.Of
)

// maxTold is the greatest number of which IsPrime tells; maxPrime is the
// greatest one that Prime takes.
const (
	maxTold  = 65536
	maxPrime = 65521
	maxFrom  = 60
)

// written are numbers reckoned apart from the program: of the last K ahead of
// each change of S or H and the first one behind it, of those at the rounding of
// K / 100, of the chapter's examples, and of the range's ends.
var written = []api.Params{
	{K: 1, S: 3, H: 4, L: 8, P: 11},
	{K: 2, S: 5, H: 5, L: 12, P: 13},
	{K: 5, S: 5, H: 5, L: 15, P: 17},
	{K: 6, S: 5, H: 6, L: 17, P: 17},
	{K: 7, S: 7, H: 6, L: 20, P: 23},
	{K: 10, S: 7, H: 6, L: 23, P: 23},
	{K: 13, S: 7, H: 6, L: 26, P: 29},
	{K: 14, S: 7, H: 7, L: 28, P: 29},
	{K: 15, S: 7, H: 7, L: 29, P: 29},
	{K: 16, S: 11, H: 7, L: 34, P: 37},
	{K: 24, S: 11, H: 7, L: 42, P: 43},
	{K: 25, S: 11, H: 8, L: 44, P: 47},
	{K: 45, S: 11, H: 8, L: 64, P: 67},
	{K: 46, S: 13, H: 8, L: 67, P: 67},
	{K: 57, S: 13, H: 8, L: 78, P: 79},
	{K: 58, S: 13, H: 9, L: 80, P: 83},
	{K: 66, S: 13, H: 9, L: 88, P: 89},
	{K: 67, S: 17, H: 9, L: 93, P: 97},
	{K: 99, S: 17, H: 9, L: 125, P: 127},
	{K: 100, S: 17, H: 9, L: 126, P: 127},
	{K: 101, S: 17, H: 9, L: 127, P: 127},
	{K: 105, S: 17, H: 9, L: 131, P: 131},
	{K: 106, S: 19, H: 9, L: 134, P: 137},
	{K: 107, S: 19, H: 9, L: 135, P: 137},
	{K: 108, S: 19, H: 10, L: 137, P: 137},
	{K: 127, S: 19, H: 10, L: 156, P: 157},
	{K: 128, S: 19, H: 10, L: 157, P: 157},
}

// refused says whether err is just a Fault of that call round that number.
func refused(t *testing.T, err error, call string, n api.Errno) {
	t.Helper()
	f, ok := err.(*api.Fault)
	if !ok || f == nil {
		t.Fatalf("%#v is no Fault", err)
	}
	if f.Call != call || fault.Num(err) != n || !errors.Is(err, n) {
		t.Errorf("%q %d, not %q %d", f.Call, fault.Num(err), call, n)
	}
}

// fine ends the test, if err is one.
func fine(t *testing.T, err error) {
	t.Helper()
	if err != nil {
		t.Fatalf("%v %d", err, fault.Num(err))
	}
}

// prime is Prime of a number that it takes.
func prime(t *testing.T, n int) int {
	t.Helper()
	p, err := params.Prime(n)
	fine(t, err)
	return p
}

// choose is Choose of numbers that it takes.
func choose(t *testing.T, n, k int) int {
	t.Helper()
	ways, err := params.Choose(n, k)
	fine(t, err)
	return ways
}

// of is Of of a number that it takes.
func of(t *testing.T, k int) api.Params {
	t.Helper()
	p, err := params.Of(k)
	fine(t, err)
	return p
}

// sieve says of each number up to maxTold whether it is a prime.
func sieve() []bool {
	primes := make([]bool, maxTold+1)
	for n := 2; n <= maxTold; n++ {
		primes[n] = true
	}
	for d := 2; d <= maxTold; d++ {
		for n := 2 * d; primes[d] && n <= maxTold; n += d {
			primes[n] = false
		}
	}
	return primes
}

// The chapter's examples.
func TestExamples(t *testing.T) {
	for _, want := range []api.Params{{K: 1, S: 3, H: 4, L: 8, P: 11}, {K: 10, S: 7, H: 6, L: 23, P: 23}} {
		if p := of(t, want.K); p != want {
			t.Errorf("Of(%d): %v, not %v", want.K, p, want)
		}
	}
	if p := prime(t, 14); p != 17 {
		t.Errorf("Prime(14): %d", p)
	}
	if ways := choose(t, 6, 3); ways != 20 {
		t.Errorf("Choose(6, 3): %d", ways)
	}
}

// P8.1: of each number that may be one it is told whether it is a prime.
func TestIsPrime(t *testing.T) {
	primes := sieve()
	for n := -100; n <= maxTold; n++ {
		want := n >= 0 && primes[n]
		if params.IsPrime(n) != want {
			t.Errorf("IsPrime(%d): not %t", n, want)
		}
	}
}

// P8.1: beyond its range there is no prime, not even of a number that is one,
// or of which the lowest bits are one.
func TestIsPrimeBeyond(t *testing.T) {
	for _, n := range []int{math.MinInt, math.MinInt + 1, math.MinInt + 2, -1 << 32, -1<<32 + 3, -65521, -7, -3, -2, -1, 0, 1, 65537, 65538, 65539, 65543, 1 << 17, 1<<17 - 1, 1<<31 - 1, 1 << 32, 1<<32 + 2, 1<<32 + 15, 1<<61 - 1, math.MaxInt - 1, math.MaxInt} {
		if params.IsPrime(n) {
			t.Errorf("IsPrime(%d)", n)
		}
	}
}

// P8.1, P8.3: the least prime that is at least n, of each n that Prime takes:
// between them there is none, and none of the prime's numbers below it but 1
// divides it.
func TestPrime(t *testing.T) {
	primes := sieve()
	want := maxPrime
	for n := maxPrime; n >= -100; n-- {
		if n >= 0 && primes[n] {
			want = n
		}
		if p := prime(t, n); p != want {
			t.Fatalf("Prime(%d): %d, not %d", n, p, want)
		}
	}
	for n := 0; n <= 3000; n++ {
		p := prime(t, n)
		for c := max(n, 2); c < p; c++ {
			if params.IsPrime(c) {
				t.Errorf("Prime(%d): %d, but %d", n, p, c)
			}
		}
		for d := 2; d < p; d++ {
			if p%d == 0 {
				t.Errorf("Prime(%d): %d, of which %d is a divisor", n, p, d)
			}
		}
		if !params.IsPrime(p) {
			t.Errorf("Prime(%d): %d", n, p)
		}
	}
}

// P8.1: at the range's ends.
func TestPrimeEdges(t *testing.T) {
	for _, c := range []struct{ n, want int }{
		{math.MinInt, 2}, {math.MinInt + 1, 2}, {-1 << 32, 2}, {-1<<32 + 14, 2}, {-65521, 2}, {-14, 2}, {-1, 2}, {0, 2}, {1, 2},
		{2, 2}, {3, 3}, {4, 5}, {8, 11}, {9, 11}, {24, 29}, {25, 29}, {31397, 31397}, {31398, 31469}, {65498, 65519}, {65519, 65519}, {65520, 65521}, {65521, 65521},
	} {
		if p := prime(t, c.n); p != c.want {
			t.Errorf("Prime(%d): %d, not %d", c.n, p, c.want)
		}
	}
}

// P8.1: a number that is above 65521.
func TestPrimeRefused(t *testing.T) {
	for _, n := range []int{65522, 65523, 65535, 65536, 65537, 65539, 1 << 17, 1<<31 - 1, 1 << 32, 1<<32 + 14, math.MaxInt - 1, math.MaxInt} {
		p, err := params.Prime(n)
		refused(t, err, "params.Prime", api.ErrRange)
		if p != 0 {
			t.Errorf("%d beside an error", p)
		}
	}
}

// P8.1: all that may be asked for, and in no way k that is not from 0 to n.
func TestChoose(t *testing.T) {
	for n := range maxFrom + 1 {
		for k := range n + 1 {
			want := new(big.Int).Binomial(int64(n), int64(k))
			if ways := choose(t, n, k); !want.IsInt64() || int64(ways) != want.Int64() {
				t.Errorf("Choose(%d, %d): %d, not %s", n, k, ways, want)
			}
		}
		for _, k := range []int{math.MinInt, math.MinInt + 1, -1 << 32, -1<<32 + 1, -n - 1, -2, -1, n + 1, n + 2, maxFrom + 1, 1 << 32, 1<<32 + 1, math.MaxInt - 1, math.MaxInt} {
			if ways := choose(t, n, k); ways != 0 {
				t.Errorf("Choose(%d, %d): %d", n, k, ways)
			}
		}
	}
	if ways := choose(t, 60, 30); ways != 118264581564861424 {
		t.Errorf("Choose(60, 30): %d", ways)
	}
}

// P8.1: an n that is not from 0 to 60, whatever k is.
func TestChooseRefused(t *testing.T) {
	for _, n := range []int{math.MinInt, math.MinInt + 1, -1 << 32, -1<<32 + 6, -60, -2, -1, 61, 62, 100, 1 << 32, 1<<32 + 6, math.MaxInt - 1, math.MaxInt} {
		for _, k := range []int{math.MinInt, -1, 0, 1, 3, 30, 60, 61, n - 1, n, math.MaxInt} {
			ways, err := params.Choose(n, k)
			refused(t, err, "params.Choose", api.ErrRange)
			if ways != 0 {
				t.Errorf("%d beside an error", ways)
			}
		}
	}
}

// P8.4: Choose is symmetric, and each is the sum of the two above it.
func TestChooseTriangle(t *testing.T) {
	if ways := choose(t, 0, 0); ways != 1 {
		t.Errorf("Choose(0, 0): %d", ways)
	}
	for n := 1; n <= maxFrom; n++ {
		for k := -2; k <= n+2; k++ {
			ways := choose(t, n, k)
			if other := choose(t, n, n-k); other != ways {
				t.Errorf("Choose(%d, %d): %d, but of %d %d", n, k, ways, n-k, other)
			}
			if sum := choose(t, n-1, k-1) + choose(t, n-1, k); sum != ways {
				t.Errorf("Choose(%d, %d): %d, not %d", n, k, ways, sum)
			}
		}
	}
}

// P8.2: numbers that are written out.
func TestOfWritten(t *testing.T) {
	for _, want := range written {
		if p := of(t, want.K); p != want {
			t.Errorf("Of(%d): %v, not %v", want.K, p, want)
		}
	}
}

// P8.2: of each K the numbers are the least ones that the chapter's words ask
// for; here they are looked for from below, by words of the test's own.
func TestOf(t *testing.T) {
	primes := sieve()
	for k := 1; k <= api.MaxSource; k++ {
		x := 0
		for x*(x-1) < 2*k {
			x++
		}
		hundreds := 1
		if k > 100 {
			hundreds = 2
		}
		s := hundreds + x
		for !primes[s] {
			s++
		}
		h := int64(0)
		for new(big.Int).Binomial(h, h-h/2).Int64() < int64(k+s) {
			h++
		}
		l := k + s + int(h)
		want := api.Params{K: k, S: s, H: int(h), L: l, P: l}
		for !primes[want.P] {
			want.P++
		}
		if p := of(t, k); p != want {
			t.Errorf("Of(%d): %v, not %v", k, p, want)
		}
	}
}

// P8.2: a K that is not from 1 to MaxSource.
func TestOfRefused(t *testing.T) {
	for _, k := range []int{math.MinInt, math.MinInt + 1, -1 << 32, -1<<32 + 1, -128, -2, -1, 0, api.MaxSource + 1, api.MaxSource + 2, 1 << 31, 1 << 32, 1<<32 + 1, math.MaxInt/2 + 1, math.MaxInt - 1, math.MaxInt} {
		p, err := params.Of(k)
		refused(t, err, "params.Of", api.ErrRange)
		if p != (api.Params{}) {
			t.Errorf("%v beside an error", p)
		}
	}
}

// P8.5: what the numbers are to one another.
func TestOfHolds(t *testing.T) {
	var last api.Params
	for k := 1; k <= api.MaxSource; k++ {
		p := of(t, k)
		if p.K != k {
			t.Errorf("Of(%d): of %d", k, p.K)
		}
		if p.S < 3 || !params.IsPrime(p.S) {
			t.Errorf("Of(%d): S %d", k, p.S)
		}
		if choose(t, p.H, (p.H+1)/2) < p.K+p.S || choose(t, p.H-1, p.H/2) >= p.K+p.S {
			t.Errorf("Of(%d): H %d", k, p.H)
		}
		if p.L != p.K+p.S+p.H {
			t.Errorf("Of(%d): L %d", k, p.L)
		}
		if p.P != prime(t, p.L) {
			t.Errorf("Of(%d): P %d", k, p.P)
		}
		if p.S < last.S || p.H < last.H || p.L < last.L || p.P < last.P {
			t.Errorf("Of(%d): %v, behind %v", k, p, last)
		}
		last = p
	}
}

// Rule 4: what was asked ahead says nothing to what is answered.
func TestAgain(t *testing.T) {
	for _, k := range []int{128, 1, 64, 1, 128} {
		want := of(t, k)
		choose(t, 60, 30)
		prime(t, maxPrime)
		if p := of(t, k); p != want {
			t.Errorf("Of(%d): %v, not %v", k, p, want)
		}
	}
}
