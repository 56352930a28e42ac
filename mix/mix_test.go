package mix_test

import (
	"errors"
	"math"
	"math/rand"
	"slices"
	"testing"

	"geyser/api"
	"geyser/fault"
	"geyser/mix"
)

// The calls' signatures are the chapter's.
var (
	_ func(uint32, uint32) uint32            = mix.Mix
	_ func(uint32, uint32) uint32            = mix.Unmix
	_ func(uint32, uint32, int) (int, error) = mix.Below
	_ func(uint32, int, int) ([]int, error)  = mix.Row
)

// words are numbers of 32 bits at and beside their edges.
var words = []uint32{0, 1, 2, 7, 9, 63, 64, 0x1fff, 0x2000, 0xffff, 0x10000, 0x12345678, 0x7fffffff, 0x80000000, 0xdeadbeef, math.MaxUint32 - 1, math.MaxUint32}

// bounds are some that are in their range, its ends among them.
var bounds = []int{1, 2, 3, 7, 64, 97, 1000, 65521, 65536, api.DegreeBase - 1, api.DegreeBase}

// noBounds are numbers below which none may be asked for.
var noBounds = []int{0, -1, math.MinInt, math.MinInt + 1, api.DegreeBase + 1, 1 << 32, 1<<32 + 1, -1 << 32, 1<<32 + api.DegreeBase, math.MaxInt}

// refused says whether err is just a Fault of that call round that number.
func refused(t *testing.T, err error, call string, n api.Errno) {
	t.Helper()
	f, ok := err.(*api.Fault)
	if !ok || f == nil {
		t.Fatalf("%#v is no Fault", err)
	}
	if f.Call != call || fault.Num(err) != n || !errors.Is(err, n) {
		t.Errorf("%q %d, not %q %d", f.Call, fault.Num(err), call, n)
	}
}

// fine ends the test, if err is one.
func fine(t *testing.T, err error) {
	t.Helper()
	if err != nil {
		t.Fatalf("%v %d", err, fault.Num(err))
	}
}

// model is mixed as the chapter's words say, in numbers of 64 bits whose upper
// half is cut off at each step.
func model(x, salt uint32) uint32 {
	const low = 1<<32 - 1
	h := (uint64(x)*0x9e3779b1 + uint64(salt)) & low
	h = h ^ h/65536
	h = h * 0x85ebca6b & low
	h = h ^ h/8192
	h = h * 0xc2b2ae35 & low
	h = h ^ h/65536
	return uint32(h)
}

// The chapter's example.
func TestExample(t *testing.T) {
	if h := mix.Mix(0, 0); h != 0 {
		t.Errorf("Mix(0, 0): %d", h)
	}
	if x := mix.Unmix(mix.Mix(7, 9), 9); x != 7 {
		t.Errorf("Unmix(Mix(7, 9), 9): %d", x)
	}
}

// P6.1: numbers reckoned apart from the program.
func TestMixWritten(t *testing.T) {
	for _, c := range []struct{ x, salt, want uint32 }{
		{0x0, 0x0, 0x0},
		{0x1, 0x0, 0x11fd02eb},
		{0x0, 0x1, 0x514e28b7},
		{0x7, 0x9, 0xfb4f02cb},
		{0x9, 0x7, 0x9c7c5e94},
		{0xffffffff, 0x0, 0x171ee435},
		{0x0, 0xffffffff, 0x81f16f39},
		{0xffffffff, 0xffffffff, 0x24c2350c},
		{0x12345678, 0x9abcdef0, 0xf7146f0b},
		{0x10000, 0xc, 0x10e20689},
	} {
		if h := mix.Mix(c.x, c.salt); h != c.want {
			t.Errorf("Mix(%#x, %#x): %#x, not %#x", c.x, c.salt, h, c.want)
		}
		if x := mix.Unmix(c.want, c.salt); x != c.x {
			t.Errorf("Unmix(%#x, %#x): %#x, not %#x", c.want, c.salt, x, c.x)
		}
	}
}

// P6.1: Mix is what the chapter's words say, at the edges and drawn.
func TestMixModel(t *testing.T) {
	for _, x := range words {
		for _, salt := range words {
			if h, want := mix.Mix(x, salt), model(x, salt); h != want {
				t.Errorf("Mix(%#x, %#x): %#x, not %#x", x, salt, h, want)
			}
		}
	}
	draw := rand.New(rand.NewSource(61))
	for range 100000 {
		x, salt := draw.Uint32(), draw.Uint32()
		if h, want := mix.Mix(x, salt), model(x, salt); h != want {
			t.Fatalf("Mix(%#x, %#x): %#x, not %#x", x, salt, h, want)
		}
	}
}

// P6.1: Unmix takes back what Mix did, of any number and salt, and the other
// way round: to each number one is mixed.
func TestUnmix(t *testing.T) {
	check := func(x, salt uint32) {
		if got := mix.Unmix(mix.Mix(x, salt), salt); got != x {
			t.Fatalf("Unmix(Mix(%#x, %#x)): %#x", x, salt, got)
		}
		if got := mix.Mix(mix.Unmix(x, salt), salt); got != x {
			t.Fatalf("Mix(Unmix(%#x, %#x)): %#x", x, salt, got)
		}
	}
	for _, x := range words {
		for _, salt := range words {
			check(x, salt)
		}
	}
	for i := range 32 {
		check(1<<i, 0)
		check(0, 1<<i)
		check(1<<i, math.MaxUint32)
	}
	draw := rand.New(rand.NewSource(62))
	for range 100000 {
		check(draw.Uint32(), draw.Uint32())
	}
}

// P6.3: of one salt no two numbers are mixed to one: in a window of numbers all
// are apart, and each number of a window comes of another one.
func TestApart(t *testing.T) {
	const many = 1 << 16
	for _, salt := range []uint32{0, 1, 0xdeadbeef, math.MaxUint32} {
		to, from := map[uint32]int{}, map[uint32]int{}
		for i := range many {
			x := uint32(i) - many/2
			to[mix.Mix(x, salt)]++
			from[mix.Unmix(x, salt)]++
		}
		if len(to) != many || len(from) != many {
			t.Errorf("salt %#x: %d and %d, not %d", salt, len(to), len(from), many)
		}
	}
}

// P6.4: with one salt taken back from a number that was mixed with another, a
// number comes that is mixed to the same with that salt; it is the number that
// differs by the salts' difference, taken back through the first product.
func TestOtherSalt(t *testing.T) {
	draw := rand.New(rand.NewSource(64))
	for range 10000 {
		x, a, b := draw.Uint32(), draw.Uint32(), draw.Uint32()
		h := mix.Mix(x, a)
		y := mix.Unmix(h, b)
		if mix.Mix(y, b) != h {
			t.Fatalf("%#x, %#x, %#x: %#x is not mixed to %#x", x, a, b, y, h)
		}
		if (y == x) != (a == b) {
			t.Fatalf("%#x, %#x, %#x: %#x", x, a, b, y)
		}
		if (y-x)*0x9e3779b1 != a-b {
			t.Fatalf("%#x, %#x, %#x: %#x", x, a, b, y)
		}
	}
}

// P6.2: Below is Mix modulo m, at the range's ends too.
func TestBelow(t *testing.T) {
	for _, m := range bounds {
		for _, x := range words {
			for _, salt := range words {
				got, err := mix.Below(x, salt, m)
				fine(t, err)
				if want := int(uint64(model(x, salt)) % uint64(m)); got != want {
					t.Errorf("Below(%#x, %#x, %d): %d, not %d", x, salt, m, got, want)
				}
			}
		}
	}
}

// P6.2: every number below the bound is there, and about as often as others.
func TestBelowSpread(t *testing.T) {
	const m, many = 10, 10000
	var counts [m]int
	for i := range many {
		v, err := mix.Below(uint32(i), 3, m)
		fine(t, err)
		counts[v]++
	}
	for v, count := range counts {
		if count < many/m*8/10 || count > many/m*12/10 {
			t.Errorf("%d: %d times", v, count)
		}
	}
}

// P6.2: a bound that is out of its range.
func TestBelowRefused(t *testing.T) {
	for _, m := range noBounds {
		for _, x := range words {
			got, err := mix.Below(x, ^x, m)
			refused(t, err, "mix.Below", api.ErrRange)
			if got != 0 {
				t.Errorf("%d beside an error", got)
			}
		}
	}
}

// P6.2: Row is Below with the salts from 0 on, also none and the most.
func TestRow(t *testing.T) {
	for _, n := range []int{0, 1, 2, 17, 64, 257, api.MaxBits - 1, api.MaxBits} {
		for _, m := range bounds {
			for _, x := range []uint32{0, 1, 0xdeadbeef, math.MaxUint32} {
				row, err := mix.Row(x, m, n)
				fine(t, err)
				want := make([]int, n)
				for i := range want {
					want[i] = int(uint64(model(x, uint32(i))) % uint64(m))
				}
				if !slices.Equal(row, want) {
					t.Fatalf("Row(%#x, %d, %d): %v, not %v", x, m, n, row, want)
				}
			}
		}
	}
}

// P6.2: a bound or a number that is out of its range, or both.
func TestRowRefused(t *testing.T) {
	row := func(m, n int) {
		t.Helper()
		got, err := mix.Row(7, m, n)
		refused(t, err, "mix.Row", api.ErrRange)
		if len(got) != 0 {
			t.Errorf("%v beside an error", got)
		}
	}
	wrong := []int{-1, math.MinInt, api.MaxBits + 1, 1 << 32, 1<<32 + 1, -1<<32 + 1, math.MaxInt}
	for _, m := range noBounds {
		row(m, 0)
		row(m, 1)
		row(m, api.MaxBits)
		for _, n := range wrong {
			row(m, n)
		}
	}
	for _, n := range wrong {
		row(1, n)
		row(api.DegreeBase, n)
	}
}

// Rule 3: an answer is new memory each time.
func TestRowNew(t *testing.T) {
	one, err := mix.Row(7, 100, 10)
	fine(t, err)
	want := slices.Clone(one)
	for i := range one {
		one[i] = -1
	}
	other, err := mix.Row(7, 100, 10)
	fine(t, err)
	if !slices.Equal(other, want) {
		t.Errorf("%v, not %v", other, want)
	}
}
