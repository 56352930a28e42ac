package system_test

import (
	"bytes"
	"errors"
	"math"
	"math/big"
	"math/rand"
	"slices"
	"testing"

	"geyser/api"
	"geyser/fault"
	"geyser/ltrow"
	"geyser/params"
	"geyser/precode"
	"geyser/system"
)

// The calls' signatures are the chapter's.
var (
	_ func(api.Params, int, []int) ([][]uint64, error)       = system.Rows
	_ func(api.Params, int, []int) (int, error)              = system.Rank
	_ func(int) (int, error)                                 = system.Seed
	_ func(api.Params, int, [][]byte, int) ([][]byte, error) = system.Middle
)

// seeds are the seeds of the K from 1 on, reckoned apart from the program.
var seeds = []int{
	0, 3, 0, 1, 1, 1, 1, 2, 1, 4, 4, 18, 9, 5, 2, 0,
	2, 3, 22, 2, 3, 0, 1, 0, 1, 1, 0, 0, 9, 13, 1, 2,
	13, 1, 0, 0, 2, 4, 3, 1, 0, 8, 1, 3, 0, 2, 3, 2,
	0, 2, 3, 2, 4, 4, 1, 6, 1, 2, 7, 8, 2, 7, 6, 4,
	4, 5, 4, 1, 1, 4, 4, 0, 2, 13, 1, 0, 1, 1, 4, 1,
	5, 0, 7, 5, 0, 13, 11, 3, 3, 3, 4, 13, 4, 4, 4, 2,
	4, 2, 3, 7, 4, 1, 13, 3, 6, 2, 1, 0, 5, 5, 0, 2,
	1, 8, 2, 0, 1, 0, 3, 9, 4, 11, 1, 7, 16, 1, 3, 25,
}

// ranks are the ranks of some K by the seeds from 0 on, with the encoding
// symbols 0 to K - 1, reckoned apart from the program.
var ranks = map[int][]int{
	1:   {8, 8, 7, 7, 8, 8, 7, 7, 7, 8, 7, 8, 8, 7, 7, 8, 7, 7, 8, 8, 7, 7, 8, 7, 8, 7, 7, 7, 8, 8},
	2:   {11, 11, 11, 12, 12, 11, 11, 12, 11, 11, 10, 11, 12, 11, 11, 11, 11, 11, 12, 11, 11, 11, 12, 12, 11, 12, 12, 11, 11, 12},
	3:   {13, 11, 12, 13, 12, 12, 13, 12, 12, 12, 13, 13, 12, 12, 12, 12, 13, 12, 13, 12, 13, 12, 13, 13, 11, 13, 11, 13, 12, 12},
	12:  {24, 24, 23, 23, 24, 24, 24, 23, 23, 24, 24, 24, 24, 23, 24, 23, 24, 24, 25, 24, 23, 24, 25, 23, 25, 25, 24, 24, 24, 24},
	128: {156, 156, 156, 156, 156, 154, 155, 156, 156, 156, 156, 155, 156, 155, 156, 156, 156, 156, 155, 156, 156, 156, 156, 155, 156, 157, 156, 156, 157, 156},
}

// refused says whether err is just a Fault of that call round that number.
func refused(t *testing.T, err error, call string, n api.Errno) {
	t.Helper()
	f, ok := err.(*api.Fault)
	if !ok || f == nil {
		t.Fatalf("%#v is no Fault", err)
	}
	if f.Call != call || fault.Num(err) != n || !errors.Is(err, n) {
		t.Errorf("%q %d, not %q %d", f.Call, fault.Num(err), call, n)
	}
}

// fine ends the test, if err is one.
func fine(t *testing.T, err error) {
	t.Helper()
	if err != nil {
		t.Fatalf("%v %d", err, fault.Num(err))
	}
}

// of is the numbers of k source symbols.
func of(t *testing.T, k int) api.Params {
	t.Helper()
	p, err := params.Of(k)
	fine(t, err)
	return p
}

// rows is Rows of what is in its range.
func rows(t *testing.T, p api.Params, seed int, esis []int) [][]uint64 {
	t.Helper()
	l, err := system.Rows(p, seed, esis)
	fine(t, err)
	return l
}

// rank is Rank of what is in its range.
func rank(t *testing.T, p api.Params, seed int, esis []int) int {
	t.Helper()
	n, err := system.Rank(p, seed, esis)
	fine(t, err)
	return n
}

// middle is Middle by a seed by which there are such.
func middle(t *testing.T, p api.Params, seed int, source [][]byte, size int) [][]byte {
	t.Helper()
	l, err := system.Middle(p, seed, source, size)
	fine(t, err)
	return l
}

// upto are the numbers from 0 to n - 1.
func upto(n int) []int {
	l := make([]int, n)
	for i := range l {
		l[i] = i
	}
	return l
}

// placesOf is the places of a block's rows by the layers below, in order.
func placesOf(t *testing.T, p api.Params, seed int, esis []int) [][]int {
	t.Helper()
	l, err := precode.All(p)
	fine(t, err)
	for _, esi := range esis {
		places, err := ltrow.Row(p, seed, esi)
		fine(t, err)
		l = append(l, places)
	}
	return l
}

// number is a number of which just the bits at those places are 1.
func number(places []int) *big.Int {
	n := new(big.Int)
	for _, c := range places {
		n.SetBit(n, c, 1)
	}
	return n
}

// wordsOf is such a number's bits as the words of n columns.
func wordsOf(x *big.Int, n int) []uint64 {
	w := make([]uint64, (n+63)/64)
	for c := range n {
		w[c/64] |= uint64(x.Bit(c)) << (c % 64)
	}
	return w
}

// rankOf is the rank of rows of places: each is brought down by those kept
// ahead of it, the greatest place first.
func rankOf(places [][]int) int {
	kept := map[int]*big.Int{}
	for _, l := range places {
		x := number(l)
		for x.Sign() != 0 && kept[x.BitLen()] != nil {
			x.Xor(x, kept[x.BitLen()])
		}
		if x.Sign() != 0 {
			kept[x.BitLen()] = x
		}
	}
	return len(kept)
}

// sumAt is the sum of the symbols at those places.
func sumAt(symbols [][]byte, places []int, size int) []byte {
	sum := make([]byte, size)
	for _, c := range places {
		for i := range sum {
			sum[i] ^= symbols[c][i]
		}
	}
	return sum
}

// symbols are n symbols of that size, drawn.
func symbols(r *rand.Rand, n, size int) [][]byte {
	l := make([][]byte, n)
	for i := range l {
		l[i] = make([]byte, size)
		r.Read(l[i])
	}
	return l
}

// copied is l in new memory.
func copied(l [][]byte) [][]byte {
	other := make([][]byte, len(l))
	for i := range l {
		other[i] = bytes.Clone(l[i])
	}
	return other
}

// same says whether both have the same symbols.
func same(a, b [][]byte) bool {
	return slices.EqualFunc(a, b, bytes.Equal)
}

// sameRows says whether both have the same rows.
func sameRows(a, b [][]uint64) bool {
	return slices.EqualFunc(a, b, slices.Equal)
}

// checkMiddle says whether m are middle symbols of source.
func checkMiddle(t *testing.T, p api.Params, seed int, source, m [][]byte, size int) {
	t.Helper()
	if len(m) != p.L {
		t.Fatalf("K %d: %d middle symbols, not %d", p.K, len(m), p.L)
	}
	for i, sym := range m {
		if len(sym) != size {
			t.Fatalf("K %d: middle symbol %d: %v", p.K, i, sym)
		}
	}
	for i, places := range placesOf(t, p, seed, upto(p.K)) {
		want := make([]byte, size)
		if i >= p.S+p.H {
			want = source[i-p.S-p.H]
		}
		if sum := sumAt(m, places, size); !bytes.Equal(sum, want) {
			t.Errorf("K %d, row %d: the sum is %v, not %v", p.K, i, sum, want)
		}
	}
}

// wrong are numbers that are not those of their K: of a K that is out of its
// range, and each of them one off, or another K's, or with right lowest bits.
func wrong(t *testing.T) []api.Params {
	t.Helper()
	l := []api.Params{{}, {K: 1}, {K: 10, S: 7, H: 6}, {K: 10, L: 23, P: 23}, {S: 3, H: 4, L: 8, P: 11}}
	for _, k := range []int{math.MinInt, -1 << 32, -1, 0, api.MaxSource + 1, 1 << 32, 1<<32 + 1, math.MaxInt} {
		l = append(l, api.Params{K: k}, api.Params{K: k, S: 3, H: 4, L: 8, P: 11})
	}
	for _, k := range []int{1, 10, api.MaxSource} {
		for _, by := range []int{-1, 1, 1 << 32, math.MinInt} {
			for i := range 5 {
				p := of(t, k)
				*[]*int{&p.K, &p.S, &p.H, &p.L, &p.P}[i] += by
				l = append(l, p)
			}
		}
	}
	return l
}

// outside are numbers below low and above high, the next ones among them.
func outside(low, high int) []int {
	return []int{math.MinInt, math.MinInt + 1, -1 << 32, -1<<32 + low, -high, low - 2, low - 1, high + 1, high + 2, 2*high + 2, 1 << 31, 1 << 32, 1<<32 + low, 1<<32 + high, math.MaxInt - 1, math.MaxInt}
}

// The chapter's example.
func TestExample(t *testing.T) {
	p := of(t, 1)
	seed, err := system.Seed(1)
	fine(t, err)
	if n := rank(t, p, seed, []int{0}); n != 8 {
		t.Errorf("rank %d", n)
	}
	m := middle(t, p, seed, [][]byte{{1}}, 1)
	if len(m) != 8 {
		t.Fatalf("%v", m)
	}
	places, err := ltrow.Row(p, seed, 0)
	fine(t, err)
	if sum := sumAt(m, places, 1); sum[0] != 1 {
		t.Errorf("%v, %v", m, sum)
	}
}

// P11.1: rows that are written out, reckoned apart from the program.
func TestRowsWritten(t *testing.T) {
	for _, c := range []struct {
		k, seed int
		esis    []int
		want    []uint64
		rank    int
	}{
		{1, 0, nil, []uint64{3, 5, 9, 21, 35, 78, 136}, 7},
		{1, 0, []int{0}, []uint64{3, 5, 9, 21, 35, 78, 136, 4}, 8},
		{1, 0, []int{0, 1}, []uint64{3, 5, 9, 21, 35, 78, 136, 4, 255}, 8},
		{2, 3, []int{1, 0, 1}, []uint64{5, 0xb, 0x13, 0x22, 0x40, 0x9b, 0x12d, 0x247, 0x47e, 0x870, 0xa01, 0xf, 0xa01}, 12},
		{10, 4, []int{65535, 0}, []uint64{0x4e1, 0x943, 0x1287, 0x210e, 0x429c, 0x8138, 0x10270, 0x2469b, 0x48b2d, 0x911c7, 0x11e07e, 0x203ff0, 0x41fc00, 0x20060, 0x104108}, 15},
	} {
		got := rows(t, of(t, c.k), c.seed, c.esis)
		for i, row := range got {
			if i >= len(c.want) || len(row) != 1 || row[0] != c.want[i] {
				t.Fatalf("Rows(%d, %d, %v): row %d is %x", c.k, c.seed, c.esis, i, row)
			}
		}
		if len(got) != len(c.want) {
			t.Errorf("Rows(%d, %d, %v): %x", c.k, c.seed, c.esis, got)
		}
		if n := rank(t, of(t, c.k), c.seed, c.esis); n != c.rank {
			t.Errorf("Rank(%d, %d, %v): %d, not %d", c.k, c.seed, c.esis, n, c.rank)
		}
	}
	got := rows(t, of(t, 128), 25, []int{0, 1, 65535})
	if len(got) != 32 {
		t.Fatalf("%d rows", len(got))
	}
	for i, want := range map[int][]uint64{
		0:  {0x2480054000e0001, 0x4084104084201110, 1},
		28: {0, 0xc000000000000000, 0x1007ffff},
		29: {0x8000000000000, 0x1000000000000, 0},
		30: {0, 0x1041000, 0},
		31: {0x40000000000, 0, 0x20000},
	} {
		if !slices.Equal(got[i], want) {
			t.Errorf("Rows(128, 25): row %d is %x, not %x", i, got[i], want)
		}
	}
}

// P11.1: of each K the precode's rows stand ahead, and behind them those of the
// encoding symbols, in the order in which they are told, doubled ones too.
func TestRows(t *testing.T) {
	r := rand.New(rand.NewSource(1))
	for k := 1; k <= api.MaxSource; k++ {
		p := of(t, k)
		for _, seed := range []int{0, 1, r.Intn(api.MaxSeed), api.MaxSeed - 1} {
			esis := []int{api.MaxEsi - 1, 0, 5, 5, 1}
			for range r.Intn(2 * k) {
				esis = append(esis, r.Intn(api.MaxEsi))
			}
			for _, l := range [][]int{nil, {}, esis, upto(k), {7}, {api.MaxEsi - 1}} {
				places := placesOf(t, p, seed, l)
				var want [][]uint64
				for _, c := range places {
					want = append(want, wordsOf(number(c), p.L))
				}
				if got := rows(t, p, seed, l); !sameRows(got, want) {
					t.Fatalf("Rows(%d, %d, %v): %x, not %x", k, seed, l, got, want)
				}
				if got, want := rank(t, p, seed, l), rankOf(places); got != want {
					t.Fatalf("Rank(%d, %d, %v): %d, not %d", k, seed, l, got, want)
				}
			}
		}
	}
}

// P11.1: the rank hangs neither on the order of the encoding symbols nor on
// doubled ones; it is from S + H to L, and one symbol more adds one at most.
func TestRankGrows(t *testing.T) {
	r := rand.New(rand.NewSource(2))
	for _, k := range []int{1, 2, 10, 60, 128} {
		p := of(t, k)
		for range 3 {
			seed, at := r.Intn(api.MaxSeed), p.S+p.H
			var esis []int
			if n := rank(t, p, seed, nil); n != at {
				t.Fatalf("K %d: the precode's rows have the rank %d, not %d", k, n, at)
			}
			for range 2 * k {
				esis = append(esis, r.Intn(api.MaxEsi))
				n := rank(t, p, seed, esis)
				if n < at || n > at+1 || n > p.L {
					t.Errorf("K %d: rank %d behind %d", k, n, at)
				}
				at = n
			}
			r.Shuffle(len(esis), func(i, j int) { esis[i], esis[j] = esis[j], esis[i] })
			if n := rank(t, p, seed, append(esis, esis...)); n != at {
				t.Errorf("K %d: rank %d in another order, not %d", k, n, at)
			}
		}
	}
}

// P11.1: MaxRows encoding symbols are not too many, though with the precode's
// rows they are more rows than that.
func TestManySymbols(t *testing.T) {
	for _, k := range []int{1, 20, 128} {
		p := of(t, k)
		for _, n := range []int{api.MaxRows - p.S - p.H, api.MaxRows - p.S - p.H + 1, api.MaxRows - 1, api.MaxRows} {
			for _, esis := range [][]int{upto(n), make([]int, n), lastOnes(n, p.S+p.H), lastOnes(n, 1)} {
				places := placesOf(t, p, 9, esis)
				got := rows(t, p, 9, esis)
				if len(got) != p.S+p.H+n {
					t.Fatalf("K %d: %d rows of %d symbols", k, len(got), n)
				}
				if i := len(got) - 1; !slices.Equal(got[i], wordsOf(number(places[i]), p.L)) {
					t.Errorf("K %d: the last row is %x", k, got[i])
				}
				if got, want := rank(t, p, 9, esis), rankOf(places); got != want {
					t.Errorf("K %d, %d symbols: rank %d, not %d", k, n, got, want)
				}
			}
		}
	}
}

// lastOnes are n numbers, all 0 but for the last many, which are all unlike.
func lastOnes(n, many int) []int {
	l := make([]int, n)
	for i := range many {
		l[n-1-i] = 100 + i
	}
	return l
}

// P11.1: what is refused, and of a number out of its range ahead of too many
// symbols.
func TestRowsRefused(t *testing.T) {
	check := func(p api.Params, seed int, esis []int, n api.Errno) {
		t.Helper()
		l, err := system.Rows(p, seed, esis)
		refused(t, err, "system.Rows", n)
		if len(l) != 0 {
			t.Errorf("Rows(%v, %d): %d rows beside an error", p, seed, len(l))
		}
		many, err := system.Rank(p, seed, esis)
		refused(t, err, "system.Rank", n)
		if many != 0 {
			t.Errorf("Rank(%v, %d): %d beside an error", p, seed, many)
		}
	}
	long := make([]int, api.MaxRows+1)
	for _, p := range wrong(t) {
		for _, esis := range [][]int{nil, {0}, {-1}, long} {
			check(p, 0, esis, api.ErrRange)
			check(p, -1, esis, api.ErrRange)
		}
	}
	for _, k := range []int{1, 10, 128} {
		p := of(t, k)
		for _, seed := range outside(0, api.MaxSeed-1) {
			for _, esis := range [][]int{nil, {0}, {api.MaxEsi}, long} {
				check(p, seed, esis, api.ErrRange)
			}
		}
		for _, esi := range outside(0, api.MaxEsi-1) {
			check(p, 0, []int{esi}, api.ErrRange)
			check(p, 0, []int{esi, 1, 2}, api.ErrRange)
			check(p, api.MaxSeed-1, []int{0, 1, esi}, api.ErrRange)
		}
		for _, at := range []int{0, 1, api.MaxRows - 1, api.MaxRows} {
			l := slices.Clone(long)
			for _, esi := range []int{-1, api.MaxEsi} {
				l[at] = esi
				check(p, 0, l, api.ErrRange)
			}
		}
		for _, n := range []int{api.MaxRows + 1, api.MaxRows + 2, 2 * api.MaxRows, api.MaxEsi} {
			check(p, 0, make([]int, n), api.ErrLong)
			check(p, api.MaxSeed-1, upto(n), api.ErrLong)
		}
	}
}

// P11.2: seeds that are written out, and by these just as many rows as there are
// columns do not hang on others, but by no seed below them.
func TestSeed(t *testing.T) {
	for k := 1; k <= api.MaxSource; k++ {
		p := of(t, k)
		seed, err := system.Seed(k)
		fine(t, err)
		if seed != seeds[k-1] {
			t.Fatalf("Seed(%d): %d, not %d", k, seed, seeds[k-1])
		}
		for s := range seed + 1 {
			n, want := rank(t, p, s, upto(k)), rankOf(placesOf(t, p, s, upto(k)))
			if n != want || (n == p.L) != (s == seed) {
				t.Errorf("K %d, seed %d: rank %d, not %d of %d", k, s, n, want, p.L)
			}
		}
	}
}

// P11.1, P11.2: ranks that are written out; the seed is the first one of which
// the rank is L.
func TestRanksWritten(t *testing.T) {
	for k, l := range ranks {
		p := of(t, k)
		for seed, want := range l {
			if n := rank(t, p, seed, upto(k)); n != want {
				t.Errorf("Rank(%d, %d): %d, not %d", k, seed, n, want)
			}
		}
		if seed, err := system.Seed(k); err != nil || seed != slices.Index(l, p.L) {
			t.Errorf("Seed(%d): %d", k, seed)
		}
	}
}

// P11.2: no seed of a K that is out of its range.
func TestSeedRefused(t *testing.T) {
	for _, k := range outside(1, api.MaxSource) {
		seed, err := system.Seed(k)
		refused(t, err, "system.Seed", api.ErrRange)
		if seed != 0 {
			t.Errorf("Seed(%d): %d beside an error", k, seed)
		}
	}
}

// P11.3: each K has a seed that is one.
func TestEachHasOne(t *testing.T) {
	for k := 1; k <= api.MaxSource; k++ {
		seed, err := system.Seed(k)
		fine(t, err)
		if seed < 0 || seed >= api.MaxSeed || rank(t, of(t, k), seed, upto(k)) != of(t, k).L {
			t.Errorf("Seed(%d): %d", k, seed)
		}
	}
}

// P11.2: middle symbols that are written out, reckoned apart from the program.
func TestMiddleWritten(t *testing.T) {
	for _, c := range []struct {
		k      int
		source [][]byte
		want   []string
	}{
		{1, [][]byte{{1}}, []string{"\x01", "\x01", "\x01", "\x01", "\x00", "\x00", "\x01", "\x01"}},
		{2, [][]byte{{1}, {2}}, []string{"\x01", "\x02", "\x01", "\x03", "\x03", "\x02", "\x00", "\x03", "\x01", "\x02", "\x01", "\x01"}},
		{5, [][]byte{{0, 255}, {1, 254}, {2, 253}, {3, 252}, {4, 251}}, []string{
			"\x01\xfe", "\x03\xfc", "\x06\x06", "\x01\x01", "\x00\x00", "\x00\xff", "\x02\x02", "\x04\x04",
			"\x04\xfb", "\x07\x07", "\x00\x00", "\x05\xfa", "\x06\xf9", "\x06\x06", "\x05\x05"}},
	} {
		got := middle(t, of(t, c.k), seeds[c.k-1], c.source, len(c.source[0]))
		if !slices.EqualFunc(got, c.want, func(a []byte, b string) bool { return string(a) == b }) {
			t.Errorf("Middle(%d): %x, not %x", c.k, got, c.want)
		}
	}
}

// P11.2, P11.4: by the seed of each K any symbols have middle symbols, of the
// sums that the rows say; no other choice holds, since these rows have the rank
// L, as TestSeed sees.
func TestMiddle(t *testing.T) {
	r := rand.New(rand.NewSource(3))
	for k := 1; k <= api.MaxSource; k++ {
		p, seed := of(t, k), seeds[k-1]
		for _, size := range []int{1, 2 + r.Intn(62), api.MaxSymbol} {
			source := symbols(r, k, size)
			m := middle(t, p, seed, source, size)
			checkMiddle(t, p, seed, source, m, size)
			if !same(middle(t, p, seed, source, size), m) {
				t.Errorf("K %d: other middle symbols at the second time", k)
			}
		}
		zero := make([][]byte, k)
		for i := range zero {
			zero[i] = []byte{0, 0}
		}
		for i, sym := range middle(t, p, seed, zero, 2) {
			if !bytes.Equal(sym, []byte{0, 0}) {
				t.Errorf("K %d: of symbols 0 the middle symbol %d is %v", k, i, sym)
			}
		}
	}
}

// P11.4: sums of source symbols have the sums of middle symbols.
func TestSums(t *testing.T) {
	r := rand.New(rand.NewSource(4))
	for k := 1; k <= api.MaxSource; k += 1 + k/4 {
		p, seed := of(t, k), seeds[k-1]
		a, b := symbols(r, k, 7), symbols(r, k, 7)
		sum, want := copied(a), middle(t, p, seed, a, 7)
		for i, sym := range b {
			for j, v := range sym {
				sum[i][j] ^= v
			}
		}
		for i, sym := range middle(t, p, seed, b, 7) {
			for j, v := range sym {
				want[i][j] ^= v
			}
		}
		if !same(middle(t, p, seed, sum, 7), want) {
			t.Errorf("K %d: the sum has others", k)
		}
	}
}

// P11.2: any seed by which the rank is L does; by all others the middle symbols
// are not known, whether the source symbols clash or not.
func TestMiddleOtherSeeds(t *testing.T) {
	r := rand.New(rand.NewSource(5))
	for _, k := range []int{1, 2, 3, 10, 12, 40, 128} {
		p := of(t, k)
		known, not := 0, 0
		for n := 0; n < 200 || known == 0 || not == 0; n++ {
			seed := n
			if n >= 60 {
				seed = r.Intn(api.MaxSeed)
			}
			source, zero := symbols(r, k, 3), symbols(r, k, 3)
			for _, sym := range zero {
				clear(sym)
			}
			if rank(t, p, seed, upto(k)) == p.L {
				known++
				checkMiddle(t, p, seed, source, middle(t, p, seed, source, 3), 3)
				continue
			}
			not++
			for _, l := range [][][]byte{source, zero} {
				m, err := system.Middle(p, seed, l, 3)
				refused(t, err, "system.Middle", api.ErrNone)
				if len(m) != 0 {
					t.Errorf("Middle(%d, %d): %v beside an error", k, seed, m)
				}
			}
		}
	}
}

// P11.2: numbers out of their ranges, whatever source symbols come with them.
func TestMiddleRange(t *testing.T) {
	check := func(p api.Params, seed int, source [][]byte, size int) {
		t.Helper()
		m, err := system.Middle(p, seed, source, size)
		refused(t, err, "system.Middle", api.ErrRange)
		if len(m) != 0 {
			t.Errorf("Middle(%v, %d, %d): %v beside an error", p, seed, size, m)
		}
	}
	r := rand.New(rand.NewSource(6))
	for _, p := range wrong(t) {
		for _, source := range [][][]byte{nil, {{1}}, symbols(r, 10, 1), symbols(r, 128, 1)} {
			check(p, 0, source, 1)
			check(p, -1, source, 0)
		}
	}
	for _, k := range []int{1, 10, 128} {
		p := of(t, k)
		for _, source := range [][][]byte{nil, symbols(r, k, 1), symbols(r, k+1, 1), symbols(r, k, 0), symbols(r, k, 65)} {
			for _, seed := range outside(0, api.MaxSeed-1) {
				check(p, seed, source, 1)
				check(p, seed, source, 65)
			}
			for _, size := range outside(1, api.MaxSymbol) {
				check(p, seeds[k-1], source, size)
				check(p, -1, source, size)
			}
		}
	}
}

// P11.2: source symbols that are not K of that size, also by a seed by which
// there are no middle symbols: the form is named ahead of these.
func TestMiddleForm(t *testing.T) {
	r := rand.New(rand.NewSource(7))
	for _, k := range []int{1, 2, 10, 12, 128} {
		p := of(t, k)
		for _, seed := range []int{seeds[k-1], slices.IndexFunc(upto(100), func(s int) bool { return rank(t, p, s, upto(k)) < p.L })} {
			check := func(source [][]byte, size int) {
				t.Helper()
				m, err := system.Middle(p, seed, source, size)
				refused(t, err, "system.Middle", api.ErrForm)
				if len(m) != 0 {
					t.Errorf("Middle(%d): %v beside an error", k, m)
				}
			}
			check(nil, 1)
			check([][]byte{}, 64)
			for _, size := range []int{1, 2, 64} {
				check(symbols(r, k-1, size), size)
				check(symbols(r, k+1, size), size)
				check(symbols(r, 2*k, size), size)
				check(symbols(r, k, size-1), size)
				check(symbols(r, k, size+1), size)
				for _, at := range []int{0, k / 2, k - 1} {
					for _, other := range []int{0, size - 1, size + 1, 2 * size, size + 256} {
						source := symbols(r, k, size)
						source[at] = make([]byte, other)
						check(source, size)
					}
					source := symbols(r, k, size)
					source[at] = nil
					check(source, size)
				}
			}
		}
	}
}

// What is handed in, and the room behind its end, is neither changed nor kept.
func TestNothingIsChanged(t *testing.T) {
	r := rand.New(rand.NewSource(8))
	p := of(t, 10)
	esis := []int{3, 1, 4, 1, 5, 9}
	had := slices.Clone(esis)
	first := rows(t, p, 4, esis[:4])
	if rank(t, p, 4, esis[:4]) != rankOf(placesOf(t, p, 4, had[:4])) || !slices.Equal(esis, had) {
		t.Errorf("%v", esis)
	}
	kept := make([][]uint64, len(first))
	for i := range first {
		kept[i] = slices.Clone(first[i])
	}
	clear(esis)
	if !sameRows(first, kept) {
		t.Error("rows change with the numbers")
	}

	// Symbols that share memory, with room behind their ends.
	whole := make([]byte, 64)
	r.Read(whole)
	source := make([][]byte, 12)
	for i := range source {
		source[i] = whole[i : i+4]
	}
	before := bytes.Clone(whole)
	m := middle(t, p, seeds[9], source[:10], 4)
	checkMiddle(t, p, seeds[9], source[:10], m, 4)
	if !bytes.Equal(whole, before) {
		t.Error("source symbols are changed")
	}
	then := copied(m)
	clear(whole)
	if !same(m, then) {
		t.Error("middle symbols change with the source symbols")
	}
}

// What is answered is new memory, and no two lists of it share any.
func TestAnswersAreNew(t *testing.T) {
	const full = math.MaxUint64
	for _, k := range []int{1, 10, 128} {
		p, esis := of(t, k), []int{0, 0, 1}
		l, other := rows(t, p, 1, esis), rows(t, p, 1, esis)
		for i, row := range l {
			l[i] = append(row, full, full)
			for j := range row {
				row[j] = full
			}
		}
		if !sameRows(other, rows(t, p, 1, esis)) {
			t.Errorf("K %d: rows share memory", k)
		}
		for i, row := range other {
			_ = append(row, full)
			row[0] = uint64(i)
		}
		for i, row := range other {
			if row[0] != uint64(i) {
				t.Errorf("K %d: row %d shares memory", k, i)
			}
		}

		source := make([][]byte, k)
		for i := range source {
			source[i] = []byte{byte(i), 1}
		}
		m, again := middle(t, p, seeds[k-1], source, 2), middle(t, p, seeds[k-1], source, 2)
		for i, sym := range m {
			_ = append(sym, 255, 255)
			sym[0], sym[1] = byte(i), 255
		}
		for i, sym := range m {
			if sym[0] != byte(i) || sym[1] != 255 {
				t.Errorf("K %d: middle symbol %d shares memory", k, i)
			}
		}
		checkMiddle(t, p, seeds[k-1], source, again, 2)
		if !same(again, middle(t, p, seeds[k-1], source, 2)) {
			t.Errorf("K %d: middle symbols share memory", k)
		}
	}
}
