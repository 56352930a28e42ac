package decode_test

import (
	"bytes"
	"errors"
	"math"
	"math/rand"
	"slices"
	"sync"
	"testing"

	"geyser/api"
	"geyser/decode"
	"geyser/encode"
	"geyser/fault"
	"geyser/params"
	"geyser/system"
)

// The calls' signatures are the chapter's.
var (
	_ func(int, int) (*decode.Decoder, error)         = decode.New
	_ func(*decode.Decoder, int, []byte) (int, error) = (*decode.Decoder).Add
	_ func(*decode.Decoder) int                       = (*decode.Decoder).Rank
	_ func(*decode.Decoder) int                       = (*decode.Decoder).Lacks
	_ func(*decode.Decoder) bool                      = (*decode.Decoder).Done
	_ func(*decode.Decoder) bool                      = (*decode.Decoder).Clashed
	_ func(*decode.Decoder) ([][]byte, error)         = (*decode.Decoder).Source
)

// refused says whether err is just a Fault of that call round that number.
func refused(t *testing.T, err error, call string, n api.Errno) {
	t.Helper()
	f, ok := err.(*api.Fault)
	if !ok || f == nil {
		t.Fatalf("%#v is no Fault", err)
	}
	if f.Call != call || fault.Num(err) != n || !errors.Is(err, n) {
		t.Errorf("%q %d, not %q %d", f.Call, fault.Num(err), call, n)
	}
}

// fine ends the test, if err is one.
func fine(t *testing.T, err error) {
	t.Helper()
	if err != nil {
		t.Fatalf("%v %d", err, fault.Num(err))
	}
}

// of is the numbers of k source symbols.
func of(t *testing.T, k int) api.Params {
	t.Helper()
	p, err := params.Of(k)
	fine(t, err)
	return p
}

// made is a decoder to which no encoding symbol has come.
func made(t *testing.T, k, size int) *decode.Decoder {
	t.Helper()
	d, err := decode.New(k, size)
	fine(t, err)
	if d == nil {
		t.Fatalf("New(%d, %d): no decoder", k, size)
	}
	return d
}

// adds adds an encoding symbol, and says whether its equation is of that kind.
func adds(t *testing.T, d *decode.Decoder, esi int, sym []byte, kind int) {
	t.Helper()
	got, err := d.Add(esi, sym)
	fine(t, err)
	if got != kind {
		t.Fatalf("Add(%d, %x): %d, not %d", esi, sym, got, kind)
	}
}

// stands says whether a decoder of the block with the numbers p, which has not
// clashed, has that rank, and the source symbols just when it is the whole one.
func stands(t *testing.T, d *decode.Decoder, p api.Params, rank int, source [][]byte) {
	t.Helper()
	if d.Rank() != rank || d.Lacks() != p.L-rank || d.Done() != (rank == p.L) || d.Clashed() {
		t.Fatalf("K %d: %d %d %v %v, not %d %d %v false", p.K, d.Rank(), d.Lacks(), d.Done(), d.Clashed(), rank, p.L-rank, rank == p.L)
	}
	got, err := d.Source()
	if rank < p.L {
		refused(t, err, "decode.Source", api.ErrNone)
		if len(got) != 0 {
			t.Fatalf("K %d: %x beside an error", p.K, got)
		}
		return
	}
	fine(t, err)
	if !same(got, source) {
		t.Fatalf("K %d: %x, not %x", p.K, got, source)
	}
}

// over says whether a decoder that has clashed tells its rank and nothing more.
func over(t *testing.T, d *decode.Decoder, p api.Params, rank, size int) {
	t.Helper()
	if d.Rank() != rank || d.Lacks() != p.L-rank || d.Done() || !d.Clashed() {
		t.Fatalf("K %d: %d %d %v %v, not %d %d false true", p.K, d.Rank(), d.Lacks(), d.Done(), d.Clashed(), rank, p.L-rank)
	}
	for _, esi := range []int{0, p.K, api.MaxEsi - 1, -1, api.MaxEsi, math.MinInt, math.MaxInt} {
		for _, sym := range [][]byte{make([]byte, size), nil, make([]byte, size+1)} {
			kind, err := d.Add(esi, sym)
			refused(t, err, "decode.Add", api.ErrState)
			if kind != 0 {
				t.Fatalf("K %d: %d beside an error", p.K, kind)
			}
		}
	}
	got, err := d.Source()
	refused(t, err, "decode.Source", api.ErrState)
	if len(got) != 0 {
		t.Fatalf("K %d: %x beside an error", p.K, got)
	}
	if d.Rank() != rank || d.Done() || !d.Clashed() {
		t.Fatalf("K %d: what was refused has changed something", p.K)
	}
}

// sender tells the encoding symbols of a block.
func sender(t *testing.T, source [][]byte, size int) func(esi int) []byte {
	t.Helper()
	e, err := encode.New(source, size)
	fine(t, err)
	return func(esi int) []byte {
		sym, err := e.Symbol(esi)
		fine(t, err)
		return sym
	}
}

// ranker tells the rank of a block's rows with the encoding symbols so far, of
// which there is one more at each call.
func ranker(t *testing.T, p api.Params) func(esi int) int {
	t.Helper()
	seed, err := system.Seed(p.K)
	fine(t, err)
	var esis []int
	return func(esi int) int {
		esis = append(esis, esi)
		rank, err := system.Rank(p, seed, esis)
		fine(t, err)
		return rank
	}
}

// drawn are n symbols of that size, drawn.
func drawn(r *rand.Rand, n, size int) [][]byte {
	l := make([][]byte, n)
	for i := range l {
		l[i] = make([]byte, size)
		r.Read(l[i])
	}
	return l
}

// other is another symbol than sym, drawn.
func other(r *rand.Rand, sym []byte) []byte {
	l := bytes.Clone(sym)
	l[r.Intn(len(l))] ^= byte(1 << r.Intn(8))
	return l
}

// same says whether both have the same symbols.
func same(a, b [][]byte) bool {
	return slices.EqualFunc(a, b, bytes.Equal)
}

// outside are numbers below low and above high, the next ones among them.
func outside(low, high int) []int {
	return []int{math.MinInt, math.MinInt + 1, -1 << 32, -1<<32 + low, -high, low - 2, low - 1, high + 1, high + 2, 2*high + 2, 1 << 31, 1 << 32, 1<<32 + low, 1<<32 + high, math.MaxInt - 1, math.MaxInt}
}

// The chapter's example.
func TestExample(t *testing.T) {
	d, p := made(t, 2, 1), of(t, 2)
	adds(t, d, 0, []byte{1}, api.Fresh)
	if d.Done() {
		t.Error("done by one of two")
	}
	adds(t, d, 1, []byte{2}, api.Fresh)
	stands(t, d, p, p.L, [][]byte{{1}, {2}})
	adds(t, d, 0, []byte{1}, api.Known)
	stands(t, d, p, p.L, [][]byte{{1}, {2}})
	adds(t, d, 0, []byte{3}, api.Clash)
	over(t, d, p, p.L, 1)
}

// P13.1, P13.2: to a new decoder no encoding symbol has come: it keeps the
// precode's equations alone.
func TestNew(t *testing.T) {
	for k := 1; k <= api.MaxSource; k++ {
		for _, size := range []int{1, 1 + k%64, api.MaxSymbol} {
			p := of(t, k)
			d := made(t, k, size)
			stands(t, d, p, p.S+p.H, nil)
			if d.Lacks() != k {
				t.Errorf("K %d: lacks %d", k, d.Lacks())
			}
		}
	}
}

// P13.1: how many source symbols there may be, and how great they may be.
func TestNewRange(t *testing.T) {
	check := func(k, size int) {
		t.Helper()
		d, err := decode.New(k, size)
		refused(t, err, "decode.New", api.ErrRange)
		if d != nil {
			t.Errorf("New(%d, %d): a decoder beside an error", k, size)
		}
	}
	for _, k := range outside(1, api.MaxSource) {
		for _, size := range append(outside(1, api.MaxSymbol), 1, 7, api.MaxSymbol) {
			check(k, size)
		}
	}
	for _, size := range outside(1, api.MaxSymbol) {
		for _, k := range []int{1, 2, 10, api.MaxSource} {
			check(k, size)
		}
	}
}

// ways are those in which encoding symbols may come.
var ways = map[string]func(k, i int) int{
	"behind": func(k, i int) int { return k + i },
	"last":   func(k, i int) int { return api.MaxEsi - 1 - i },
	"mixed":  func(k, i int) int { return (7919*i + 5) % api.MaxEsi },
	"odd":    func(k, i int) int { return 2*i + 1 },
}

// P13.1, P13.3: of K + 12 encoding symbols which bring nothing, up to the one by
// which it is done, reckoned apart from the program.
func TestKindsWritten(t *testing.T) {
	for _, c := range []struct {
		k, done int
		way     string
		known   []int
	}{
		{1, 2, "behind", []int{0}},
		{1, 4, "last", []int{0, 1, 2}},
		{1, 1, "mixed", nil},
		{1, 2, "odd", []int{0}},
		{2, 2, "behind", nil},
		{2, 3, "last", []int{1}},
		{2, 4, "mixed", []int{0, 2}},
		{3, 6, "behind", []int{1, 2, 4}},
		{3, 3, "last", nil},
		{3, 5, "mixed", []int{2, 3}},
		{5, 9, "behind", []int{2, 4, 6, 7}},
		{5, 6, "last", []int{4}},
		{5, 8, "odd", []int{4, 5, 6}},
		{10, 10, "behind", nil},
		{10, 11, "last", []int{9}},
		{10, 12, "mixed", []int{7, 10}},
		{26, 29, "behind", []int{24, 25, 26}},
		{26, 26, "mixed", nil},
		{26, 28, "odd", []int{21, 24}},
		{64, 66, "behind", []int{61, 64}},
		{64, 64, "last", nil},
		{64, 68, "mixed", []int{57, 63, 64, 66}},
		{128, 136, "behind", []int{125, 126, 129, 130, 131, 132, 133, 134}},
		{128, 130, "last", []int{75, 128}},
		{128, 130, "odd", []int{105, 128}},
	} {
		source := make([][]byte, c.k)
		for i := range source {
			source[i] = []byte{byte(37*i + 11)}
		}
		d, p, symbol := made(t, c.k, 1), of(t, c.k), sender(t, source, 1)
		rank := p.S + p.H
		for i := range c.k + 12 {
			kind := api.Known
			if i < c.done && !slices.Contains(c.known, i) {
				kind = api.Fresh
				rank++
			}
			esi := ways[c.way](c.k, i)
			adds(t, d, esi, symbol(esi), kind)
			stands(t, d, p, rank, source)
		}
		if rank != p.L {
			t.Errorf("K %d %s: %d", c.k, c.way, rank)
		}
	}
}

// P13.1, P13.3: whatever encoding symbols of a block come, in whatever order,
// each is fresh just when the rank of all rows is greater with it, and none
// clashes; it is done just when the rank is L.
func TestAnyOrder(t *testing.T) {
	r := rand.New(rand.NewSource(1))
	for k := 1; k <= api.MaxSource; k += 1 + k/8 {
		for turn, size := range []int{1, 1 + r.Intn(64), api.MaxSymbol} {
			source := drawn(r, k, size)
			d, p, symbol, rankWith := made(t, k, size), of(t, k), sender(t, source, size), ranker(t, of(t, k))
			rank, behind := p.S+p.H, 0
			for behind < 8 {
				// Near ones come again and again; of others hardly any does.
				esi := r.Intn(2*k + 2)
				if turn > 0 {
					esi = r.Intn(api.MaxEsi)
				}
				next := rankWith(esi)
				kind := api.Known
				if next > rank {
					kind = api.Fresh
				}
				rank = next
				adds(t, d, esi, symbol(esi), kind)
				if d.Rank() != rank || d.Lacks() != p.L-rank || d.Done() != (rank == p.L) || d.Clashed() {
					t.Fatalf("K %d: %d %d %v %v at the rank %d", k, d.Rank(), d.Lacks(), d.Done(), d.Clashed(), rank)
				}
				if rank >= p.L-1 {
					stands(t, d, p, rank, source)
				}
				if rank == p.L {
					behind++
				}
			}
		}
	}
}

// P13.3: of the same encoding symbols the order says nothing of what is known
// in the end.
func TestOrderSaysNothing(t *testing.T) {
	r := rand.New(rand.NewSource(2))
	for _, k := range []int{1, 2, 7, 30, api.MaxSource} {
		source := drawn(r, k, 4)
		p, symbol := of(t, k), sender(t, source, 4)
		for _, many := range []int{k / 2, k - 1, k, k + 1, k + 5} {
			esis := r.Perm(4 * k)[:min(many, 4*k)]
			rank := p.S + p.H
			rankWith := ranker(t, p)
			for _, esi := range esis {
				rank = rankWith(esi)
			}
			for range 4 {
				r.Shuffle(len(esis), func(i, j int) { esis[i], esis[j] = esis[j], esis[i] })
				d := made(t, k, 4)
				for _, esi := range esis {
					if _, err := d.Add(esi, symbol(esi)); err != nil {
						t.Fatal(err)
					}
				}
				stands(t, d, p, rank, source)
			}
		}
	}
}

// P13.4: of each K the source symbols themselves are enough, in whatever order,
// and none of them can be spared.
func TestSourceIsEnough(t *testing.T) {
	r := rand.New(rand.NewSource(3))
	for k := 1; k <= api.MaxSource; k++ {
		for turn, size := range []int{1, api.MaxSymbol} {
			source := drawn(r, k, size)
			d, p := made(t, k, size), of(t, k)
			order := r.Perm(k)
			if turn == 0 {
				slices.Sort(order)
			}
			for i, esi := range order {
				adds(t, d, esi, source[esi], api.Fresh)
				if d.Rank() != p.S+p.H+i+1 || d.Done() != (i == k-1) {
					t.Fatalf("K %d: %d %v behind %d", k, d.Rank(), d.Done(), i+1)
				}
			}
			stands(t, d, p, p.L, source)
		}
	}
}

// P13.4: symbols that are all 0 are no others.
func TestNoughts(t *testing.T) {
	for _, k := range []int{1, 2, 10, api.MaxSource} {
		d, p := made(t, k, 3), of(t, k)
		source := make([][]byte, k)
		for esi := range k {
			source[esi] = make([]byte, 3)
			adds(t, d, esi, source[esi], api.Fresh)
		}
		for esi := range 2 * k {
			adds(t, d, k+esi, make([]byte, 3), api.Known)
		}
		stands(t, d, p, p.L, source)
	}
}

// P13.5: it keeps at most L equations, however many come, and what is no news
// changes nothing, ahead of the end or behind it.
func TestNoNews(t *testing.T) {
	r := rand.New(rand.NewSource(4))
	for _, k := range []int{1, 2, 10, 40, api.MaxSource} {
		source := drawn(r, k, 2)
		d, bare, p, symbol := made(t, k, 2), made(t, k, 2), of(t, k), sender(t, source, 2)
		var had []int
		for n := range 6*k + 100 {
			esi := n
			if n%3 == 1 {
				esi = r.Intn(api.MaxEsi)
			}
			if n%3 == 2 {
				esi = had[r.Intn(len(had))]
			}
			before := d.Rank()
			kind, err := d.Add(esi, symbol(esi))
			fine(t, err)
			if n%3 == 2 && kind != api.Known {
				t.Fatalf("K %d: %d came again: %d", k, esi, kind)
			}
			if kind == api.Known && d.Rank() != before || kind == api.Fresh && d.Rank() != before+1 {
				t.Fatalf("K %d: %d, and the rank goes from %d to %d", k, kind, before, d.Rank())
			}
			// Another one, to which those that are no news did not come, is as far.
			if kind == api.Fresh {
				adds(t, bare, esi, symbol(esi), api.Fresh)
			}
			if d.Rank() != bare.Rank() || d.Lacks() != bare.Lacks() || d.Rank() > p.L || d.Done() != bare.Done() {
				t.Fatalf("K %d: %d and %d of %d", k, d.Rank(), bare.Rank(), p.L)
			}
			had = append(had, esi)
		}
		stands(t, d, p, p.L, source)
		stands(t, bare, p, p.L, source)
		adds(t, bare, 0, source[0], api.Known)
		adds(t, bare, 0, other(r, source[0]), api.Clash)
	}
}

// P13.6: whatever is another symbol than the equations say clashes, however far
// things are, and then nothing more is told.
func TestClash(t *testing.T) {
	r := rand.New(rand.NewSource(5))
	for k := 1; k <= api.MaxSource; k += 1 + k/6 {
		size := 1 + r.Intn(64)
		source := drawn(r, k, size)
		p, symbol := of(t, k), sender(t, source, size)
		for _, many := range []int{1, k/2 + 1, k, k + 3} {
			// One that came already, come as another one.
			d := made(t, k, size)
			esis := make([]int, many)
			for i := range esis {
				esis[i] = i
				if many != k {
					esis[i] = r.Intn(api.MaxEsi)
				}
				kind, err := d.Add(esis[i], symbol(esis[i]))
				fine(t, err)
				if kind == api.Clash {
					t.Fatalf("K %d: %d clashes", k, esis[i])
				}
			}
			rank := d.Rank()
			esi := esis[r.Intn(many)]
			adds(t, d, esi, other(r, symbol(esi)), api.Clash)
			over(t, d, p, rank, size)
		}
		// Done: whatever number it has.
		for _, esi := range []int{0, k - 1, k, r.Intn(api.MaxEsi), api.MaxEsi - 1} {
			d := made(t, k, size)
			for i, sym := range source {
				adds(t, d, i, sym, api.Fresh)
			}
			adds(t, d, esi, symbol(esi), api.Known)
			adds(t, d, esi, other(r, symbol(esi)), api.Clash)
			over(t, d, p, p.L, size)
		}
	}
}

// P13.6: one that is of a sum of others, though its number has not come, and
// nothing is known in whole.
func TestClashOfSums(t *testing.T) {
	r := rand.New(rand.NewSource(6))
	for _, k := range []int{2, 3, 5, 10, 26, 64, api.MaxSource} {
		source := drawn(r, k, 3)
		p, symbol, rankWith := of(t, k), sender(t, source, 3), ranker(t, of(t, k))
		d, rank := made(t, k, 3), p.S+p.H
		seen := map[int]bool{}
		for {
			esi := r.Intn(api.MaxEsi)
			next := rankWith(esi)
			if next == rank && !seen[esi] {
				adds(t, d, esi, other(r, symbol(esi)), api.Clash)
				over(t, d, p, rank, 3)
				break
			}
			rank, seen[esi] = next, true
			if _, err := d.Add(esi, symbol(esi)); err != nil {
				t.Fatal(err)
			}
		}
	}
}

// P13.6: a wrong symbol that is news is taken as it is; the right ones clash
// with it as soon as they say something else.
func TestWrongNews(t *testing.T) {
	r := rand.New(rand.NewSource(7))
	for _, k := range []int{1, 2, 10, 50, api.MaxSource} {
		source := drawn(r, k, 5)
		p, symbol := of(t, k), sender(t, source, 5)
		wrong := r.Intn(k)
		d := made(t, k, 5)
		adds(t, d, wrong, other(r, source[wrong]), api.Fresh)
		for esi, sym := range source {
			if esi != wrong {
				adds(t, d, esi, sym, api.Fresh)
			}
		}
		got, err := d.Source()
		fine(t, err)
		for esi, sym := range source {
			if bytes.Equal(got[esi], sym) != (esi != wrong) {
				t.Fatalf("K %d: symbol %d of %d: %x, sent %x", k, esi, wrong, got[esi], sym)
			}
		}
		adds(t, d, wrong, symbol(wrong), api.Clash)
		over(t, d, p, p.L, 5)
	}
}

// P13.1: what may not come, in the order of its errors; what is refused changes
// nothing.
func TestAddRefused(t *testing.T) {
	r := rand.New(rand.NewSource(8))
	for _, k := range []int{1, 10, api.MaxSource} {
		for _, size := range []int{1, 2, 33, api.MaxSymbol} {
			source := drawn(r, k, size)
			d, p, rank := made(t, k, size), of(t, k), 0
			check := func(esi int, sym []byte, n api.Errno) {
				t.Helper()
				kind, err := d.Add(esi, sym)
				refused(t, err, "decode.Add", n)
				if kind != 0 {
					t.Fatalf("Add(%d, %d bytes): %d beside an error", esi, len(sym), kind)
				}
			}
			all := func() {
				t.Helper()
				for _, esi := range outside(0, api.MaxEsi-1) {
					for _, l := range []int{size, size - 1, size + 1, 0} {
						check(esi, make([]byte, l), api.ErrRange)
					}
					check(esi, nil, api.ErrRange)
				}
				for _, esi := range []int{0, k - 1, k, api.MaxEsi - 1} {
					for _, l := range []int{0, size - 1, size + 1, 2 * size, size + 64, size + 256, 1 << 16} {
						check(esi, make([]byte, l), api.ErrForm)
					}
					check(esi, nil, api.ErrForm)
					// Room behind a symbol's end is none of its bytes.
					check(esi, make([]byte, size-1, size), api.ErrForm)
				}
				stands(t, d, p, p.S+p.H+rank, source)
			}
			all()
			for esi, sym := range source {
				adds(t, d, esi, sym, api.Fresh)
				rank++
				if esi == k/2 {
					all()
				}
			}
			all()
		}
	}
}

// P13.1: the least and the greatest numbers that an encoding symbol has.
func TestAddEdges(t *testing.T) {
	r := rand.New(rand.NewSource(9))
	for _, k := range []int{1, 2, 10, api.MaxSource} {
		source := drawn(r, k, api.MaxSymbol)
		symbol := sender(t, source, api.MaxSymbol)
		d, p := made(t, k, api.MaxSymbol), of(t, k)
		adds(t, d, 0, symbol(0), api.Fresh)
		if _, err := d.Add(api.MaxEsi-1, symbol(api.MaxEsi-1)); err != nil {
			t.Error(err)
		}
		for esi := range k {
			if _, err := d.Add(esi, symbol(esi)); err != nil {
				t.Error(err)
			}
		}
		stands(t, d, p, p.L, source)
	}
}

// P13.1, P13.2: what a nil decoder answers, whatever it is given.
func TestNil(t *testing.T) {
	var d *decode.Decoder
	for range 2 {
		if d.Rank() != 0 || d.Lacks() != 0 || d.Done() || d.Clashed() {
			t.Errorf("%d %d %v %v", d.Rank(), d.Lacks(), d.Done(), d.Clashed())
		}
		l, err := d.Source()
		refused(t, err, "decode.Source", api.ErrState)
		if len(l) != 0 {
			t.Errorf("%x beside an error", l)
		}
		for _, esi := range append(outside(0, api.MaxEsi-1), 0, 1, api.MaxEsi-1) {
			for _, sym := range [][]byte{nil, {}, {1}, make([]byte, api.MaxSymbol), make([]byte, api.MaxSymbol+1)} {
				kind, err := d.Add(esi, sym)
				refused(t, err, "decode.Add", api.ErrState)
				if kind != 0 {
					t.Errorf("Add(%d): %d beside an error", esi, kind)
				}
			}
		}
	}
}

// What is put in is neither changed nor kept, nor is what lies in the room
// behind its end.
func TestNothingIsChanged(t *testing.T) {
	r := rand.New(rand.NewSource(10))
	for _, k := range []int{1, 10, api.MaxSource} {
		source := drawn(r, k, 4)
		d, p, symbol := made(t, k, 4), of(t, k), sender(t, source, 4)
		room := make([]byte, 12)
		for n := range k + 20 {
			esi := k + n
			if n >= 20 {
				esi = n - 20
			}
			r.Read(room)
			copy(room, symbol(esi))
			had := bytes.Clone(room)
			if _, err := d.Add(esi, room[:4]); err != nil {
				t.Fatal(err)
			}
			if !bytes.Equal(room, had) {
				t.Fatalf("K %d: symbol %d is changed", k, esi)
			}
			clear(room)
		}
		stands(t, d, p, p.L, source)
		copy(room, other(r, source[0]))
		had := bytes.Clone(room)
		adds(t, d, 0, room[:4], api.Clash)
		if !bytes.Equal(room, had) {
			t.Errorf("K %d: what clashes is changed", k)
		}
	}
}

// P13.2: what is answered is new memory at each call, and no two lists of it
// share any.
func TestAnswersAreNew(t *testing.T) {
	r := rand.New(rand.NewSource(11))
	for _, k := range []int{1, 2, 10, api.MaxSource} {
		source := drawn(r, k, 3)
		d, p := made(t, k, 3), of(t, k)
		for esi, sym := range source {
			adds(t, d, esi, sym, api.Fresh)
		}
		first, err := d.Source()
		fine(t, err)
		for i := range first {
			if !bytes.Equal(first[i], source[i]) {
				t.Fatalf("K %d: symbol %d shares memory", k, i)
			}
			_ = append(first[i], 1, 2, 3, 4)
			for at := range first[i] {
				first[i][at] ^= 255
			}
		}
		_ = append(first, nil)
		clear(first)
		stands(t, d, p, p.L, source)
		for esi, sym := range source {
			adds(t, d, esi, sym, api.Known)
		}
	}
}

// One decoder says nothing to another, though many work at one time.
func TestApart(t *testing.T) {
	r := rand.New(rand.NewSource(12))
	sources := [][][]byte{drawn(r, 30, 6), drawn(r, 30, 6), drawn(r, 31, 6), drawn(r, 31, 7)}
	var wg sync.WaitGroup
	for n, source := range sources {
		size := len(source[0])
		d, symbol := made(t, len(source), size), sender(t, source, size)
		wg.Add(1)
		go func() {
			defer wg.Done()
			for esi := len(source) + 7*n; !d.Done(); esi++ {
				if kind, err := d.Add(esi, symbol(esi)); err != nil || kind == api.Clash {
					t.Errorf("%d: %d %v", esi, kind, err)
					return
				}
			}
			if got, err := d.Source(); err != nil || !same(got, source) {
				t.Errorf("%x %v", got, err)
			}
		}()
	}
	wg.Wait()
}

// A clash in one decoder is none in another one of the same block.
func TestClashApart(t *testing.T) {
	a, b, p := made(t, 2, 1), made(t, 2, 1), of(t, 2)
	adds(t, a, 0, []byte{1}, api.Fresh)
	adds(t, b, 0, []byte{3}, api.Fresh)
	adds(t, a, 0, []byte{3}, api.Clash)
	over(t, a, p, p.L-1, 1)
	stands(t, b, p, p.L-1, nil)
	adds(t, b, 1, []byte{2}, api.Fresh)
	stands(t, b, p, p.L, [][]byte{{3}, {2}})
}
