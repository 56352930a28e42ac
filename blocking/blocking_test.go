package blocking_test

import (
	"bytes"
	"errors"
	"math"
	"math/rand"
	"slices"
	"testing"

	"geyser/api"
	"geyser/blocking"
	"geyser/fault"
)

// The calls' signatures are the chapter's.
var (
	_ func(int, int, int) (api.Plan, error)      = blocking.Of
	_ func(api.Plan) error                       = blocking.Check
	_ func(api.Plan, int) (int, error)           = blocking.Source
	_ func([]byte, api.Plan) ([][][]byte, error) = blocking.Cut
	_ func(api.Plan, [][][]byte) ([]byte, error) = blocking.Join
)

// mostBytes is how many bytes an object has at most, of symbols and blocks as
// great as may be.
const mostBytes = api.MaxBlocks * api.MaxSource * api.MaxSymbol

// written are plans reckoned apart from the program, and by which most they are
// told: of the chapter's examples, of objects at the edges of symbols, of blocks
// and of the limits.
var written = []struct {
	most int
	plan api.Plan
}{
	{2, api.Plan{Size: 10, Symbol: 2, Blocks: 3, Long: 2, Short: 1}},
	{9, api.Plan{Size: 0, Symbol: 4, Blocks: 1, Long: 0, Short: 1}},
	{1, api.Plan{Size: 0, Symbol: 1, Blocks: 1, Long: 0, Short: 1}},
	{128, api.Plan{Size: 0, Symbol: 64, Blocks: 1, Long: 0, Short: 1}},
	{1, api.Plan{Size: 1, Symbol: 1, Blocks: 1, Long: 0, Short: 1}},
	{1, api.Plan{Size: 1, Symbol: 64, Blocks: 1, Long: 0, Short: 1}},
	{1, api.Plan{Size: 64, Symbol: 64, Blocks: 1, Long: 0, Short: 1}},
	{1, api.Plan{Size: 65, Symbol: 64, Blocks: 2, Long: 0, Short: 1}},
	{2, api.Plan{Size: 65, Symbol: 64, Blocks: 1, Long: 0, Short: 2}},
	{1, api.Plan{Size: 16, Symbol: 1, Blocks: 16, Long: 0, Short: 1}},
	{2, api.Plan{Size: 17, Symbol: 1, Blocks: 9, Long: 8, Short: 1}},
	{2, api.Plan{Size: 31, Symbol: 1, Blocks: 16, Long: 15, Short: 1}},
	{2, api.Plan{Size: 32, Symbol: 1, Blocks: 16, Long: 0, Short: 2}},
	{3, api.Plan{Size: 9, Symbol: 2, Blocks: 2, Long: 1, Short: 2}},
	{3, api.Plan{Size: 12, Symbol: 2, Blocks: 2, Long: 0, Short: 3}},
	{3, api.Plan{Size: 13, Symbol: 2, Blocks: 3, Long: 1, Short: 2}},
	{10, api.Plan{Size: 100, Symbol: 3, Blocks: 4, Long: 2, Short: 8}},
	{128, api.Plan{Size: 128, Symbol: 1, Blocks: 1, Long: 0, Short: 128}},
	{127, api.Plan{Size: 128, Symbol: 1, Blocks: 2, Long: 0, Short: 64}},
	{128, api.Plan{Size: 129, Symbol: 1, Blocks: 2, Long: 1, Short: 64}},
	{128, api.Plan{Size: 255, Symbol: 1, Blocks: 2, Long: 1, Short: 127}},
	{127, api.Plan{Size: 2032, Symbol: 1, Blocks: 16, Long: 0, Short: 127}},
	{128, api.Plan{Size: 2033, Symbol: 1, Blocks: 16, Long: 1, Short: 127}},
	{128, api.Plan{Size: 2047, Symbol: 1, Blocks: 16, Long: 15, Short: 127}},
	{128, api.Plan{Size: 2048, Symbol: 1, Blocks: 16, Long: 0, Short: 128}},
	{128, api.Plan{Size: 131008, Symbol: 64, Blocks: 16, Long: 15, Short: 127}},
	{128, api.Plan{Size: 131009, Symbol: 64, Blocks: 16, Long: 0, Short: 128}},
	{128, api.Plan{Size: 131072, Symbol: 64, Blocks: 16, Long: 0, Short: 128}},
}

// ranges are plans of which a number is out of its range, whatever else is
// wrong.
var ranges = []api.Plan{
	{},
	{Size: -1, Symbol: 1, Blocks: 1, Short: 1},
	{Size: -64, Symbol: 64, Blocks: 1, Short: 1},
	{Size: math.MinInt, Symbol: 1, Blocks: 1, Short: 1},
	{Size: math.MinInt, Symbol: 64},
	{Size: 1, Symbol: 0, Blocks: 1, Short: 1},
	{Size: 0, Symbol: 0, Blocks: 1, Short: 1},
	{Size: 1, Symbol: -1, Blocks: 1, Short: 1},
	{Size: 1, Symbol: 65, Blocks: 1, Short: 1},
	{Size: 65, Symbol: 65, Blocks: 1, Short: 1},
	{Size: 1, Symbol: 1<<32 + 1, Blocks: 1, Short: 1},
	{Size: 1, Symbol: math.MinInt, Blocks: 1, Short: 1},
	{Size: 1, Symbol: math.MaxInt, Blocks: 1, Short: 1},
	{Size: -1, Symbol: 1, Blocks: 17, Long: -1, Short: 0},
	{Size: 5, Symbol: 65, Blocks: 0, Long: 9, Short: 129},
	{Size: -1, Symbol: 0, Blocks: -1, Long: -1, Short: -1},
}

// forms are plans that are not right otherwise.
var forms = []api.Plan{
	// Blocks, of which no number, or one at which the symbols would be as many.
	{Size: 1, Symbol: 1, Blocks: 0, Long: 0, Short: 1},
	{Size: 1, Symbol: 1, Blocks: 0, Long: 1, Short: 1},
	{Size: 1, Symbol: 1, Blocks: -1, Long: 0, Short: 1},
	{Size: 1, Symbol: 1, Blocks: -1, Long: 2, Short: 1},
	{Size: 17, Symbol: 1, Blocks: 17, Long: 0, Short: 1},
	{Size: 18, Symbol: 1, Blocks: 17, Long: 1, Short: 1},
	{Size: 100, Symbol: 1, Blocks: 100, Long: 0, Short: 1},
	{Size: math.MaxInt, Symbol: 1, Blocks: math.MaxInt, Long: 0, Short: 1},
	{Size: 1, Symbol: 1, Blocks: math.MinInt, Long: 0, Short: 1},
	{Size: 1, Symbol: 1, Blocks: 1<<32 + 1, Long: 0, Short: 1},
	// Long.
	{Size: 3, Symbol: 1, Blocks: 2, Long: -1, Short: 2},
	{Size: 4, Symbol: 1, Blocks: 2, Long: 2, Short: 1},
	{Size: 5, Symbol: 1, Blocks: 2, Long: 3, Short: 1},
	{Size: 2, Symbol: 1, Blocks: 1, Long: 1, Short: 1},
	{Size: 32, Symbol: 1, Blocks: 16, Long: 16, Short: 1},
	{Size: 2, Symbol: 1, Blocks: 2, Long: math.MinInt, Short: 1},
	{Size: 2, Symbol: 1, Blocks: 2, Long: math.MaxInt, Short: 1},
	{Size: 2, Symbol: 1, Blocks: 2, Long: 1 << 32, Short: 1},
	// Short.
	{Size: 0, Symbol: 1, Blocks: 1, Long: 0, Short: 0},
	{Size: 0, Symbol: 1, Blocks: 2, Long: 1, Short: 0},
	{Size: 15, Symbol: 1, Blocks: 16, Long: 15, Short: 0},
	{Size: 1, Symbol: 1, Blocks: 3, Long: 2, Short: -1},
	{Size: 129, Symbol: 1, Blocks: 1, Long: 0, Short: 129},
	{Size: 2064, Symbol: 1, Blocks: 16, Long: 0, Short: 129},
	{Size: 257, Symbol: 1, Blocks: 2, Long: 1, Short: 128},
	{Size: 2063, Symbol: 1, Blocks: 16, Long: 15, Short: 128},
	{Size: math.MaxInt, Symbol: 1, Blocks: 1, Long: 0, Short: math.MaxInt},
	{Size: 1, Symbol: 1, Blocks: 2, Long: 1, Short: math.MaxInt},
	{Size: 1, Symbol: 1, Blocks: 2, Long: 1, Short: math.MinInt},
	{Size: 1, Symbol: 1, Blocks: 1, Long: 0, Short: 1<<32 + 1},
	{Size: 1, Symbol: 1, Blocks: 16, Long: 1, Short: 1 << 60},
	{Size: math.MaxInt, Symbol: 1, Blocks: 3, Long: 2, Short: math.MaxInt},
	{Size: math.MaxInt - 1, Symbol: 1, Blocks: 3, Long: 1, Short: math.MaxInt},
	// As many symbols as the object has not.
	{Size: 0, Symbol: 1, Blocks: 1, Long: 0, Short: 2},
	{Size: 0, Symbol: 1, Blocks: 2, Long: 0, Short: 1},
	{Size: 1, Symbol: 1, Blocks: 1, Long: 0, Short: 2},
	{Size: 2, Symbol: 1, Blocks: 1, Long: 0, Short: 1},
	{Size: 3, Symbol: 2, Blocks: 1, Long: 0, Short: 1},
	{Size: 4, Symbol: 2, Blocks: 1, Long: 0, Short: 1},
	{Size: 4, Symbol: 2, Blocks: 1, Long: 0, Short: 4},
	{Size: 10, Symbol: 2, Blocks: 3, Long: 1, Short: 1},
	{Size: 10, Symbol: 2, Blocks: 3, Long: 0, Short: 2},
	{Size: 11, Symbol: 2, Blocks: 3, Long: 2, Short: 1},
	{Size: 8, Symbol: 2, Blocks: 3, Long: 2, Short: 1},
	{Size: mostBytes + 1, Symbol: 64, Blocks: 16, Long: 0, Short: 128},
	{Size: mostBytes + 64, Symbol: 64, Blocks: 16, Long: 0, Short: 128},
	{Size: math.MaxInt, Symbol: 64, Blocks: 16, Long: 0, Short: 128},
	{Size: math.MaxInt, Symbol: 2, Blocks: 1, Long: 0, Short: 1},
	{Size: math.MaxInt - 1, Symbol: 64, Blocks: 16, Long: 0, Short: 128},
	{Size: 1<<32 + 1, Symbol: 1, Blocks: 1, Long: 0, Short: 1},
	{Size: 1 << 32, Symbol: 1, Blocks: 1, Long: 0, Short: 1},
}

// refused says whether err is just a Fault of that call round that number.
func refused(t *testing.T, err error, call string, n api.Errno) {
	t.Helper()
	f, ok := err.(*api.Fault)
	if !ok || f == nil {
		t.Fatalf("%#v is no Fault", err)
	}
	if f.Call != call || fault.Num(err) != n || !errors.Is(err, n) {
		t.Errorf("%q %d, not %q %d", f.Call, fault.Num(err), call, n)
	}
}

// fine ends the test, if err is one.
func fine(t *testing.T, err error) {
	t.Helper()
	if err != nil {
		t.Fatalf("%v %d", err, fault.Num(err))
	}
}

// of is Of of what may be.
func of(t *testing.T, size, symbol, most int) api.Plan {
	t.Helper()
	p, err := blocking.Of(size, symbol, most)
	if err != nil {
		t.Fatalf("Of(%d, %d, %d): %v %d", size, symbol, most, err, fault.Num(err))
	}
	return p
}

// source is Source of a block of p.
func source(t *testing.T, p api.Plan, block int) int {
	t.Helper()
	n, err := blocking.Source(p, block)
	if err != nil {
		t.Fatalf("Source(%v, %d): %v %d", p, block, err, fault.Num(err))
	}
	return n
}

// cut is Cut of an object of p.
func cut(t *testing.T, obj []byte, p api.Plan) [][][]byte {
	t.Helper()
	blocks, err := blocking.Cut(obj, p)
	if err != nil {
		t.Fatalf("Cut of %d bytes by %v: %v %d", len(obj), p, err, fault.Num(err))
	}
	return blocks
}

// join is Join of blocks of p.
func join(t *testing.T, p api.Plan, blocks [][][]byte) []byte {
	t.Helper()
	obj, err := blocking.Join(p, blocks)
	if err != nil {
		t.Fatalf("Join by %v: %v %d", p, err, fault.Num(err))
	}
	return obj
}

// joinRefused says whether Join refuses them by ErrForm.
func joinRefused(t *testing.T, p api.Plan, blocks [][][]byte) {
	t.Helper()
	obj, err := blocking.Join(p, blocks)
	refused(t, err, "blocking.Join", api.ErrForm)
	if len(obj) != 0 {
		t.Errorf("%x beside an error", obj)
	}
}

// drawn is an object of n bytes, none of them 0, so that none is as what it is
// filled up with.
func drawn(r *rand.Rand, n int) []byte {
	obj := make([]byte, n)
	for i := range obj {
		obj[i] = byte(1 + r.Intn(255))
	}
	return obj
}

// same says whether both have the same symbols in the same blocks.
func same(a, b [][][]byte) bool {
	return slices.EqualFunc(a, b, func(x, y [][]byte) bool { return slices.EqualFunc(x, y, bytes.Equal) })
}

// copied is blocks in new memory.
func copied(blocks [][][]byte) [][][]byte {
	other := make([][][]byte, len(blocks))
	for i, block := range blocks {
		other[i] = make([][]byte, len(block))
		for j, s := range block {
			other[i][j] = bytes.Clone(s)
		}
	}
	return other
}

// total is of how many symbols an object is made, counted one by one.
func total(size, symbol int) int {
	n := 1
	for n*symbol < size {
		n++
	}
	return n
}

// model is the plan, its blocks counted and its symbols dealt out one by one;
// false, if there would be too many blocks.
func model(size, symbol, most int) (api.Plan, bool) {
	n := total(size, symbol)
	blocks := 1
	for blocks*most < n {
		blocks++
	}
	if blocks > api.MaxBlocks {
		return api.Plan{}, false
	}
	dealt := make([]int, blocks)
	for i := range n {
		dealt[i%blocks]++
	}
	p := api.Plan{Size: size, Symbol: symbol, Blocks: blocks, Short: dealt[blocks-1]}
	for _, d := range dealt {
		p.Long += d - p.Short
	}
	return p, true
}

// right says whether p is, as P14.1 lists it, of a Size and a Symbol in their
// range.
func right(p api.Plan) bool {
	greatest := p.Short
	if p.Long != 0 {
		greatest = p.Short + 1
	}
	return 1 <= p.Blocks && p.Blocks <= 16 && 0 <= p.Long && p.Long <= p.Blocks-1 &&
		1 <= p.Short && greatest <= 128 && p.Blocks*p.Short+p.Long == total(p.Size, p.Symbol)
}

// held says whether Of tells what the model tells.
func held(t *testing.T, size, symbol, most int) {
	t.Helper()
	want, ok := model(size, symbol, most)
	p, err := blocking.Of(size, symbol, most)
	if !ok {
		refused(t, err, "blocking.Of", api.ErrLong)
	} else if err != nil {
		t.Fatalf("Of(%d, %d, %d): %v %d", size, symbol, most, err, fault.Num(err))
	}
	if p != want {
		t.Fatalf("Of(%d, %d, %d): %v, not %v", size, symbol, most, p, want)
	}
}

// The chapter's examples.
func TestExamples(t *testing.T) {
	p := of(t, 10, 2, 2)
	if want := (api.Plan{Size: 10, Symbol: 2, Blocks: 3, Long: 2, Short: 1}); p != want {
		t.Errorf("%v, not %v", p, want)
	}
	for block, want := range []int{2, 2, 1} {
		if n := source(t, p, block); n != want {
			t.Errorf("block %d: %d symbols, not %d", block, n, want)
		}
	}
	if p := of(t, 0, 4, 9); p != (api.Plan{Size: 0, Symbol: 4, Blocks: 1, Long: 0, Short: 1}) {
		t.Errorf("%v", p)
	}
	if n := source(t, of(t, 0, 4, 9), 0); n != 1 {
		t.Errorf("%d symbols", n)
	}
}

// P14.1: Of tells plans that were reckoned apart.
func TestOf(t *testing.T) {
	for _, w := range written {
		if p := of(t, w.plan.Size, w.plan.Symbol, w.most); p != w.plan {
			t.Errorf("most %d: %v, not %v", w.most, p, w.plan)
		}
	}
}

// P14.1: Of tells what is counted one by one, of small objects and such at the
// edges of the last block that may be.
func TestOfCounted(t *testing.T) {
	for _, symbol := range []int{1, 2, 3, 7, 8, 63, 64} {
		for _, most := range []int{1, 2, 3, 5, 16, 17, 64, 127, 128} {
			for size := range 400 {
				held(t, size, symbol, most)
			}
			for blocks := 1; blocks <= api.MaxBlocks+1; blocks++ {
				for _, off := range []int{-symbol, -1, 0, 1, symbol, symbol + 1} {
					held(t, max(blocks*most*symbol+off, 0), symbol, most)
				}
			}
		}
	}
}

// P14.1: Of of any symbol's bytes and any most.
func TestOfAll(t *testing.T) {
	for symbol := 1; symbol <= api.MaxSymbol; symbol++ {
		for most := 1; most <= api.MaxSource; most++ {
			for _, size := range []int{0, 1, symbol, symbol + 1, 100, 5*most*symbol + 1, 16*most*symbol - 1, 16 * most * symbol, 16*most*symbol + 1} {
				held(t, size, symbol, most)
			}
		}
	}
}

// P14.1: a number of Of out of its range, be it that there would be too many
// blocks, too.
func TestOfRange(t *testing.T) {
	for _, c := range []struct{ size, symbol, most int }{
		{-1, 1, 1}, {-64, 64, 128}, {math.MinInt, 1, 1}, {math.MinInt, 64, 128}, {-1 << 32, 2, 2}, {-1<<32 + 1, 2, 2},
		{1, 0, 1}, {0, 0, 1}, {1, -1, 1}, {1, 65, 1}, {1, 128, 1}, {1, math.MinInt, 1}, {1, math.MaxInt, 1}, {1, 1 << 32, 1}, {1, 1<<32 + 1, 1},
		{1, 1, 0}, {0, 1, 0}, {1, 1, -1}, {1, 1, 129}, {1, 1, 256}, {1, 1, math.MinInt}, {1, 1, math.MaxInt}, {1, 1, 1 << 32}, {1, 1, 1<<32 + 1},
		{-1, 0, 0}, {-1, 65, 129}, {math.MaxInt, 0, 0}, {mostBytes + 1, 64, 129}, {mostBytes + 1, 65, 128}, {17, 1, 0}, {17, -1, 1}, {math.MaxInt, 1, 0}, {math.MaxInt, 65, 1},
	} {
		p, err := blocking.Of(c.size, c.symbol, c.most)
		refused(t, err, "blocking.Of", api.ErrRange)
		if p != (api.Plan{}) {
			t.Errorf("%v: %v beside an error", c, p)
		}
	}
}

// P14.1: more blocks than may be, however large the object.
func TestOfLong(t *testing.T) {
	for _, c := range []struct{ size, symbol, most int }{
		{17, 1, 1}, {33, 1, 2}, {16*64 + 1, 64, 1}, {2049, 1, 128}, {2033, 1, 127}, {mostBytes + 1, 64, 128}, {mostBytes + 64, 64, 128},
		{1 << 31, 64, 128}, {1 << 32, 1, 1}, {1 << 32, 64, 128}, {1<<32 + 1, 1, 1}, {1 << 38, 64, 128}, {1 << 45, 64, 128}, {1<<45 + 1, 64, 128},
		{math.MaxInt, 1, 1}, {math.MaxInt, 2, 1}, {math.MaxInt, 64, 128}, {math.MaxInt, 63, 127}, {math.MaxInt - 1, 64, 128}, {math.MaxInt - 62, 64, 128}, {math.MaxInt - 63, 64, 128}, {math.MaxInt - 64, 64, 128},
	} {
		p, err := blocking.Of(c.size, c.symbol, c.most)
		refused(t, err, "blocking.Of", api.ErrLong)
		if p != (api.Plan{}) {
			t.Errorf("%v: %v beside an error", c, p)
		}
	}
}

// P14.1: right plans, some of which no most tells, as the list asks for none.
func TestCheck(t *testing.T) {
	for _, w := range written {
		fine(t, blocking.Check(w.plan))
	}
	for _, p := range []api.Plan{
		{Size: 10, Symbol: 2, Blocks: 1, Long: 0, Short: 5},
		{Size: 10, Symbol: 2, Blocks: 2, Long: 1, Short: 2},
		{Size: 10, Symbol: 2, Blocks: 5, Long: 0, Short: 1},
		{Size: 9, Symbol: 2, Blocks: 5, Long: 0, Short: 1},
		{Size: 10, Symbol: 2, Blocks: 4, Long: 1, Short: 1},
		{Size: 17, Symbol: 1, Blocks: 16, Long: 1, Short: 1},
	} {
		fine(t, blocking.Check(p))
	}
}

// P14.1: plans of which a number is out of its range, and such that are not
// right otherwise.
func TestCheckRefused(t *testing.T) {
	for _, p := range ranges {
		refused(t, blocking.Check(p), "blocking.Check", api.ErrRange)
	}
	for _, p := range forms {
		refused(t, blocking.Check(p), "blocking.Check", api.ErrForm)
		if t.Failed() {
			t.Fatalf("%v", p)
		}
	}
}

// P14.1: all plans of small numbers are right just as the list says.
func TestCheckAll(t *testing.T) {
	sizes := []int{0, 1, 2, 3, 4, 5, 6, 7, 8, 15, 16, 17, 18, 31, 32, 33, 34, 48}
	rights := 0
	for _, size := range sizes {
		for symbol := 1; symbol <= 4; symbol++ {
			for blocks := -2; blocks <= 19; blocks++ {
				for long := -3; long <= 19; long++ {
					for short := -2; short <= 9; short++ {
						p := api.Plan{Size: size, Symbol: symbol, Blocks: blocks, Long: long, Short: short}
						err := blocking.Check(p)
						if (err == nil) != right(p) {
							t.Fatalf("%v: %v", p, err)
						}
						if err != nil {
							refused(t, err, "blocking.Check", api.ErrForm)
						} else {
							rights++
						}
					}
				}
			}
		}
	}
	if rights < len(sizes) {
		t.Errorf("%d right plans", rights)
	}
}

// P14.1: at the greatest numbers plans are right just as the list says.
func TestCheckGreat(t *testing.T) {
	for size := mostBytes - 66; size <= mostBytes+66; size++ {
		for _, symbol := range []int{63, 64} {
			for blocks := 15; blocks <= 17; blocks++ {
				for _, long := range []int{0, 1, 14, 15, 16} {
					for short := 126; short <= 130; short++ {
						p := api.Plan{Size: size, Symbol: symbol, Blocks: blocks, Long: long, Short: short}
						if err := blocking.Check(p); (err == nil) != right(p) {
							t.Fatalf("%v: %v", p, err)
						}
					}
				}
			}
		}
	}
}

// P14.1: a plan that is right is so no more with any one number changed, but
// the Size within its last symbol.
func TestCheckChanged(t *testing.T) {
	for _, w := range written {
		for _, by := range []int{-1000, -3, -2, -1, 1, 2, 3, 1000, 1 << 32, math.MinInt} {
			for field := range 4 {
				p := w.plan
				*[]*int{&p.Blocks, &p.Long, &p.Short, &p.Size}[field] += by
				err := blocking.Check(p)
				if p.Size < 0 {
					refused(t, err, "blocking.Check", api.ErrRange)
				} else if field == 3 && (max(p.Size, 1)-1)/p.Symbol == (max(w.plan.Size, 1)-1)/p.Symbol {
					fine(t, err)
				} else {
					refused(t, err, "blocking.Check", api.ErrForm)
				}
				if t.Failed() {
					t.Fatalf("%v, of %v", p, w.plan)
				}
			}
		}
	}
}

// P14.2: the first Long blocks have Short + 1 symbols, all others Short.
func TestSource(t *testing.T) {
	for _, w := range written {
		for block := range w.plan.Blocks {
			want := w.plan.Short
			if block < w.plan.Long {
				want++
			}
			if n := source(t, w.plan, block); n != want {
				t.Errorf("%v: block %d has %d, not %d", w.plan, block, n, want)
			}
		}
	}
	p := of(t, 100, 3, 10)
	for block, want := range []int{9, 9, 8, 8} {
		if n := source(t, p, block); n != want {
			t.Errorf("block %d has %d, not %d", block, n, want)
		}
	}
}

// P14.2: Source of a plan that is not right, whatever the block, and of a block
// that there is not.
func TestSourceRefused(t *testing.T) {
	for _, w := range written {
		b := w.plan.Blocks
		for _, block := range []int{math.MinInt, math.MinInt + 1, -1 << 32, -b, -1, b, b + 1, 16, 17, 1 << 32, 1<<32 + b - 1, math.MaxInt} {
			n, err := blocking.Source(w.plan, block)
			refused(t, err, "blocking.Source", api.ErrRange)
			if n != 0 {
				t.Errorf("%v: %d beside an error", w.plan, n)
			}
		}
	}
	for _, block := range []int{math.MinInt, -1, 0, 1, 15, 16, math.MaxInt} {
		for _, p := range ranges {
			n, err := blocking.Source(p, block)
			refused(t, err, "blocking.Source", api.ErrRange)
			if n != 0 {
				t.Errorf("%v: %d beside an error", p, n)
			}
		}
		for _, p := range forms {
			n, err := blocking.Source(p, block)
			refused(t, err, "blocking.Source", api.ErrForm)
			if n != 0 {
				t.Errorf("%v: %d beside an error", p, n)
			}
		}
	}
}

// P14.2: Cut tells the blocks in order, filled up with bytes 0.
func TestCut(t *testing.T) {
	for _, c := range []struct {
		obj  string
		plan api.Plan
		want [][]string
	}{
		{"", api.Plan{Size: 0, Symbol: 1, Blocks: 1, Short: 1}, [][]string{{"\x00"}}},
		{"", api.Plan{Size: 0, Symbol: 3, Blocks: 1, Short: 1}, [][]string{{"\x00\x00\x00"}}},
		{"a", api.Plan{Size: 1, Symbol: 1, Blocks: 1, Short: 1}, [][]string{{"a"}}},
		{"a", api.Plan{Size: 1, Symbol: 2, Blocks: 1, Short: 1}, [][]string{{"a\x00"}}},
		{"ab", api.Plan{Size: 2, Symbol: 1, Blocks: 1, Short: 2}, [][]string{{"a", "b"}}},
		{"ab", api.Plan{Size: 2, Symbol: 1, Blocks: 2, Short: 1}, [][]string{{"a"}, {"b"}}},
		{"abcdefghij", api.Plan{Size: 10, Symbol: 2, Blocks: 3, Long: 2, Short: 1}, [][]string{{"ab", "cd"}, {"ef", "gh"}, {"ij"}}},
		{"abcdefghi", api.Plan{Size: 9, Symbol: 2, Blocks: 3, Long: 2, Short: 1}, [][]string{{"ab", "cd"}, {"ef", "gh"}, {"i\x00"}}},
		{"abcdefgh", api.Plan{Size: 8, Symbol: 3, Blocks: 2, Long: 1, Short: 1}, [][]string{{"abc", "def"}, {"gh\x00"}}},
		{"abcdefg", api.Plan{Size: 7, Symbol: 3, Blocks: 1, Long: 0, Short: 3}, [][]string{{"abc", "def", "g\x00\x00"}}},
		{"abcde", api.Plan{Size: 5, Symbol: 1, Blocks: 4, Long: 1, Short: 1}, [][]string{{"a", "b"}, {"c"}, {"d"}, {"e"}}},
		{"\x00\x00\x00", api.Plan{Size: 3, Symbol: 2, Blocks: 1, Short: 2}, [][]string{{"\x00\x00", "\x00\x00"}}},
	} {
		var want [][][]byte
		for _, block := range c.want {
			var symbols [][]byte
			for _, s := range block {
				symbols = append(symbols, []byte(s))
			}
			want = append(want, symbols)
		}
		if blocks := cut(t, []byte(c.obj), c.plan); !same(blocks, want) {
			t.Errorf("%q by %v: %q, not %q", c.obj, c.plan, blocks, want)
		}
		if obj := join(t, c.plan, want); string(obj) != c.obj {
			t.Errorf("%q by %v: %q", want, c.plan, obj)
		}
	}
	// No list is as one without elements.
	if blocks := cut(t, nil, of(t, 0, 2, 1)); !same(blocks, [][][]byte{{{0, 0}}}) {
		t.Errorf("%x", blocks)
	}
}

// P14.2: Cut of a plan that is not right, whatever the object; of an object of
// other bytes than the plan says, be it of as many symbols.
func TestCutRefused(t *testing.T) {
	for _, n := range []int{0, 1, 5, 10, 64, 2048} {
		for _, p := range ranges {
			blocks, err := blocking.Cut(make([]byte, n), p)
			refused(t, err, "blocking.Cut", api.ErrRange)
			if len(blocks) != 0 {
				t.Errorf("%x beside an error", blocks)
			}
		}
		for _, p := range forms {
			blocks, err := blocking.Cut(make([]byte, n), p)
			refused(t, err, "blocking.Cut", api.ErrForm)
			if len(blocks) != 0 {
				t.Errorf("%x beside an error", blocks)
			}
		}
	}
	for _, w := range written {
		for _, n := range []int{0, w.plan.Size - w.plan.Symbol, w.plan.Size - 1, w.plan.Size + 1, w.plan.Size + w.plan.Symbol, 2*w.plan.Size + 1} {
			if n < 0 || n == w.plan.Size {
				continue
			}
			blocks, err := blocking.Cut(make([]byte, n), w.plan)
			refused(t, err, "blocking.Cut", api.ErrForm)
			if len(blocks) != 0 {
				t.Errorf("%v: %x beside an error", w.plan, blocks)
			}
		}
	}
	_, err := blocking.Cut(nil, of(t, 1, 1, 1))
	refused(t, err, "blocking.Cut", api.ErrForm)
}

// P14.2: Join of a plan that is not right, whatever the blocks.
func TestJoinPlanRefused(t *testing.T) {
	for _, blocks := range [][][][]byte{nil, {}, {{}}, {{{1}}}, {{{}}}, {{{0}, {0}}, {{0}}}, make([][][]byte, 17)} {
		for _, p := range ranges {
			obj, err := blocking.Join(p, blocks)
			refused(t, err, "blocking.Join", api.ErrRange)
			if len(obj) != 0 {
				t.Errorf("%x beside an error", obj)
			}
		}
		for _, p := range forms {
			joinRefused(t, p, blocks)
		}
	}
}

// P14.2: Join of other blocks, symbols and bytes than the plan says.
func TestJoinRefused(t *testing.T) {
	r := rand.New(rand.NewSource(141))
	for _, w := range written {
		p := w.plan
		blocks := cut(t, drawn(r, p.Size), p)
		joinRefused(t, p, nil)
		joinRefused(t, p, make([][][]byte, p.Blocks))
		joinRefused(t, p, blocks[1:])
		joinRefused(t, p, blocks[:p.Blocks-1])
		joinRefused(t, p, append(copied(blocks), nil))
		joinRefused(t, p, append(copied(blocks), [][]byte{}))
		joinRefused(t, p, append(copied(blocks), blocks[p.Blocks-1]))
		for i := range blocks {
			last := len(blocks[i]) - 1
			for _, block := range [][][]byte{nil, blocks[i][1:], blocks[i][:last], append(copied(blocks)[i], nil), append(copied(blocks)[i], make([]byte, p.Symbol))} {
				other := copied(blocks)
				other[i] = block
				joinRefused(t, p, other)
			}
			for _, j := range []int{0, last / 2, last} {
				for _, s := range [][]byte{nil, blocks[i][j][1:], append(bytes.Clone(blocks[i][j]), 0), make([]byte, 2*p.Symbol)} {
					other := copied(blocks)
					other[i][j] = s
					joinRefused(t, p, other)
				}
			}
		}
		if obj := join(t, p, copied(blocks)); len(obj) != p.Size {
			t.Errorf("%v: %x", p, obj)
		}
	}
}

// P14.2: blocks of as many symbols and bytes in all as the plan says, but not
// of as many each.
func TestJoinMoved(t *testing.T) {
	p := of(t, 10, 2, 2)
	a, b, c, d, e := []byte("ab"), []byte("cd"), []byte("ef"), []byte("gh"), []byte("ij")
	if obj := join(t, p, [][][]byte{{a, b}, {c, d}, {e}}); string(obj) != "abcdefghij" {
		t.Errorf("%q", obj)
	}
	for _, blocks := range [][][][]byte{
		{{a}, {b, c}, {d, e}},
		{{a, b}, {c}, {d, e}},
		{{a, b, c}, {d}, {e}},
		{{a, b, c}, {d, e}, {}},
		{{a, b, c, d, e}, nil, nil},
		{{a, b, c, d, e}},
		{{a, b}, {c, d, e}},
		{{a}, {b}, {c}, {d}, {e}},
		{{a, b}, {c, d}, {e}, {}},
		{{a, []byte("c")}, {c, []byte("dgh")}, {e}},
		{{[]byte("a"), []byte("bcd")}, {c, d}, {e}},
		{{a, b}, {c, d}, {[]byte("i"), []byte("j")}},
		{{[]byte("abcd"), nil}, {c, d}, {e}},
	} {
		joinRefused(t, p, blocks)
	}
}

// P14.2: a byte behind the object is 0; those of the object may be any.
func TestJoinBehind(t *testing.T) {
	r := rand.New(rand.NewSource(142))
	for _, c := range []struct{ size, symbol, most int }{{0, 1, 1}, {0, 64, 128}, {1, 64, 1}, {5, 4, 2}, {9, 2, 2}, {63, 64, 1}, {65, 64, 1}, {100, 7, 3}, {mostBytes - 63, 64, 128}, {mostBytes - 1, 64, 128}} {
		p := of(t, c.size, c.symbol, c.most)
		obj := drawn(r, p.Size)
		blocks := cut(t, obj, p)
		last := blocks[p.Blocks-1][p.Short-1]
		behind := total(p.Size, p.Symbol)*p.Symbol - p.Size
		if behind == 0 || !bytes.Equal(last[p.Symbol-behind:], make([]byte, behind)) {
			t.Fatalf("%v: %x", p, last)
		}
		for i := p.Symbol - behind; i < p.Symbol; i++ {
			for _, b := range []byte{1, 0x80, 0xff} {
				last[i] = b
				joinRefused(t, p, blocks)
			}
			last[i] = 0
		}
		if got := join(t, p, blocks); !bytes.Equal(got, obj) {
			t.Errorf("%v: %x, not %x", p, got, obj)
		}
		if p.Size > 0 {
			obj[p.Size-1], obj[0] = 0, 0
			if got := join(t, p, cut(t, obj, p)); !bytes.Equal(got, obj) {
				t.Errorf("%v: %x, not %x", p, got, obj)
			}
		}
	}
}

// backAndForth says whether the blocks of an object are its bytes in order,
// filled up with bytes 0, and joined the object.
func backAndForth(t *testing.T, obj []byte, p api.Plan) {
	t.Helper()
	blocks := cut(t, obj, p)
	if len(blocks) != p.Blocks {
		t.Fatalf("%v: %d blocks", p, len(blocks))
	}
	var all []byte
	for i, block := range blocks {
		if len(block) != source(t, p, i) {
			t.Fatalf("%v: %d symbols in block %d", p, len(block), i)
		}
		for _, s := range block {
			if len(s) != p.Symbol {
				t.Fatalf("%v: a symbol %x in block %d", p, s, i)
			}
			all = append(all, s...)
		}
	}
	filled := make([]byte, total(p.Size, p.Symbol)*p.Symbol)
	copy(filled, obj)
	if !bytes.Equal(all, filled) {
		t.Fatalf("%v: %x, not %x", p, all, filled)
	}
	if got := join(t, p, blocks); !bytes.Equal(got, obj) {
		t.Fatalf("%v: %x, not %x", p, got, obj)
	}
}

// P14.3: Join of Cut is the object.
func TestBackAndForth(t *testing.T) {
	r := rand.New(rand.NewSource(143))
	for _, w := range written {
		backAndForth(t, drawn(r, w.plan.Size), w.plan)
		backAndForth(t, make([]byte, w.plan.Size), w.plan)
	}
	for size := range 200 {
		for range 5 {
			symbol := 1 + r.Intn(api.MaxSymbol)
			most := (total(size, symbol)+api.MaxBlocks-1)/api.MaxBlocks + r.Intn(20)
			backAndForth(t, drawn(r, size), of(t, size, symbol, min(most, api.MaxSource)))
		}
	}
	for blocks := 1; blocks <= api.MaxBlocks; blocks++ {
		for long := range blocks {
			for _, short := range []int{1, 2, 126, 127} {
				p := api.Plan{Symbol: 3, Blocks: blocks, Long: long, Short: short}
				for behind := range 3 {
					p.Size = 3*(blocks*short+long) - behind
					backAndForth(t, drawn(r, p.Size), p)
				}
			}
		}
	}
}

// P14.4: a plan that Of tells is right; its blocks have unlike numbers of symbols
// by at most one, at most most, and all the object's; no fewer blocks would do.
func TestPlansAreRight(t *testing.T) {
	for _, symbol := range []int{1, 2, 5, 64} {
		for most := 1; most <= api.MaxSource; most++ {
			sizes := []int{0, 1, symbol, symbol + 1}
			for blocks := 1; blocks <= api.MaxBlocks; blocks++ {
				whole := blocks * most * symbol
				sizes = append(sizes, whole-1, whole, max(whole-most*symbol, 0)+1, whole-symbol/2)
			}
			for _, size := range sizes {
				p := of(t, size, symbol, most)
				fine(t, blocking.Check(p))
				if p.Size != size || p.Symbol != symbol || !right(p) {
					t.Fatalf("Of(%d, %d, %d): %v", size, symbol, most, p)
				}
				all, least, greatest := 0, math.MaxInt, 0
				for block := range p.Blocks {
					n := source(t, p, block)
					all, least, greatest = all+n, min(least, n), max(greatest, n)
				}
				if all != total(size, symbol) || greatest-least > 1 || greatest > most {
					t.Fatalf("Of(%d, %d, %d): %v: %d symbols, from %d to %d", size, symbol, most, p, all, least, greatest)
				}
				if (p.Blocks-1)*most >= all {
					t.Fatalf("Of(%d, %d, %d): %v: fewer blocks would do", size, symbol, most, p)
				}
			}
		}
	}
}

// Rule 3: what is handed in, and what lies behind its end, stays as it was.
func TestNothingIsChanged(t *testing.T) {
	room := []byte("abcdefghijkl")
	p := of(t, 9, 2, 2)
	blocks := cut(t, room[:9], p)
	if string(room) != "abcdefghijkl" {
		t.Errorf("%q", room)
	}
	if s := blocks[2][0]; string(s) != "i\x00" {
		t.Errorf("%q: filled up with what lies behind the end", s)
	}
	symbols := []byte("abcdefghi\x00xyz")
	one, two, three := [][]byte{symbols[0:2], symbols[2:4], {9}}, [][]byte{symbols[4:6], symbols[6:8], {9}}, [][]byte{symbols[8:10], {9}}
	list := [][][]byte{one[:2], two[:2], three[:1], {{9}}}
	if obj := join(t, p, list[:3]); string(obj) != "abcdefghi" {
		t.Errorf("%q", obj)
	}
	if string(symbols) != "abcdefghi\x00xyz" || one[2][0] != 9 || two[2][0] != 9 || three[1][0] != 9 || list[3][0][0] != 9 {
		t.Errorf("%q %x %x %x %x", symbols, one, two, three, list)
	}
}

// Rule 3: what Cut answers is new memory, and no two lists of it share any.
func TestBlocksAreNew(t *testing.T) {
	obj := []byte("abcdefghij")
	p := of(t, 10, 2, 2)
	want := copied(cut(t, obj, p))
	blocks := cut(t, obj, p)
	for _, block := range blocks {
		for _, s := range block {
			_ = append(s, "******"...)
		}
		_ = append(block, nil, nil, nil)
	}
	_ = append(blocks, nil, nil)
	if !same(blocks, want) || string(obj) != "abcdefghij" {
		t.Errorf("%q, not %q, of %q", blocks, want, obj)
	}
	for i, block := range blocks {
		for j, s := range block {
			s[0], s[1] = '*', '*'
			want[i][j][0], want[i][j][1] = '*', '*'
			if !same(blocks, want) || string(obj) != "abcdefghij" {
				t.Fatalf("%q, not %q, of %q", blocks, want, obj)
			}
		}
	}
	want = [][][]byte{{[]byte("ab"), []byte("cd")}, {[]byte("ef"), []byte("gh")}, {[]byte("ij")}}
	if other := cut(t, obj, p); !same(other, want) {
		t.Errorf("%q, not %q", other, want)
	}
}

// Rule 3: what Join answers is new memory, be there one symbol or more.
func TestObjectIsNew(t *testing.T) {
	for _, size := range []int{0, 1, 2, 3, 4, 9, 10} {
		p := of(t, size, 4, 2)
		obj := []byte("abcdefghij")[:size]
		blocks := cut(t, obj, p)
		want := copied(blocks)
		got := join(t, p, blocks)
		_ = append(got, "******"...)
		for i := range got {
			got[i] = '*'
		}
		if !same(blocks, want) {
			t.Errorf("%q, not %q", blocks, want)
		}
		if again := join(t, p, blocks); !bytes.Equal(again, obj) {
			t.Errorf("%q, not %q", again, obj)
		}
		kept := join(t, p, blocks)
		for _, block := range blocks {
			for _, s := range block {
				clear(s)
			}
		}
		if !bytes.Equal(kept, obj) {
			t.Errorf("%q, not %q", kept, obj)
		}
	}
}
