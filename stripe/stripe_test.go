package stripe_test

import (
	"errors"
	"math"
	"math/rand"
	"slices"
	"strconv"
	"strings"
	"sync"
	"testing"

	"geyser/api"
	"geyser/fault"
	"geyser/stripe"
)

// The calls' signatures are the chapter's.
var (
	_ func(int, int) (int, error)                = stripe.Reverse
	_ func(int, int) int                         = stripe.Rate
	_ func(int, int, uint32) ([]int, error)      = stripe.Chunks
	_ func(int, int, uint32) (int, int, error)   = stripe.Level
	_ func(int, int, int, uint32) ([]int, error) = stripe.Esis
)

// lastStep is the step behind which steps begin anew.
const lastStep uint32 = math.MaxUint32

// written are the chunks of all layers, of g, in the steps from 0 on, laid by
// hand: of 3 layers they are the chapter's example's.
var written = []struct {
	g     int
	steps [][][]int
}{
	{1, [][][]int{{{0}}}},
	{2, [][][]int{{{0}, {1}}, {{1}, {0}}}},
	{3, [][][]int{
		{{0}, {1}, {2, 3}},
		{{2}, {3}, {0, 1}},
		{{1}, {0}, {2, 3}},
		{{3}, {2}, {0, 1}},
	}},
	{4, [][][]int{
		{{0}, {1}, {2, 3}, {4, 5, 6, 7}},
		{{4}, {5}, {6, 7}, {0, 1, 2, 3}},
		{{2}, {3}, {0, 1}, {4, 5, 6, 7}},
		{{6}, {7}, {4, 5}, {0, 1, 2, 3}},
		{{1}, {0}, {2, 3}, {4, 5, 6, 7}},
		{{5}, {4}, {6, 7}, {0, 1, 2, 3}},
		{{3}, {2}, {0, 1}, {4, 5, 6, 7}},
		{{7}, {6}, {4, 5}, {0, 1, 2, 3}},
	}},
}

// rates are the layers' of api.MaxLayers.
var rates = []int{1, 1, 2, 4, 8, 16, 32, 64}

// noLayers are pairs of g and a layer that there is not: at the ends of both
// ranges, far behind them, and such as have a right one's lowest bits.
var noLayers = [][2]int{
	{0, 0}, {-1, 0}, {-1, -1}, {9, 0}, {9, 8}, {10, 3}, {16, 1}, {64, 0}, {65, 64},
	{1, 1}, {1, -1}, {2, 2}, {3, 3}, {3, 4}, {7, 7}, {8, 8}, {8, 9}, {8, -1}, {8, 64}, {4, -2},
	{1<<32 + 3, 1}, {3, 1<<32 + 1}, {1<<32 + 3, 1<<32 + 1}, {-1<<32 + 3, 1}, {3, -1 << 32}, {256 + 3, 1}, {3, 256}, {1 << 16, 0},
	{math.MinInt, 0}, {math.MinInt, math.MinInt}, {math.MinInt + 1, 0}, {math.MaxInt, 0}, {math.MaxInt, math.MaxInt - 1},
	{8, math.MinInt}, {8, math.MinInt + 1}, {8, math.MaxInt}, {8, math.MaxInt - 1}, {0, math.MinInt}, {0, math.MaxInt},
}

// refused says whether err is just a Fault of that call round that number.
func refused(t *testing.T, err error, call string, n api.Errno) {
	t.Helper()
	f, ok := err.(*api.Fault)
	if !ok || f == nil {
		t.Fatalf("%#v is no Fault", err)
	}
	if f.Call != call || fault.Num(err) != n || !errors.Is(err, n) {
		t.Errorf("%q %d, not %q %d", f.Call, fault.Num(err), call, n)
	}
}

// fine ends the test, if err is one.
func fine(t *testing.T, err error) {
	t.Helper()
	if err != nil {
		t.Fatalf("%v %d", err, fault.Num(err))
	}
}

// reverse is Reverse of a number of so many bits.
func reverse(t *testing.T, v, bits int) int {
	t.Helper()
	r, err := stripe.Reverse(v, bits)
	fine(t, err)
	return r
}

// chunks is Chunks of a layer that there is.
func chunks(t *testing.T, g, layer int, step uint32) []int {
	t.Helper()
	l, err := stripe.Chunks(g, layer, step)
	fine(t, err)
	return l
}

// level is Level of a level that there is, number by number.
func level(t *testing.T, g, n int, step uint32) []int {
	t.Helper()
	least, many, err := stripe.Level(g, n, step)
	fine(t, err)
	l := make([]int, many)
	for i := range l {
		l[i] = least + i
	}
	return l
}

// esis is Esis of numbers that may be.
func esis(t *testing.T, g, n, layer int, step uint32) []int {
	t.Helper()
	l, err := stripe.Esis(g, n, layer, step)
	fine(t, err)
	return l
}

// reverseRefused says whether Reverse refuses them.
func reverseRefused(t *testing.T, v, bits int) {
	t.Helper()
	r, err := stripe.Reverse(v, bits)
	if err == nil {
		t.Fatalf("Reverse(%d, %d): %d", v, bits, r)
	}
	refused(t, err, "stripe.Reverse", api.ErrRange)
	if r != 0 {
		t.Errorf("Reverse(%d, %d): %d beside an error", v, bits, r)
	}
}

// esisRefused says whether Esis refuses them by that number.
func esisRefused(t *testing.T, g, n, layer int, step uint32, number api.Errno) {
	t.Helper()
	l, err := stripe.Esis(g, n, layer, step)
	if err == nil {
		t.Fatalf("Esis(%d, %d, %d, %d): %v", g, n, layer, step, l)
	}
	refused(t, err, "stripe.Esis", number)
	if len(l) != 0 {
		t.Errorf("Esis(%d, %d, %d, %d): %v beside an error", g, n, layer, step, l)
	}
}

// mirrored is v reversed in so many bits, by its digits.
func mirrored(v, bits int) int {
	if bits == 0 {
		return 0
	}
	digits := strconv.FormatInt(int64(v), 2)
	digits = strings.Repeat("0", bits-len(digits)) + digits
	l := []byte(digits)
	slices.Reverse(l)
	n, err := strconv.ParseInt(string(l), 2, 64)
	if err != nil {
		panic(err)
	}
	return int(n)
}

// ofLevel is the chunks of a level that there is, rising, as the chapter's words
// tell them; none of the level -1.
func ofLevel(g, level int, step uint32) []int {
	if level < 0 {
		return nil
	}
	period := int64(1) << (g - 1 - level)
	var l []int
	for v := range 1 << (g - 1) {
		if int64(v)%period == int64(step)%period {
			l = append(l, mirrored(v, g-1))
		}
	}
	slices.Sort(l)
	return l
}

// ofLayer is the chunks of a layer that there is, likewise.
func ofLayer(g, layer int, step uint32) []int {
	below := ofLevel(g, layer-1, step)
	return slices.DeleteFunc(ofLevel(g, layer, step), func(c int) bool { return slices.Contains(below, c) })
}

// ofChunks is the encoding symbols, of n, of these chunks of so many.
func ofChunks(chunks []int, n, many int) []int {
	var l []int
	for _, c := range chunks {
		for esi := range n {
			if esi/(n/many) == c {
				l = append(l, esi)
			}
		}
	}
	return l
}

// steps are some: all of a period of 2^(g - 1), and of one more, the first ones,
// the last ones, and some between.
func steps(g int) []uint32 {
	var l []uint32
	for i := range uint32(2 << (g - 1)) {
		l = append(l, i, lastStep-i, 1<<31-i, 1<<16+i)
	}
	r := rand.New(rand.NewSource(int64(170 + g)))
	for range 20 {
		l = append(l, r.Uint32())
	}
	return l
}

// The chapter's example, and the same of fewer layers and of more.
func TestWritten(t *testing.T) {
	for _, w := range written {
		for step, layers := range w.steps {
			for layer, want := range layers {
				for _, s := range []uint32{uint32(step), uint32(step + len(w.steps)), uint32(step) - uint32(len(w.steps)), uint32(step) + 1<<31} {
					if l := chunks(t, w.g, layer, s); !slices.Equal(l, want) {
						t.Errorf("Chunks(%d, %d, %d): %v, not %v", w.g, layer, s, l, want)
					}
				}
			}
		}
	}
}

// P17.1: numbers reversed by hand.
func TestReverse(t *testing.T) {
	for _, c := range []struct{ v, bits, want int }{
		{0, 0, 0}, {0, 1, 0}, {1, 1, 1}, {0, 2, 0}, {1, 2, 2}, {2, 2, 1}, {3, 2, 3},
		{1, 3, 4}, {2, 3, 2}, {3, 3, 6}, {6, 3, 3}, {1, 7, 64}, {64, 7, 1}, {0x13, 7, 0x64},
		{0x01, 8, 0x80}, {0x35, 8, 0xac}, {0x80, 8, 0x01}, {1, 15, 0x4000}, {0x7fff, 15, 0x7fff},
		{0, 16, 0}, {1, 16, 0x8000}, {0x8000, 16, 1}, {0x1234, 16, 0x2c48}, {0xfffe, 16, 0x7fff}, {0xffff, 16, 0xffff},
	} {
		if r := reverse(t, c.v, c.bits); r != c.want {
			t.Errorf("Reverse(%d, %d): %d, not %d", c.v, c.bits, r, c.want)
		}
	}
}

// P17.1 and P17.5: all numbers of all bits against their digits; reversed twice
// they are what they were.
func TestReverseAll(t *testing.T) {
	for bits := range 17 {
		for v := range 1 << bits {
			r := reverse(t, v, bits)
			if want := mirrored(v, bits); r != want {
				t.Fatalf("Reverse(%d, %d): %d, not %d", v, bits, r, want)
			}
			if again := reverse(t, r, bits); again != v {
				t.Fatalf("Reverse(%d, %d): %d, not %d", r, bits, again, v)
			}
		}
	}
}

// P17.1: numbers, or bits, out of their range.
func TestReverseRefused(t *testing.T) {
	far := []int{math.MinInt, math.MinInt + 1, -1 << 32, -1<<32 + 1, -1 << 31, 1 << 31, 1 << 32, 1<<32 + 1, math.MaxInt - 1, math.MaxInt}
	for bits := range 17 {
		for _, v := range append([]int{-1, -2, 1 << bits, 1<<bits + 1, 2 << bits, -1 << bits}, far...) {
			reverseRefused(t, v, bits)
		}
	}
	for _, bits := range append([]int{-1, -2, -16, -64, 17, 18, 31, 32, 33, 62, 63, 64, 65, 128, 256, 272}, far...) {
		for _, v := range append([]int{0, 1, -1, 2, 0xffff, 0x10000}, far...) {
			reverseRefused(t, v, bits)
		}
	}
}

// P17.1: how many chunks a layer has in a step; none, if there is no such layer.
func TestRate(t *testing.T) {
	for g := -3; g <= 20; g++ {
		for layer := -70; layer <= 70; layer++ {
			want := 0
			if 1 <= g && g <= 8 && 0 <= layer && layer < g {
				want = rates[layer]
			}
			if n := stripe.Rate(g, layer); n != want {
				t.Errorf("Rate(%d, %d): %d, not %d", g, layer, n, want)
			}
		}
	}
	for _, no := range noLayers {
		if n := stripe.Rate(no[0], no[1]); n != 0 {
			t.Errorf("Rate(%d, %d): %d", no[0], no[1], n)
		}
	}
}

// P17.2: of all layers of all g, and of all levels, the chunks are those that
// the chapter's words tell; of a layer they are as many as its rate.
func TestChunks(t *testing.T) {
	for g := 1; g <= api.MaxLayers; g++ {
		for _, step := range steps(g) {
			for n := range g {
				l := chunks(t, g, n, step)
				if want := ofLayer(g, n, step); !slices.Equal(l, want) {
					t.Fatalf("Chunks(%d, %d, %d): %v, not %v", g, n, step, l, want)
				}
				if len(l) != stripe.Rate(g, n) {
					t.Fatalf("Chunks(%d, %d, %d): %d, not %d", g, n, step, len(l), stripe.Rate(g, n))
				}
				l = level(t, g, n, step)
				if want := ofLevel(g, n, step); !slices.Equal(l, want) {
					t.Fatalf("Level(%d, %d, %d): %v, not %v", g, n, step, l, want)
				}
			}
		}
	}
}

// P17.2: levels reckoned by hand.
func TestLevel(t *testing.T) {
	for _, c := range []struct {
		g, level    int
		step        uint32
		least, many int
	}{
		{1, 0, 0, 0, 1}, {1, 0, lastStep, 0, 1},
		{2, 0, 0, 0, 1}, {2, 0, 1, 1, 1}, {2, 0, lastStep, 1, 1}, {2, 1, 1, 0, 2},
		{3, 0, 1, 2, 1}, {3, 0, 2, 1, 1}, {3, 0, lastStep, 3, 1}, {3, 0, lastStep - 1, 1, 1},
		{3, 1, 0, 0, 2}, {3, 1, 1, 2, 2}, {3, 1, 2, 0, 2}, {3, 1, lastStep, 2, 2}, {3, 2, 3, 0, 4},
		{8, 0, 1, 64, 1}, {8, 0, 127, 127, 1}, {8, 0, 128, 0, 1}, {8, 0, 129, 64, 1},
		{8, 3, 1, 64, 8}, {8, 3, 0x6, 48, 8}, {8, 3, 0x16, 48, 8}, {8, 6, 1, 64, 64}, {8, 7, 5, 0, 128},
	} {
		least, many, err := stripe.Level(c.g, c.level, c.step)
		fine(t, err)
		if least != c.least || many != c.many {
			t.Errorf("Level(%d, %d, %d): %d %d, not %d %d", c.g, c.level, c.step, least, many, c.least, c.many)
		}
	}
}

// P17.2: layers and levels that there are not.
func TestNoLayer(t *testing.T) {
	for _, no := range noLayers {
		for _, step := range []uint32{0, 1, 5, 1 << 31, lastStep} {
			l, err := stripe.Chunks(no[0], no[1], step)
			refused(t, err, "stripe.Chunks", api.ErrRange)
			if len(l) != 0 {
				t.Errorf("Chunks(%d, %d, %d): %v beside an error", no[0], no[1], step, l)
			}
			least, many, err := stripe.Level(no[0], no[1], step)
			refused(t, err, "stripe.Level", api.ErrRange)
			if least != 0 || many != 0 {
				t.Errorf("Level(%d, %d, %d): %d %d beside an error", no[0], no[1], step, least, many)
			}
			// The range is named ahead of the form.
			for _, n := range []int{1, 3, 128, 65536, 0, -1, 65537, math.MinInt, math.MaxInt} {
				esisRefused(t, no[0], n, no[1], step, api.ErrRange)
			}
		}
	}
}

// P17.2: encoding symbols reckoned by hand.
func TestEsis(t *testing.T) {
	for _, c := range []struct {
		g, n, layer int
		step        uint32
		want        []int
	}{
		{1, 1, 0, 0, []int{0}},
		{1, 3, 0, 7, []int{0, 1, 2}},
		{2, 2, 0, 0, []int{0}},
		{2, 2, 0, 1, []int{1}},
		{2, 2, 1, 0, []int{1}},
		{2, 4, 0, 0, []int{0, 1}},
		{2, 4, 1, 0, []int{2, 3}},
		{2, 6, 1, lastStep, []int{0, 1, 2}},
		{3, 4, 2, 1, []int{0, 1}},
		{3, 4, 1, 1, []int{3}},
		{3, 12, 0, 1, []int{6, 7, 8}},
		{3, 12, 1, 2, []int{0, 1, 2}},
		{3, 12, 2, 2, []int{6, 7, 8, 9, 10, 11}},
		{3, 20, 1, lastStep, []int{10, 11, 12, 13, 14}},
		{8, 128, 0, 3, []int{96}},
		{8, 256, 1, 3, []int{194, 195}},
		{8, 384, 2, 1, []int{198, 199, 200, 201, 202, 203}},
	} {
		if l := esis(t, c.g, c.n, c.layer, c.step); !slices.Equal(l, c.want) {
			t.Errorf("Esis(%d, %d, %d, %d): %v, not %v", c.g, c.n, c.layer, c.step, l, c.want)
		}
	}
}

// P17.2: of all layers of all g the encoding symbols are those of the chunks.
func TestEsisOfChunks(t *testing.T) {
	for g := 1; g <= api.MaxLayers; g++ {
		many := 1 << (g - 1)
		for _, n := range []int{many, 2 * many, 3 * many, 7 * many} {
			for i, step := range steps(g) {
				if i%5 > 0 {
					continue
				}
				for layer := range g {
					l := esis(t, g, n, layer, step)
					if want := ofChunks(ofLayer(g, layer, step), n, many); !slices.Equal(l, want) {
						t.Fatalf("Esis(%d, %d, %d, %d): %v, not %v", g, n, layer, step, l, want)
					}
				}
			}
		}
	}
}

// P17.2: as many encoding symbols as may be, and the greatest number of them
// that is no power of 2.
func TestEsisMany(t *testing.T) {
	for g := 1; g <= api.MaxLayers; g++ {
		many := 1 << (g - 1)
		for _, n := range []int{api.MaxEsi, api.MaxEsi - many} {
			for layer := range g {
				l := esis(t, g, n, layer, lastStep)
				if len(l) != stripe.Rate(g, layer)*(n/many) || !slices.IsSorted(l) {
					t.Fatalf("Esis(%d, %d, %d): %d of them", g, n, layer, len(l))
				}
				for i, c := range ofLayer(g, layer, lastStep) {
					each := n / many
					if l[i*each] != c*each || l[i*each+each-1] != c*each+each-1 {
						t.Fatalf("Esis(%d, %d, %d): %d to %d, of the chunk %d", g, n, layer, l[i*each], l[i*each+each-1], c)
					}
				}
			}
		}
	}
}

// P17.2: how many encoding symbols there are is out of its range, though the
// chunks divide some of these numbers; or the chunks do not divide it.
func TestEsisRefused(t *testing.T) {
	for g := 1; g <= api.MaxLayers; g++ {
		many := 1 << (g - 1)
		for layer := range g {
			for _, n := range []int{0, -1, -many, -api.MaxEsi, api.MaxEsi + 1, api.MaxEsi + many, 2 * api.MaxEsi, 1 << 31, 1 << 32, 1<<32 + many, -1<<32 + many, math.MinInt, math.MinInt + 1, math.MaxInt - 1, math.MaxInt} {
				esisRefused(t, g, n, layer, 3, api.ErrRange)
			}
			for n := 1; n <= 4*many; n++ {
				if n%many > 0 {
					esisRefused(t, g, n, layer, 3, api.ErrForm)
				} else {
					esis(t, g, n, layer, 3)
				}
			}
			if many > 1 {
				for _, n := range []int{api.MaxEsi - 1, api.MaxEsi - many + 1, api.MaxEsi - many/2} {
					esisRefused(t, g, n, layer, 3, api.ErrForm)
				}
			}
		}
	}
}

// P17.3: from any step on, also where steps begin anew, the layers up to a level
// carry each encoding symbol just once in 2^(g - 1 - level) steps.
func TestOneLevel(t *testing.T) {
	for g := 1; g <= api.MaxLayers; g++ {
		many := 1 << (g - 1)
		for _, n := range []int{many, 3 * many} {
			for top := range g {
				first := []uint32{1<<31 - 3, 1000003}
				for i := range uint32(2*many + 3) {
					first = append(first, i, lastStep-i)
				}
				for _, from := range first {
					onceEach(t, g, n, top, from)
				}
			}
		}
	}
}

// onceEach says whether the layers 0 to top carry each of n encoding symbols just
// once, in as few steps as can be, from that step on.
func onceEach(t *testing.T, g, n, top int, from uint32) {
	t.Helper()
	times := make([]int, n)
	for i := range uint32(1 << (g - 1 - top)) {
		carried := 0
		for layer := range top + 1 {
			l := esis(t, g, n, layer, from+i)
			for _, esi := range l {
				times[esi]++
			}
			carried += len(l)
		}
		// As many in each step: so fewer steps can't do.
		if carried<<(g-1-top) != n {
			t.Fatalf("of %d layers, %d symbols, level %d, step %d: %d", g, n, top, from+i, carried)
		}
	}
	for esi, many := range times {
		if many != 1 {
			t.Fatalf("of %d layers, %d symbols, level %d, from %d on: %d comes %d times", g, n, top, from, esi, many)
		}
	}
}

// P17.4: in one step no two layers carry the same chunk, and all of them carry
// each; the layers up to a level carry just the level's.
func TestOneStep(t *testing.T) {
	for g := 1; g <= api.MaxLayers; g++ {
		for _, step := range steps(g) {
			var l []int
			for n := range g {
				l = append(l, chunks(t, g, n, step)...)
				slices.Sort(l)
				if want := level(t, g, n, step); !slices.Equal(l, want) {
					t.Fatalf("of %d layers, level %d, step %d: %v, not %v", g, n, step, l, want)
				}
			}
			if len(l) != 1<<(g-1) || l[0] != 0 || l[len(l)-1] != len(l)-1 {
				t.Fatalf("of %d layers, step %d: %v", g, step, l)
			}
		}
	}
}

// Rules 3 and 4: what is answered is new memory, and hangs on nothing that was
// done to what was answered ahead of it.
func TestAnswersAreNew(t *testing.T) {
	for g := 1; g <= api.MaxLayers; g++ {
		for layer := range g {
			first := [][]int{chunks(t, g, layer, 5), esis(t, g, 256, layer, 5)}
			wants := [][]int{slices.Clone(first[0]), slices.Clone(first[1])}
			for _, l := range first {
				_ = append(l, -1, -1, -1)
				clear(l[:cap(l)])
			}
			for i, l := range [][]int{chunks(t, g, layer, 5), esis(t, g, 256, layer, 5)} {
				if !slices.Equal(l, wants[i]) {
					t.Errorf("%v, not %v", l, wants[i])
				}
			}
		}
	}
}

// Rule 4: calls hang on what they are given alone, be there many at once.
func TestManyAtOnce(t *testing.T) {
	var all sync.WaitGroup
	for i := range 8 {
		all.Go(func() {
			for step := range uint32(128) {
				l, err := stripe.Chunks(8, i, step)
				if want := ofLayer(8, i, step); err != nil || !slices.Equal(l, want) {
					t.Errorf("%v, not %v", l, want)
				}
				r, err := stripe.Reverse(int(step), 7)
				if err != nil || r != mirrored(int(step), 7) {
					t.Errorf("%d %v", r, err)
				}
			}
		})
	}
	all.Wait()
}
