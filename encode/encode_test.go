package encode_test

import (
	"bytes"
	"encoding/hex"
	"errors"
	"iter"
	"math"
	"math/rand"
	"slices"
	"sync"
	"testing"

	"geyser/api"
	"geyser/encode"
	"geyser/fault"
	"geyser/ltrow"
	"geyser/params"
	"geyser/system"
)

// The calls' signatures are the chapter's.
var (
	_ func([][]byte, int) (*encode.Encoder, error)      = encode.New
	_ func(*encode.Encoder, int) ([]byte, error)        = (*encode.Encoder).Symbol
	_ func(*encode.Encoder) int                         = (*encode.Encoder).K
	_ func(*encode.Encoder, int) iter.Seq2[int, []byte] = (*encode.Encoder).Each
	_ func(*encode.Encoder, int, int) [][]byte          = (*encode.Encoder).Some
)

// refused says whether err is just a Fault of that call round that number.
func refused(t *testing.T, err error, call string, n api.Errno) {
	t.Helper()
	f, ok := err.(*api.Fault)
	if !ok || f == nil {
		t.Fatalf("%#v is no Fault", err)
	}
	if f.Call != call || fault.Num(err) != n || !errors.Is(err, n) {
		t.Errorf("%q %d, not %q %d", f.Call, fault.Num(err), call, n)
	}
}

// fine ends the test, if err is one.
func fine(t *testing.T, err error) {
	t.Helper()
	if err != nil {
		t.Fatalf("%v %d", err, fault.Num(err))
	}
}

// made is the encoder of symbols that are right.
func made(t *testing.T, source [][]byte, size int) *encode.Encoder {
	t.Helper()
	e, err := encode.New(source, size)
	fine(t, err)
	if e == nil {
		t.Fatal("no encoder")
	}
	return e
}

// symbolOf is Symbol of a number that is in its range.
func symbolOf(t *testing.T, e *encode.Encoder, esi int) []byte {
	t.Helper()
	sym, err := e.Symbol(esi)
	fine(t, err)
	return sym
}

// drawn are n symbols of that size, drawn.
func drawn(r *rand.Rand, n, size int) [][]byte {
	l := make([][]byte, n)
	for i := range l {
		l[i] = make([]byte, size)
		r.Read(l[i])
	}
	return l
}

// written are the n symbols of a rule.
func written(n int, rule func(i int) []byte) [][]byte {
	l := make([][]byte, n)
	for i := range l {
		l[i] = rule(i)
	}
	return l
}

// copied is l in new memory.
func copied(l [][]byte) [][]byte {
	other := make([][]byte, len(l))
	for i := range l {
		other[i] = bytes.Clone(l[i])
	}
	return other
}

// same says whether both have the same symbols.
func same(a, b [][]byte) bool {
	return slices.EqualFunc(a, b, bytes.Equal)
}

// plus is the sum of a and b.
func plus(a, b []byte) []byte {
	sum := bytes.Clone(a)
	for i, v := range b {
		sum[i] ^= v
	}
	return sum
}

// model tells the encoding symbols of source by the layers below.
func model(t *testing.T, source [][]byte, size int) func(esi int) []byte {
	t.Helper()
	p, err := params.Of(len(source))
	fine(t, err)
	seed, err := system.Seed(p.K)
	fine(t, err)
	middle, err := system.Middle(p, seed, source, size)
	fine(t, err)
	return func(esi int) []byte {
		places, err := ltrow.Row(p, seed, esi)
		fine(t, err)
		sum := make([]byte, size)
		for _, c := range places {
			sum = plus(sum, middle[c])
		}
		return sum
	}
}

// outside are numbers below low and above high, the next ones among them.
func outside(low, high int) []int {
	return []int{math.MinInt, math.MinInt + 1, -1 << 32, -1<<32 + low, -high, low - 2, low - 1, high + 1, high + 2, 2*high + 2, 1 << 31, 1 << 32, 1<<32 + low, 1<<32 + high, math.MaxInt - 1, math.MaxInt}
}

// gathered are the numbers and the symbols that seq goes over.
func gathered(seq iter.Seq2[int, []byte]) ([]int, [][]byte) {
	var esis []int
	var l [][]byte
	for esi, sym := range seq {
		esis, l = append(esis, esi), append(l, sym)
	}
	return esis, l
}

// The chapter's example.
func TestExample(t *testing.T) {
	e := made(t, [][]byte{{1}, {2}}, 1)
	for esi, want := range [][]byte{{1}, {2}, {1}} {
		if sym := symbolOf(t, e, esi); !bytes.Equal(sym, want) {
			t.Errorf("Symbol(%d): %v, not %v", esi, sym, want)
		}
	}
	if e.K() != 2 {
		t.Errorf("K %d", e.K())
	}
}

// P12.1: symbols that are written out, reckoned apart from the program.
func TestSymbolWritten(t *testing.T) {
	for _, c := range []struct {
		source [][]byte
		want   map[int]string
	}{
		{[][]byte{{1}}, map[int]string{0: "01", 1: "00", 2: "01", 3: "01", 4: "00", 5: "01", 255: "01", 256: "01", 1000: "00", 32767: "00", 32768: "01", 65534: "00", 65535: "00"}},
		{[][]byte{{1}, {2}}, map[int]string{0: "01", 1: "02", 2: "01", 3: "03", 4: "02", 5: "00", 6: "03", 255: "01", 256: "03", 1000: "00", 32767: "00", 32768: "00", 65534: "03", 65535: "03"}},
		{written(5, func(i int) []byte { return []byte{byte(i), byte(255 - i)} }),
			map[int]string{4: "04fb", 5: "0101", 6: "06f9", 7: "07f8", 8: "06f9", 9: "07f8", 255: "01fe", 256: "0505", 1000: "02fd", 32767: "0404", 32768: "04fb", 65534: "06f9", 65535: "0101"}},
		{written(10, func(i int) []byte { return []byte{byte(i * i), byte(7 * i), byte(i)} }),
			map[int]string{9: "513f09", 10: "190701", 11: "383606", 12: "4d150f", 13: "61310f", 14: "542a0e", 255: "210907", 256: "79150b", 1000: "753f0d", 32767: "140004", 32768: "350705", 65534: "083606", 65535: "280e06"}},
		{written(128, func(i int) []byte { return []byte{byte(i), byte(255 - i), byte(i * i), byte(7 * i)} }),
			map[int]string{127: "7f800179", 128: "679815e5", 129: "48b7a4dc", 130: "3f3f0d85", 131: "03035da9", 132: "6868d414", 255: "3b3bb549", 256: "27d8d919", 1000: "52adacf6", 32767: "21defdfb", 32768: "45452597", 65534: "20203020", 65535: "7171d5ab"}},
	} {
		e := made(t, c.source, len(c.source[0]))
		for esi, want := range c.want {
			if got := hex.EncodeToString(symbolOf(t, e, esi)); got != want {
				t.Errorf("K %d: Symbol(%d): %s, not %s", len(c.source), esi, got, want)
			}
		}
	}
}

// P12.1: of each K, and of symbols of many sizes, an encoding symbol is the sum
// of the middle ones at the places of its row.
func TestSymbol(t *testing.T) {
	r := rand.New(rand.NewSource(1))
	for k := 1; k <= api.MaxSource; k++ {
		for _, size := range []int{1, 2 + r.Intn(62), api.MaxSymbol} {
			source := drawn(r, k, size)
			e, want := made(t, source, size), model(t, source, size)
			if e.K() != k {
				t.Fatalf("K %d, not %d", e.K(), k)
			}
			esis := []int{0, k - 1, k, k + 1, 1 << 8, 1<<15 - 1, 1 << 15, api.MaxEsi - 2, api.MaxEsi - 1}
			for range 20 {
				esis = append(esis, r.Intn(api.MaxEsi))
			}
			for range 2 {
				for _, esi := range esis {
					if sym := symbolOf(t, e, esi); !bytes.Equal(sym, want(esi)) {
						t.Fatalf("K %d, size %d: Symbol(%d): %x, not %x", k, size, esi, sym, want(esi))
					}
				}
			}
		}
	}
}

// P12.1: how many and how great the source symbols may be, and what is named
// ahead of their form.
func TestNewRange(t *testing.T) {
	check := func(source [][]byte, size int) {
		t.Helper()
		e, err := encode.New(source, size)
		refused(t, err, "encode.New", api.ErrRange)
		if e != nil {
			t.Errorf("New of %d, size %d: an encoder beside an error", len(source), size)
		}
	}
	r := rand.New(rand.NewSource(2))
	for _, size := range []int{-1, 0, 1, 7, api.MaxSymbol, api.MaxSymbol + 1} {
		check(nil, size)
		check([][]byte{}, size)
		for _, k := range []int{api.MaxSource + 1, api.MaxSource + 2, 2 * api.MaxSource, 257, 1 << 16, 1<<16 + 1} {
			check(make([][]byte, k), size)
			if size > 0 {
				check(drawn(r, k, size), size)
				check(drawn(r, k, size-1), size)
			}
		}
	}
	for _, size := range outside(1, api.MaxSymbol) {
		for _, k := range []int{1, 2, 10, api.MaxSource} {
			check(make([][]byte, k), size)
			check(drawn(r, k, 1), size)
			check(drawn(r, k, api.MaxSymbol), size)
			check(drawn(r, k, api.MaxSymbol+1), size)
			check(append(drawn(r, k-1, 1), make([]byte, 3)), size)
		}
	}
}

// P12.1: source symbols that are not of that size, wherever the one that is not
// stands.
func TestNewForm(t *testing.T) {
	check := func(source [][]byte, size int) {
		t.Helper()
		e, err := encode.New(source, size)
		refused(t, err, "encode.New", api.ErrForm)
		if e != nil {
			t.Errorf("New of %d, size %d: an encoder beside an error", len(source), size)
		}
	}
	r := rand.New(rand.NewSource(3))
	for _, k := range []int{1, 2, 10, api.MaxSource} {
		for _, size := range []int{1, 2, 33, api.MaxSymbol} {
			check(make([][]byte, k), size)
			check(drawn(r, k, size-1), size)
			check(drawn(r, k, size+1), size)
			for _, at := range []int{0, k / 2, k - 1} {
				for _, other := range []int{0, size - 1, size + 1, 2 * size, size + 64, size + 256} {
					source := drawn(r, k, size)
					source[at] = make([]byte, other)
					check(source, size)
				}
				source := drawn(r, k, size)
				source[at] = nil
				check(source, size)
				// Room behind a symbol's end is none of its bytes.
				source[at] = make([]byte, size-1, size)
				check(source, size)
			}
		}
	}
}

// P12.1: the least and the greatest that may be.
func TestNewEdges(t *testing.T) {
	r := rand.New(rand.NewSource(4))
	for _, k := range []int{1, api.MaxSource} {
		for _, size := range []int{1, api.MaxSymbol} {
			source := drawn(r, k, size)
			e := made(t, source, size)
			if e.K() != k || len(symbolOf(t, e, api.MaxEsi-1)) != size {
				t.Errorf("K %d, size %d: %d, %v", k, size, e.K(), symbolOf(t, e, api.MaxEsi-1))
			}
		}
	}
}

// P12.1: numbers that no encoding symbol has; a symbol that is refused changes
// nothing.
func TestSymbolRefused(t *testing.T) {
	r := rand.New(rand.NewSource(5))
	for _, k := range []int{1, 10, api.MaxSource} {
		source := drawn(r, k, 5)
		e := made(t, source, 5)
		for _, esi := range outside(0, api.MaxEsi-1) {
			sym, err := e.Symbol(esi)
			refused(t, err, "encode.Symbol", api.ErrRange)
			if len(sym) != 0 {
				t.Errorf("Symbol(%d): %v beside an error", esi, sym)
			}
		}
		if !same(e.Some(0, k), source) {
			t.Errorf("K %d: other symbols behind what was refused", k)
		}
	}
}

// P12.1, P12.2: what a nil encoder answers, whatever the numbers are.
func TestNil(t *testing.T) {
	var e *encode.Encoder
	if e.K() != 0 {
		t.Errorf("K %d", e.K())
	}
	for _, n := range append(outside(0, api.MaxEsi-1), 0, 1, api.MaxEsi-1) {
		sym, err := e.Symbol(n)
		refused(t, err, "encode.Symbol", api.ErrState)
		if len(sym) != 0 {
			t.Errorf("Symbol(%d): %v beside an error", n, sym)
		}
		each := e.Each(n)
		if each == nil {
			t.Fatalf("Each(%d) is nil", n)
		}
		if esis, _ := gathered(each); len(esis) != 0 {
			t.Errorf("Each(%d): %v", n, esis)
		}
		if l := e.Some(0, n); len(l) != 0 {
			t.Errorf("Some(0, %d): %v", n, l)
		}
		if l := e.Some(n, 1); len(l) != 0 {
			t.Errorf("Some(%d, 1): %v", n, l)
		}
	}
}

// P12.2: all encoding symbols from a number on, each with its number, and the
// same ones again.
func TestEach(t *testing.T) {
	r := rand.New(rand.NewSource(6))
	for _, k := range []int{1, 10, api.MaxSource} {
		source := drawn(r, k, 3)
		e, want := made(t, source, 3), model(t, source, 3)
		all := make([][]byte, api.MaxEsi)
		for esi := range all {
			all[esi] = want(esi)
		}
		for _, from := range []int{0, -1, math.MinInt, 1, k, 60000, api.MaxEsi - 2, api.MaxEsi - 1} {
			each := e.Each(from)
			for range 2 {
				next := max(from, 0)
				for esi, sym := range each {
					if esi != next || !bytes.Equal(sym, all[esi]) {
						t.Fatalf("K %d, from %d: %d %x, not %d %x", k, from, esi, sym, next, all[next])
					}
					next++
				}
				if next != api.MaxEsi {
					t.Fatalf("K %d, from %d: ends ahead of %d", k, from, next)
				}
			}
		}
	}
}

// P12.2: from behind the last encoding symbol on there is none, but what one
// goes over is there.
func TestEachBehind(t *testing.T) {
	e := made(t, [][]byte{{1}, {2}}, 1)
	for _, from := range []int{api.MaxEsi, api.MaxEsi + 1, 1 << 31, 1 << 32, 1<<32 + 5, math.MaxInt - 1, math.MaxInt} {
		each := e.Each(from)
		if each == nil {
			t.Fatalf("Each(%d) is nil", from)
		}
		if esis, _ := gathered(each); len(esis) != 0 {
			t.Errorf("Each(%d): %v", from, esis)
		}
		for _, n := range []int{1, 2, math.MaxInt} {
			if l := e.Some(from, n); len(l) != 0 {
				t.Errorf("Some(%d, %d): %v", from, n, l)
			}
		}
	}
}

// P12.2: one leaves where one likes, and what is gone over again begins anew,
// also within itself.
func TestEachIsLeft(t *testing.T) {
	source := drawn(rand.New(rand.NewSource(7)), 10, 3)
	e, want := made(t, source, 3), model(t, source, 3)
	for _, from := range []int{-3, 0, 7, 10, 300, api.MaxEsi - 40} {
		each := e.Each(from)
		for _, many := range []int{1, 2, 40, 3, 1} {
			next := max(from, 0)
			for esi, sym := range each {
				if esi != next || !bytes.Equal(sym, want(next)) {
					t.Fatalf("from %d: %d %x, not %d %x", from, esi, sym, next, want(next))
				}
				next++
				if next == max(from, 0)+many {
					break
				}
			}
			if next != max(from, 0)+many {
				t.Errorf("from %d: left at %d", from, next)
			}
		}
		outer, inner := 0, 0
		for a := range each {
			outer++
			for b := range each {
				if b != max(from, 0)+inner%3 || a != max(from, 0)+outer-1 {
					t.Fatalf("from %d: %d within %d", from, b, a)
				}
				inner++
				if inner%3 == 0 {
					break
				}
			}
			if outer == 5 {
				break
			}
		}
		if outer != 5 || inner != 15 {
			t.Errorf("from %d: %d, %d", from, outer, inner)
		}
	}
}

// P12.2: the first ones that Each goes over; all of them, if there are fewer;
// none of a number below 1.
func TestSome(t *testing.T) {
	r := rand.New(rand.NewSource(8))
	for _, k := range []int{1, 10, api.MaxSource} {
		e := made(t, drawn(r, k, 2), 2)
		_, all := gathered(e.Each(0))
		if len(all) != api.MaxEsi {
			t.Fatalf("%d symbols", len(all))
		}
		check := func(from, n int) {
			t.Helper()
			first := min(max(from, 0), api.MaxEsi)
			last := first + min(max(n, 0), api.MaxEsi-first)
			if l := e.Some(from, n); !same(l, all[first:last]) {
				t.Fatalf("K %d: Some(%d, %d): %d symbols, not %d, or others", k, from, n, len(l), last-first)
			}
		}
		for _, from := range []int{65000, api.MaxEsi - 2, api.MaxEsi - 1, api.MaxEsi, api.MaxEsi + 1, math.MaxInt} {
			for _, n := range []int{math.MinInt, -1 << 32, -1, 0, 1, 2, 3, 535, 536, 537, api.MaxEsi, 1 << 40, math.MaxInt} {
				check(from, n)
			}
		}
		for _, from := range []int{math.MinInt, -1 << 32, -7, -1, 0, 1, k, 1000} {
			for _, n := range []int{math.MinInt, -1 << 32, -1, 0, 1, 2, 3, k, 1000} {
				check(from, n)
			}
		}
		check(math.MinInt, math.MaxInt)
		check(-1, api.MaxEsi)
		check(0, api.MaxEsi-1)
		check(0, api.MaxEsi)
		check(0, api.MaxEsi+1)
		check(1, api.MaxEsi)
	}
}

// P12.3: of each K the first encoding symbols are the source symbols.
func TestFirstOnes(t *testing.T) {
	r := rand.New(rand.NewSource(9))
	for k := 1; k <= api.MaxSource; k++ {
		for _, size := range []int{1, 1 + r.Intn(64), api.MaxSymbol} {
			source := drawn(r, k, size)
			e := made(t, source, size)
			if l := e.Some(0, k); !same(l, source) {
				t.Fatalf("K %d, size %d: %x, not %x", k, size, l, source)
			}
			for esi, want := range source {
				if sym := symbolOf(t, e, esi); !bytes.Equal(sym, want) {
					t.Fatalf("K %d: Symbol(%d): %x, not %x", k, esi, sym, want)
				}
			}
		}
	}
}

// P12.4: of a sum of source symbols each encoding symbol is the sum of theirs,
// so that of symbols 0 each is 0.
func TestSums(t *testing.T) {
	r := rand.New(rand.NewSource(10))
	for k := 1; k <= api.MaxSource; k += 1 + k/4 {
		a, b, sum, zero := drawn(r, k, 4), drawn(r, k, 4), make([][]byte, k), make([][]byte, k)
		for i := range a {
			sum[i], zero[i] = plus(a[i], b[i]), make([]byte, 4)
		}
		x, y, both, none := made(t, a, 4), made(t, b, 4), made(t, sum, 4), made(t, zero, 4)
		for n := range 300 {
			esi := n
			if n > 200 {
				esi = r.Intn(api.MaxEsi)
			}
			want := plus(symbolOf(t, x, esi), symbolOf(t, y, esi))
			if got := symbolOf(t, both, esi); !bytes.Equal(got, want) {
				t.Fatalf("K %d, %d: %x, not %x", k, esi, got, want)
			}
			if got := symbolOf(t, none, esi); !bytes.Equal(got, make([]byte, 4)) {
				t.Fatalf("K %d, %d: of symbols 0 %x", k, esi, got)
			}
		}
	}
}

// P12.5: what is put in is neither changed nor kept, nor is what lies in the
// room behind its end: it may be written over, also between a call of Each and
// the going over.
func TestNothingIsChanged(t *testing.T) {
	r := rand.New(rand.NewSource(11))
	for _, k := range []int{1, 10, api.MaxSource} {
		// Symbols that share memory, with room behind their ends.
		whole := make([]byte, k+64)
		r.Read(whole)
		list := make([][]byte, k+2)
		for i := range list {
			list[i] = whole[i : i+4]
		}
		had, symbols := bytes.Clone(whole), copied(list)
		e := made(t, list[:k], 4)
		each := e.Each(0)
		want := e.Some(0, 3*k)
		if !bytes.Equal(whole, had) || !same(list, symbols) {
			t.Errorf("K %d: what is put in is changed", k)
		}
		clear(whole)
		clear(list)
		if !same(e.Some(0, k), symbols[:k]) || !same(e.Some(0, 3*k), want) {
			t.Errorf("K %d: the encoder changes with what was put in", k)
		}
		for esi, sym := range each {
			if esi == len(want) {
				break
			}
			if !bytes.Equal(sym, want[esi]) {
				t.Errorf("K %d: symbol %d changes with what was put in", k, esi)
			}
		}
	}
}

// What is answered is new memory, and no two lists of it share any.
func TestAnswersAreNew(t *testing.T) {
	r := rand.New(rand.NewSource(12))
	for _, k := range []int{1, 2, 10, api.MaxSource} {
		source := drawn(r, k, 3)
		e, want := made(t, source, 3), model(t, source, 3)
		spoil := func(sym []byte) {
			_ = append(sym, 1, 2, 3, 4)
			for i := range sym {
				sym[i] ^= 255
			}
		}
		for esi, sym := range e.Each(0) {
			if esi == 3*k {
				break
			}
			spoil(sym)
			spoil(symbolOf(t, e, esi))
			if got := symbolOf(t, e, esi); !bytes.Equal(got, want(esi)) {
				t.Fatalf("K %d: symbol %d shares memory: %x, not %x", k, esi, got, want(esi))
			}
		}
		l := e.Some(0, 3*k)
		for i, sym := range l {
			if !bytes.Equal(sym, want(i)) {
				t.Fatalf("K %d: symbol %d of Some shares memory", k, i)
			}
			spoil(sym)
		}
		if !same(e.Some(0, k), source) {
			t.Errorf("K %d: Some hands out what is kept", k)
		}
	}
}

// Nothing changes an encoder: many may ask it at one time, and one says nothing
// to another.
func TestApart(t *testing.T) {
	r := rand.New(rand.NewSource(13))
	a, b := drawn(r, 20, 8), drawn(r, 20, 8)
	x, y := made(t, a, 8), made(t, b, 8)
	first, second := written(600, model(t, a, 8)), written(600, model(t, b, 8))
	var wg sync.WaitGroup
	for n := range 4 {
		wg.Add(1)
		go func() {
			defer wg.Done()
			for esi, sym := range x.Each(n * 100) {
				other, err := y.Symbol(esi)
				if err != nil || !bytes.Equal(sym, first[esi]) || !bytes.Equal(other, second[esi]) {
					t.Errorf("%d: %x, %x", esi, sym, other)
				}
				if esi == n*100+200 {
					return
				}
			}
		}()
	}
	wg.Wait()
}
