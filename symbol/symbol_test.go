package symbol_test

import (
	"bytes"
	"errors"
	"math"
	"math/rand"
	"slices"
	"testing"

	"geyser/api"
	"geyser/fault"
	"geyser/packed"
	"geyser/symbol"
)

// The calls' signatures are the chapter's.
var (
	_ func([]byte, []byte) ([]byte, error)          = symbol.Xor
	_ func([][]byte, int) ([]byte, error)           = symbol.Sum
	_ func([]uint64, [][]byte, int) ([]byte, error) = symbol.Pick
	_ func([]byte) bool                             = symbol.Zero
	_ func([]byte, int) ([][]byte, error)           = symbol.Split
)

// offs are sizes that there may not be.
var offs = []int{0, -1, -64, api.MaxSymbol + 1, 2 * api.MaxSymbol, 1 << 32, math.MinInt, math.MinInt + 1, math.MaxInt}

// refused says whether err is just a Fault of that call round that number.
func refused(t *testing.T, err error, call string, n api.Errno) {
	t.Helper()
	f, ok := err.(*api.Fault)
	if !ok || f == nil {
		t.Fatalf("%#v is no Fault", err)
	}
	if f.Call != call || fault.Num(err) != n || !errors.Is(err, n) {
		t.Errorf("%q %d, not %q %d", f.Call, fault.Num(err), call, n)
	}
}

// xor is Xor of what there may be.
func xor(t *testing.T, a, b []byte) []byte {
	t.Helper()
	s, err := symbol.Xor(a, b)
	if err != nil {
		t.Fatalf("Xor(%x, %x): %v %d", a, b, err, fault.Num(err))
	}
	return s
}

// sum is Sum of what there may be.
func sum(t *testing.T, l [][]byte, size int) []byte {
	t.Helper()
	s, err := symbol.Sum(l, size)
	if err != nil {
		t.Fatalf("Sum(%x, %d): %v %d", l, size, err, fault.Num(err))
	}
	return s
}

// pick is Pick of what there may be.
func pick(t *testing.T, w []uint64, l [][]byte, size int) []byte {
	t.Helper()
	s, err := symbol.Pick(w, l, size)
	if err != nil {
		t.Fatalf("Pick(%x, %x, %d): %v %d", w, l, size, err, fault.Num(err))
	}
	return s
}

// split is Split of what there may be.
func split(t *testing.T, p []byte, size int) [][]byte {
	t.Helper()
	l, err := symbol.Split(p, size)
	if err != nil {
		t.Fatalf("Split(%x, %d): %v %d", p, size, err, fault.Num(err))
	}
	return l
}

// drawn is n symbols of that size.
func drawn(r *rand.Rand, n, size int) [][]byte {
	l := make([][]byte, n)
	for i := range l {
		l[i] = make([]byte, size)
		r.Read(l[i])
	}
	return l
}

// drawnSet is a set of n columns.
func drawnSet(r *rand.Rand, n int) []uint64 {
	w := make([]uint64, (n+63)/64)
	for c := range n {
		w[c/64] |= uint64(r.Intn(2)) << (c % 64)
	}
	return w
}

// The chapter's example.
func TestExample(t *testing.T) {
	l := [][]byte{{0x0f}, {0xf0}, {0xff}}
	if s := sum(t, l, 1); !bytes.Equal(s, []byte{0}) {
		t.Errorf("Sum: %x", s)
	}
	if s := pick(t, []uint64{5}, l, 1); !bytes.Equal(s, []byte{0xf0}) {
		t.Errorf("Pick: %x", s)
	}
	p := split(t, []byte{1, 2, 3}, 2)
	if len(p) != 2 || !bytes.Equal(p[0], []byte{1, 2}) || !bytes.Equal(p[1], []byte{3, 0}) {
		t.Errorf("Split: %x", p)
	}
}

// P4.1: Xor sums byte by byte, whatever length both have.
func TestXor(t *testing.T) {
	for _, x := range []struct{ a, b, want []byte }{
		{nil, nil, nil},
		{[]byte{}, nil, nil},
		{[]byte{0x0f}, []byte{0xff}, []byte{0xf0}},
		{[]byte{1, 2, 3}, []byte{3, 2, 1}, []byte{2, 0, 2}},
		{[]byte{0, 0x80}, []byte{0x80, 0}, []byte{0x80, 0x80}},
	} {
		if s := xor(t, x.a, x.b); !bytes.Equal(s, x.want) {
			t.Errorf("Xor(%x, %x): %x, not %x", x.a, x.b, s, x.want)
		}
	}
	long := bytes.Repeat([]byte{0x55}, api.MaxSymbol+1)
	want := bytes.Repeat([]byte{0xff}, api.MaxSymbol+1)
	if s := xor(t, long, bytes.Repeat([]byte{0xaa}, len(long))); !bytes.Equal(s, want) {
		t.Errorf("%x", s)
	}
}

// P4.1: Xor of unlike lengths.
func TestXorRefused(t *testing.T) {
	for _, x := range []struct{ a, b []byte }{
		{nil, []byte{0}},
		{[]byte{0}, nil},
		{[]byte{1, 2}, []byte{1}},
		{[]byte{1, 2}, []byte{1, 2, 0}},
		{make([]byte, api.MaxSymbol), make([]byte, api.MaxSymbol+1)},
	} {
		s, err := symbol.Xor(x.a, x.b)
		refused(t, err, "symbol.Xor", api.ErrForm)
		if len(s) != 0 {
			t.Errorf("%x beside an error", s)
		}
	}
}

// P4.1: Sum of any number of symbols.
func TestSum(t *testing.T) {
	for _, x := range []struct {
		l    [][]byte
		size int
		want []byte
	}{
		{nil, 1, []byte{0}},
		{[][]byte{}, 3, []byte{0, 0, 0}},
		{nil, api.MaxSymbol, make([]byte, api.MaxSymbol)},
		{[][]byte{{1, 2}}, 2, []byte{1, 2}},
		{[][]byte{{1, 2}, {4, 8}}, 2, []byte{5, 10}},
		{[][]byte{{1, 2}, {4, 8}, {0xff, 1}}, 2, []byte{0xfa, 11}},
		{[][]byte{{1}, {1}, {1}}, 1, []byte{1}},
	} {
		if s := sum(t, x.l, x.size); !bytes.Equal(s, x.want) {
			t.Errorf("Sum(%x, %d): %x, not %x", x.l, x.size, s, x.want)
		}
	}
}

// P4.1: Sum of sizes out of their range, and of symbols of other sizes.
func TestSumRefused(t *testing.T) {
	for _, size := range offs {
		for _, l := range [][][]byte{nil, {{}}, {{1}, {2, 3}}, {make([]byte, 65)}} {
			s, err := symbol.Sum(l, size)
			refused(t, err, "symbol.Sum", api.ErrRange)
			if len(s) != 0 {
				t.Errorf("%x beside an error", s)
			}
		}
	}
	for _, l := range [][][]byte{{nil}, {{1}}, {{1, 2}, {3}}, {{1, 2}, {3, 4}, {5, 6, 7}}, {{1, 2, 3}, {1, 2}}} {
		s, err := symbol.Sum(l, 2)
		refused(t, err, "symbol.Sum", api.ErrForm)
		if len(s) != 0 {
			t.Errorf("%x beside an error", s)
		}
	}
}

// P4.1: Pick sums just those whose columns are 1, however many words there are.
func TestPick(t *testing.T) {
	l := [][]byte{{1, 0x10}, {2, 0x20}, {4, 0x40}}
	for _, x := range []struct {
		w    []uint64
		want []byte
	}{
		{nil, []byte{0, 0}},
		{[]uint64{0}, []byte{0, 0}},
		{[]uint64{1}, []byte{1, 0x10}},
		{[]uint64{2}, []byte{2, 0x20}},
		{[]uint64{5}, []byte{5, 0x50}},
		{[]uint64{7, 0, 0}, []byte{7, 0x70}},
	} {
		if s := pick(t, x.w, l, 2); !bytes.Equal(s, x.want) {
			t.Errorf("Pick(%x): %x, not %x", x.w, s, x.want)
		}
	}
	if s := pick(t, []uint64{0, 0}, nil, 1); !bytes.Equal(s, []byte{0}) {
		t.Errorf("Pick of none: %x", s)
	}
	r := rand.New(rand.NewSource(41))
	for _, n := range []int{1, 2, 63, 64, 65, 128, 129, 200} {
		l := drawn(r, n, api.MaxSymbol)
		for range 20 {
			w := drawnSet(r, n)
			want := make([]byte, api.MaxSymbol)
			for _, c := range packed.Unpack(w) {
				for j := range want {
					want[j] ^= l[c][j]
				}
			}
			if s := pick(t, w, l, api.MaxSymbol); !bytes.Equal(s, want) {
				t.Errorf("Pick of %d: %x, not %x", n, s, want)
			}
		}
	}
	// Symbols that have no column at all are not picked.
	if s := pick(t, []uint64{1}, drawn(r, 70, 1)[64:], 1); len(s) != 1 {
		t.Errorf("%x", s)
	}
	long := make([][]byte, 70)
	for i := range long {
		long[i] = []byte{byte(i)}
	}
	if s := pick(t, []uint64{1 << 63}, long, 1); !bytes.Equal(s, []byte{63}) {
		t.Errorf("%x", s)
	}
}

// P4.1: Pick's errors: the size ahead of the symbols' sizes, which hold whether
// they are picked or not; a column behind the last symbol.
func TestPickRefused(t *testing.T) {
	for _, size := range offs {
		s, err := symbol.Pick([]uint64{8}, [][]byte{{1}, {2, 3}}, size)
		refused(t, err, "symbol.Pick", api.ErrRange)
		if len(s) != 0 {
			t.Errorf("%x beside an error", s)
		}
	}
	for _, x := range []struct {
		w []uint64
		l [][]byte
	}{
		{nil, [][]byte{{1}}},
		{[]uint64{1}, [][]byte{{1, 2}, {3}}},
		{[]uint64{2}, [][]byte{{1, 2}, nil}},
		{[]uint64{1}, nil},
		{[]uint64{2}, [][]byte{{1, 2}}},
		{[]uint64{3}, [][]byte{{1, 2}}},
		{[]uint64{4}, [][]byte{{1, 2}, {3, 4}}},
		{[]uint64{1, 1}, [][]byte{{1, 2}, {3, 4}}},
		{[]uint64{0, 1 << 63}, [][]byte{{1, 2}}},
		{[]uint64{1 << 63}, [][]byte{{1, 2}}},
		{[]uint64{0, 1}, make64(2)},
	} {
		s, err := symbol.Pick(x.w, x.l, 2)
		refused(t, err, "symbol.Pick", api.ErrForm)
		if len(s) != 0 {
			t.Errorf("%x beside an error", s)
		}
	}
	if s := pick(t, []uint64{1 << 63}, make64(2), 2); !bytes.Equal(s, []byte{0, 0}) {
		t.Errorf("%x", s)
	}
}

// make64 is 64 symbols 0 of that size.
func make64(size int) [][]byte {
	l := make([][]byte, 64)
	for i := range l {
		l[i] = make([]byte, size)
	}
	return l
}

// P4.2: Zero.
func TestZero(t *testing.T) {
	for _, s := range [][]byte{nil, {}, {0}, {0, 0, 0}, make([]byte, 1000)} {
		if !symbol.Zero(s) {
			t.Errorf("Zero(%x): false", s)
		}
	}
	for _, s := range [][]byte{{1}, {0x80}, {0, 1}, {1, 0}, {1, 1}, {0, 0, 0xff, 0}} {
		if symbol.Zero(s) {
			t.Errorf("Zero(%x): true", s)
		}
	}
	for i := range 200 {
		s := make([]byte, 200)
		s[i] = 1
		if symbol.Zero(s) {
			t.Errorf("a byte at %d", i)
		}
	}
	// What lies behind the end is none of it.
	if s := []byte{0, 0, 1}; !symbol.Zero(s[:2]) {
		t.Error("a byte behind the end")
	}
}

// P4.2 and P4.5: split symbols, one behind the other, are the bytes, and then
// bytes 0, fewer than a symbol's.
func TestSplit(t *testing.T) {
	r := rand.New(rand.NewSource(42))
	for _, size := range []int{1, 2, 3, 7, 32, 63, api.MaxSymbol} {
		for _, n := range []int{0, 1, 2, 3, 6, 7, 8, 31, 32, 33, 63, 64, 65, 127, 128, 1000} {
			p := make([]byte, n)
			r.Read(p)
			l := split(t, p, size)
			if len(l) != (n+size-1)/size {
				t.Fatalf("%d symbols of size %d, of %d bytes", len(l), size, n)
			}
			for _, s := range l {
				if len(s) != size {
					t.Fatalf("%x has not size %d", s, size)
				}
			}
			all := slices.Concat(l...)
			if !bytes.Equal(all[:n], p) {
				t.Errorf("Split(%x, %d): %x", p, size, l)
			}
			for _, b := range all[n:] {
				if b != 0 {
					t.Errorf("Split(%x, %d) is filled up with %x", p, size, all[n:])
				}
			}
		}
	}
	if l := split(t, nil, 1); len(l) != 0 {
		t.Errorf("%x", l)
	}
	// What lies behind the end fills nothing up.
	if l := split(t, []byte{1, 2, 3, 9}[:3], 2); !bytes.Equal(l[1], []byte{3, 0}) {
		t.Errorf("%x", l)
	}
}

// P4.2: Split's error.
func TestSplitRefused(t *testing.T) {
	for _, size := range offs {
		for _, p := range [][]byte{nil, {1}, make([]byte, 100)} {
			l, err := symbol.Split(p, size)
			refused(t, err, "symbol.Split", api.ErrRange)
			if len(l) != 0 {
				t.Errorf("%x beside an error", l)
			}
		}
	}
}

// P4.3: sums hang on no order; twice the same is nothing.
func TestSumsOrder(t *testing.T) {
	r := rand.New(rand.NewSource(43))
	for n := range 12 {
		size := 1 + r.Intn(api.MaxSymbol)
		l := drawn(r, n, size)
		want := sum(t, l, size)
		r.Shuffle(n, func(i, j int) { l[i], l[j] = l[j], l[i] })
		if s := sum(t, l, size); !bytes.Equal(s, want) {
			t.Errorf("%x, and in another order %x", want, s)
		}
		if s := sum(t, append(l, l...), size); !symbol.Zero(s) || len(s) != size {
			t.Errorf("twice the same: %x", s)
		}
		step := make([]byte, size)
		for _, s := range l {
			step = xor(t, step, s)
		}
		if !bytes.Equal(step, want) {
			t.Errorf("by Xor %x, not %x", step, want)
		}
		if s := xor(t, want, want); !symbol.Zero(s) {
			t.Errorf("Xor of the same: %x", s)
		}
	}
}

// P4.4: what Pick tells of the exclusive or of two sets is the sum of what it
// tells of each.
func TestPickSums(t *testing.T) {
	r := rand.New(rand.NewSource(44))
	for range 50 {
		n, size := 1+r.Intn(150), 1+r.Intn(api.MaxSymbol)
		l := drawn(r, n, size)
		a, b := drawnSet(r, n), drawnSet(r, n)
		both, err := packed.Xor(a, b)
		if err != nil {
			t.Fatal(err)
		}
		want := xor(t, pick(t, a, l, size), pick(t, b, l, size))
		if s := pick(t, both, l, size); !bytes.Equal(s, want) {
			t.Errorf("%x, not %x", s, want)
		}
	}
}

// Rule 3: what is handed in, and what lies behind its end, stays as it was.
func TestNothingIsChanged(t *testing.T) {
	room := []byte{1, 2, 3, 4, 5, 6, 7, 8}
	a, b := room[0:2], room[4:6]
	l := append(make([][]byte, 0, 8), a, b)
	w := append(make([]uint64, 0, 4), 3)
	xor(t, a, b)
	sum(t, l, 2)
	pick(t, w, l, 2)
	symbol.Zero(a)
	split(t, room[:5], 3)
	if !bytes.Equal(room, []byte{1, 2, 3, 4, 5, 6, 7, 8}) {
		t.Errorf("%x", room)
	}
	if &l[0][0] != &room[0] || &l[1][0] != &room[4] || w[0] != 3 {
		t.Errorf("%x %x", l, w)
	}
	for _, s := range l[2:8] {
		if s != nil {
			t.Errorf("%x behind the end", s)
		}
	}
	if !slices.Equal(w[:4], []uint64{3, 0, 0, 0}) {
		t.Errorf("%x", w[:4])
	}
}

// Rule 3: what is answered is new memory, and no two lists of it share any.
func TestAnswersAreNew(t *testing.T) {
	a, zero := []byte{1, 2}, []byte{0, 0}
	for _, s := range [][]byte{
		xor(t, a, zero), xor(t, zero, a),
		sum(t, [][]byte{a}, 2), sum(t, [][]byte{a, zero}, 2), sum(t, [][]byte{zero, a}, 2),
		pick(t, []uint64{1}, [][]byte{a}, 2), pick(t, []uint64{2}, [][]byte{zero, a}, 2),
	} {
		s[0], s[1] = 9, 9
		_ = append(s, 9)
	}
	p := []byte{1, 2, 3, 4, 5}
	l := split(t, p, 2)
	for i, s := range l {
		s = append(s, 9, 9, 9)
		l[i][0] = 9
		s[1] = 9
	}
	if !bytes.Equal(a, []byte{1, 2}) || !bytes.Equal(zero, []byte{0, 0}) || !bytes.Equal(p, []byte{1, 2, 3, 4, 5}) {
		t.Errorf("%x %x %x", a, zero, p)
	}
	l = split(t, p, 2)
	l[0] = append(l[0], 9)
	if !bytes.Equal(l[1], []byte{3, 4}) {
		t.Errorf("%x", l)
	}
}
