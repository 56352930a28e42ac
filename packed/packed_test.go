package packed_test

import (
	"errors"
	"math"
	"math/rand"
	"slices"
	"testing"

	"geyser/api"
	"geyser/fault"
	"geyser/packed"
)

// The calls' signatures are the chapter's.
var (
	_ func(int) int                              = packed.Size
	_ func([]int, int) ([]uint64, error)         = packed.Pack
	_ func([]uint64) []int                       = packed.Unpack
	_ func([]uint64, []uint64) ([]uint64, error) = packed.Xor
	_ func([]uint64, int) bool                   = packed.Has
	_ func([]uint64) int                         = packed.Count
	_ func([]uint64) int                         = packed.First
	_ func([]uint64, []uint64) (bool, error)     = packed.Odd
)

// full is a word of which all columns are 1.
const full = math.MaxUint64

// sizes are numbers of columns at and beside the words' ends.
var sizes = []int{0, 1, 2, 63, 64, 65, 127, 128, 129, 1000, 4031, 4032, 4033, 4095, api.MaxBits}

// offs are numbers of columns that there may not be.
var offs = []int{-1, -64, -65, api.MaxBits + 1, api.MaxBits + 64, 1 << 32, math.MinInt, math.MinInt + 1, math.MaxInt}

// refused says whether err is just a Fault of that call round that number.
func refused(t *testing.T, err error, call string, n api.Errno) {
	t.Helper()
	f, ok := err.(*api.Fault)
	if !ok || f == nil {
		t.Fatalf("%#v is no Fault", err)
	}
	if f.Call != call || fault.Num(err) != n || !errors.Is(err, n) {
		t.Errorf("%q %d, not %q %d", f.Call, fault.Num(err), call, n)
	}
}

// pack is Pack of what there may be.
func pack(t *testing.T, l []int, n int) []uint64 {
	t.Helper()
	w, err := packed.Pack(l, n)
	if err != nil {
		t.Fatalf("Pack(%v, %d): %v %d", l, n, err, fault.Num(err))
	}
	return w
}

// xor is Xor of what there may be.
func xor(t *testing.T, a, b []uint64) []uint64 {
	t.Helper()
	w, err := packed.Xor(a, b)
	if err != nil {
		t.Fatalf("Xor: %v %d", err, fault.Num(err))
	}
	return w
}

// odd is Odd of what there may be.
func odd(t *testing.T, a, b []uint64) bool {
	t.Helper()
	is, err := packed.Odd(a, b)
	if err != nil {
		t.Fatalf("Odd: %v %d", err, fault.Num(err))
	}
	return is
}

// drawn is some of n columns, in no order.
func drawn(r *rand.Rand, n int) []int {
	l := r.Perm(n)
	if n > 0 {
		l = l[:r.Intn(n+1)]
	}
	return l
}

// rising is l in order, in new memory.
func rising(l []int) []int {
	l = slices.Clone(l)
	slices.Sort(l)
	return l
}

// The chapter's example.
func TestExample(t *testing.T) {
	w := pack(t, []int{65, 1}, 70)
	if !slices.Equal(w, []uint64{2, 2}) || packed.First(w) != 1 || packed.Count(w) != 2 {
		t.Errorf("%v, First %d, Count %d", w, packed.First(w), packed.Count(w))
	}
	if x := xor(t, w, pack(t, []int{1}, 70)); !slices.Equal(x, []uint64{0, 2}) {
		t.Errorf("%v", x)
	}
}

// P2.1: Size.
func TestSize(t *testing.T) {
	words := 0
	for n := range api.MaxBits + 1 {
		if n%64 == 1 {
			words++
		}
		if s := packed.Size(n); s != words {
			t.Errorf("Size(%d): %d, not %d", n, s, words)
		}
	}
	for _, n := range offs {
		if s := packed.Size(n); s != 0 {
			t.Errorf("Size(%d): %d", n, s)
		}
	}
}

// P2.1: Pack: just the columns of l are 1, in as many words as hold n.
func TestPack(t *testing.T) {
	for _, l := range []struct {
		l []int
		n int
		w []uint64
	}{
		{nil, 0, nil},
		{[]int{}, 0, nil},
		{nil, 1, []uint64{0}},
		{[]int{0}, 1, []uint64{1}},
		{[]int{}, 64, []uint64{0}},
		{[]int{63}, 64, []uint64{1 << 63}},
		{[]int{63}, 65, []uint64{1 << 63, 0}},
		{[]int{64}, 65, []uint64{0, 1}},
		{[]int{64, 63}, 65, []uint64{1 << 63, 1}},
		{[]int{127, 128, 0}, 129, []uint64{1, 1 << 63, 1}},
		{[]int{3, 1, 2}, 5, []uint64{14}},
	} {
		if w := pack(t, l.l, l.n); !slices.Equal(w, l.w) {
			t.Errorf("Pack(%v, %d): %v, not %v", l.l, l.n, w, l.w)
		}
	}
	for _, n := range sizes {
		want := make([]uint64, (n+63)/64)
		if w := pack(t, nil, n); !slices.Equal(w, want) {
			t.Errorf("Pack(nil, %d): %v", n, w)
		}
		if n == 0 {
			continue
		}
		want[(n-1)/64] = 1 << ((n - 1) % 64)
		if w := pack(t, []int{n - 1}, n); !slices.Equal(w, want) {
			t.Errorf("Pack(%d, %d): %v", n-1, n, w)
		}
	}
}

// P2.1: all columns of n at once, and no bit from n on.
func TestPackAll(t *testing.T) {
	r := rand.New(rand.NewSource(1))
	for _, n := range sizes {
		w := pack(t, r.Perm(n), n)
		for i, word := range w {
			want := uint64(full)
			if left := n - i*64; left < 64 {
				want = 1<<left - 1
			}
			if word != want {
				t.Errorf("%d columns, word %d: %x, not %x", n, i, word, want)
			}
		}
	}
}

// packRefuses says whether Pack refuses l of n columns with just that number.
func packRefuses(t *testing.T, num api.Errno, n int, l ...int) {
	t.Helper()
	w, err := packed.Pack(l, n)
	if len(w) != 0 {
		t.Errorf("%d columns: words %v beside an error", n, w)
	}
	refused(t, err, "packed.Pack", num)
}

// P2.1: Pack refuses numbers out of their range.
func TestPackRange(t *testing.T) {
	for _, n := range offs {
		packRefuses(t, api.ErrRange, n)
		packRefuses(t, api.ErrRange, n, 0)
	}
	for _, n := range sizes {
		for _, c := range []int{-1, -64, math.MinInt, n, n + 1, n + 64, math.MaxInt} {
			packRefuses(t, api.ErrRange, n, c)
			if n > 1 {
				packRefuses(t, api.ErrRange, n, 1, c)
				packRefuses(t, api.ErrRange, n, c, 1)
			}
		}
	}
}

// P2.1: Pack refuses a column that comes twice.
func TestPackForm(t *testing.T) {
	for _, n := range sizes {
		if n < 2 {
			continue
		}
		packRefuses(t, api.ErrForm, n, n-1, n-1)
		packRefuses(t, api.ErrForm, n, 0, 0)
		packRefuses(t, api.ErrForm, n, n-1, 0, n-1)
		packRefuses(t, api.ErrForm, n, 0, n-1, 0, 0)
	}
}

// P2.1: where a number is out of its range and a column comes twice, the range
// is told.
func TestPackBoth(t *testing.T) {
	for _, n := range offs {
		packRefuses(t, api.ErrRange, n, 1, 1)
	}
	for _, n := range sizes {
		for _, c := range []int{-1, n, math.MinInt, math.MaxInt} {
			packRefuses(t, api.ErrRange, n, c, c)
			if n > 1 {
				packRefuses(t, api.ErrRange, n, 1, 1, c)
				packRefuses(t, api.ErrRange, n, 0, 1, 0, 1, c, 0)
			}
		}
	}
}

// P2.1: a column that comes twice is found wherever it stands; more columns
// than there are have one.
func TestPackTwiceAnywhere(t *testing.T) {
	for _, n := range []int{2, 64, 65, 130, api.MaxBits} {
		for _, c := range []int{0, n / 2, n - 1} {
			l := make([]int, n, n+1)
			for i := range l {
				l[i] = i
			}
			packRefuses(t, api.ErrForm, n, append(l, c)...)
		}
	}
	packRefuses(t, api.ErrForm, api.MaxBits, make([]int, 1<<20)...)
}

// P2.1: Unpack, of the words of n columns and of any others.
func TestUnpack(t *testing.T) {
	for _, l := range []struct {
		w []uint64
		l []int
	}{
		{nil, nil},
		{[]uint64{}, nil},
		{[]uint64{0}, nil},
		{[]uint64{0, 0, 0}, nil},
		{[]uint64{1}, []int{0}},
		{[]uint64{1 << 63}, []int{63}},
		{[]uint64{1<<63 | 1}, []int{0, 63}},
		{[]uint64{0, 1}, []int{64}},
		{[]uint64{2, 0, 1<<63 | 4}, []int{1, 130, 191}},
		{append(make([]uint64, 64), 1), []int{api.MaxBits}},
		{append(make([]uint64, 1000), 8), []int{64003}},
	} {
		if got := packed.Unpack(l.w); !slices.Equal(got, l.l) {
			t.Errorf("Unpack(%v): %v, not %v", l.w, got, l.l)
		}
	}
	l := packed.Unpack([]uint64{full, full})
	for i := range 128 {
		if len(l) != 128 || l[i] != i {
			t.Fatalf("%v", l)
		}
	}
}

// P2.2: Xor.
func TestXor(t *testing.T) {
	for _, l := range []struct{ a, b, w []uint64 }{
		{nil, nil, nil},
		{nil, []uint64{}, nil},
		{[]uint64{}, nil, nil},
		{[]uint64{0}, []uint64{0}, []uint64{0}},
		{[]uint64{5}, []uint64{3}, []uint64{6}},
		{[]uint64{full}, []uint64{1}, []uint64{full - 1}},
		{[]uint64{1, 2, full}, []uint64{4, 2, 0}, []uint64{5, 0, full}},
		{make([]uint64, 100), append(make([]uint64, 99), 7), append(make([]uint64, 99), 7)},
	} {
		if w := xor(t, l.a, l.b); !slices.Equal(w, l.w) {
			t.Errorf("Xor(%v, %v): %v, not %v", l.a, l.b, w, l.w)
		}
	}
}

// P2.2: Xor, column by column.
func TestXorColumns(t *testing.T) {
	r := rand.New(rand.NewSource(2))
	for _, n := range sizes {
		a, b := pack(t, drawn(r, n), n), pack(t, drawn(r, n), n)
		w := xor(t, a, b)
		if len(w) != len(a) {
			t.Errorf("%d columns: %d words", n, len(w))
		}
		for c := range n {
			if packed.Has(w, c) != (packed.Has(a, c) != packed.Has(b, c)) {
				t.Errorf("%d columns: column %d", n, c)
			}
		}
	}
}

// P2.2: Xor and Odd refuse unlike numbers of words.
func TestUnlike(t *testing.T) {
	many := []int{0, 1, 2, 63, 64, 65, 100}
	for _, n := range many {
		for _, m := range many {
			if n == m {
				continue
			}
			a, b := make([]uint64, n), make([]uint64, m)
			for i := range a {
				a[i] = 1
			}
			for i := range b {
				b[i] = 1
			}
			w, err := packed.Xor(a, b)
			if len(w) != 0 {
				t.Errorf("Xor of %d and %d words: %v beside an error", n, m, w)
			}
			refused(t, err, "packed.Xor", api.ErrForm)
			is, err := packed.Odd(a, b)
			if is {
				t.Errorf("Odd of %d and %d words: true beside an error", n, m)
			}
			refused(t, err, "packed.Odd", api.ErrForm)
		}
	}
}

// P2.2: Has.
func TestHas(t *testing.T) {
	w := []uint64{1<<63 | 2, 0, 1}
	for c := -200; c < 400; c++ {
		if packed.Has(w, c) != (c == 1 || c == 63 || c == 128) {
			t.Errorf("column %d: %v", c, packed.Has(w, c))
		}
	}
	all := slices.Repeat([]uint64{full}, 70)
	for _, c := range []int{0, 63, 64, api.MaxBits, 70*64 - 1} {
		if !packed.Has(all, c) {
			t.Errorf("column %d: false", c)
		}
	}
	for _, c := range []int{-1, -63, -64, -65, 70 * 64, 70*64 + 1, 1 << 32, math.MinInt, math.MinInt + 1, math.MaxInt} {
		if packed.Has(all, c) || packed.Has(nil, c) || packed.Has([]uint64{}, c) {
			t.Errorf("column %d: true", c)
		}
	}
	if packed.Has(nil, 0) {
		t.Error("a column of no words")
	}
}

// P2.2: Count and First.
func TestCountFirst(t *testing.T) {
	for _, l := range []struct {
		w            []uint64
		count, first int
	}{
		{nil, 0, -1},
		{[]uint64{}, 0, -1},
		{[]uint64{0}, 0, -1},
		{make([]uint64, 100), 0, -1},
		{[]uint64{1}, 1, 0},
		{[]uint64{2}, 1, 1},
		{[]uint64{1 << 63}, 1, 63},
		{[]uint64{0, 1}, 1, 64},
		{[]uint64{0, 0, 1<<63 | 1<<5}, 2, 133},
		{[]uint64{6, 0, 1}, 3, 1},
		{[]uint64{full}, 64, 0},
		{[]uint64{0, full, full}, 128, 64},
		{append(make([]uint64, 64), full), 64, api.MaxBits},
	} {
		if n := packed.Count(l.w); n != l.count {
			t.Errorf("Count(%v): %d, not %d", l.w, n, l.count)
		}
		if c := packed.First(l.w); c != l.first {
			t.Errorf("First(%v): %d, not %d", l.w, c, l.first)
		}
	}
}

// P2.2: Odd.
func TestOdd(t *testing.T) {
	for _, l := range []struct {
		a, b []uint64
		is   bool
	}{
		{nil, nil, false},
		{nil, []uint64{}, false},
		{[]uint64{0}, []uint64{full}, false},
		{[]uint64{1}, []uint64{1}, true},
		{[]uint64{1}, []uint64{2}, false},
		{[]uint64{3}, []uint64{3}, false},
		{[]uint64{7}, []uint64{full}, true},
		{[]uint64{1, 1}, []uint64{1, 1}, false},
		{[]uint64{1, 2}, []uint64{1, 2}, false},
		{[]uint64{1, 2, 4}, []uint64{1, 2, 4}, true},
		{[]uint64{1, 2, 4}, []uint64{1, 0, 4}, false},
		{[]uint64{0, 1 << 63}, []uint64{full, 1 << 63}, true},
		{[]uint64{full}, []uint64{full}, false},
		{append(make([]uint64, 99), 1), append(make([]uint64, 99), 3), true},
	} {
		if is := odd(t, l.a, l.b); is != l.is {
			t.Errorf("Odd(%v, %v): %v", l.a, l.b, is)
		}
	}
}

// P2.1, P2.2, P2.3: whatever columns are packed, they are told again, rising.
func TestPackUnpack(t *testing.T) {
	r := rand.New(rand.NewSource(3))
	for _, n := range sizes {
		for range 20 {
			l := drawn(r, n)
			w, want := pack(t, l, n), rising(l)
			if got := packed.Unpack(w); !slices.Equal(got, want) {
				t.Fatalf("%d columns, %v: %v", n, l, got)
			}
			first := -1
			if len(want) > 0 {
				first = want[0]
			}
			if len(w) != packed.Size(n) || packed.Count(w) != len(l) || packed.First(w) != first {
				t.Errorf("%d columns, %v: %d words, Count %d, First %d", n, l, len(w), packed.Count(w), packed.First(w))
			}
			for c := -1; c <= n; c++ {
				if _, in := slices.BinarySearch(want, c); packed.Has(w, c) != in {
					t.Errorf("%d columns, %v: Has of %d: %v", n, l, c, !in)
				}
			}
			if again := pack(t, packed.Unpack(w), n); !slices.Equal(again, w) {
				t.Errorf("%d columns, %v: %v, not %v", n, l, again, w)
			}
		}
	}
}

// P2.4: the exclusive or of something with itself is nothing; it hangs on no
// order.
func TestXorOrder(t *testing.T) {
	r := rand.New(rand.NewSource(4))
	for _, n := range sizes {
		for range 20 {
			a, b, c := pack(t, drawn(r, n), n), pack(t, drawn(r, n), n), pack(t, drawn(r, n), n)
			none := make([]uint64, packed.Size(n))
			if !slices.Equal(xor(t, a, a), none) || !slices.Equal(xor(t, a, none), a) {
				t.Errorf("%d columns: with itself, with nothing", n)
			}
			if !slices.Equal(xor(t, a, b), xor(t, b, a)) {
				t.Errorf("%d columns: a, b; b, a", n)
			}
			if !slices.Equal(xor(t, xor(t, a, b), c), xor(t, a, xor(t, c, b))) {
				t.Errorf("%d columns: a b, c; a, c b", n)
			}
			if !slices.Equal(xor(t, xor(t, a, b), b), a) {
				t.Errorf("%d columns: twice", n)
			}
		}
	}
}

// P2.5: Odd goes over an exclusive or.
func TestOddOfXor(t *testing.T) {
	r := rand.New(rand.NewSource(5))
	for _, n := range sizes {
		for range 40 {
			a, b, c := pack(t, drawn(r, n), n), pack(t, drawn(r, n), n), pack(t, drawn(r, n), n)
			if odd(t, xor(t, a, b), c) != (odd(t, a, c) != odd(t, b, c)) {
				t.Errorf("%d columns: a b, c", n)
			}
			if odd(t, a, b) != odd(t, b, a) || odd(t, a, a) != (packed.Count(a)%2 == 1) {
				t.Errorf("%d columns: a, b; a, a", n)
			}
			both := 0
			for i := range n {
				if packed.Has(a, i) && packed.Has(b, i) {
					both++
				}
			}
			if odd(t, a, b) != (both%2 == 1) {
				t.Errorf("%d columns: %d in both", n, both)
			}
		}
	}
}

// What is handed in, and the room behind its end, is not changed.
func TestNothingIsChanged(t *testing.T) {
	l := []int{65, 1, 7, 8, 9}
	pack(t, l[:2], 70)
	packed.Pack(l[:2], 3)
	packed.Pack([]int{1, 1}, 3)
	if !slices.Equal(l, []int{65, 1, 7, 8, 9}) {
		t.Errorf("%v", l)
	}
	a, b := []uint64{1, 2, 3, 4}, []uint64{5, 6, 7, 8}
	for _, n := range []int{0, 1, 2, 4} {
		xor(t, a[:n], b[:n])
		odd(t, a[:n], b[:n])
		packed.Xor(a[:n], b[:n/2])
		packed.Odd(a[:n], b[:n/2])
		packed.Unpack(a[:n])
		packed.Count(a[:n])
		packed.First(a[:n])
		packed.Has(a[:n], n*64)
	}
	if !slices.Equal(a, []uint64{1, 2, 3, 4}) || !slices.Equal(b, []uint64{5, 6, 7, 8}) {
		t.Errorf("%v, %v", a, b)
	}
}

// The room behind a list's end is not read.
func TestRoomIsNotRead(t *testing.T) {
	w := []uint64{0, full, full}
	if packed.Has(w[:1], 64) || packed.Count(w[:1]) != 0 || packed.First(w[:1]) != -1 || len(packed.Unpack(w[:1])) != 0 {
		t.Error("read")
	}
	if odd(t, w[:1], []uint64{full}) {
		t.Error("read by Odd")
	}
}

// What is answered is new memory, and hangs on the arguments alone.
func TestAnswersAreNew(t *testing.T) {
	l := []int{65, 1}
	w, other := pack(t, l, 70), pack(t, l, 70)
	w[0], l[0] = 9, 3
	if !slices.Equal(other, []uint64{2, 2}) || !slices.Equal(w, []uint64{9, 2}) {
		t.Errorf("Pack: %v, %v", other, w)
	}
	u := packed.Unpack(other)
	u[0] = 9
	if !slices.Equal(other, []uint64{2, 2}) || !slices.Equal(packed.Unpack(other), []int{1, 65}) {
		t.Errorf("Unpack: %v", other)
	}
	a, b := []uint64{1, 2}, []uint64{0, 0}
	for _, x := range [][]uint64{xor(t, a, b), xor(t, b, a), xor(t, a, a)} {
		x[0], x[1] = 8, 8
	}
	if !slices.Equal(a, []uint64{1, 2}) || !slices.Equal(b, []uint64{0, 0}) {
		t.Errorf("Xor: %v, %v", a, b)
	}
	x := xor(t, a, b)
	a[0], b[1] = 7, 7
	if !slices.Equal(x, []uint64{1, 2}) {
		t.Errorf("Xor: %v", x)
	}
}
