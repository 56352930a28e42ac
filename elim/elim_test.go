package elim_test

import (
	"bytes"
	"errors"
	"math"
	"math/rand"
	"slices"
	"testing"

	"geyser/api"
	"geyser/elim"
	"geyser/fault"
	"geyser/matrix"
	"geyser/packed"
	"geyser/symbol"
)

// The calls' signatures are the chapter's.
var (
	_ func(int, int) (*elim.System, error)              = elim.New
	_ func(*elim.System, []uint64, []byte) (int, error) = (*elim.System).Add
	_ func(*elim.System) int                            = (*elim.System).Rank
	_ func(*elim.System) bool                           = (*elim.System).Whole
	_ func(*elim.System) bool                           = (*elim.System).Clashed
	_ func(*elim.System, int) ([]byte, error)           = (*elim.System).Value
	_ func(*elim.System) ([][]byte, error)              = (*elim.System).All
	_ func(*elim.System) *elim.System                   = (*elim.System).Clone
)

// sizes are numbers of columns at and beside the words' ends.
var sizes = []int{1, 2, 3, 63, 64, 65, 127, 128, 129, 200}

// equation is one that comes to a system.
type equation struct {
	row []uint64
	sym []byte
}

// refused says whether err is just a Fault of that call round that number.
func refused(t *testing.T, err error, call string, n api.Errno) {
	t.Helper()
	f, ok := err.(*api.Fault)
	if !ok || f == nil {
		t.Fatalf("%#v is no Fault", err)
	}
	if f.Call != call || fault.Num(err) != n || !errors.Is(err, n) {
		t.Errorf("%q %d, not %q %d", f.Call, fault.Num(err), call, n)
	}
}

// fine ends the test, if err is one.
func fine(t *testing.T, err error) {
	t.Helper()
	if err != nil {
		t.Fatalf("%v %d", err, fault.Num(err))
	}
}

// made is a system without equations.
func made(t *testing.T, n, size int) *elim.System {
	t.Helper()
	s, err := elim.New(n, size)
	fine(t, err)
	if s == nil {
		t.Fatalf("New(%d, %d): no system", n, size)
	}
	return s
}

// adds adds an equation, and says whether it is of that kind.
func adds(t *testing.T, s *elim.System, row []uint64, sym []byte, kind int) {
	t.Helper()
	got, err := s.Add(row, sym)
	fine(t, err)
	if got != kind {
		t.Fatalf("Add(%x, %x): %d, not %d", row, sym, got, kind)
	}
}

// stands says whether a system, which has not clashed, has that rank and just
// these values, nil where one is not known.
func stands(t *testing.T, s *elim.System, rank int, values [][]byte) {
	t.Helper()
	whole := !slices.ContainsFunc(values, func(v []byte) bool { return v == nil })
	if s.Rank() != rank || s.Whole() != whole || s.Clashed() {
		t.Errorf("%d %v %v, not %d %v false", s.Rank(), s.Whole(), s.Clashed(), rank, whole)
	}
	for c, want := range values {
		got, err := s.Value(c)
		if want == nil {
			refused(t, err, "elim.Value", api.ErrNone)
			if len(got) != 0 {
				t.Errorf("%x beside an error", got)
			}
			continue
		}
		fine(t, err)
		if !bytes.Equal(got, want) {
			t.Errorf("Value(%d): %x, not %x", c, got, want)
		}
	}
	all, err := s.All()
	if !whole {
		refused(t, err, "elim.All", api.ErrNone)
		if len(all) != 0 {
			t.Errorf("%x beside an error", all)
		}
		return
	}
	fine(t, err)
	if !slices.EqualFunc(all, values, bytes.Equal) {
		t.Errorf("All: %x, not %x", all, values)
	}
}

// overAt says whether a system that has clashed refuses all that it may, and
// tells that rank.
func overAt(t *testing.T, s *elim.System, n, size, rank int) {
	t.Helper()
	if s.Rank() != rank || s.Whole() || !s.Clashed() {
		t.Errorf("%d %v %v, not %d false true", s.Rank(), s.Whole(), s.Clashed(), rank)
	}
	allRefused(t, s, words(n, n-1), make([]byte, size))
	allRefused(t, s, words(n), make([]byte, size))
	allRefused(t, s, nil, nil)
	allRefused(t, s, words(n+64), make([]byte, size+1))
}

// allRefused says whether all calls that may refuse something do it with
// ErrState.
func allRefused(t *testing.T, s *elim.System, row []uint64, sym []byte) {
	t.Helper()
	kind, err := s.Add(row, sym)
	refused(t, err, "elim.Add", api.ErrState)
	for _, c := range []int{0, -1, math.MaxInt} {
		value, err := s.Value(c)
		refused(t, err, "elim.Value", api.ErrState)
		if len(value) != 0 {
			t.Errorf("%x beside an error", value)
		}
	}
	all, err := s.All()
	refused(t, err, "elim.All", api.ErrState)
	if kind != 0 || len(all) != 0 {
		t.Errorf("%d, %x beside an error", kind, all)
	}
}

// words is the words of n columns in which just those of l are 1.
func words(n int, l ...int) []uint64 {
	w := make([]uint64, (n+63)/64)
	for _, c := range l {
		w[c/64] |= 1 << (c % 64)
	}
	return w
}

// drawn is a row of n columns, each of which is 1 once in so many times.
func drawn(r *rand.Rand, n, often int) []uint64 {
	w := words(n)
	for c := range n {
		if r.Intn(often) == 0 {
			w[c/64] |= 1 << (c % 64)
		}
	}
	return w
}

// drawnSymbols is n symbols of that size.
func drawnSymbols(r *rand.Rand, n, size int) [][]byte {
	l := make([][]byte, n)
	for i := range l {
		l[i] = make([]byte, size)
		r.Read(l[i])
	}
	return l
}

// truth is the symbol that some symbols make true for row.
func truth(t *testing.T, row []uint64, symbols [][]byte, size int) []byte {
	t.Helper()
	sym, err := symbol.Pick(row, symbols, size)
	fine(t, err)
	return sym
}

// truths are drawn equations that symbols make true, some of them sums of those
// ahead of them.
func truths(t *testing.T, r *rand.Rand, symbols [][]byte, size, many int) []equation {
	t.Helper()
	n := len(symbols)
	var l []equation
	for len(l) < many {
		row := drawn(r, n, 2+r.Intn(2*n))
		if r.Intn(4) == 0 {
			row = words(n)
			for _, e := range l {
				if r.Intn(2) == 0 {
					row = xor(t, row, e.row)
				}
			}
		}
		l = append(l, equation{row, truth(t, row, symbols, size)})
	}
	return l
}

// xor is the sum of two rows.
func xor(t *testing.T, a, b []uint64) []uint64 {
	t.Helper()
	w, err := packed.Xor(a, b)
	fine(t, err)
	return w
}

// known are the values of which the rows alone say that they are known.
func known(t *testing.T, rows [][]uint64, symbols [][]byte) [][]byte {
	t.Helper()
	n := len(symbols)
	l := make([][]byte, n)
	for c := range n {
		is, err := matrix.Spans(rows, n, words(n, c))
		fine(t, err)
		if is {
			l[c] = symbols[c]
		}
	}
	return l
}

// The chapter's example.
func TestExample(t *testing.T) {
	s := made(t, 2, 1)
	stands(t, s, 0, [][]byte{nil, nil})
	adds(t, s, []uint64{3}, []byte{3}, api.Fresh)
	stands(t, s, 1, [][]byte{nil, nil})
	adds(t, s, []uint64{1}, []byte{1}, api.Fresh)
	stands(t, s, 2, [][]byte{{1}, {2}})
	adds(t, s, []uint64{2}, []byte{2}, api.Known)
	stands(t, s, 2, [][]byte{{1}, {2}})
	adds(t, s, []uint64{2}, []byte{3}, api.Clash)
	overAt(t, s, 2, 1, 2)
}

// P5.1: New of numbers in and out of their ranges.
func TestNew(t *testing.T) {
	for _, n := range []int{1, 2, 64, 65, api.MaxBits - 1, api.MaxBits} {
		for _, size := range []int{1, 2, api.MaxSymbol - 1, api.MaxSymbol} {
			s := made(t, n, size)
			if s.Rank() != 0 || s.Whole() || s.Clashed() {
				t.Errorf("%d %v %v", s.Rank(), s.Whole(), s.Clashed())
			}
			_, err := s.Value(n - 1)
			refused(t, err, "elim.Value", api.ErrNone)
			_, err = s.All()
			refused(t, err, "elim.All", api.ErrNone)
		}
	}
	ns := []int{0, -1, -64, api.MaxBits + 1, api.MaxBits + 64, 1 << 32, math.MinInt, math.MaxInt}
	offs := []int{0, -1, -64, api.MaxSymbol + 1, 2 * api.MaxSymbol, 1 << 32, math.MinInt, math.MaxInt}
	for _, n := range append(ns, 1, api.MaxBits) {
		for _, size := range append(offs, 1, api.MaxSymbol) {
			if !slices.Contains(ns, n) && !slices.Contains(offs, size) {
				continue
			}
			s, err := elim.New(n, size)
			refused(t, err, "elim.New", api.ErrRange)
			if s != nil {
				t.Errorf("New(%d, %d): a system beside an error", n, size)
			}
		}
	}
}

// wrong are rows that are not the words of n columns.
func wrong(n int) [][]uint64 {
	l := [][]uint64{nil, {}, words(n)[1:], words(n + 64), words(n + 128), words(n+64, n), words(n+64, 0)}
	for c := n; c%64 != 0; c++ {
		l = append(l, words(n, c), words(n, 0, c))
	}
	if n%64 != 0 {
		l = append(l, slices.Repeat([]uint64{math.MaxUint64}, len(words(n))))
	}
	return l
}

// P5.1: rows and symbols that are none of the system's; they change nothing.
func TestAddRefused(t *testing.T) {
	for _, n := range sizes {
		for _, size := range []int{1, 2, api.MaxSymbol} {
			s := made(t, n, size)
			values := make([][]byte, n)
			for round := range 2 {
				for _, row := range wrong(n) {
					for _, sym := range [][]byte{make([]byte, size), nil} {
						kind, err := s.Add(row, sym)
						refused(t, err, "elim.Add", api.ErrForm)
						if kind != 0 {
							t.Errorf("%d beside an error", kind)
						}
					}
				}
				for _, sym := range [][]byte{nil, {}, make([]byte, size-1), make([]byte, size+1), make([]byte, api.MaxSymbol+1)} {
					kind, err := s.Add(words(n, n-1), sym)
					refused(t, err, "elim.Add", api.ErrForm)
					kind2, err := s.Add(words(n), sym)
					refused(t, err, "elim.Add", api.ErrForm)
					if kind != 0 || kind2 != 0 {
						t.Errorf("%d, %d beside an error", kind, kind2)
					}
				}
				stands(t, s, round, values)
				if round == 0 {
					adds(t, s, words(n, 0), bytes.Repeat([]byte{7}, size), api.Fresh)
					values[0] = bytes.Repeat([]byte{7}, size)
				}
			}
		}
	}
}

// P5.1: the empty row says that 0 is its symbol.
func TestEmptyRow(t *testing.T) {
	for _, n := range sizes {
		s := made(t, n, 3)
		adds(t, s, words(n), []byte{0, 0, 0}, api.Known)
		stands(t, s, 0, make([][]byte, n))
		adds(t, s, words(n), []byte{0, 0, 1}, api.Clash)
		overAt(t, s, n, 3, 0)
		s = made(t, n, 3)
		adds(t, s, words(n), []byte{0x80, 0, 0}, api.Clash)
		overAt(t, s, n, 3, 0)
	}
}

// P5.1: a symbol that differs in one bit alone clashes, for good, whatever is
// known.
func TestClash(t *testing.T) {
	r := rand.New(rand.NewSource(51))
	for _, n := range sizes {
		for _, size := range []int{1, 9, api.MaxSymbol} {
			symbols := drawnSymbols(r, n, size)
			for range 6 {
				s := made(t, n, size)
				row := words(n)
				for i, e := range truths(t, r, symbols, size, 1+r.Intn(2*n)) {
					_, err := s.Add(e.row, e.sym)
					fine(t, err)
					if i == 0 || r.Intn(2) == 0 {
						row = xor(t, row, e.row)
					}
				}
				sym, rank := truth(t, row, symbols, size), s.Rank()
				adds(t, s, row, sym, api.Known)
				sym[r.Intn(size)] ^= 1 << r.Intn(8)
				adds(t, s, row, sym, api.Clash)
				overAt(t, s, n, size, rank)
				overAt(t, s, n, size, rank)
			}
		}
	}
}

// model is all sums of the equations that were kept, by the chapter's words.
type model struct {
	sums    map[uint64]string
	rank    int
	clashed bool
}

// add is what an equation is, which the model keeps if it is fresh.
func (m *model) add(row uint64, sym string) int {
	if s, ok := m.sums[row]; ok {
		m.clashed = s != sym
		if m.clashed {
			return api.Clash
		}
		return api.Known
	}
	more := map[uint64]string{}
	for r, s := range m.sums {
		sum := []byte(s)
		for i := range sum {
			sum[i] ^= sym[i]
		}
		more[r], more[r^row] = s, string(sum)
	}
	m.sums = more
	m.rank++
	return api.Fresh
}

// values are what is known by the model.
func (m *model) values(n int) [][]byte {
	l := make([][]byte, n)
	for c := range n {
		if s, ok := m.sums[1<<c]; ok {
			l[c] = []byte(s)
		}
	}
	return l
}

// P5.1, P5.2: all that the calls answer, beside all sums of what was kept, for
// equations that may clash.
func TestModel(t *testing.T) {
	r := rand.New(rand.NewSource(52))
	for range 3000 {
		n, size := 1+r.Intn(7), 1+r.Intn(2)
		m := &model{sums: map[uint64]string{0: string(make([]byte, size))}}
		s := made(t, n, size)
		symbols := drawnSymbols(r, n, size)
		for range 3 * n {
			row := []uint64{r.Uint64() >> (64 - n)}
			sym := truth(t, row, symbols, size)
			if r.Intn(6) == 0 {
				sym[r.Intn(size)] ^= byte(1 + r.Intn(255))
			}
			adds(t, s, row, sym, m.add(row[0], string(sym)))
			if m.clashed {
				overAt(t, s, n, size, m.rank)
				break
			}
			stands(t, s, m.rank, m.values(n))
		}
	}
}

// P5.2: Value of places that there are not.
func TestValueRange(t *testing.T) {
	for _, n := range sizes {
		s := made(t, n, 2)
		for c := range n + 1 {
			for _, off := range []int{-1, -64, n, n + 1, n + 64, api.MaxBits, 1 << 32, math.MinInt, math.MaxInt} {
				value, err := s.Value(off)
				refused(t, err, "elim.Value", api.ErrRange)
				if len(value) != 0 {
					t.Errorf("%x beside an error", value)
				}
			}
			if c < n {
				adds(t, s, words(n, c), []byte{byte(c), 1}, api.Fresh)
			}
		}
		if !s.Whole() {
			t.Errorf("%d: not whole", n)
		}
	}
}

// P5.2: a nil system.
func TestNil(t *testing.T) {
	var s *elim.System
	if s.Rank() != 0 || s.Whole() || s.Clashed() || s.Clone() != nil {
		t.Errorf("%d %v %v %v", s.Rank(), s.Whole(), s.Clashed(), s.Clone())
	}
	allRefused(t, s, nil, nil)
	allRefused(t, s, []uint64{1}, []byte{1})
	allRefused(t, s.Clone(), []uint64{1}, []byte{1})
}

// P5.2: a clone goes on as its system, and shares nothing with it.
func TestClone(t *testing.T) {
	r := rand.New(rand.NewSource(53))
	for _, n := range []int{1, 5, 64, 70} {
		symbols, others := drawnSymbols(r, n, 4), drawnSymbols(r, n, 4)
		empty := made(t, n, 4)
		s := empty.Clone()
		for c := range n {
			row := drawn(r, n, 2)
			row[c/64] |= 1 << (c % 64)
			_, err := s.Add(row, truth(t, row, symbols, 4))
			fine(t, err)
			// One goes on by other equations, of other symbols, which may clash.
			other := s.Clone()
			rank := s.Rank()
			var rows [][]uint64
			for range 2 * n {
				row := drawn(r, n, 3)
				if kind, _ := other.Add(row, truth(t, row, others, 4)); kind == api.Fresh {
					rows = append(rows, row)
				}
			}
			if other.Rank() != rank+len(rows) || s.Rank() != rank || s.Clashed() {
				t.Fatalf("%d %d %v, from %d", other.Rank(), s.Rank(), s.Clashed(), rank)
			}
		}
		for c := range n {
			_, err := s.Add(words(n, c), symbols[c])
			fine(t, err)
		}
		stands(t, s, n, symbols)
		whole := s.Clone()
		stands(t, whole, n, symbols)
		wrong := slices.Clone(symbols[0])
		wrong[3] ^= 1
		adds(t, s, words(n, 0), wrong, api.Clash)
		overAt(t, s, n, 4, n)
		overAt(t, s.Clone(), n, 4, n)
		stands(t, whole, n, symbols)
		adds(t, whole, words(n, 0), symbols[0], api.Known)
		stands(t, empty, 0, make([][]byte, n))
	}
}

// P5.3: equations that some symbols make true never clash, and what is known of
// them is these symbols, and is just what the rows say.
func TestTrueEquations(t *testing.T) {
	r := rand.New(rand.NewSource(54))
	for _, n := range sizes {
		for _, size := range []int{1, 5, api.MaxSymbol} {
			symbols := drawnSymbols(r, n, size)
			s := made(t, n, size)
			var rows [][]uint64
			for i, e := range truths(t, r, symbols, size, n+n/2) {
				rows = append(rows, e.row)
				want := api.Known
				if rank, err := matrix.Rank(rows, n); err != nil {
					t.Fatal(err)
				} else if rank > s.Rank() {
					want = api.Fresh
				}
				adds(t, s, e.row, e.sym, want)
				if n < 4 || i%(n/2) == 0 {
					rank, err := matrix.Rank(rows, n)
					fine(t, err)
					stands(t, s, rank, known(t, rows, symbols))
				}
			}
			for c := range n {
				_, err := s.Add(words(n, c), symbols[c])
				fine(t, err)
			}
			stands(t, s, n, symbols)
		}
	}
}

// P5.4: the order in which equations come says nothing of what is known.
func TestOrder(t *testing.T) {
	r := rand.New(rand.NewSource(55))
	for _, n := range sizes {
		symbols := drawnSymbols(r, n, 3)
		l := truths(t, r, symbols, 3, n)
		var rows [][]uint64
		for _, e := range l {
			rows = append(rows, e.row)
		}
		rank, err := matrix.Rank(rows, n)
		fine(t, err)
		values := known(t, rows, symbols)
		for range 5 {
			s := made(t, n, 3)
			for _, e := range l {
				_, err := s.Add(e.row, e.sym)
				fine(t, err)
			}
			stands(t, s, rank, values)
			r.Shuffle(len(l), func(i, j int) { l[i], l[j] = l[j], l[i] })
		}
		// Nor of whether they can all be true.
		odd := truth(t, l[0].row, symbols, 3)
		odd[1] ^= 0x10
		l = append(l, equation{l[0].row, odd})
		for range 5 {
			r.Shuffle(len(l), func(i, j int) { l[i], l[j] = l[j], l[i] })
			s := made(t, n, 3)
			for _, e := range l {
				s.Add(e.row, e.sym)
			}
			if !s.Clashed() {
				t.Errorf("%d: no clash", n)
			}
		}
	}
}

// P5.5: an equation that is a sum of others brings nothing.
func TestSumsBringNothing(t *testing.T) {
	r := rand.New(rand.NewSource(56))
	for _, n := range sizes {
		symbols := drawnSymbols(r, n, 2)
		s := made(t, n, 2)
		row, sym := words(n), []byte{0, 0}
		for range n {
			e := equation{drawn(r, n, 2), nil}
			e.sym = truth(t, e.row, symbols, 2)
			_, err := s.Add(e.row, e.sym)
			fine(t, err)
			adds(t, s, e.row, e.sym, api.Known)
			if r.Intn(2) == 0 {
				row = xor(t, row, e.row)
				sym, err = symbol.Xor(sym, e.sym)
				fine(t, err)
			}
			rank := s.Rank()
			adds(t, s, row, sym, api.Known)
			if s.Rank() != rank {
				t.Errorf("%d, from %d", s.Rank(), rank)
			}
		}
	}
}

// A system at its limits: the rows are such that each is taken down by all
// those ahead of it, and each value hangs on all that come behind it.
func TestLimits(t *testing.T) {
	r := rand.New(rand.NewSource(57))
	n, size := api.MaxBits, api.MaxSymbol
	symbols := drawnSymbols(r, n, size)
	s := made(t, n, size)
	row, sym := words(n), make([]byte, size)
	for c := n - 1; c >= 0; c-- {
		row[c/64] |= 1 << (c % 64)
		for i, b := range symbols[c] {
			sym[i] ^= b
		}
		adds(t, s, row, sym, api.Fresh)
	}
	for range 20 {
		row := drawn(r, n, 2)
		adds(t, s, row, truth(t, row, symbols, size), api.Known)
	}
	stands(t, s, n, symbols)
	sym[size-1] ^= 0x80
	adds(t, s.Clone(), row, sym, api.Clash)
	adds(t, s, words(n, n-1), sym, api.Clash)
	overAt(t, s, n, size, n)
}

// Rule 3: what is handed in is neither changed nor kept, nor what lies behind
// its end.
func TestNothingIsChangedOrKept(t *testing.T) {
	s := made(t, 70, 2)
	symbols := drawnSymbols(rand.New(rand.NewSource(58)), 70, 2)
	for c := 69; c >= 0; c-- {
		row := append(make([]uint64, 0, 6), words(70, c, 69)...)
		if c == 69 {
			row = append(row[:0], words(70, 69)...)
		}
		sym := append(make([]byte, 0, 8), truth(t, row, symbols, 2)...)
		wantRow, wantSym := slices.Clone(row[:6]), slices.Clone(sym[:8])
		adds(t, s, row, sym, api.Fresh)
		adds(t, s, row, sym, api.Known)
		if !slices.Equal(row[:6], wantRow) || !bytes.Equal(sym[:8], wantSym) {
			t.Fatalf("%x %x", row[:6], sym[:8])
		}
		clear(row[:6])
		clear(sym[:8])
	}
	stands(t, s, 70, symbols)
}

// Rule 3: what is answered is new memory, and no two lists of it share any.
func TestAnswersAreNew(t *testing.T) {
	n := 66
	symbols := drawnSymbols(rand.New(rand.NewSource(59)), n, 3)
	s := made(t, n, 3)
	for c := range n {
		row := words(n, c, (c+c/2+1)%n)
		if c == n-1 || c+c/2+1 >= n {
			row = words(n, c)
		}
		adds(t, s, row, truth(t, row, symbols, 3), api.Fresh)
	}
	for c := range n {
		clear(append(value(t, s, c), 9, 9, 9))
	}
	all, err := s.All()
	fine(t, err)
	for c := range all {
		if !bytes.Equal(all[c], symbols[c]) {
			t.Errorf("All: %x at %d, not %x", all[c], c, symbols[c])
		}
		clear(append(all[c], 9, 9, 9))
		clear(all[c])
	}
	stands(t, s, n, symbols)
	other := s.Clone()
	clear(value(t, s, 5))
	clear(value(t, other, 5))
	stands(t, s, n, symbols)
	stands(t, other, n, symbols)
}

// value is Value of one that is known.
func value(t *testing.T, s *elim.System, c int) []byte {
	t.Helper()
	v, err := s.Value(c)
	fine(t, err)
	return v
}
