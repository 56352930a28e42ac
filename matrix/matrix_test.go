package matrix_test

import (
	"errors"
	"math"
	"math/rand"
	"slices"
	"testing"

	"geyser/api"
	"geyser/fault"
	"geyser/matrix"
	"geyser/packed"
)

// The calls' signatures are the chapter's.
var (
	_ func([][]uint64, int) error                   = matrix.Check
	_ func([][]uint64, int) (int, error)            = matrix.Rank
	_ func([][]uint64, int) ([]int, error)          = matrix.Picks
	_ func([][]uint64, int, []uint64) (bool, error) = matrix.Spans
	_ func([][]uint64, int) ([][]uint64, error)     = matrix.Plain
)

// full is a word of which all columns are 1.
const full = math.MaxUint64

// sizes are numbers of columns at and beside the words' ends.
var sizes = []int{0, 1, 2, 63, 64, 65, 127, 128, 129, 1000, 4095, api.MaxBits}

// offs are numbers of columns that there may not be.
var offs = []int{-1, -64, -65, api.MaxBits + 1, api.MaxBits + 64, 1 << 32, math.MinInt, math.MinInt + 1, math.MaxInt}

// refused says whether err is just a Fault of that call round that number.
func refused(t *testing.T, err error, call string, n api.Errno) {
	t.Helper()
	f, ok := err.(*api.Fault)
	if !ok || f == nil {
		t.Fatalf("%#v is no Fault", err)
	}
	if f.Call != call || fault.Num(err) != n || !errors.Is(err, n) {
		t.Errorf("%q %d, not %q %d", f.Call, fault.Num(err), call, n)
	}
}

// allRefused says whether all calls refuse rows, n and row by that number, with
// nothing beside it.
func allRefused(t *testing.T, rows [][]uint64, n int, row []uint64, want api.Errno) {
	t.Helper()
	refused(t, matrix.Check(rows, n), "matrix.Check", want)
	rank, err := matrix.Rank(rows, n)
	refused(t, err, "matrix.Rank", want)
	picks, err := matrix.Picks(rows, n)
	refused(t, err, "matrix.Picks", want)
	spans, err := matrix.Spans(rows, n, row)
	refused(t, err, "matrix.Spans", want)
	plain, err := matrix.Plain(rows, n)
	refused(t, err, "matrix.Plain", want)
	if rank != 0 || len(picks) != 0 || spans || len(plain) != 0 {
		t.Errorf("%d, %v, %v, %v beside an error", rank, picks, spans, plain)
	}
}

// fine ends the test, if err is one.
func fine(t *testing.T, err error) {
	t.Helper()
	if err != nil {
		t.Fatalf("%v %d", err, fault.Num(err))
	}
}

// rank is Rank of what there may be.
func rank(t *testing.T, rows [][]uint64, n int) int {
	t.Helper()
	fine(t, matrix.Check(rows, n))
	r, err := matrix.Rank(rows, n)
	fine(t, err)
	return r
}

// picks is Picks of what there may be.
func picks(t *testing.T, rows [][]uint64, n int) []int {
	t.Helper()
	l, err := matrix.Picks(rows, n)
	fine(t, err)
	return l
}

// spans is Spans of what there may be.
func spans(t *testing.T, rows [][]uint64, n int, row []uint64) bool {
	t.Helper()
	is, err := matrix.Spans(rows, n, row)
	fine(t, err)
	return is
}

// plain is Plain of what there may be.
func plain(t *testing.T, rows [][]uint64, n int) [][]uint64 {
	t.Helper()
	l, err := matrix.Plain(rows, n)
	fine(t, err)
	return l
}

// same says whether two matrices have the same rows in the same order.
func same(a, b [][]uint64) bool {
	return slices.EqualFunc(a, b, slices.Equal)
}

// copied is rows in new memory.
func copied(rows [][]uint64) [][]uint64 {
	l := slices.Clone(rows)
	for i := range l {
		l[i] = slices.Clone(l[i])
	}
	return l
}

// words is the words of n columns in which just those of l are 1.
func words(n int, l ...int) []uint64 {
	w := make([]uint64, (n+63)/64)
	for _, c := range l {
		w[c/64] |= 1 << (c % 64)
	}
	return w
}

// drawn is a row of n columns, each of which is 1 once in so many times.
func drawn(r *rand.Rand, n, often int) []uint64 {
	w := words(n)
	for c := range n {
		if r.Intn(often) == 0 {
			w[c/64] |= 1 << (c % 64)
		}
	}
	return w
}

// sum is the sum of the rows at those places; of none the row 0.
func sum(rows [][]uint64, n int, at ...int) []uint64 {
	w := words(n)
	for _, i := range at {
		for j := range w {
			w[j] ^= rows[i][j]
		}
	}
	return w
}

// some is some of the numbers 0 to n - 1.
func some(r *rand.Rand, n int) []int {
	var l []int
	for i := range n {
		if r.Intn(2) == 0 {
			l = append(l, i)
		}
	}
	return l
}

// drawnRows are rows of which some hang on others.
func drawnRows(r *rand.Rand, n, many int) [][]uint64 {
	var rows [][]uint64
	for len(rows) < many {
		switch r.Intn(6) {
		case 0:
			rows = append(rows, sum(rows, n, some(r, len(rows))...))
		case 1:
			rows = append(rows, words(n))
		default:
			rows = append(rows, drawn(r, n, 2+r.Intn(20)))
		}
	}
	return rows
}

// isPlain says whether rows are in the plain form.
func isPlain(rows [][]uint64) bool {
	last := -1
	for i, row := range rows {
		c := packed.First(row)
		if c <= last {
			return false
		}
		last = c
		for j, other := range rows {
			if i != j && packed.Has(other, c) {
				return false
			}
		}
	}
	return true
}

// The chapter's example.
func TestExample(t *testing.T) {
	rows := [][]uint64{{6}, {3}, {5}}
	if r := rank(t, rows, 3); r != 2 {
		t.Errorf("Rank: %d", r)
	}
	if l := picks(t, rows, 3); !slices.Equal(l, []int{0, 1}) {
		t.Errorf("Picks: %v", l)
	}
	if l := plain(t, rows, 3); !same(l, [][]uint64{{5}, {6}}) {
		t.Errorf("Plain: %v", l)
	}
	if !spans(t, rows, 3, []uint64{5}) {
		t.Error("Spans of 101: false")
	}
}

// P3.1: n out of its range, ahead of too many rows and of rows of no form.
func TestRange(t *testing.T) {
	many := make([][]uint64, api.MaxRows+1)
	for _, n := range offs {
		allRefused(t, nil, n, nil, api.ErrRange)
		allRefused(t, [][]uint64{}, n, []uint64{full}, api.ErrRange)
		allRefused(t, [][]uint64{{0}, {1}}, n, []uint64{1}, api.ErrRange)
		allRefused(t, many, n, nil, api.ErrRange)
	}
	for n := range api.MaxBits + 1 {
		fine(t, matrix.Check(nil, n))
	}
}

// P3.1: more than MaxRows rows, ahead of rows of no form.
func TestLong(t *testing.T) {
	for _, n := range []int{0, 1, 64, 70} {
		for _, many := range []int{api.MaxRows + 1, api.MaxRows + 2, 3 * api.MaxRows} {
			rows := slices.Repeat([][]uint64{words(n)}, many)
			allRefused(t, rows, n, words(n), api.ErrLong)
			allRefused(t, rows, n, words(n+64), api.ErrLong)
			rows[1], rows[many-1] = words(n+64), []uint64{full, full, full}
			allRefused(t, rows, n, words(n), api.ErrLong)
		}
		rows := slices.Repeat([][]uint64{words(n)}, api.MaxRows)
		if r := rank(t, rows, n); r != 0 {
			t.Errorf("%d columns: rank %d", n, r)
		}
		if l := picks(t, rows, n); len(l) != 0 {
			t.Errorf("%d columns: picks %v", n, l)
		}
		if l := plain(t, rows, n); len(l) != 0 {
			t.Errorf("%d columns: %d plain rows", n, len(l))
		}
		if !spans(t, rows, n, words(n)) {
			t.Errorf("%d columns: 0 does not hang on rows", n)
		}
	}
}

// wrong are rows that are not the words of n columns.
func wrong(n int) [][]uint64 {
	l := [][]uint64{words(n + 64), words(n + 128), words(n+64, n)}
	if n > 0 {
		l = append(l, nil, []uint64{}, words(n)[1:])
	}
	for c := n; c%64 != 0; c++ {
		l = append(l, words(n, c))
	}
	if n%64 != 0 {
		l = append(l, slices.Repeat([]uint64{full}, len(words(n))))
	}
	return l
}

// P3.1: rows that are not the words of n columns, wherever they stand.
func TestForm(t *testing.T) {
	for _, n := range sizes {
		for _, w := range wrong(n) {
			allRefused(t, [][]uint64{w}, n, words(n), api.ErrForm)
			allRefused(t, [][]uint64{w, w}, n, w, api.ErrForm)
			allRefused(t, [][]uint64{words(n), words(n), w}, n, words(n), api.ErrForm)
			allRefused(t, [][]uint64{words(n), w, words(n)}, n, words(n), api.ErrForm)
			rows := slices.Repeat([][]uint64{words(n)}, api.MaxRows)
			rows[api.MaxRows-1] = w
			refused(t, matrix.Check(rows, n), "matrix.Check", api.ErrForm)
		}
	}
	// Words of one number of columns that another one has none of.
	for _, n := range sizes {
		for _, m := range sizes {
			if len(words(n)) != len(words(m)) {
				allRefused(t, [][]uint64{words(m)}, n, words(n), api.ErrForm)
			}
		}
	}
}

// P3.1: Spans refuses a row that is not the words of n columns, behind all else
// that it may refuse.
func TestFormOfSpans(t *testing.T) {
	for _, n := range sizes {
		for _, w := range wrong(n) {
			for _, rows := range [][][]uint64{nil, {}, {words(n)}, {words(n), words(n)}} {
				fine(t, matrix.Check(rows, n))
				is, err := matrix.Spans(rows, n, w)
				refused(t, err, "matrix.Spans", api.ErrForm)
				if is {
					t.Errorf("%d columns, %v: true beside an error", n, w)
				}
			}
		}
	}
}

// P3.1, P3.2: rows with 1 in the last column, and in all, are taken as they are.
func TestLastColumn(t *testing.T) {
	for _, n := range sizes[1:] {
		last, all := words(n, n-1), words(n)
		for c := range n {
			all[c/64] |= 1 << (c % 64)
		}
		rows := [][]uint64{last, all, last, all}
		wantRank, wantPicks := 2, []int{0, 1}
		if n == 1 {
			wantRank, wantPicks = 1, []int{0}
		}
		if r := rank(t, rows, n); r != wantRank {
			t.Errorf("%d columns: rank %d", n, r)
		}
		if l := picks(t, rows, n); !slices.Equal(l, wantPicks) {
			t.Errorf("%d columns: picks %v", n, l)
		}
		if l := plain(t, rows, n); len(l) != wantRank || !isPlain(l) || !slices.Equal(l[wantRank-1], last) {
			t.Errorf("%d columns: plain %v", n, l)
		}
		if !spans(t, rows, n, sum(rows, n, 0, 1)) || spans(t, rows, n, words(n, 0)) != (n <= 2) {
			t.Errorf("%d columns: spans", n)
		}
	}
}

// P3.2: no rows, and no columns.
func TestNothing(t *testing.T) {
	for _, n := range sizes {
		for _, rows := range [][][]uint64{nil, {}, {words(n)}, {words(n), words(n), words(n)}} {
			if r := rank(t, rows, n); r != 0 {
				t.Errorf("%d rows of %d columns: rank %d", len(rows), n, r)
			}
			if p, l := picks(t, rows, n), plain(t, rows, n); len(p) != 0 || len(l) != 0 {
				t.Errorf("%d rows of %d columns: picks %v, plain %v", len(rows), n, p, l)
			}
			if !spans(t, rows, n, words(n)) {
				t.Errorf("%d rows of %d columns: 0 does not hang on them", len(rows), n)
			}
			for _, c := range []int{0, n / 2, n - 1} {
				if n > 0 && spans(t, rows, n, words(n, c)) {
					t.Errorf("%d rows of %d columns: column %d hangs on them", len(rows), n, c)
				}
			}
		}
	}
	// A list without elements is nil's like.
	for _, rows := range [][][]uint64{{nil}, {{}}, {nil, {}}} {
		if rank(t, rows, 0) != 0 || !spans(t, rows, 0, nil) || !spans(t, rows, 0, []uint64{}) {
			t.Errorf("%v: of no columns", rows)
		}
	}
}

// smallSums is all sums of rows of one word, by going through all choices.
func smallSums(rows [][]uint64) map[uint64]int {
	all := map[uint64]int{0: 0}
	for choice := range 1 << len(rows) {
		x := uint64(0)
		for i, row := range rows {
			if choice>>i&1 == 1 {
				x ^= row[0]
			}
		}
		all[x]++
	}
	return all
}

// checkSmall holds what is answered of rows of n columns, at most 6, against
// the words of the chapter.
func checkSmall(t *testing.T, rows [][]uint64, n int) {
	t.Helper()
	all := smallSums(rows)
	var want []int
	for i, row := range rows {
		if _, hangs := smallSums(rows[:i])[row[0]]; !hangs {
			want = append(want, i)
		}
	}
	if r := rank(t, rows, n); r != len(want) || 1<<r != len(all) {
		t.Errorf("%v of %d columns: rank %d, %d sums", rows, n, r, len(all))
	}
	if l := picks(t, rows, n); !slices.Equal(l, want) {
		t.Errorf("%v of %d columns: picks %v, not %v", rows, n, l, want)
	}
	for x := range uint64(1) << n {
		if _, hangs := all[x]; spans(t, rows, n, []uint64{x}) != hangs {
			t.Errorf("%v of %d columns: spans of %d: %v", rows, n, x, !hangs)
		}
	}
	l := plain(t, rows, n)
	fine(t, matrix.Check(l, n))
	if len(l) != len(want) || !isPlain(l) {
		t.Errorf("%v of %d columns: plain %v", rows, n, l)
	}
	sums := smallSums(l)
	for x := range all {
		if _, hangs := sums[x]; !hangs || len(sums) != len(all) {
			t.Errorf("%v of %d columns: plain %v has other sums", rows, n, l)
		}
	}
}

// P3.2: all matrices of three columns and at most four rows.
func TestSmall(t *testing.T) {
	for many := range 5 {
		for choice := range 1 << (3 * many) {
			rows := make([][]uint64, many)
			for i := range rows {
				rows[i] = []uint64{uint64(choice>>(3*i)) & 7}
			}
			checkSmall(t, rows, 3)
		}
	}
}

// P3.2: some matrices of one to six columns and up to nine rows.
func TestSmallDrawn(t *testing.T) {
	r := rand.New(rand.NewSource(1))
	for range 1500 {
		n := 1 + r.Intn(6)
		rows := make([][]uint64, r.Intn(10))
		for i := range rows {
			rows[i] = []uint64{r.Uint64() >> (64 - n)}
		}
		checkSmall(t, rows, n)
	}
}

// P3.2: rows of which the rank is plain to see, at the limits.
func TestLimits(t *testing.T) {
	for _, n := range []int{65, 4095, api.MaxBits} {
		rows, want := make([][]uint64, n), make([][]uint64, n)
		order := rand.New(rand.NewSource(2)).Perm(n)
		for c := range n {
			// A staircase: column c and all behind it.
			w := words(n)
			for d := c; d < n; d++ {
				w[d/64] |= 1 << (d % 64)
			}
			rows[order[c]], want[c] = w, words(n, c)
		}
		if r := rank(t, rows, n); r != n {
			t.Errorf("%d columns: rank %d", n, r)
		}
		if l := picks(t, rows, n); len(l) != n || l[0] != 0 || l[n-1] != n-1 || !slices.IsSorted(l) {
			t.Errorf("%d columns: picks %v", n, l)
		}
		if !same(plain(t, rows, n), want) {
			t.Errorf("%d columns: plain", n)
		}
		if !spans(t, rows, n, words(n, n/2)) || spans(t, rows[1:], n, rows[0]) {
			t.Errorf("%d columns: spans", n)
		}
	}
	// More rows than columns: those ahead are told.
	rows := make([][]uint64, api.MaxRows)
	for i := range rows {
		rows[i] = words(100, i%100)
	}
	rows[3] = words(100)
	want := make([]int, 0, 100)
	for i := range 100 {
		want = append(want, i)
	}
	want = append(slices.Delete(want, 3, 4), 103)
	if l := picks(t, rows, 100); !slices.Equal(l, want) {
		t.Errorf("picks %v", l)
	}
}

// P3.2: of many columns Picks tells just the rows that do not hang on those
// ahead of them, and Plain is the plain form.
func TestDrawn(t *testing.T) {
	r := rand.New(rand.NewSource(3))
	for _, n := range sizes {
		for range 6 {
			rows := drawnRows(r, n, r.Intn(40))
			var want []int
			for i, row := range rows {
				if !spans(t, rows[:i], n, row) {
					want = append(want, i)
				}
			}
			if l := picks(t, rows, n); !slices.Equal(l, want) {
				t.Errorf("%d columns: picks %v, not %v", n, l, want)
			}
			l := plain(t, rows, n)
			fine(t, matrix.Check(l, n))
			if !isPlain(l) {
				t.Errorf("%d columns: not plain", n)
			}
			for range 10 {
				if !spans(t, l, n, sum(rows, n, some(r, len(rows))...)) || !spans(t, rows, n, sum(l, n, some(r, len(l))...)) {
					t.Errorf("%d columns: the plain form has other sums", n)
				}
			}
		}
	}
}

// P3.3: the rank is how many rows the plain form has, and how many Picks tells;
// it hangs on no order.
func TestRankOrder(t *testing.T) {
	r := rand.New(rand.NewSource(4))
	for _, n := range sizes {
		for range 6 {
			rows := drawnRows(r, n, r.Intn(40))
			k, form := rank(t, rows, n), plain(t, rows, n)
			for range 4 {
				if rank(t, rows, n) != k || len(plain(t, rows, n)) != k || len(picks(t, rows, n)) != k {
					t.Errorf("%d columns: rank %d, not %d", n, rank(t, rows, n), k)
				}
				if !same(plain(t, rows, n), form) {
					t.Errorf("%d columns: another plain form in another order", n)
				}
				r.Shuffle(len(rows), func(i, j int) { rows[i], rows[j] = rows[j], rows[i] })
			}
			picked := [][]uint64{}
			for _, i := range picks(t, rows, n) {
				picked = append(picked, rows[i])
			}
			if rank(t, picked, n) != k || len(picks(t, picked, n)) != k || !same(plain(t, picked, n), form) {
				t.Errorf("%d columns: those picked have another rank", n)
			}
		}
	}
}

// P3.4: a row that is a sum of others adds nothing; one that does not hang on
// them adds one to the rank.
func TestOneMore(t *testing.T) {
	r := rand.New(rand.NewSource(5))
	for _, n := range sizes {
		for range 6 {
			rows := drawnRows(r, n, r.Intn(30))
			k, form, at := rank(t, rows, n), plain(t, rows, n), picks(t, rows, n)
			hangs := sum(rows, n, some(r, len(rows))...)
			if !spans(t, rows, n, hangs) {
				t.Errorf("%d columns: a sum does not hang on its rows", n)
			}
			more := append(slices.Clone(rows), hangs)
			if rank(t, more, n) != k || !same(plain(t, more, n), form) || !slices.Equal(picks(t, more, n), at) {
				t.Errorf("%d columns: a sum adds something", n)
			}
			free := drawn(r, n, 2)
			more = append(slices.Clone(rows), free)
			one := 1
			if spans(t, rows, n, free) {
				one = 0
			} else {
				at = append(at, len(rows))
			}
			if rank(t, more, n) != k+one || !slices.Equal(picks(t, more, n), at) || !spans(t, more, n, free) {
				t.Errorf("%d columns: rank %d, not %d", n, rank(t, more, n), k+one)
			}
		}
	}
}

// P3.4: a column that is 0 in all rows hangs on none of them.
func TestFreeColumn(t *testing.T) {
	r := rand.New(rand.NewSource(6))
	for _, n := range sizes[1:] {
		for _, c := range []int{0, n / 2, n - 1} {
			rows := drawnRows(r, n, 20)
			for _, row := range rows {
				row[c/64] &^= 1 << (c % 64)
			}
			free := words(n, c)
			if spans(t, rows, n, free) || rank(t, append(slices.Clone(rows), free), n) != rank(t, rows, n)+1 {
				t.Errorf("%d columns: column %d hangs on rows that don't have it", n, c)
			}
		}
	}
}

// P3.5: the plain form of the plain form is itself; matrices with the same sums
// have the same plain form.
func TestPlainAgain(t *testing.T) {
	r := rand.New(rand.NewSource(7))
	for _, n := range sizes {
		for range 6 {
			rows := drawnRows(r, n, 1+r.Intn(40))
			form := plain(t, rows, n)
			if !same(plain(t, form, n), form) {
				t.Errorf("%d columns: plain twice", n)
			}
			other := copied(rows)
			for range 200 {
				i, j := r.Intn(len(other)), r.Intn(len(other))
				if i != j {
					other[i] = sum(other, n, i, j)
				}
			}
			other = append(other, sum(other, n, some(r, len(other))...))
			r.Shuffle(len(other), func(i, j int) { other[i], other[j] = other[j], other[i] })
			if !same(plain(t, other, n), form) {
				t.Errorf("%d columns: the same sums, another plain form", n)
			}
		}
	}
}

// What is handed in, and the room behind its end, is neither changed nor read.
func TestNothingIsChanged(t *testing.T) {
	// Rows that share memory, with room behind their ends that is not 0.
	whole := []uint64{6, 3, 5, 1, full, full}
	rows := [][]uint64{whole[0:1], whole[1:2], whole[2:3], whole[0:1], whole[1:2], {7, 7}, nil}
	kept, inRoom := slices.Clone(whole), copied(rows)
	for range 2 {
		if rank(t, rows[:5], 3) != 2 || !slices.Equal(picks(t, rows[:5], 3), []int{0, 1}) {
			t.Error("rank, picks")
		}
		if !same(plain(t, rows[:5], 3), [][]uint64{{5}, {6}}) {
			t.Error("plain")
		}
		if spans(t, rows[:5], 3, whole[3:4]) || !spans(t, rows[:5], 3, whole[2:3]) {
			t.Error("spans")
		}
		matrix.Plain(rows, 3)
		matrix.Spans(rows[:5], 3, whole[4:6])
		if !slices.Equal(whole, kept) || !same(rows, inRoom) {
			t.Fatalf("%v, %v", whole, rows)
		}
	}
}

// What is answered is new memory, and no two rows of it share any.
func TestAnswersAreNew(t *testing.T) {
	for _, n := range []int{3, 130} {
		// These rows are in the plain form as they come.
		rows := [][]uint64{words(n, 0), words(n, 1), words(n, 2)}
		kept := copied(rows)
		l, other := plain(t, rows, n), plain(t, rows, n)
		for i, row := range l {
			l[i] = append(row, full, full)
			row[0] = full
		}
		if !same(rows, kept) || !same(other, kept) || !same(plain(t, rows, n), kept) {
			t.Errorf("%v, %v", rows, other)
		}
		for i := range other {
			for j := range other[i] {
				other[i][j] = uint64(i)
			}
			other[i] = append(other[i], 9)
		}
		for i := range other {
			if other[i][0] != uint64(i) {
				t.Errorf("row %d: %v", i, other[i])
			}
		}
		p := picks(t, rows, n)
		p[0] = 9
		rows[0][0] = 6
		if !slices.Equal(picks(t, rows, n), []int{0, 1}) || !same(plain(t, kept, n), kept) {
			t.Errorf("%v, %v", picks(t, rows, n), kept)
		}
	}
}
