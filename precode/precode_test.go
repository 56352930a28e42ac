package precode_test

import (
	"errors"
	"math"
	"slices"
	"testing"

	"geyser/api"
	"geyser/fault"
	"geyser/matrix"
	"geyser/packed"
	"geyser/params"
	"geyser/precode"
)

// The calls' signatures are the chapter's.
var (
	_ func(api.Params, int) ([]int, error) = precode.Row
	_ func(api.Params) ([][]int, error)    = precode.All
	_ func(int, int) ([]int, error)        = precode.Gray
	_ func(api.Params, int) ([]int, error) = precode.In
)

// written are all rows of some K, reckoned apart from the program.
var written = map[int][][]int{
	1: {
		{0, 1},
		{0, 2},
		{0, 3},
		{0, 2, 4},
		{0, 1, 5},
		{1, 2, 3, 6},
		{3, 7},
	},
	2: {
		{0, 2},
		{0, 1, 3},
		{0, 1, 4},
		{1, 5},
		{6},
		{0, 1, 3, 4, 7},
		{0, 2, 3, 5, 8},
		{0, 1, 2, 6, 9},
		{1, 2, 3, 4, 5, 6, 10},
		{4, 5, 6, 11},
	},
	10: {
		{0, 5, 6, 7, 10},
		{0, 1, 6, 8, 11},
		{0, 1, 2, 7, 9, 12},
		{1, 2, 3, 8, 13},
		{2, 3, 4, 7, 9, 14},
		{3, 4, 5, 8, 15},
		{4, 5, 6, 9, 16},
		{0, 1, 3, 4, 7, 9, 10, 14, 17},
		{0, 2, 3, 5, 8, 9, 11, 15, 18},
		{0, 1, 2, 6, 7, 8, 12, 16, 19},
		{1, 2, 3, 4, 5, 6, 13, 14, 15, 16, 20},
		{4, 5, 6, 7, 8, 9, 10, 11, 12, 13, 21},
		{10, 11, 12, 13, 14, 15, 16, 22},
	},
}

// many is how many of the numbers g(i), i below 2^20, have a weight that fewer
// than MaxRows of them have.
var many = map[int]int{1: 20, 2: 190, 3: 1140}

// refused says whether err is just a Fault of that call round that number.
func refused(t *testing.T, err error, call string, n api.Errno) {
	t.Helper()
	f, ok := err.(*api.Fault)
	if !ok || f == nil {
		t.Fatalf("%#v is no Fault", err)
	}
	if f.Call != call || fault.Num(err) != n || !errors.Is(err, n) {
		t.Errorf("%q %d, not %q %d", f.Call, fault.Num(err), call, n)
	}
}

// fine ends the test, if err is one.
func fine(t *testing.T, err error) {
	t.Helper()
	if err != nil {
		t.Fatalf("%v %d", err, fault.Num(err))
	}
}

// of is the numbers of k source symbols.
func of(t *testing.T, k int) api.Params {
	t.Helper()
	p, err := params.Of(k)
	fine(t, err)
	return p
}

// row is Row of what there is.
func row(t *testing.T, p api.Params, i int) []int {
	t.Helper()
	l, err := precode.Row(p, i)
	fine(t, err)
	return l
}

// all is All of right numbers.
func all(t *testing.T, p api.Params) [][]int {
	t.Helper()
	rows, err := precode.All(p)
	fine(t, err)
	return rows
}

// gray is Gray of what there is.
func gray(t *testing.T, weight, n int) []int {
	t.Helper()
	l, err := precode.Gray(weight, n)
	fine(t, err)
	return l
}

// in is In of what there is.
func in(t *testing.T, p api.Params, place int) []int {
	t.Helper()
	l, err := precode.In(p, place)
	fine(t, err)
	return l
}

// reflected are the numbers g(i), i below 2^width: each half is the one ahead
// of it, back to front, with one bit more.
func reflected(width int) []int {
	l := []int{0}
	for b := range width {
		for _, g := range slices.Backward(slices.Clone(l)) {
			l = append(l, g+1<<b)
		}
	}
	return l
}

// weight is how many of a number's bits are 1.
func weight(g int) int {
	n := 0
	for ; g > 0; g /= 2 {
		n += g % 2
	}
	return n
}

// weighing are those numbers of l that have that weight.
func weighing(l []int, w int) []int {
	var some []int
	for _, g := range l {
		if weight(g) == w {
			some = append(some, g)
		}
	}
	return some
}

// has says, place by place, whether a row has it, by the chapter's words; codes
// are the numbers of half of H bits, in order.
func has(p api.Params, codes []int, row, place int) bool {
	switch {
	case row < p.S && place < p.K:
		a, b := 1+place/p.S%(p.S-1), place%p.S
		return row == b || row == (b+a)%p.S || row == (b+a+a)%p.S
	case row < p.S:
		return place == p.K+row
	case place < p.K+p.S:
		for range row - p.S {
			codes[place] /= 2
		}
		return codes[place]%2 == 1
	}
	return place == p.K+row
}

// model is all rows of p.
func model(p api.Params) [][]int {
	half := weighing(reflected(p.H), (p.H+1)/2)
	rows := make([][]int, p.S+p.H)
	for i := range rows {
		for place := range p.L {
			if has(p, slices.Clone(half), i, place) {
				rows[i] = append(rows[i], place)
			}
		}
	}
	return rows
}

// wrong are numbers that are not those of their K: of a K that is out of its
// range, and each of them one off, or another K's, or with right lowest bits.
func wrong(t *testing.T) []api.Params {
	t.Helper()
	var l []api.Params
	for _, k := range []int{math.MinInt, -1 << 32, -1, 0, api.MaxSource + 1, 1 << 32, 1<<32 + 1, math.MaxInt} {
		l = append(l, api.Params{K: k}, api.Params{K: k, S: 3, H: 4, L: 8, P: 11})
	}
	for _, k := range []int{1, 10, api.MaxSource} {
		for _, by := range []int{-1, 1, 1 << 32, math.MinInt} {
			p := of(t, k)
			s, h, n, x, y := p, p, p, p, p
			s.S, h.H, n.L, x.P, y.K = s.S+by, h.H+by, n.L+by, x.P+by, y.K+by
			l = append(l, s, h, n, x, y)
		}
	}
	// Of 100 and of 99 S, H are the same ones.
	p := of(t, 100)
	p.K = 99
	return append(l, p, api.Params{K: 1}, api.Params{K: 10, S: 7, H: 6}, api.Params{S: 3, H: 4, L: 8, P: 11})
}

// offs are numbers below 0, and so many beyond n, n among them.
func offs(n int) []int {
	return []int{math.MinInt, math.MinInt + 1, -1 << 32, -n, -2, -1, n, n + 1, 2 * n, 1 << 31, 1 << 32, 1<<32 + 1, math.MaxInt - 1, math.MaxInt}
}

// The chapter's examples.
func TestExamples(t *testing.T) {
	p := of(t, 1)
	if l := in(t, p, 0); len(l) < 3 || !slices.Equal(l[:3], []int{0, 1, 2}) {
		t.Errorf("In(1, 0): %v", l)
	}
	if l := row(t, p, 0); !slices.Equal(l, []int{0, 1}) {
		t.Errorf("Row(1, 0): %v", l)
	}
	if l := gray(t, 2, 3); !slices.Equal(l, []int{3, 6, 5}) {
		t.Errorf("Gray(2, 3): %v", l)
	}
}

// P9.1: rows that are written out.
func TestRowsWritten(t *testing.T) {
	for k, want := range written {
		p := of(t, k)
		if got := all(t, p); !slices.EqualFunc(got, want, slices.Equal) {
			t.Errorf("All(%d): %v, not %v", k, got, want)
		}
		for i := range want {
			if got := row(t, p, i); !slices.Equal(got, want[i]) {
				t.Errorf("Row(%d, %d): %v, not %v", k, i, got, want[i])
			}
		}
	}
	p := of(t, api.MaxSource)
	for i, want := range map[int][]int{
		0:  {0, 17, 18, 19, 34, 36, 38, 51, 54, 57, 68, 72, 76, 85, 90, 95, 102, 108, 114, 119, 126, 128},
		18: {16, 17, 18, 33, 35, 37, 50, 53, 56, 67, 71, 75, 84, 89, 94, 101, 107, 113, 118, 125, 146},
		28: {126, 127, 128, 129, 130, 131, 132, 133, 134, 135, 136, 137, 138, 139, 140, 141, 142, 143, 144, 145, 146, 156},
	} {
		if got := row(t, p, i); !slices.Equal(got, want) {
			t.Errorf("Row(128, %d): %v, not %v", i, got, want)
		}
	}
}

// P9.1: of each K the rows have just the places that the chapter's words say,
// rising, all of them and one by one.
func TestRows(t *testing.T) {
	for k := 1; k <= api.MaxSource; k++ {
		p := of(t, k)
		want := model(p)
		got := all(t, p)
		if !slices.EqualFunc(got, want, slices.Equal) {
			t.Fatalf("All(%d): %v, not %v", k, got, want)
		}
		for i := range want {
			if got := row(t, p, i); !slices.Equal(got, want[i]) {
				t.Fatalf("Row(%d, %d): %v, not %v", k, i, got, want[i])
			}
		}
	}
}

// P9.2: of each K and place the rows that have it are told, rising.
func TestIn(t *testing.T) {
	for k := 1; k <= api.MaxSource; k++ {
		p := of(t, k)
		want := make([][]int, p.L)
		for i, l := range model(p) {
			for _, place := range l {
				want[place] = append(want[place], i)
			}
		}
		for place := range want {
			if got := in(t, p, place); !slices.Equal(got, want[place]) {
				t.Fatalf("In(%d, %d): %v, not %v", k, place, got, want[place])
			}
		}
	}
}

// P9.2: places that are written out.
func TestInWritten(t *testing.T) {
	for _, c := range []struct {
		k, place int
		want     []int
	}{
		{1, 0, []int{0, 1, 2, 3, 4}},
		{1, 3, []int{2, 5, 6}},
		{1, 7, []int{6}},
		{10, 7, []int{0, 2, 4, 7, 9, 11}},
		{128, 0, []int{0, 1, 2, 19, 20, 21, 22, 23}},
		{128, 18, []int{0, 1, 18, 20, 21, 22, 23, 25}},
		{128, 19, []int{0, 2, 4, 19, 20, 22, 23, 25}},
		{128, 127, []int{1, 8, 13, 19, 21, 22, 27, 28}},
		{128, 128, []int{0, 20, 21, 22, 27, 28}},
		{128, 146, []int{18, 19, 24, 25, 27, 28}},
		{128, 147, []int{19}},
		{128, 156, []int{28}},
	} {
		if got := in(t, of(t, c.k), c.place); !slices.Equal(got, c.want) {
			t.Errorf("In(%d, %d): %v, not %v", c.k, c.place, got, c.want)
		}
	}
}

// P9.1, P9.2: numbers that are not those of their K, whatever else is asked for
// with them: their error is named first.
func TestWrongNumbers(t *testing.T) {
	for _, p := range wrong(t) {
		rows, err := precode.All(p)
		refused(t, err, "precode.All", api.ErrRange)
		if len(rows) != 0 {
			t.Errorf("%v: %v beside an error", p, rows)
		}
		for _, i := range []int{math.MinInt, -1, 0, 1, 6, 7, 28, 29, 1000, math.MaxInt} {
			l, err := precode.Row(p, i)
			refused(t, err, "precode.Row", api.ErrRange)
			in, err := precode.In(p, i)
			refused(t, err, "precode.In", api.ErrRange)
			if len(l) != 0 || len(in) != 0 {
				t.Errorf("%v: %v, %v beside an error", p, l, in)
			}
		}
	}
}

// P9.1, P9.2: of each K the rows and the places end where the chapter says.
func TestNoSuch(t *testing.T) {
	for k := 1; k <= api.MaxSource; k++ {
		p := of(t, k)
		row(t, p, p.S+p.H-1)
		for _, i := range offs(p.S + p.H) {
			l, err := precode.Row(p, i)
			refused(t, err, "precode.Row", api.ErrNone)
			if len(l) != 0 {
				t.Errorf("Row(%d, %d): %v beside an error", k, i, l)
			}
		}
		in(t, p, p.L-1)
		for _, place := range offs(p.L) {
			l, err := precode.In(p, place)
			refused(t, err, "precode.In", api.ErrNone)
			if len(l) != 0 {
				t.Errorf("In(%d, %d): %v beside an error", k, place, l)
			}
		}
	}
}

// P9.2: of each weight the first numbers, in order; as many as there are, and
// no more.
func TestGray(t *testing.T) {
	codes := reflected(20)
	for w := 1; w <= 16; w++ {
		want := weighing(codes, w)
		most := api.MaxRows
		if n, few := many[w]; few {
			most = n
		}
		for _, n := range []int{0, 1, 2, 3, 10, 19, 20, 21, 189, 190, 191, 1139, 1140, 1141, api.MaxRows - 1, api.MaxRows} {
			l, err := precode.Gray(w, n)
			if n > most {
				refused(t, err, "precode.Gray", api.ErrNone)
				if len(l) != 0 {
					t.Errorf("Gray(%d, %d): %v beside an error", w, n, l)
				}
				continue
			}
			fine(t, err)
			if !slices.Equal(l, want[:n]) {
				t.Errorf("Gray(%d, %d): %v, not %v", w, n, l, want[:n])
			}
		}
	}
}

// P9.2: numbers that are written out: the first ones, and the last ones that
// there are, or may be asked for.
func TestGrayWritten(t *testing.T) {
	for _, c := range []struct {
		weight, n   int
		first, last []int
	}{
		{1, 20, []int{1, 2, 4, 8, 16}, []int{131072, 262144, 524288}},
		{2, 190, []int{3, 6, 5, 12, 10, 9, 24, 20}, []int{524292, 524290, 524289}},
		{3, 1140, []int{7, 13, 14, 11, 25, 26, 28, 21}, []int{524293, 524294, 524291}},
		{4, 4096, []int{15, 27, 30, 29, 23, 51, 54, 53}, []int{657410, 657409, 661504}},
		{16, 4096, []int{65535, 114687, 126975, 130047}, []int{720890, 720889, 720875}},
	} {
		l := gray(t, c.weight, c.n)
		if len(l) != c.n || !slices.Equal(l[:len(c.first)], c.first) || !slices.Equal(l[c.n-3:], c.last) {
			t.Errorf("Gray(%d, %d): %v", c.weight, c.n, l)
		}
	}
}

// P9.2: what is out of its range is told ahead of there being too few.
func TestGrayRefused(t *testing.T) {
	weights := []int{math.MinInt, -1 << 32, -1<<32 + 2, -16, -1, 0, 17, 18, 20, 21, 64, 1 << 32, 1<<32 + 2, math.MaxInt}
	numbers := []int{math.MinInt, math.MinInt + 1, -1 << 32, -1<<32 + 3, -3, -1, api.MaxRows + 1, api.MaxRows + 2, 1 << 20, 1 << 31, 1 << 32, 1<<32 + 3, math.MaxInt - 1, math.MaxInt}
	check := func(w, n int) {
		t.Helper()
		l, err := precode.Gray(w, n)
		refused(t, err, "precode.Gray", api.ErrRange)
		if len(l) != 0 {
			t.Errorf("Gray(%d, %d): %v beside an error", w, n, l)
		}
	}
	for _, w := range weights {
		for _, n := range append([]int{0, 1, 3, 21, api.MaxRows}, numbers...) {
			check(w, n)
		}
	}
	for _, n := range numbers {
		for _, w := range []int{1, 2, 8, 16} {
			check(w, n)
		}
	}
}

// P9.3: the rows do not hang on one another.
func TestRank(t *testing.T) {
	for k := 1; k <= api.MaxSource; k++ {
		p := of(t, k)
		var words [][]uint64
		for _, l := range all(t, p) {
			w, err := packed.Pack(l, p.L)
			fine(t, err)
			words = append(words, w)
		}
		rank, err := matrix.Rank(words, p.L)
		fine(t, err)
		if rank != p.S+p.H {
			t.Errorf("of %d: %d, not %d", k, rank, p.S+p.H)
		}
	}
}

// P9.4: in how many rows of each kind a place is.
func TestHowMany(t *testing.T) {
	for k := 1; k <= api.MaxSource; k++ {
		p := of(t, k)
		for place := range p.L {
			l := in(t, p, place)
			ahead := 0
			for ahead < len(l) && l[ahead] < p.S {
				ahead++
			}
			var first, others int
			switch {
			case place < p.K:
				first, others = 3, (p.H+1)/2
			case place < p.K+p.S:
				first, others = 1, (p.H+1)/2
			default:
				first, others = 0, 1
			}
			if ahead != first || len(l)-ahead != others {
				t.Errorf("of %d place %d is in %v", k, place, l)
			}
		}
	}
}

// P9.5: no two of the first K + S places are in the same of the last H rows.
func TestNoTwo(t *testing.T) {
	for k := 1; k <= api.MaxSource; k++ {
		p := of(t, k)
		seen := map[uint64]int{}
		for place := range p.K + p.S {
			var rows uint64
			for _, i := range in(t, p, place) {
				if i >= p.S {
					rows |= 1 << (i - p.S)
				}
			}
			if other, ok := seen[rows]; ok {
				t.Errorf("of %d the places %d and %d are in the same rows", k, other, place)
			}
			seen[rows] = place
		}
	}
}

// Rules 3 and 4: what is answered is new memory, of which no two rows share
// any, not even the room behind their ends; what was asked ahead, and is done
// with its answer, says nothing to what is answered.
func TestNewMemory(t *testing.T) {
	p := of(t, 10)
	rows := all(t, p)
	for i := range rows {
		if !slices.Equal(rows[i], written[10][i]) {
			t.Errorf("row %d was changed with one ahead of it: %v", i, rows[i])
		}
		full := rows[i][:cap(rows[i])]
		for j := range full {
			full[j] = -1 - i
		}
	}
	for i, l := range rows {
		if slices.ContainsFunc(l, func(v int) bool { return v != -1-i }) {
			t.Errorf("row %d was changed with one behind it: %v", i, l)
		}
	}
	for _, l := range [][]int{row(t, p, 3), row(t, p, 8), in(t, p, 4), gray(t, 3, 17)} {
		for i := range l[:cap(l)] {
			l[:cap(l)][i] = -1
		}
	}
	if got, want := all(t, p), written[10]; !slices.EqualFunc(got, want, slices.Equal) {
		t.Errorf("All(10): %v, not %v", got, want)
	}
	if got, want := row(t, p, 8), written[10][8]; !slices.Equal(got, want) {
		t.Errorf("Row(10, 8): %v, not %v", got, want)
	}
	if got := in(t, p, 4); !slices.Equal(got, []int{4, 5, 6, 7, 10, 11}) {
		t.Errorf("In(10, 4): %v", got)
	}
	if got := gray(t, 3, 4); !slices.Equal(got, []int{7, 13, 14, 11}) {
		t.Errorf("Gray(3, 4): %v", got)
	}
}
