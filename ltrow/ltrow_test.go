package ltrow_test

import (
	"errors"
	"math"
	"slices"
	"testing"

	"geyser/api"
	"geyser/degree"
	"geyser/fault"
	"geyser/ltrow"
	"geyser/mix"
	"geyser/params"
)

// The calls' signatures are the chapter's.
var (
	_ func(api.Params, int, int) (api.Trip, error) = ltrow.Trip
	_ func(api.Params, api.Trip) ([]int, error)    = ltrow.Walk
	_ func(api.Params, int, int) ([]int, error)    = ltrow.Row
)

// drawn are trips and walks that were reckoned apart from the program.
var drawn = []struct {
	k, seed, esi int
	trip         api.Trip
	walk         []int
}{
	{1, 0, 0, api.Trip{Degree: 1, Step: 8, At: 2}, []int{2}},
	{1, 0, 1, api.Trip{Degree: 8, Step: 4, At: 9}, []int{2, 6, 3, 7, 0, 4, 1, 5}},
	{1, 5, 5, api.Trip{Degree: 4, Step: 1, At: 6}, []int{6, 7, 0, 1}},
	{1, 5, 18, api.Trip{Degree: 8, Step: 7, At: 8}, []int{4, 0, 7, 3, 6, 2, 5, 1}},
	{1, 7, 3, api.Trip{Degree: 2, Step: 10, At: 10}, []int{7, 6}},
	{1, 65535, 65535, api.Trip{Degree: 3, Step: 10, At: 3}, []int{3, 2, 1}},
	{2, 1, 0, api.Trip{Degree: 3, Step: 8, At: 9}, []int{9, 4, 7}},
	{10, 0, 0, api.Trip{Degree: 1, Step: 14, At: 12}, []int{12}},
	{10, 5, 18, api.Trip{Degree: 23, Step: 19, At: 5}, []int{5, 1, 20, 16, 12, 8, 4, 0, 19, 15, 11, 7, 3, 22, 18, 14, 10, 6, 2, 21, 17, 13, 9}},
	{10, 5, 7, api.Trip{Degree: 11, Step: 9, At: 10}, []int{10, 19, 5, 14, 0, 9, 18, 4, 13, 22, 8}},
	{10, 1, 0, api.Trip{Degree: 3, Step: 6, At: 12}, []int{12, 18, 1}},
	{10, 65535, 0, api.Trip{Degree: 2, Step: 22, At: 4}, []int{4, 3}},
	{100, 5, 1, api.Trip{Degree: 10, Step: 101, At: 19}, []int{19, 120, 94, 68, 42, 16, 117, 91, 65, 39}},
	{128, 0, 0, api.Trip{Degree: 1, Step: 92, At: 8}, []int{8}},
	{128, 0, 65535, api.Trip{Degree: 2, Step: 113, At: 137}, []int{137, 93}},
	{128, 5, 5, api.Trip{Degree: 4, Step: 91, At: 84}, []int{84, 18, 109, 43}},
	{128, 5, 7, api.Trip{Degree: 11, Step: 13, At: 80}, []int{80, 93, 106, 119, 132, 145, 1, 14, 27, 40, 53}},
	{128, 5, 18, api.Trip{Degree: 40, Step: 37, At: 112}, []int{112, 149, 29, 66, 103, 140, 20, 57, 94, 131, 11, 48, 85, 122, 2, 39, 76, 113, 150, 30, 67, 104, 141, 21, 58, 95, 132, 12, 49, 86, 123, 3, 40, 77, 114, 151, 31, 68, 105, 142}},
	{128, 65535, 0, api.Trip{Degree: 2, Step: 58, At: 122}, []int{122, 23}},
	{128, 65535, 65535, api.Trip{Degree: 3, Step: 6, At: 51}, []int{51, 57, 63}},
}

// refused says whether err is just a Fault of that call round ErrRange.
func refused(t *testing.T, err error, call string) {
	t.Helper()
	f, ok := err.(*api.Fault)
	if !ok || f == nil {
		t.Fatalf("%#v is no Fault", err)
	}
	if f.Call != call || fault.Num(err) != api.ErrRange || !errors.Is(err, api.ErrRange) {
		t.Errorf("%q %d, not %q %d", f.Call, fault.Num(err), call, api.ErrRange)
	}
}

// fine ends the test, if err is one.
func fine(t *testing.T, err error) {
	t.Helper()
	if err != nil {
		t.Fatalf("%v %d", err, fault.Num(err))
	}
}

// of is the numbers of k source symbols.
func of(t *testing.T, k int) api.Params {
	t.Helper()
	p, err := params.Of(k)
	fine(t, err)
	return p
}

// trip is Trip of what is in its range.
func trip(t *testing.T, p api.Params, seed, esi int) api.Trip {
	t.Helper()
	got, err := ltrow.Trip(p, seed, esi)
	fine(t, err)
	return got
}

// walk is Walk of what is in its range.
func walk(t *testing.T, p api.Params, tr api.Trip) []int {
	t.Helper()
	l, err := ltrow.Walk(p, tr)
	fine(t, err)
	return l
}

// row is Row of what is in its range.
func row(t *testing.T, p api.Params, seed, esi int) []int {
	t.Helper()
	l, err := ltrow.Row(p, seed, esi)
	fine(t, err)
	return l
}

// mixed is chapter 6's mixing, in numbers of 64 bits.
func mixed(x, salt uint64) uint64 {
	const all = 1 << 32
	h := (x*0x9e3779b1 + salt) % all
	h ^= h / (1 << 16)
	h = h * 0x85ebca6b % all
	h ^= h / (1 << 13)
	h = h * 0xc2b2ae35 % all
	return h ^ h/(1<<16)
}

// tripOf is the trip by the chapter's words, reckoned without the layers below.
func tripOf(p api.Params, seed, esi int) api.Trip {
	y := mixed(uint64(esi), uint64(seed))
	v := mixed(y, 0) % 1048576
	d := 40
	for _, row := range [][2]int{{1032189, 11}, {948446, 10}, {831695, 4}, {712794, 3}, {491582, 2}, {10241, 1}} {
		if v < uint64(row[0]) {
			d = row[1]
		}
	}
	if d > p.L {
		d = p.L
	}
	return api.Trip{Degree: d, Step: 1 + int(mixed(y, 1)%uint64(p.P-1)), At: int(mixed(y, 2) % uint64(p.P))}
}

// walkOf is the walk as the first of all places that a trip comes to: the i-th
// one that it stands on, counting those not below L, is At and i steps.
func walkOf(p api.Params, tr api.Trip) []int {
	var l []int
	for i := range p.P {
		if place := (tr.At + i*tr.Step) % p.P; place < p.L {
			l = append(l, place)
		}
	}
	return l[:tr.Degree]
}

// rising is l in order.
func rising(l []int) []int {
	l = slices.Clone(l)
	slices.Sort(l)
	return l
}

// wrong are numbers that are not those of their K: of a K that is out of its
// range, and each of them one off, or another K's, or with right lowest bits.
func wrong(t *testing.T) []api.Params {
	t.Helper()
	l := []api.Params{{}, {K: 1}, {K: 10, S: 7, H: 6}, {K: 10, L: 23, P: 23}, {S: 3, H: 4, L: 8, P: 11}}
	for _, k := range []int{math.MinInt, -1 << 32, -1, 0, api.MaxSource + 1, 1 << 32, 1<<32 + 1, math.MaxInt} {
		l = append(l, api.Params{K: k}, api.Params{K: k, S: 3, H: 4, L: 8, P: 11})
	}
	for _, k := range []int{1, 10, 88, api.MaxSource} {
		for _, by := range []int{-1, 1, 1 << 32, math.MinInt} {
			for i := range 5 {
				p := of(t, k)
				*[]*int{&p.K, &p.S, &p.H, &p.L, &p.P}[i] += by
				l = append(l, p)
			}
		}
	}
	return l
}

// outside are numbers below low and above high, the next ones among them.
func outside(low, high int) []int {
	return []int{math.MinInt, math.MinInt + 1, -1 << 32, -1<<32 + low, -high, low - 2, low - 1, high + 1, high + 2, 2*high + 2, 1 << 31, 1 << 32, 1<<32 + low, 1<<32 + high, math.MaxInt - 1, math.MaxInt}
}

// The chapter's example.
func TestExample(t *testing.T) {
	p := of(t, 1)
	if p.L != 8 || p.P != 11 {
		t.Fatalf("%v", p)
	}
	if l := walk(t, p, api.Trip{Degree: 3, Step: 4, At: 9}); !slices.Equal(l, []int{2, 6, 3}) {
		t.Errorf("%v", l)
	}
}

// P10.1, P10.2: trips, walks and rows that are written out.
func TestWritten(t *testing.T) {
	for _, c := range drawn {
		p := of(t, c.k)
		if got := trip(t, p, c.seed, c.esi); got != c.trip {
			t.Fatalf("Trip(%d, %d, %d): %v, not %v", c.k, c.seed, c.esi, got, c.trip)
		}
		if got := walk(t, p, c.trip); !slices.Equal(got, c.walk) {
			t.Errorf("Walk(%d, %v): %v, not %v", c.k, c.trip, got, c.walk)
		}
		if got := row(t, p, c.seed, c.esi); !slices.Equal(got, rising(c.walk)) {
			t.Errorf("Row(%d, %d, %d): %v, not %v", c.k, c.seed, c.esi, got, rising(c.walk))
		}
	}
}

// P10.1: of each K, with numbers and seeds from their ranges' ends and between.
func TestTripAndRow(t *testing.T) {
	some := []int{0, 1, 2, 3, 4, 5, 7, 18, 19, 37, 127, 128, 255, 256, 1000, 4095, 4096, 32767, 32768, 65534, 65535}
	for k := 1; k <= api.MaxSource; k++ {
		p := of(t, k)
		for _, seed := range some {
			for _, esi := range some {
				want := tripOf(p, seed, esi)
				if got := trip(t, p, seed, esi); got != want {
					t.Fatalf("Trip(%d, %d, %d): %v, not %v", k, seed, esi, got, want)
				}
				places := rising(walkOf(p, want))
				if got := row(t, p, seed, esi); !slices.Equal(got, places) {
					t.Fatalf("Row(%d, %d, %d): %v, not %v", k, seed, esi, got, places)
				}
			}
		}
	}
}

// P10.1: all numbers by one seed, and one number by all seeds.
func TestAllNumbers(t *testing.T) {
	p := of(t, 88)
	check := func(seed, esi int) {
		t.Helper()
		want := tripOf(p, seed, esi)
		if got := trip(t, p, seed, esi); got != want {
			t.Fatalf("Trip(88, %d, %d): %v, not %v", seed, esi, got, want)
		}
		if got := row(t, p, seed, esi); !slices.Equal(got, rising(walkOf(p, want))) {
			t.Errorf("Row(88, %d, %d): %v of %v", seed, esi, got, want)
		}
	}
	for n := range api.MaxEsi {
		check(9, n)
	}
	for n := range api.MaxSeed {
		check(n, 77)
	}
}

// P10.2: of small K all trips that there are.
func TestWalkAll(t *testing.T) {
	for _, k := range []int{1, 2, 5, 6, 10} {
		p := of(t, k)
		for d := 1; d <= p.L; d++ {
			for step := 1; step < p.P; step++ {
				for at := range p.P {
					tr := api.Trip{Degree: d, Step: step, At: at}
					if got, want := walk(t, p, tr), walkOf(p, tr); !slices.Equal(got, want) {
						t.Fatalf("Walk(%d, %v): %v, not %v", k, tr, got, want)
					}
				}
			}
		}
	}
}

// P10.2: of each K trips at the ends of what they may be; of Degree L all places
// are taken.
func TestWalkEdges(t *testing.T) {
	for k := 1; k <= api.MaxSource; k++ {
		p := of(t, k)
		for _, d := range []int{1, 2, p.L - 1, p.L} {
			for _, step := range []int{1, 2, p.P / 2, p.P - 2, p.P - 1} {
				for _, at := range []int{0, 1, p.L - 1, min(p.L, p.P-1), p.P - 1} {
					tr := api.Trip{Degree: d, Step: step, At: at}
					got := walk(t, p, tr)
					if want := walkOf(p, tr); !slices.Equal(got, want) {
						t.Fatalf("Walk(%d, %v): %v, not %v", k, tr, got, want)
					}
					if d == p.L && (rising(got)[0] != 0 || rising(got)[d-1] != d-1) {
						t.Errorf("Walk(%d, %v): %v", k, tr, got)
					}
				}
			}
		}
	}
}

// P10.2: walks that are written out: places that are not below L, one or more
// behind each other, are passed over at the beginning, and on the way.
func TestWalkWritten(t *testing.T) {
	for _, c := range []struct {
		k    int
		trip api.Trip
		want []int
	}{
		{1, api.Trip{Degree: 1, Step: 1, At: 0}, []int{0}},
		{1, api.Trip{Degree: 1, Step: 1, At: 7}, []int{7}},
		{1, api.Trip{Degree: 1, Step: 1, At: 8}, []int{0}},
		{1, api.Trip{Degree: 1, Step: 10, At: 10}, []int{7}},
		{1, api.Trip{Degree: 8, Step: 1, At: 0}, []int{0, 1, 2, 3, 4, 5, 6, 7}},
		{1, api.Trip{Degree: 8, Step: 10, At: 0}, []int{0, 7, 6, 5, 4, 3, 2, 1}},
		{1, api.Trip{Degree: 8, Step: 10, At: 10}, []int{7, 6, 5, 4, 3, 2, 1, 0}},
		{1, api.Trip{Degree: 8, Step: 3, At: 10}, []int{2, 5, 0, 3, 6, 1, 4, 7}},
		{2, api.Trip{Degree: 12, Step: 6, At: 12}, []int{5, 11, 4, 10, 3, 9, 2, 8, 1, 7, 0, 6}},
		{10, api.Trip{Degree: 23, Step: 22, At: 22}, []int{22, 21, 20, 19, 18, 17, 16, 15, 14, 13, 12, 11, 10, 9, 8, 7, 6, 5, 4, 3, 2, 1, 0}},
		{128, api.Trip{Degree: 3, Step: 156, At: 0}, []int{0, 156, 155}},
	} {
		if got := walk(t, of(t, c.k), c.trip); !slices.Equal(got, c.want) {
			t.Errorf("Walk(%d, %v): %v, not %v", c.k, c.trip, got, c.want)
		}
	}
}

// P10.1: a seed or a number that is out of its range.
func TestTripAndRowRefused(t *testing.T) {
	check := func(p api.Params, seed, esi int) {
		t.Helper()
		tr, err := ltrow.Trip(p, seed, esi)
		refused(t, err, "ltrow.Trip")
		if tr != (api.Trip{}) {
			t.Errorf("Trip(%d, %d, %d): %v beside an error", p.K, seed, esi, tr)
		}
		l, err := ltrow.Row(p, seed, esi)
		refused(t, err, "ltrow.Row")
		if len(l) != 0 {
			t.Errorf("Row(%d, %d, %d): %v beside an error", p.K, seed, esi, l)
		}
	}
	for _, k := range []int{1, 10, 128} {
		p := of(t, k)
		for _, seed := range outside(0, api.MaxSeed-1) {
			for _, esi := range append([]int{0, 1, api.MaxEsi - 1}, outside(0, api.MaxEsi-1)...) {
				check(p, seed, esi)
			}
		}
		for _, esi := range outside(0, api.MaxEsi-1) {
			for _, seed := range []int{0, 1, api.MaxSeed - 1} {
				check(p, seed, esi)
			}
		}
	}
	for _, p := range wrong(t) {
		for _, n := range []int{-1, 0, 3, api.MaxEsi - 1, api.MaxEsi} {
			check(p, n, n)
		}
	}
}

// P10.2: numbers that are not right, and trips that are none among right ones.
func TestWalkRefused(t *testing.T) {
	check := func(p api.Params, tr api.Trip) {
		t.Helper()
		l, err := ltrow.Walk(p, tr)
		refused(t, err, "ltrow.Walk")
		if len(l) != 0 {
			t.Errorf("Walk(%v, %v): %v beside an error", p, tr, l)
		}
	}
	for _, k := range []int{1, 10, 88, 128} {
		p := of(t, k)
		for _, d := range outside(1, p.L) {
			check(p, api.Trip{Degree: d, Step: 1, At: 0})
			check(p, api.Trip{Degree: d, Step: p.P - 1, At: p.P - 1})
		}
		for _, step := range outside(1, p.P-1) {
			check(p, api.Trip{Degree: 1, Step: step, At: 0})
			check(p, api.Trip{Degree: p.L, Step: step, At: p.P - 1})
		}
		for _, at := range outside(0, p.P-1) {
			check(p, api.Trip{Degree: 1, Step: 1, At: at})
			check(p, api.Trip{Degree: p.L, Step: p.P - 1, At: at})
		}
		check(p, api.Trip{})
	}
	for _, p := range wrong(t) {
		check(p, api.Trip{Degree: 1, Step: 1, At: 0})
		check(p, api.Trip{Degree: 3, Step: 4, At: 9})
		check(p, api.Trip{})
		check(p, api.Trip{Degree: math.MaxInt, Step: math.MaxInt, At: math.MinInt})
	}
}

// P10.3: a row has as many places as the degree says, no two the same, all below
// L. P10.4: it is the trip's walk, rising.
func TestRowHolds(t *testing.T) {
	for k := 1; k <= api.MaxSource; k++ {
		p := of(t, k)
		met := map[int]bool{}
		for esi := range 400 {
			y := mix.Mix(uint32(esi), 5)
			v, err := mix.Below(y, 0, api.DegreeBase)
			fine(t, err)
			d, err := degree.Of(v)
			fine(t, err)
			met[d] = true
			// The walk is asked for first: it refuses a trip that has no end.
			want := rising(walk(t, p, trip(t, p, 5, esi)))
			l := row(t, p, 5, esi)
			if len(l) != min(d, p.L) {
				t.Errorf("Row(%d, 5, %d): %v, of degree %d", k, esi, l, d)
			}
			last := -1
			for _, place := range l {
				if place <= last || place >= p.L {
					t.Errorf("Row(%d, 5, %d): %v", k, esi, l)
				}
				last = place
			}
			if !slices.Equal(l, want) {
				t.Errorf("Row(%d, 5, %d): %v, not %v", k, esi, l, want)
			}
		}
		if len(met) != len(degree.All()) {
			t.Errorf("of the degrees just %d were met", len(met))
		}
	}
}

// Rules 3 and 4: what is answered is new memory; what was asked ahead, and is
// done with its answer, says nothing to what is answered.
func TestNewMemory(t *testing.T) {
	for range 2 {
		for _, c := range drawn {
			p := of(t, c.k)
			for _, l := range [][]int{walk(t, p, c.trip), row(t, p, c.seed, c.esi)} {
				if !slices.Equal(rising(l), rising(c.walk)) {
					t.Fatalf("of %d, %d, %d: %v, not %v", c.k, c.seed, c.esi, l, c.walk)
				}
				l = l[:cap(l)]
				for i := range l {
					l[i] = -1
				}
			}
			trip(t, of(t, 1), 3, 3)
			ltrow.Row(api.Params{}, -1, -1)
		}
	}
}
