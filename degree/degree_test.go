package degree_test

import (
	"errors"
	"math"
	"slices"
	"testing"

	"geyser/api"
	"geyser/degree"
	"geyser/fault"
)

// The calls' signatures are the chapter's.
var (
	_ func(int) (int, error) = degree.Of
	_ func(int) (int, error) = degree.Share
	_ func() []int           = degree.All
	_ func(int) int          = degree.Upto
)

// rows is the chapter's table, and in each row, too, how many numbers have that
// degree (reckoned apart from the program).
var rows = []struct{ bound, degree, share int }{
	{10241, 1, 10241},
	{491582, 2, 481341},
	{712794, 3, 221212},
	{831695, 4, 118901},
	{948446, 10, 116751},
	{1032189, 11, 83743},
	{1048576, 40, 16387},
}

// noDegrees are numbers that the table has not: between its degrees, beside
// them, and such as have a degree's lowest bits.
var noDegrees = []int{0, -1, -2, -40, 5, 6, 7, 8, 9, 12, 13, 20, 39, 41, 10241, api.DegreeBase, 1<<32 + 1, 1<<32 + 40, -1<<32 + 2, math.MinInt, math.MinInt + 1, math.MaxInt}

// refused says whether err is just a Fault of that call round that number.
func refused(t *testing.T, err error, call string, n api.Errno) {
	t.Helper()
	f, ok := err.(*api.Fault)
	if !ok || f == nil {
		t.Fatalf("%#v is no Fault", err)
	}
	if f.Call != call || fault.Num(err) != n || !errors.Is(err, n) {
		t.Errorf("%q %d, not %q %d", f.Call, fault.Num(err), call, n)
	}
}

// fine ends the test, if err is one.
func fine(t *testing.T, err error) {
	t.Helper()
	if err != nil {
		t.Fatalf("%v %d", err, fault.Num(err))
	}
}

// of is the degree of a number that has one.
func of(t *testing.T, v int) int {
	t.Helper()
	d, err := degree.Of(v)
	fine(t, err)
	return d
}

// The chapter's examples.
func TestExamples(t *testing.T) {
	for _, c := range []struct{ v, want int }{{0, 1}, {10241, 2}, {1048575, 40}} {
		if d := of(t, c.v); d != c.want {
			t.Errorf("Of(%d): %d, not %d", c.v, d, c.want)
		}
	}
	n, err := degree.Share(1)
	fine(t, err)
	if n != 10241 {
		t.Errorf("Share(1): %d", n)
	}
	if n := degree.Upto(3); n != 712794 {
		t.Errorf("Upto(3): %d", n)
	}
}

// P7.1: at each bound the degree is the next row's, ahead of it the row's own.
func TestOfEdges(t *testing.T) {
	first := 0
	for _, r := range rows {
		for _, v := range []int{first, first + 1, (first + r.bound) / 2, r.bound - 2, r.bound - 1} {
			if d := of(t, v); d != r.degree {
				t.Errorf("Of(%d): %d, not %d", v, d, r.degree)
			}
		}
		first = r.bound
	}
}

// P7.1: a number that is out of its range.
func TestOfRefused(t *testing.T) {
	for _, v := range []int{-1, -2, -10241, math.MinInt, math.MinInt + 1, api.DegreeBase, api.DegreeBase + 1, 1 << 31, 1 << 32, 1<<32 + 5, -1 << 32, -1<<32 + 5, math.MaxInt - 1, math.MaxInt} {
		d, err := degree.Of(v)
		refused(t, err, "degree.Of", api.ErrRange)
		if d != 0 {
			t.Errorf("%d beside an error", d)
		}
	}
}

// P7.1: the table's degrees, rising; new memory each time (rule 3).
func TestAll(t *testing.T) {
	want := []int{1, 2, 3, 4, 10, 11, 40}
	one := degree.All()
	if !slices.Equal(one, want) {
		t.Fatalf("%v, not %v", one, want)
	}
	for i := range one {
		one[i] = -1
	}
	if other := degree.All(); !slices.Equal(other, want) {
		t.Errorf("%v, not %v", other, want)
	}
	if d := of(t, 0); d != 1 {
		t.Errorf("Of(0): %d", d)
	}
}

// P7.1: how many numbers have a degree of the table.
func TestShare(t *testing.T) {
	for _, r := range rows {
		n, err := degree.Share(r.degree)
		fine(t, err)
		if n != r.share {
			t.Errorf("Share(%d): %d, not %d", r.degree, n, r.share)
		}
	}
}

// P7.1: a degree that the table has not.
func TestShareRefused(t *testing.T) {
	for _, d := range noDegrees {
		n, err := degree.Share(d)
		refused(t, err, "degree.Share", api.ErrNone)
		if n != 0 {
			t.Errorf("%d beside an error", n)
		}
	}
}

// P7.1: how many numbers have at most a degree, be it the table's or not.
func TestUpto(t *testing.T) {
	asked := slices.Clone(noDegrees)
	for d := -3; d <= 45; d++ {
		asked = append(asked, d)
	}
	for _, d := range asked {
		want := 0
		for _, r := range rows {
			if r.degree <= d {
				want += r.share
			}
		}
		if n := degree.Upto(d); n != want {
			t.Errorf("Upto(%d): %d, not %d", d, n, want)
		}
	}
}

// P7.2: shares together are DegreeBase, and each is how many of all numbers
// have that degree; of a greater number the degree is no smaller.
func TestSharesAndOrder(t *testing.T) {
	counts := map[int]int{}
	last := 0
	for v := range api.DegreeBase {
		d := of(t, v)
		if d < last {
			t.Fatalf("Of(%d): %d, behind %d", v, d, last)
		}
		last = d
		counts[d]++
	}
	all, sum := degree.All(), 0
	if len(counts) != len(all) {
		t.Errorf("%d degrees, not %d", len(counts), len(all))
	}
	for _, d := range all {
		n, err := degree.Share(d)
		fine(t, err)
		if n != counts[d] {
			t.Errorf("Share(%d): %d, not %d", d, n, counts[d])
		}
		sum += n
	}
	if sum != api.DegreeBase {
		t.Errorf("shares together: %d", sum)
	}
}

// P7.3: just those below Upto(d) have at most the degree d.
func TestBelowUpto(t *testing.T) {
	for v := range api.DegreeBase {
		d := of(t, v)
		if v >= degree.Upto(d) || v < degree.Upto(d-1) {
			t.Fatalf("Of(%d): %d, but Upto %d and, of one less, %d", v, d, degree.Upto(d), degree.Upto(d-1))
		}
	}
	for _, d := range []int{math.MinInt, -1, 0} {
		if n := degree.Upto(d); n != 0 {
			t.Errorf("Upto(%d): %d", d, n)
		}
	}
	for _, d := range []int{40, 41, math.MaxInt} {
		if n := degree.Upto(d); n != api.DegreeBase {
			t.Errorf("Upto(%d): %d", d, n)
		}
	}
}
