package calendar_test

import (
	"errors"
	"math"
	"math/rand"
	"slices"
	"sync"
	"testing"

	"geyser/api"
	"geyser/calendar"
	"geyser/fault"
)

// The calls' signatures are the chapter's.
var (
	_ func(int, int) error                  = calendar.Check
	_ func(int, int, int) (bool, error)     = calendar.Burst
	_ func(int, int, int) (int, error)      = calendar.Sync
	_ func(int, int, int) (int, error)      = calendar.Next
	_ func(int, int, int) (int, error)      = calendar.Steps
	_ func(int, int, int) ([]uint32, error) = calendar.Row
)

// lastStep is the step behind which steps begin anew.
const lastStep uint32 = math.MaxUint32

// lastTick is the last tick that there is.
const lastTick = api.MaxTick - 1

// calendars are some: of the least and the greatest bases, with the shortest
// bursts, the longest ones, and some between.
var calendars = [][2]int{
	{2, 1}, {3, 1}, {3, 2}, {4, 1}, {4, 2}, {4, 3}, {5, 2}, {7, 3}, {8, 1}, {8, 7}, {10, 9}, {16, 4}, {17, 8},
	{100, 37}, {255, 1}, {256, 255}, {257, 128}, {1000, 999}, {4095, 1}, {4095, 4094}, {4096, 1}, {4096, 2048}, {4096, 4095},
}

// bases are some.
var bases = []int{2, 3, 4, 5, 6, 7, 12, 16, 255, 256, 1000, 4095, 4096}

// far are numbers that are out of every range, some of which have a right one's
// lowest bits.
var far = []int{
	math.MinInt, math.MinInt + 1, math.MinInt + 4, -1 << 40, -1<<40 + 4, -1 << 32, -1<<32 + 4, -1<<31 + 4, -4, -3, -2, -1,
	1 << 40, 1<<40 + 1, 1<<40 + 4, 1 << 41, 1<<42 + 4, 1<<48 + 4, math.MaxInt - 4, math.MaxInt - 1, math.MaxInt,
}

// noBases are numbers that are no calendar's base.
var noBases = append([]int{0, 1, 4097, 4098, 8192, 1 << 16, 1<<16 + 4, 1<<31 + 4, 1<<32 + 4}, far...)

// noNumbers are such as are no level, and no number of layers.
var noNumbers = append([]int{9, 10, 16, 63, 64, 65, 128, 256, 257, 1 << 16, 1<<31 + 1, 1<<32 + 1}, far...)

// refused says whether err is just a Fault of that call round ErrRange.
func refused(t *testing.T, err error, call string) {
	t.Helper()
	f, ok := err.(*api.Fault)
	if !ok || f == nil {
		t.Fatalf("%s: %#v is no Fault", call, err)
	}
	if f.Call != call || fault.Num(err) != api.ErrRange || !errors.Is(err, api.ErrRange) {
		t.Errorf("%q %d, not %q %d", f.Call, fault.Num(err), call, api.ErrRange)
	}
}

// fine ends the test, if err is one.
func fine(t *testing.T, err error) {
	t.Helper()
	if err != nil {
		t.Fatalf("%v %d", err, fault.Num(err))
	}
}

// burst is Burst of a tick that there is.
func burst(t *testing.T, base, length, tick int) bool {
	t.Helper()
	in, err := calendar.Burst(base, length, tick)
	fine(t, err)
	return in
}

// level is Sync of numbers that may be.
func level(t *testing.T, base, g, tick int) int {
	t.Helper()
	l, err := calendar.Sync(base, g, tick)
	fine(t, err)
	return l
}

// next is Next of numbers that may be.
func next(t *testing.T, base, level, tick int) int {
	t.Helper()
	n, err := calendar.Next(base, level, tick)
	fine(t, err)
	return n
}

// steps is Steps of a tick that there is.
func steps(t *testing.T, base, length, tick int) int {
	t.Helper()
	n, err := calendar.Steps(base, length, tick)
	fine(t, err)
	return n
}

// row is Row of a tick that there is.
func row(t *testing.T, base, length, tick int) []uint32 {
	t.Helper()
	l, err := calendar.Row(base, length, tick)
	fine(t, err)
	return l
}

// ofBurst says whether tick is one of a burst, by how many ticks it is ahead of
// the next multiple of base.
func ofBurst(base, length, tick int) bool {
	return base-tick%base <= length
}

// countedSteps is how many steps the ticks ahead of tick have, by how many of
// these each place of a burst has.
func countedSteps(base, length, tick int) int {
	n := tick
	for place := base - length; place < base; place++ {
		if tick > place {
			n += (tick-place-1)/base + 1
		}
	}
	return n
}

// isSync says whether tick is a sync point of that level.
func isSync(base, level, tick int) bool {
	for range level {
		base += base
	}
	return tick > 0 && tick/base*base == tick
}

// greatest is the greatest level below g of which tick is a sync point; -1, if
// there is none.
func greatest(base, g, tick int) int {
	for l := g - 1; l >= 0; l-- {
		if isSync(base, l, tick) {
			return l
		}
	}
	return -1
}

// ticks are some: the first ones, the last ones, and drawn ones between, those
// ahead of sync points and behind them too.
func ticks(base int) []int {
	var l []int
	for i := range 40 {
		l = append(l, i, lastTick-i)
	}
	r := rand.New(rand.NewSource(int64(180 + base)))
	for range 20 {
		l = append(l, r.Intn(api.MaxTick), r.Intn(1<<20))
		for _, n := range []int{1, 1 << r.Intn(8), 1 << 8} {
			at := (1 + r.Intn(1<<18)) * base * n
			l = append(l, at-1, at, at+1, at+base-1)
		}
	}
	return l
}

// The chapter's example.
func TestExample(t *testing.T) {
	for tick := range 13 {
		if in, want := burst(t, 4, 1, tick), tick == 3 || tick == 7 || tick == 11; in != want {
			t.Errorf("Burst(4, 1, %d): %t", tick, in)
		}
	}
	if l := level(t, 4, 3, 8); l != 1 {
		t.Errorf("Sync(4, 3, 8): %d", l)
	}
	if l := level(t, 4, 3, 12); l != 0 {
		t.Errorf("Sync(4, 3, 12): %d", l)
	}
	if n := steps(t, 4, 1, 4); n != 5 {
		t.Errorf("Steps(4, 1, 4): %d", n)
	}
	if l := row(t, 4, 1, 3); !slices.Equal(l, []uint32{3, 4}) {
		t.Errorf("Row(4, 1, 3): %v", l)
	}
}

// P18.1: bases and bursts at the ends of their ranges, and beyond.
func TestCheck(t *testing.T) {
	for base := -3; base <= 70; base++ {
		for length := -3; length <= 75; length++ {
			err := calendar.Check(base, length)
			if base < 2 || length < 1 || length > base-1 {
				refused(t, err, "calendar.Check")
			} else if err != nil {
				t.Errorf("Check(%d, %d): %v", base, length, err)
			}
		}
	}
	for _, c := range append(calendars, [2]int{4096, 4094}, [2]int{4095, 4093}) {
		fine(t, calendar.Check(c[0], c[1]))
	}
}

// noCalendars are pairs of a base and a burst that are none's.
func noCalendars() [][2]int {
	l := [][2]int{{2, 0}, {2, 2}, {2, 3}, {3, 0}, {3, 3}, {4, 0}, {4, 4}, {4, 5}, {4, 4096}, {4096, 0}, {4096, 4096}, {4096, 4097}, {4, 256 + 1}, {4, 1<<16 + 1}, {4, 1<<32 + 1}}
	for _, base := range noBases {
		for _, length := range []int{1, 2, 3, 0, -1, 4096, base - 1, base, base + 1} {
			l = append(l, [2]int{base, length})
		}
	}
	for _, base := range []int{2, 4, 4096} {
		for _, length := range far {
			l = append(l, [2]int{base, length})
		}
	}
	return l
}

// P18.1 and P18.2: no call takes what is no calendar's, of whatever tick.
func TestNoCalendar(t *testing.T) {
	for _, c := range noCalendars() {
		refused(t, calendar.Check(c[0], c[1]), "calendar.Check")
		for _, tick := range []int{0, 3, lastTick, -1, api.MaxTick, math.MinInt, math.MaxInt} {
			allRefused(t, c[0], c[1], tick)
		}
	}
}

// P18.1 and P18.2: no call takes what is no tick, of whatever calendar.
func TestNoTick(t *testing.T) {
	for _, c := range calendars {
		for _, tick := range far {
			allRefused(t, c[0], c[1], tick)
		}
		fine(t, calendar.Check(c[0], c[1]))
	}
}

// allRefused says whether Burst, Steps and Row refuse them, with nothing beside
// the error.
func allRefused(t *testing.T, base, length, tick int) {
	t.Helper()
	in, err := calendar.Burst(base, length, tick)
	refused(t, err, "calendar.Burst")
	n, err := calendar.Steps(base, length, tick)
	refused(t, err, "calendar.Steps")
	l, err := calendar.Row(base, length, tick)
	refused(t, err, "calendar.Row")
	if in || n != 0 || len(l) != 0 {
		t.Errorf("of %d, %d, %d: %t, %d, %v beside errors", base, length, tick, in, n, l)
	}
}

// P18.1: bursts against the model, of all ticks of some intervals, and of some
// far ones.
func TestBurst(t *testing.T) {
	for _, c := range calendars {
		l := ticks(c[0])
		for i := range 3 * c[0] {
			l = append(l, i, lastTick-i)
		}
		for _, tick := range l {
			if in, want := burst(t, c[0], c[1], tick), ofBurst(c[0], c[1], tick); in != want {
				t.Fatalf("Burst(%d, %d, %d): %t", c[0], c[1], tick, in)
			}
		}
	}
}

// P18.1: sync points reckoned by hand.
func TestSyncByHand(t *testing.T) {
	for _, c := range []struct{ base, g, tick, want int }{
		{4, 3, 0, -1}, {4, 3, 1, -1}, {4, 3, 3, -1}, {4, 3, 4, 0}, {4, 3, 5, -1}, {4, 3, 16, 2}, {4, 3, 32, 2}, {4, 3, 24, 1},
		{4, 1, 16, 0}, {4, 2, 16, 1}, {4, 8, 16, 2}, {4, 8, 32, 3}, {4, 8, 512, 7}, {4, 8, 1024, 7}, {4, 7, 1024, 6}, {4, 8, 256, 6},
		{2, 8, 1, -1}, {2, 8, 2, 0}, {2, 8, 256, 7}, {3, 8, 384, 7}, {3, 8, 256, -1}, {3, 8, 192, 6}, {6, 8, 9, -1}, {6, 8, 12, 1},
		{4096, 8, 4095, -1}, {4096, 8, 4096, 0}, {4096, 8, 1 << 19, 7}, {4096, 8, 1 << 18, 6}, {4096, 8, 1<<19 + 1<<18, 6},
		{2, 8, 1<<40 - 256, 7}, {2, 8, 1<<40 - 128, 6}, {2, 8, 1<<40 - 1, -1}, {2, 1, 1<<40 - 2, 0}, {4096, 8, 1<<40 - 1<<19, 7},
	} {
		if l := level(t, c.base, c.g, c.tick); l != c.want {
			t.Errorf("Sync(%d, %d, %d): %d, not %d", c.base, c.g, c.tick, l, c.want)
		}
	}
}

// P18.1 and P18.5: sync points against the model; one of a level is one of all
// levels below.
func TestSync(t *testing.T) {
	for _, base := range bases {
		l := ticks(base)
		for i := range 300 {
			l = append(l, i, i*base, i*base+1, i*base+base-1, (lastTick/base-i)*base)
		}
		for _, tick := range l {
			top := greatest(base, api.MaxLayers, tick)
			for g := 1; g <= api.MaxLayers; g++ {
				n := level(t, base, g, tick)
				if want := greatest(base, g, tick); n != want {
					t.Fatalf("Sync(%d, %d, %d): %d, not %d", base, g, tick, n, want)
				}
				if n != min(top, g-1) {
					t.Fatalf("Sync(%d, %d, %d): %d, of %d", base, g, tick, n, top)
				}
			}
			for below := range top + 1 {
				if !isSync(base, below, tick) {
					t.Fatalf("of %d, %d is a sync point of level %d, not of %d", base, tick, top, below)
				}
			}
		}
	}
}

// P18.1: what Sync is refused.
func TestSyncRefused(t *testing.T) {
	no := func(base, g, tick int) {
		t.Helper()
		l, err := calendar.Sync(base, g, tick)
		refused(t, err, "calendar.Sync")
		if l != 0 {
			t.Errorf("Sync(%d, %d, %d): %d beside an error", base, g, tick, l)
		}
	}
	for _, base := range noBases {
		for _, g := range []int{1, 8, 0, 9} {
			for _, tick := range []int{0, 8, lastTick, -1} {
				no(base, g, tick)
			}
		}
	}
	for _, base := range bases {
		for _, g := range append([]int{0}, noNumbers...) {
			for _, tick := range []int{0, base, lastTick, api.MaxTick} {
				no(base, g, tick)
			}
		}
		for g := 1; g <= api.MaxLayers; g++ {
			for _, tick := range far {
				no(base, g, tick)
			}
		}
	}
}

// P18.2: next sync points reckoned by hand; behind the last tick too there is
// a number that is one.
func TestNextByHand(t *testing.T) {
	for _, c := range []struct{ base, level, tick, want int }{
		{4, 0, 0, 4}, {4, 0, 3, 4}, {4, 0, 4, 8}, {4, 0, 5, 8}, {4, 1, 0, 8}, {4, 1, 7, 8}, {4, 1, 8, 16}, {4, 1, 9, 16}, {4, 2, 17, 32},
		{4, 7, 0, 512}, {4, 7, 511, 512}, {4, 7, 512, 1024}, {2, 0, 1, 2}, {2, 7, 1, 256}, {3, 3, 25, 48}, {3, 3, 23, 24},
		{4096, 0, 0, 4096}, {4096, 7, 0, 1 << 19}, {4096, 7, 1<<19 - 1, 1 << 19}, {4096, 7, 1 << 19, 1 << 20},
		{2, 0, 1<<40 - 3, 1<<40 - 2}, {2, 0, 1<<40 - 2, 1 << 40}, {2, 7, 1<<40 - 1, 1 << 40}, {4096, 7, 1<<40 - 1, 1 << 40},
		{3, 0, 1<<40 - 2, 1<<40 - 1}, {3, 0, 1<<40 - 1, 1<<40 + 2},
	} {
		if n := next(t, c.base, c.level, c.tick); n != c.want {
			t.Errorf("Next(%d, %d, %d): %d, not %d", c.base, c.level, c.tick, n, c.want)
		}
	}
}

// P18.2: of all levels Next is the first sync point behind a tick: it is one,
// and none is between.
func TestNext(t *testing.T) {
	for _, base := range bases {
		for l := range api.MaxLayers {
			for _, tick := range ticks(base) {
				n := next(t, base, l, tick)
				if n <= tick || !isSync(base, l, n) || n-tick > base<<l {
					t.Fatalf("Next(%d, %d, %d): %d", base, l, tick, n)
				}
				if n < api.MaxTick && level(t, base, l+1, n) != l {
					t.Fatalf("Sync(%d, %d, %d) is not %d", base, l+1, n, l)
				}
			}
		}
	}
	for _, base := range []int{2, 3, 5} {
		for l := range api.MaxLayers {
			want := base << l
			for tick := range 3 * base << l {
				if tick == want {
					want += base << l
				}
				if n := next(t, base, l, tick); n != want {
					t.Fatalf("Next(%d, %d, %d): %d, not %d", base, l, tick, n, want)
				}
			}
		}
	}
}

// P18.2: what Next is refused.
func TestNextRefused(t *testing.T) {
	no := func(base, level, tick int) {
		t.Helper()
		n, err := calendar.Next(base, level, tick)
		refused(t, err, "calendar.Next")
		if n != 0 {
			t.Errorf("Next(%d, %d, %d): %d beside an error", base, level, tick, n)
		}
	}
	for _, base := range noBases {
		for _, l := range []int{0, 7, -1, 8} {
			for _, tick := range []int{0, 8, lastTick, -1} {
				no(base, l, tick)
			}
		}
	}
	for _, base := range bases {
		for _, l := range append([]int{8}, noNumbers...) {
			for _, tick := range []int{0, base, lastTick, api.MaxTick} {
				no(base, l, tick)
			}
		}
		for l := range api.MaxLayers {
			for _, tick := range far {
				no(base, l, tick)
			}
		}
	}
}

// P18.2: steps reckoned by hand.
func TestStepsByHand(t *testing.T) {
	for _, c := range []struct{ base, length, tick, want int }{
		{4, 1, 0, 0}, {4, 1, 1, 1}, {4, 1, 3, 3}, {4, 1, 4, 5}, {4, 1, 7, 8}, {4, 1, 8, 10}, {4, 3, 1, 1}, {4, 3, 2, 3}, {4, 3, 3, 5}, {4, 3, 4, 7},
		{2, 1, 0, 0}, {2, 1, 1, 1}, {2, 1, 2, 3}, {2, 1, 3, 4}, {2, 1, 1<<40 - 2, 3<<39 - 3}, {2, 1, 1<<40 - 1, 3<<39 - 2},
		{4096, 4095, 1, 1}, {4096, 4095, 2, 3}, {4096, 4095, 4096, 8191}, {4096, 1, 4096, 4097}, {4096, 1, 4095, 4095},
		{4096, 4095, 1<<40 - 1, 1<<41 - 1<<28 - 2}, {4096, 1, 1<<40 - 1, 1<<40 + 1<<28 - 2},
	} {
		if n := steps(t, c.base, c.length, c.tick); n != c.want {
			t.Errorf("Steps(%d, %d, %d): %d, not %d", c.base, c.length, c.tick, n, c.want)
		}
	}
}

// P18.2: rows reckoned by hand: of all ticks of an interval, and where steps
// begin anew, also in the midst of a tick.
func TestRowByHand(t *testing.T) {
	for _, c := range []struct {
		base, length, tick int
		want               []uint32
	}{
		{4, 1, 0, []uint32{0}}, {4, 1, 1, []uint32{1}}, {4, 1, 2, []uint32{2}}, {4, 1, 3, []uint32{3, 4}}, {4, 1, 4, []uint32{5}},
		{3, 2, 0, []uint32{0}}, {3, 2, 1, []uint32{1, 2}}, {3, 2, 2, []uint32{3, 4}}, {3, 2, 3, []uint32{5}},
		{2, 1, 2863311529, []uint32{lastStep - 2, lastStep - 1}}, {2, 1, 2863311530, []uint32{lastStep}}, {2, 1, 2863311531, []uint32{0, 1}},
		{4, 3, 2454267025, []uint32{lastStep - 2, lastStep - 1}}, {4, 3, 2454267026, []uint32{lastStep, 0}}, {4, 3, 2454267027, []uint32{1, 2}}, {4, 3, 2454267028, []uint32{3}},
		{2, 1, 1<<40 - 1, []uint32{lastStep - 1, lastStep}}, {4096, 1, 1<<40 - 1, []uint32{1<<28 - 2, 1<<28 - 1}},
	} {
		if l := row(t, c.base, c.length, c.tick); !slices.Equal(l, c.want) {
			t.Errorf("Row(%d, %d, %d): %v, not %v", c.base, c.length, c.tick, l, c.want)
		}
	}
}

// P18.2 and P18.3: from the first tick on steps are counted one by one; each
// tick's follow those of the tick ahead.
func TestStepsInARow(t *testing.T) {
	for _, c := range calendars {
		want := 0
		for tick := range min(600*c[0], 9000) {
			if n := steps(t, c[0], c[1], tick); n != want {
				t.Fatalf("Steps(%d, %d, %d): %d, not %d", c[0], c[1], tick, n, want)
			}
			l := []uint32{uint32(want)}
			want++
			if ofBurst(c[0], c[1], tick) {
				l = append(l, uint32(want))
				want++
			}
			if r := row(t, c[0], c[1], tick); !slices.Equal(r, l) {
				t.Fatalf("Row(%d, %d, %d): %v, not %v", c[0], c[1], tick, r, l)
			}
		}
	}
}

// P18.2 and P18.3: the same from ticks on that are anywhere.
func TestStepsAnywhere(t *testing.T) {
	for _, c := range calendars {
		for _, from := range ticks(c[0]) {
			if n, want := steps(t, c[0], c[1], from), countedSteps(c[0], c[1], from); n != want {
				t.Fatalf("Steps(%d, %d, %d): %d, not %d", c[0], c[1], from, n, want)
			}
			following(t, c[0], c[1], from)
		}
	}
}

// following says whether that tick and the next one, if there is one, have as
// many steps as they should, each one more than the one ahead.
func following(t *testing.T, base, length, from int) {
	t.Helper()
	l := row(t, base, length, from)
	many := 1
	if ofBurst(base, length, from) {
		many = 2
	}
	if len(l) != many || l[0] != uint32(steps(t, base, length, from)) {
		t.Fatalf("Row(%d, %d, %d): %v", base, length, from, l)
	}
	if from < lastTick {
		if n := steps(t, base, length, from+1) - steps(t, base, length, from); n != many {
			t.Fatalf("of %d, %d tick %d has %d steps, not %d", base, length, from, n, many)
		}
		l = append(l, row(t, base, length, from+1)...)
	}
	for i := range l[1:] {
		if l[i+1] != l[i]+1 {
			t.Fatalf("of %d, %d steps from tick %d on: %v", base, length, from, l)
		}
	}
}

// P18.4: ahead of a sync point the burst's ticks are in a row, as many as they
// should be, and no more; of each level there are 2^l times as many between two
// sync points.
func TestBurstsAheadOfSyncPoints(t *testing.T) {
	for _, c := range calendars {
		base, length := c[0], c[1]
		for l := range api.MaxLayers {
			if base<<l > 1<<16 && l > 2 {
				continue
			}
			from := next(t, base, l, 1<<33+12345)
			to := next(t, base, l, from)
			many := 0
			for tick := from; tick < to; tick++ {
				if burst(t, base, length, tick) {
					many++
				}
			}
			if to-from != base<<l || many != length<<l {
				t.Fatalf("of %d, %d, level %d: %d of %d ticks", base, length, l, many, to-from)
			}
			for i := 1; i <= base; i++ {
				if in := burst(t, base, length, to-i); in != (i <= length) {
					t.Fatalf("of %d, %d: %t of %d ahead of %d", base, length, in, i, to)
				}
			}
		}
	}
}

// P18.4: of all levels, by how many steps there are between two sync points.
func TestStepsBetweenSyncPoints(t *testing.T) {
	for _, c := range calendars {
		for l := range api.MaxLayers {
			for _, tick := range ticks(c[0]) {
				from := next(t, c[0], l, tick)
				to := from + c[0]<<l
				if to > lastTick {
					continue
				}
				if n := steps(t, c[0], c[1], to) - steps(t, c[0], c[1], from); n != (c[0]+c[1])<<l {
					t.Fatalf("of %d, %d, level %d, from %d to %d: %d steps", c[0], c[1], l, from, to, n)
				}
			}
		}
	}
}

// Rules 3 and 4: what is answered is new memory, and hangs on nothing that was
// done to what was answered ahead of it.
func TestAnswersAreNew(t *testing.T) {
	for _, tick := range []int{2, 3, 5, 7} {
		first := row(t, 4, 1, tick)
		want := slices.Clone(first)
		_ = append(first, 9, 9)
		clear(first[:cap(first)])
		if l := row(t, 4, 1, tick); !slices.Equal(l, want) {
			t.Errorf("Row(4, 1, %d): %v, not %v", tick, l, want)
		}
	}
}

// Rule 4: calls hang on what they are given alone, be there many at once.
func TestManyAtOnce(t *testing.T) {
	var all sync.WaitGroup
	for i := range 8 {
		all.Go(func() {
			for tick := range 2000 {
				n, err := calendar.Steps(5+i, 1+i%4, tick)
				if want := countedSteps(5+i, 1+i%4, tick); err != nil || n != want {
					t.Errorf("%d, not %d", n, want)
				}
				l, err := calendar.Sync(5+i, 8, tick)
				if want := greatest(5+i, 8, tick); err != nil || l != want {
					t.Errorf("%d, not %d", l, want)
				}
			}
		})
	}
	all.Wait()
}
