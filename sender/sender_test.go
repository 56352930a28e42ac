package sender_test

import (
	"bytes"
	"encoding/hex"
	"errors"
	"math"
	"math/rand"
	"slices"
	"strings"
	"sync"
	"testing"

	"geyser/api"
	"geyser/blocking"
	"geyser/check"
	"geyser/decode"
	"geyser/encode"
	"geyser/fault"
	"geyser/sender"
	"geyser/wire"
)

// The calls' signatures are the chapter's.
var (
	_ func(api.Config, int) error                      = sender.Check
	_ func(api.Config, []byte) (*sender.Sender, error) = sender.New
	_ func(*sender.Sender) ([]api.Dgram, error)        = (*sender.Sender).Tick
	_ func(*sender.Sender) int                         = (*sender.Sender).Now
	_ func(*sender.Sender, int) error                  = (*sender.Sender).Skip
	_ func(*sender.Sender) api.Plan                    = (*sender.Sender).Plan
)

// lastTick is the last tick in which something goes out.
const lastTick = api.MaxTick - 2

// example is the transmission of the chapter's example, of ab.
var example = api.Config{Session: 1, Layers: 2, Esis: 4, Symbol: 1, Source: 2, Base: 4, Burst: 1, Every: 8}

// some are transmissions, and of how many bytes the object is.
var some = []struct {
	c    api.Config
	size int
}{
	{example, 2},
	{api.Config{Session: 0, Layers: 1, Esis: 1, Symbol: 1, Source: 1, Base: 2, Burst: 1, Every: 1}, 0},
	{api.Config{Session: 65535, Layers: 1, Esis: 3, Symbol: 64, Source: 3, Base: 3, Burst: 2, Every: 3}, 180},
	{api.Config{Session: 256, Layers: 2, Esis: 6, Symbol: 3, Source: 2, Base: 2, Burst: 1, Every: 2}, 17},
	{api.Config{Session: 7, Layers: 3, Esis: 8, Symbol: 2, Source: 3, Base: 4, Burst: 3, Every: 4096}, 13},
	{api.Config{Session: 8, Layers: 3, Esis: 12, Symbol: 5, Source: 4, Base: 5, Burst: 2, Every: 5}, 100},
	{api.Config{Session: 9, Layers: 4, Esis: 24, Symbol: 4, Source: 20, Base: 4, Burst: 1, Every: 7}, 150},
	{api.Config{Session: 10, Layers: 5, Esis: 16, Symbol: 1, Source: 1, Base: 7, Burst: 6, Every: 2}, 16},
	{api.Config{Session: 11, Layers: 6, Esis: 32, Symbol: 8, Source: 9, Base: 6, Burst: 5, Every: 11}, 95},
	{api.Config{Session: 12, Layers: 8, Esis: 128, Symbol: 16, Source: 50, Base: 4, Burst: 2, Every: 4}, 1500},
}

// far are numbers that are out of every range, some of which have a right one's
// lowest bits.
var far = []int{
	math.MinInt, math.MinInt + 1, math.MinInt + 4, -1<<40 + 4, -1<<32 + 4, -1<<31 + 4, -4, -2, -1,
	1<<17 + 4, 1<<20 + 4, 1<<31 + 1, 1<<32 + 1, 1<<32 + 4, 1<<40 + 4, 1<<48 + 4, math.MaxInt - 3, math.MaxInt - 1, math.MaxInt,
}

// refused says whether err is just a Fault of that call round that number.
func refused(t *testing.T, err error, call string, n api.Errno) {
	t.Helper()
	f, ok := err.(*api.Fault)
	if !ok || f == nil {
		t.Fatalf("%s: %#v is no Fault", call, err)
	}
	if f.Call != call || fault.Num(err) != n || !errors.Is(err, n) {
		t.Errorf("%q %d, not %q %d", f.Call, fault.Num(err), call, n)
	}
}

// fine ends the test, if err is one.
func fine(t *testing.T, err error) {
	t.Helper()
	if err != nil {
		t.Fatalf("%v %d", fault.Chain(err), fault.Num(err))
	}
}

// object is some bytes.
func object(size int) []byte {
	b := make([]byte, size)
	rand.New(rand.NewSource(int64(size))).Read(b)
	return b
}

// fresh is a sender of what may be sent.
func fresh(t *testing.T, c api.Config, obj []byte) *sender.Sender {
	t.Helper()
	s, err := sender.New(c, obj)
	fine(t, err)
	if s == nil {
		t.Fatal("no sender")
	}
	return s
}

// tick is what goes out in the next tick, which there is.
func tick(t *testing.T, s *sender.Sender) []api.Dgram {
	t.Helper()
	l, err := s.Tick()
	fine(t, err)
	return l
}

// skipped is a sender whose next tick is that one.
func skipped(t *testing.T, c api.Config, obj []byte, next int) *sender.Sender {
	t.Helper()
	s := fresh(t, c, obj)
	fine(t, s.Skip(next))
	return s
}

// packet is the packet of which d are the bytes.
func packet(t *testing.T, d api.Dgram) api.Packet {
	t.Helper()
	p, err := wire.Get(d.Bytes)
	fine(t, err)
	return p
}

// body is the bytes that are written there, with their sum.
func body(t *testing.T, written string) []byte {
	t.Helper()
	b, err := hex.DecodeString(strings.ReplaceAll(written, " ", ""))
	fine(t, err)
	return check.Add(b)
}

// same says whether both are the same datagrams.
func same(a, b []api.Dgram) bool {
	return slices.EqualFunc(a, b, func(x, y api.Dgram) bool {
		return x.Layer == y.Layer && bytes.Equal(x.Bytes, y.Bytes)
	})
}

// ofBurst says whether tick is one of a burst, by how many ticks it is ahead of
// the next multiple of the base.
func ofBurst(c api.Config, tick int) bool {
	return c.Base-tick%c.Base <= c.Burst
}

// stepsAhead is how many steps the ticks ahead of tick have, by how many of
// these each place of a burst has.
func stepsAhead(c api.Config, tick int) int {
	n := tick
	for place := c.Base - c.Burst; place < c.Base; place++ {
		if tick > place {
			n += (tick-place-1)/c.Base + 1
		}
	}
	return n
}

// syncOf is the greatest level of which tick is a sync point.
func syncOf(c api.Config, tick int) int {
	level := -1
	for l, between := 0, c.Base; l < c.Layers; l, between = l+1, 2*between {
		if tick > 0 && tick%between == 0 {
			level = l
		}
	}
	return level
}

// turned is v, whose bits are laid the other way round, as they are written.
func turned(v, bits int) int {
	r := 0
	for i := 0; i < bits; i++ {
		if v&(1<<i) != 0 {
			r += 1 << (bits - 1 - i)
		}
	}
	return r
}

// onLevel says whether the layers 0 to level carry chunk in that step; level -1
// has no layer.
func onLevel(c api.Config, level, chunk, step int) bool {
	if level < 0 {
		return false
	}
	bits := c.Layers - 1
	m := 1 << (bits - level)
	return turned(chunk, bits)%m == step%m
}

// carried is the encoding symbols that a layer carries in a step.
func carried(c api.Config, layer, step int) []int {
	each := c.Esis >> (c.Layers - 1)
	var l []int
	for esi := range c.Esis {
		if onLevel(c, layer, esi/each, step) && !onLevel(c, layer-1, esi/each, step) {
			l = append(l, esi)
		}
	}
	return l
}

// stepsOf is a tick's steps.
func stepsOf(c api.Config, tick int) []int {
	first := stepsAhead(c, tick)
	if ofBurst(c, tick) {
		return []int{first % (1 << 32), (first + 1) % (1 << 32)}
	}
	return []int{first % (1 << 32)}
}

// model is what goes out, as the chapter says it.
type model struct {
	c      api.Config
	plan   api.Plan
	blocks []*encode.Encoder
}

// modelOf is a model of what may be sent.
func modelOf(t *testing.T, c api.Config, obj []byte) model {
	t.Helper()
	plan, err := blocking.Of(len(obj), c.Symbol, c.Source)
	fine(t, err)
	blocks, err := blocking.Cut(obj, plan)
	fine(t, err)
	m := model{c: c, plan: plan}
	for _, block := range blocks {
		e, err := encode.New(block, c.Symbol)
		fine(t, err)
		m.blocks = append(m.blocks, e)
	}
	return m
}

// out is the packets that go out in a tick.
func (m model) out(t *testing.T, tick int) []api.Packet {
	t.Helper()
	var l []api.Packet
	if tick/m.c.Every*m.c.Every == tick {
		l = append(l, api.Packet{
			Kind: api.PAnnounce, Session: m.c.Session, Tick: tick,
			Plan: m.plan, Layers: m.c.Layers, Esis: m.c.Esis, Base: m.c.Base, Length: m.c.Burst,
		})
	}
	for layer := range m.c.Layers {
		begin := len(l)
		for _, step := range stepsOf(m.c, tick) {
			for _, esi := range carried(m.c, layer, step) {
				for block, e := range m.blocks {
					data, err := e.Symbol(esi)
					fine(t, err)
					l = append(l, api.Packet{
						Kind: api.PData, Session: m.c.Session, Layer: layer, Tick: tick,
						Burst: ofBurst(m.c, tick), Sync: syncOf(m.c, tick+1),
						Place: len(l) - begin, Block: block, Esi: esi, Data: data,
					})
				}
			}
		}
		for i := range l[begin:] {
			l[begin+i].Many = len(l) - begin
		}
	}
	return l
}

// agree says whether what s tells of its next tick is what the model tells.
func agree(t *testing.T, m model, s *sender.Sender) {
	t.Helper()
	now := s.Now()
	want := m.out(t, now)
	got := tick(t, s)
	if len(got) != len(want) {
		t.Fatalf("tick %d: %d datagrams, not %d", now, len(got), len(want))
	}
	for i, p := range want {
		b, err := wire.Put(p)
		fine(t, err)
		if got[i].Layer != p.Layer || !bytes.Equal(got[i].Bytes, b) {
			t.Fatalf("tick %d, datagram %d: layer %d %x, not layer %d %x", now, i, got[i].Layer, got[i].Bytes, p.Layer, b)
		}
	}
	if s.Now() != now+1 {
		t.Fatalf("behind tick %d comes %d", now, s.Now())
	}
}

// P19.2: what goes out, as the chapter's example says it, byte by byte.
func TestExample(t *testing.T) {
	s := fresh(t, example, []byte("ab"))
	e, err := encode.New([][]byte{[]byte("a"), []byte("b")}, 1)
	fine(t, err)
	// The symbols 2 and 3, whose bytes only layer 12 tells.
	var sums [2]string
	for i := range sums {
		sym, err := e.Symbol(2 + i)
		fine(t, err)
		sums[i] = hex.EncodeToString(sym)
	}
	for at, want := range [][]struct {
		layer int
		bytes string
	}{
		{
			{0, "02 0001 00 0000000000 00000002 01 01 00 02 02 0003 0004 0001"},
			{0, "01 0001 00 0000000000 00 0002 0000 00 0000 61"},
			{0, "01 0001 00 0000000000 00 0002 0001 00 0001 62"},
			{1, "01 0001 01 0000000000 00 0002 0000 00 0002" + sums[0]},
			{1, "01 0001 01 0000000000 00 0002 0001 00 0003" + sums[1]},
		},
		{
			{0, "01 0001 00 0000000001 00 0002 0000 00 0002" + sums[0]},
			{0, "01 0001 00 0000000001 00 0002 0001 00 0003" + sums[1]},
			{1, "01 0001 01 0000000001 00 0002 0000 00 0000 61"},
			{1, "01 0001 01 0000000001 00 0002 0001 00 0001 62"},
		},
		{
			{0, "01 0001 00 0000000002 00 0002 0000 00 0000 61"},
			{0, "01 0001 00 0000000002 00 0002 0001 00 0001 62"},
			{1, "01 0001 01 0000000002 00 0002 0000 00 0002" + sums[0]},
			{1, "01 0001 01 0000000002 00 0002 0001 00 0003" + sums[1]},
		},
		{
			{0, "01 0001 00 0000000003 81 0004 0000 00 0002" + sums[0]},
			{0, "01 0001 00 0000000003 81 0004 0001 00 0003" + sums[1]},
			{0, "01 0001 00 0000000003 81 0004 0002 00 0000 61"},
			{0, "01 0001 00 0000000003 81 0004 0003 00 0001 62"},
			{1, "01 0001 01 0000000003 81 0004 0000 00 0000 61"},
			{1, "01 0001 01 0000000003 81 0004 0001 00 0001 62"},
			{1, "01 0001 01 0000000003 81 0004 0002 00 0002" + sums[0]},
			{1, "01 0001 01 0000000003 81 0004 0003 00 0003" + sums[1]},
		},
	} {
		if s.Now() != at {
			t.Errorf("the next tick is %d, not %d", s.Now(), at)
		}
		var l []api.Dgram
		for _, w := range want {
			l = append(l, api.Dgram{Layer: w.layer, Bytes: body(t, w.bytes)})
		}
		if got := tick(t, s); !same(got, l) {
			t.Errorf("tick %d: %x, not %x", at, got, l)
		}
	}
	fine(t, s.Skip(3))
	// Tick 7 is a burst ahead of a sync point of level 1, tick 8 has an
	// announcement.
	if p := packet(t, tick(t, s)[0]); p.Kind != api.PData || !p.Burst || p.Sync != 1 || p.Tick != 7 {
		t.Errorf("%+v", p)
	}
	if got := tick(t, s)[0]; got.Layer != 0 || !bytes.Equal(got.Bytes, body(t, "02 0001 00 0000000008 00000002 01 01 00 02 02 0003 0004 0001")) {
		t.Errorf("%x", got)
	}
}

// P19.2: datagrams are laid step by step, symbol by symbol, block by block.
func TestOrder(t *testing.T) {
	c := api.Config{Session: 3, Layers: 3, Esis: 8, Symbol: 1, Source: 2, Base: 4, Burst: 2, Every: 3}
	s := skipped(t, c, []byte("abc"), 2)
	// Tick 2 is a burst's, of the steps 2 and 3: of the chunks 0 to 3, of two
	// symbols each, layer 0 has 1 and 3, layer 1 has 0 and 2, layer 2 has 2 3 and
	// 0 1.
	type laid struct{ layer, many, place, block, esi int }
	var want []laid
	for layer, esis := range [][]int{{2, 3, 6, 7}, {0, 1, 4, 5}, {4, 5, 6, 7, 0, 1, 2, 3}} {
		for i, esi := range esis {
			want = append(want, laid{layer, 2 * len(esis), 2 * i, 0, esi}, laid{layer, 2 * len(esis), 2*i + 1, 1, esi})
		}
	}
	var got []laid
	for _, d := range tick(t, s) {
		p := packet(t, d)
		if p.Kind != api.PData || p.Session != 3 || p.Tick != 2 || !p.Burst || p.Sync != -1 || p.Layer != d.Layer {
			t.Errorf("%+v", p)
		}
		got = append(got, laid{p.Layer, p.Many, p.Place, p.Block, p.Esi})
	}
	if !slices.Equal(got, want) {
		t.Errorf("%v, not %v", got, want)
	}
	// In tick 3 there is an announcement, and the tick behind it is a sync point
	// of level 0 alone.
	l := tick(t, s)
	if p := packet(t, l[0]); p.Kind != api.PAnnounce || p.Tick != 3 || l[0].Layer != 0 {
		t.Errorf("%+v", p)
	}
	if p := packet(t, l[1]); p.Kind != api.PData || p.Tick != 3 || p.Sync != 0 || p.Layer != 0 {
		t.Errorf("%+v", p)
	}
}

// P19.2: what goes out in each tick, of all these transmissions, from the first
// tick on, where steps begin anew, and up to the last tick.
func TestModel(t *testing.T) {
	for _, x := range some {
		obj := object(x.size)
		m := modelOf(t, x.c, obj)
		s := fresh(t, x.c, obj)
		if s.Now() != 0 || s.Plan() != m.plan {
			t.Errorf("%d %v, not 0 %v", s.Now(), s.Plan(), m.plan)
		}
		for range 40 {
			agree(t, m, s)
		}
		// The tick in which, or behind which, steps begin anew.
		anew := 0
		for bit := 1 << 33; bit > 0; bit /= 2 {
			if stepsAhead(x.c, anew+bit) < 1<<32 {
				anew += bit
			}
		}
		for _, from := range []int{anew - 6, x.c.Every*x.c.Base*256 - 3, 1<<39 - 2, lastTick - 12} {
			s = skipped(t, x.c, obj, from)
			for range 13 {
				agree(t, m, s)
			}
		}
		if s.Now() != lastTick+1 {
			t.Errorf("the next tick is %d, not %d", s.Now(), lastTick+1)
		}
		if s.Plan() != m.plan {
			t.Errorf("%v, not %v", s.Plan(), m.plan)
		}
	}
}

// P19.2: announcements go out in the ticks that Every divides, and in no others.
func TestAnnounced(t *testing.T) {
	for _, every := range []int{1, 2, 3, 5, 64, 4095, 4096} {
		c := example
		c.Every = every
		s := fresh(t, c, []byte("ab"))
		for now := range 2*every + 2 {
			n := 0
			for i, d := range tick(t, s) {
				if packet(t, d).Kind != api.PAnnounce {
					continue
				}
				n++
				if i != 0 || d.Layer != 0 {
					t.Fatalf("every %d: tick %d: an announcement at %d, on layer %d", every, now, i, d.Layer)
				}
			}
			if want := now%every == 0; (n == 1) != want || n > 1 {
				t.Fatalf("every %d: tick %d: %d announcements", every, now, n)
			}
		}
	}
}

// P19.1: what Check refuses, of New likewise; at the edges what it takes.
func TestCheck(t *testing.T) {
	with := func(change func(*api.Config)) api.Config {
		c := example
		change(&c)
		return c
	}
	for _, x := range []struct {
		c    api.Config
		size int
		want api.Errno
	}{
		{example, 2, 0},
		{example, 0, 0},
		{example, 32, 0},
		{example, 33, api.ErrLong},
		{example, 1 << 20, api.ErrLong},
		{api.Config{}, 2, api.ErrRange},
		{with(func(c *api.Config) { c.Session = 0 }), 2, 0},
		{with(func(c *api.Config) { c.Session = 65535 }), 2, 0},
		{with(func(c *api.Config) { c.Session = 65536 }), 2, api.ErrRange},
		{with(func(c *api.Config) { c.Layers = 0 }), 2, api.ErrRange},
		{with(func(c *api.Config) { c.Layers = 1 }), 2, 0},
		{with(func(c *api.Config) { c.Layers = 3 }), 2, 0},
		{with(func(c *api.Config) { c.Layers = 4 }), 2, api.ErrForm},
		{with(func(c *api.Config) { c.Layers = 8 }), 2, api.ErrForm},
		{with(func(c *api.Config) { c.Layers = 9 }), 2, api.ErrRange},
		{with(func(c *api.Config) { c.Layers, c.Esis = 8, 128 }), 2, 0},
		{with(func(c *api.Config) { c.Layers, c.Esis = 8, 64 }), 2, api.ErrForm},
		{with(func(c *api.Config) { c.Layers, c.Esis = 8, 192 }), 2, api.ErrForm},
		{with(func(c *api.Config) { c.Layers, c.Esis = 9, 256 }), 2, api.ErrRange},
		{with(func(c *api.Config) { c.Esis = 0 }), 2, api.ErrRange},
		{with(func(c *api.Config) { c.Esis = 1 }), 2, api.ErrForm},
		{with(func(c *api.Config) { c.Esis = 2 }), 2, 0},
		{with(func(c *api.Config) { c.Esis = 3 }), 2, api.ErrForm},
		{with(func(c *api.Config) { c.Esis = 65536 }), 2, api.ErrLong},
		{with(func(c *api.Config) { c.Esis = 65537 }), 2, api.ErrRange},
		{with(func(c *api.Config) { c.Symbol = 0 }), 2, api.ErrRange},
		{with(func(c *api.Config) { c.Symbol = 64 }), 2, 0},
		{with(func(c *api.Config) { c.Symbol = 65 }), 2, api.ErrRange},
		{with(func(c *api.Config) { c.Source = 0 }), 2, api.ErrRange},
		{with(func(c *api.Config) { c.Source = 1 }), 2, 0},
		{with(func(c *api.Config) { c.Source = 128 }), 2, 0},
		{with(func(c *api.Config) { c.Source = 129 }), 2, api.ErrRange},
		{with(func(c *api.Config) { c.Base, c.Burst = 1, 1 }), 2, api.ErrRange},
		{with(func(c *api.Config) { c.Base, c.Burst = 2, 1 }), 2, 0},
		{with(func(c *api.Config) { c.Base, c.Burst = 4096, 4095 }), 2, 0},
		{with(func(c *api.Config) { c.Base, c.Burst = 4097, 1 }), 2, api.ErrRange},
		{with(func(c *api.Config) { c.Burst = 0 }), 2, api.ErrRange},
		{with(func(c *api.Config) { c.Burst = 3 }), 2, 0},
		{with(func(c *api.Config) { c.Burst = 4 }), 2, api.ErrRange},
		{with(func(c *api.Config) { c.Every = 0 }), 2, api.ErrRange},
		{with(func(c *api.Config) { c.Every = 1 }), 2, 0},
		{with(func(c *api.Config) { c.Every = 4096 }), 2, 0},
		{with(func(c *api.Config) { c.Every = 4097 }), 2, api.ErrRange},
		// As many encoding symbols as the greatest block has source symbols,
		// and one fewer: of the blocks of 5, 5, 4 symbols.
		{with(func(c *api.Config) { c.Layers, c.Esis, c.Source = 1, 5, 5 }), 14, 0},
		{with(func(c *api.Config) { c.Layers, c.Esis, c.Source = 1, 4, 5 }), 14, api.ErrForm},
		{with(func(c *api.Config) { c.Layers, c.Esis, c.Source = 1, 4, 5 }), 12, 0},
		{with(func(c *api.Config) { c.Source = 6 }), 6, api.ErrForm},
		{with(func(c *api.Config) { c.Source = 6 }), 4, 0},
		{with(func(c *api.Config) { c.Esis, c.Source = 128, 128 }), 2048, 0},
		{with(func(c *api.Config) { c.Esis, c.Source = 126, 128 }), 2048, api.ErrForm},
		{with(func(c *api.Config) { c.Esis, c.Source, c.Symbol = 128, 128, 64 }), 131072, 0},
		{with(func(c *api.Config) { c.Esis, c.Source, c.Symbol = 128, 128, 64 }), 131073, api.ErrLong},
		// As many datagrams as a layer may have in a tick, and more.
		{with(func(c *api.Config) { c.Layers, c.Esis = 1, 2048 }), 2, 0},
		{with(func(c *api.Config) { c.Layers, c.Esis = 1, 2049 }), 2, api.ErrLong},
		{with(func(c *api.Config) { c.Layers, c.Esis = 1, 128 }), 32, 0},
		{with(func(c *api.Config) { c.Layers, c.Esis = 1, 129 }), 32, api.ErrLong},
		{with(func(c *api.Config) { c.Layers, c.Esis = 2, 4096 }), 2, 0},
		{with(func(c *api.Config) { c.Layers, c.Esis = 2, 4098 }), 2, api.ErrLong},
		{with(func(c *api.Config) { c.Layers, c.Esis = 3, 4096 }), 2, 0},
		{with(func(c *api.Config) { c.Layers, c.Esis = 3, 4100 }), 2, api.ErrLong},
		{with(func(c *api.Config) { c.Layers, c.Esis = 8, 4096 }), 2, 0},
		{with(func(c *api.Config) { c.Layers, c.Esis = 8, 4224 }), 2, api.ErrLong},
		{with(func(c *api.Config) { c.Layers, c.Esis = 8, 256 }), 32, 0},
		{with(func(c *api.Config) { c.Layers, c.Esis = 8, 384 }), 32, api.ErrLong},
		{with(func(c *api.Config) { c.Layers, c.Esis = 8, 384 }), 20, 0},
		{with(func(c *api.Config) { c.Layers, c.Esis = 8, 384 }), 22, api.ErrLong},
		// What comes first, of several.
		{with(func(c *api.Config) { c.Every = 0 }), 33, api.ErrRange},
		{with(func(c *api.Config) { c.Session = -1 }), 33, api.ErrRange},
		{with(func(c *api.Config) { c.Layers = 0 }), 33, api.ErrRange},
		{with(func(c *api.Config) { c.Esis = 0 }), 33, api.ErrRange},
		{with(func(c *api.Config) { c.Burst = 4 }), 33, api.ErrRange},
		{with(func(c *api.Config) { c.Burst, c.Esis = 4, 3 }), 2, api.ErrRange},
		{with(func(c *api.Config) { c.Every, c.Esis = 0, 3 }), 2, api.ErrRange},
		{with(func(c *api.Config) { c.Every, c.Esis = 0, 65536 }), 2, api.ErrRange},
		{with(func(c *api.Config) { c.Symbol, c.Esis = 0, 3 }), 2, api.ErrRange},
		{with(func(c *api.Config) { c.Source, c.Esis = 0, 65536 }), 2, api.ErrRange},
		{with(func(c *api.Config) { c.Esis = 3 }), 33, api.ErrLong},
		{with(func(c *api.Config) { c.Esis = 1 }), 33, api.ErrLong},
		{with(func(c *api.Config) { c.Esis = 4097 }), 2, api.ErrForm},
		{with(func(c *api.Config) { c.Esis = 65535 }), 2, api.ErrForm},
	} {
		asked(t, x.c, x.size, x.want)
		_, err := sender.New(x.c, make([]byte, x.size))
		if x.want == 0 {
			fine(t, err)
			continue
		}
		refused(t, err, "sender.New", x.want)
	}
}

// asked says whether Check answers that number, and New none beside it.
func asked(t *testing.T, c api.Config, size int, want api.Errno) {
	t.Helper()
	err := sender.Check(c, size)
	if want == 0 {
		if err != nil {
			t.Errorf("%+v, %d bytes: %d", c, size, fault.Num(err))
		}
		return
	}
	if fault.Num(err) != want {
		t.Errorf("%+v, %d bytes: %d, not %d", c, size, fault.Num(err), want)
		return
	}
	refused(t, err, "sender.Check", want)
}

// P19.1: numbers that are out of all ranges are refused, each by itself, and all
// of them.
func TestFar(t *testing.T) {
	for _, n := range far {
		for i := range 8 {
			c := example
			*[]*int{&c.Session, &c.Layers, &c.Esis, &c.Symbol, &c.Source, &c.Base, &c.Burst, &c.Every}[i] = n
			asked(t, c, 2, api.ErrRange)
			s, err := sender.New(c, []byte("ab"))
			refused(t, err, "sender.New", api.ErrRange)
			if s != nil {
				t.Errorf("%+v: a sender", c)
			}
		}
		asked(t, api.Config{Session: n, Layers: n, Esis: n, Symbol: n, Source: n, Base: n, Burst: n, Every: n}, n, api.ErrRange)
		want := api.ErrLong
		if n < 0 {
			want = api.ErrRange
		}
		asked(t, example, n, want)
	}
}

// P19.1: New takes just what Check does; all small transmissions, against the
// chapter's words.
func TestSmall(t *testing.T) {
	for layers := 0; layers <= 5; layers++ {
		for esis := 0; esis <= 20; esis++ {
			for source := 1; source <= 6; source++ {
				for size := 0; size <= 12; size++ {
					c := api.Config{Layers: layers, Esis: esis, Symbol: 2, Source: source, Base: 2, Burst: 1, Every: 1}
					want := api.Errno(0)
					symbols := max((size+1)/2, 1)
					blocks := (symbols + source - 1) / source
					greatest := (symbols + blocks - 1) / blocks
					switch {
					case layers == 0 || esis == 0:
						want = api.ErrRange
					case esis%(1<<(layers-1)) != 0 || esis < greatest:
						want = api.ErrForm
					}
					asked(t, c, size, want)
				}
			}
		}
	}
}

// P19.2: the last tick, and what is behind it.
func TestEnd(t *testing.T) {
	s := skipped(t, example, []byte("ab"), lastTick)
	if s.Now() != lastTick {
		t.Errorf("%d", s.Now())
	}
	l := tick(t, s)
	// MaxTick - 1 is no sync point.
	if p := packet(t, l[0]); p.Tick != lastTick || p.Sync != -1 || p.Burst {
		t.Errorf("%+v", p)
	}
	for range 3 {
		if s.Now() != lastTick+1 {
			t.Errorf("%d", s.Now())
		}
		l, err := s.Tick()
		refused(t, err, "sender.Tick", api.ErrState)
		if len(l) != 0 {
			t.Errorf("%v beside an error", l)
		}
		fine(t, s.Skip(0))
		refused(t, s.Skip(1), "sender.Skip", api.ErrRange)
		refused(t, s.Skip(math.MaxInt), "sender.Skip", api.ErrRange)
		refused(t, s.Skip(-1), "sender.Skip", api.ErrRange)
	}
	if s.Plan() == (api.Plan{}) {
		t.Error("no plan behind the last tick")
	}
}

// P19.2: Skip goes on as if there had been so many ticks, and refuses what is
// out of its range; then nothing has changed.
func TestSkip(t *testing.T) {
	s := fresh(t, example, []byte("ab"))
	for _, n := range far {
		if n >= 0 && n < api.MaxTick {
			continue
		}
		refused(t, s.Skip(n), "sender.Skip", api.ErrRange)
		if s.Now() != 0 {
			t.Fatalf("Skip(%d): the next tick is %d", n, s.Now())
		}
	}
	refused(t, s.Skip(api.MaxTick), "sender.Skip", api.ErrRange)
	fine(t, s.Skip(api.MaxTick-1))
	if s.Now() != api.MaxTick-1 {
		t.Errorf("%d", s.Now())
	}
	_, err := s.Tick()
	refused(t, err, "sender.Tick", api.ErrState)

	one, other := fresh(t, example, []byte("ab")), fresh(t, example, []byte("ab"))
	for n := range 12 {
		fine(t, one.Skip(n))
		for range n {
			tick(t, other)
		}
		if one.Now() != other.Now() {
			t.Errorf("%d, not %d", one.Now(), other.Now())
		}
		refused(t, one.Skip(-1), "sender.Skip", api.ErrRange)
		refused(t, one.Skip(api.MaxTick-one.Now()), "sender.Skip", api.ErrRange)
		if !same(tick(t, one), tick(t, other)) {
			t.Errorf("behind %d ticks more goes out than behind as many skipped", n)
		}
	}
}

// P19.2: a nil sender.
func TestNil(t *testing.T) {
	var s *sender.Sender
	l, err := s.Tick()
	refused(t, err, "sender.Tick", api.ErrState)
	if len(l) != 0 {
		t.Errorf("%v beside an error", l)
	}
	for _, n := range append([]int{0, 1}, far...) {
		refused(t, s.Skip(n), "sender.Skip", api.ErrState)
	}
	if s.Now() != 0 || s.Plan() != (api.Plan{}) {
		t.Errorf("%d %v", s.Now(), s.Plan())
	}
}

// P19.3: on each level, in any steps in a row that are enough, each encoding
// symbol of each block goes out just once, where steps begin anew, too.
func TestOnce(t *testing.T) {
	for _, x := range some {
		for _, from := range []int{0, 5, 1 << 31, 1<<32 - 40, 1 << 33 / 3, lastTick - 99} {
			s := skipped(t, x.c, object(x.size), from)
			steps := gathered(t, s, x.c, 70)
			for level := range x.c.Layers {
				many := 1 << (x.c.Layers - 1 - level)
				for i := 0; i+many <= len(steps); i++ {
					once(t, x.c, s.Plan().Blocks, level, steps[i:i+many])
				}
			}
		}
	}
}

// gathered is what goes out in that many ticks, step by step, and of each step
// layer by layer: which encoding symbols of which blocks.
func gathered(t *testing.T, s *sender.Sender, c api.Config, ticks int) [][][][2]int {
	t.Helper()
	var all [][][][2]int
	for range ticks {
		now := s.Now()
		layers := make([][][2]int, c.Layers)
		for _, d := range tick(t, s) {
			if p := packet(t, d); p.Kind == api.PData {
				layers[d.Layer] = append(layers[d.Layer], [2]int{p.Block, p.Esi})
			}
		}
		if !ofBurst(c, now) {
			all = append(all, layers)
			continue
		}
		first, second := make([][][2]int, c.Layers), make([][][2]int, c.Layers)
		for layer, l := range layers {
			first[layer], second[layer] = l[:len(l)/2], l[len(l)/2:]
		}
		all = append(all, first, second)
	}
	return all
}

// once says whether each symbol is just once in these steps, on that level.
func once(t *testing.T, c api.Config, blocks, level int, steps [][][][2]int) {
	t.Helper()
	seen := map[[2]int]int{}
	n := 0
	for _, layers := range steps {
		for _, l := range layers[:level+1] {
			for _, x := range l {
				seen[x]++
				n++
			}
		}
	}
	if len(seen) != blocks*c.Esis || n != len(seen) {
		t.Fatalf("%+v, level %d: %d symbols, %d of them others, of %d", c, level, n, len(seen), blocks*c.Esis)
	}
}

// P19.4: each layer has as many datagrams of data as its packets say, with all
// places; none has more than MaxRate.
func TestPlaces(t *testing.T) {
	most := api.Config{Session: 5, Layers: 8, Esis: 256, Symbol: 1, Source: 2, Base: 4, Burst: 1, Every: 2}
	for _, x := range append(slices.Clone(some), some[0], struct {
		c    api.Config
		size int
	}{most, 32}) {
		s := fresh(t, x.c, object(x.size))
		for range 9 {
			places := make([][]int, x.c.Layers)
			many := make([]int, x.c.Layers)
			for _, d := range tick(t, s) {
				p := packet(t, d)
				if p.Kind != api.PData {
					continue
				}
				if len(places[d.Layer]) == 0 {
					many[d.Layer] = p.Many
				}
				if p.Many != many[d.Layer] || p.Many > api.MaxRate {
					t.Fatalf("%+v: many %d and %d", x.c, many[d.Layer], p.Many)
				}
				places[d.Layer] = append(places[d.Layer], p.Place)
			}
			for layer, l := range places {
				if len(l) != many[layer] || len(l) == 0 {
					t.Fatalf("%+v: layer %d has %d, not %d", x.c, layer, len(l), many[layer])
				}
				for i, place := range l {
					if place != i {
						t.Fatalf("%+v: layer %d: place %d at %d", x.c, layer, place, i)
					}
				}
			}
		}
	}
	// The greatest layer of the greatest transmission has all that it may.
	s := skipped(t, most, object(32), 3)
	l := tick(t, s)
	if p := packet(t, l[len(l)-1]); p.Layer != 7 || p.Many != api.MaxRate || p.Place != api.MaxRate-1 {
		t.Errorf("%+v", p)
	}
}

// P19.5: each datagram is a right packet's bytes, of its layer, of this session
// and tick.
func TestRight(t *testing.T) {
	for _, x := range some {
		for _, from := range []int{0, 1<<32 - 7, 1 << 39, lastTick - 20} {
			s := skipped(t, x.c, object(x.size), from)
			for now := from; now < from+20; now++ {
				for _, d := range tick(t, s) {
					p := packet(t, d)
					fine(t, wire.Check(p))
					b, err := wire.Put(p)
					fine(t, err)
					if !bytes.Equal(b, d.Bytes) || len(b) > api.MaxPacket {
						t.Fatalf("%x, not %x", d.Bytes, b)
					}
					if p.Layer != d.Layer || p.Session != x.c.Session || p.Tick != now {
						t.Fatalf("layer %d, tick %d: %+v", d.Layer, now, p)
					}
				}
			}
		}
	}
}

// P19.2, P19.3: what goes out on any level, from any tick on, in as few steps as
// that, gives the object back.
func TestBack(t *testing.T) {
	for _, x := range some {
		obj := object(x.size)
		for level := range x.c.Layers {
			s := skipped(t, x.c, obj, 3+level)
			plan := s.Plan()
			decoders := make([]*decode.Decoder, plan.Blocks)
			for block := range decoders {
				n, err := blocking.Source(plan, block)
				fine(t, err)
				decoders[block], err = decode.New(n, plan.Symbol)
				fine(t, err)
			}
			for range 1 << (x.c.Layers - 1 - level) {
				for _, d := range tick(t, s) {
					p := packet(t, d)
					if p.Kind != api.PData || p.Layer > level {
						continue
					}
					_, err := decoders[p.Block].Add(p.Esi, p.Data)
					fine(t, err)
				}
			}
			blocks := make([][][]byte, plan.Blocks)
			for i, d := range decoders {
				var err error
				blocks[i], err = d.Source()
				fine(t, err)
			}
			back, err := blocking.Join(plan, blocks)
			fine(t, err)
			if !bytes.Equal(back, obj) {
				t.Errorf("%+v, level %d: %x, not %x", x.c, level, back, obj)
			}
		}
	}
}

// What is handed in is neither changed nor kept; what is answered is new memory
// (rules 3 and 4).
func TestApart(t *testing.T) {
	for _, x := range some {
		room := append(object(x.size), 77, 78)
		obj := room[:x.size]
		s, other := fresh(t, x.c, obj), fresh(t, x.c, object(x.size))
		if !bytes.Equal(obj, object(x.size)) || room[x.size] != 77 || room[x.size+1] != 78 {
			t.Fatalf("%+v: the object was changed", x.c)
		}
		for i := range room {
			room[i]++
		}
		for range 9 {
			l, again := tick(t, s), tick(t, other)
			if !same(l, again) {
				t.Fatalf("%+v: the object was kept, or what was answered", x.c)
			}
			// Were memory shared, another datagram would have changed.
			for i, d := range l {
				full := d.Bytes[:cap(d.Bytes)]
				for j := range full {
					full[j] ^= 255
				}
				if !same(l[i+1:], again[i+1:]) {
					t.Fatalf("%+v: datagram %d shares memory with another one", x.c, i)
				}
			}
			l = l[:cap(l)]
			for i := range l {
				l[i] = api.Dgram{Layer: -1}
			}
		}
	}
}

// What a sender tells hangs on the calls on it alone, whatever others tell at
// the same time (rule 4).
func TestManyAtOnce(t *testing.T) {
	want := make([][]api.Dgram, 60)
	for i, x := range some {
		s := fresh(t, x.c, object(x.size))
		for j := range 6 {
			want[6*i+j] = tick(t, s)
		}
	}
	var group sync.WaitGroup
	for w := range 4 * len(some) {
		group.Add(1)
		go func() {
			defer group.Done()
			i := w % len(some)
			s, err := sender.New(some[i].c, object(some[i].size))
			if err != nil {
				t.Errorf("%v", err)
				return
			}
			for j := range 6 {
				l, err := s.Tick()
				if err != nil || !same(l, want[6*i+j]) {
					t.Errorf("%+v: tick %d is another one", some[i].c, j)
				}
			}
		}()
	}
	group.Wait()
}
