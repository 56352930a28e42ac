package wire_test

import (
	"bytes"
	"encoding/binary"
	"encoding/hex"
	"errors"
	"hash/crc32"
	"math"
	"math/rand"
	"slices"
	"strings"
	"sync"
	"testing"

	"geyser/api"
	"geyser/blocking"
	"geyser/check"
	"geyser/fault"
	"geyser/wire"
)

// The calls' signatures are the chapter's.
var (
	_ func(api.Packet) error            = wire.Check
	_ func(api.Packet) ([]byte, error)  = wire.Put
	_ func([]byte) (api.Packet, error)  = wire.Get
	_ func(api.Packet, api.Packet) bool = wire.Same
)

// written are packets and their bytes, laid by hand, their sums reckoned apart
// from the program: the chapter's example, and both kinds at the ends of their
// ranges and between.
var written = []struct {
	p     api.Packet
	bytes string
}{
	{
		api.Packet{Kind: api.PData, Session: 1, Layer: 2, Tick: 3, Sync: -1, Many: 1, Esi: 5, Data: []byte("a")},
		"01 0001 02 0000000003 00 0001 0000 00 0005 61 ef07cd05",
	},
	{
		api.Packet{Kind: api.PData, Sync: -1, Many: 1, Data: []byte{0}},
		"01 0000 00 0000000000 00 0001 0000 00 0000 00 c7e34fae",
	},
	{
		api.Packet{Kind: api.PData, Session: 65535, Layer: 7, Tick: api.MaxTick - 1, Burst: true, Sync: 7, Many: 4096, Place: 4095, Block: 15, Esi: 65535, Data: bytes.Repeat([]byte{255}, 64)},
		"01 ffff 07 ffffffffff 88 1000 0fff 0f ffff " + strings.Repeat("ff", 64) + " c93ac610",
	},
	{
		api.Packet{Kind: api.PData, Session: 0x1234, Layer: 5, Tick: 0x123456789a, Sync: 3, Many: 0x234, Place: 0x123, Block: 10, Esi: 0xcdef, Data: []byte("hello")},
		"01 1234 05 123456789a 04 0234 0123 0a cdef 68656c6c6f 5a2d0bf3",
	},
	{
		api.Packet{Kind: api.PData, Burst: true, Sync: -1, Many: 2, Place: 1, Esi: 256, Data: []byte{0, 0}},
		"01 0000 00 0000000000 80 0002 0001 00 0100 0000 7173bad6",
	},
	{
		api.Packet{Kind: api.PData, Session: 256, Layer: 1, Tick: 1 << 32, Sync: 0, Many: 256, Place: 255, Block: 1, Esi: 255, Data: []byte{1}},
		"01 0100 01 0100000000 01 0100 00ff 01 00ff 01 e373863b",
	},
	{
		api.Packet{Kind: api.PAnnounce, Session: 1, Tick: 3, Plan: api.Plan{Size: 10, Symbol: 2, Blocks: 3, Long: 2, Short: 1}, Layers: 2, Esis: 4, Base: 4, Length: 1},
		"02 0001 00 0000000003 0000000a 02 03 02 01 02 0003 0004 0001 03e4d075",
	},
	{
		api.Packet{Kind: api.PAnnounce, Plan: api.Plan{Symbol: 1, Blocks: 1, Short: 1}, Layers: 1, Esis: 1, Base: 2, Length: 1},
		"02 0000 00 0000000000 00000000 01 01 00 01 01 0000 0002 0001 86139435",
	},
	{
		api.Packet{Kind: api.PAnnounce, Session: 65535, Tick: api.MaxTick - 1, Plan: api.Plan{Size: 131072, Symbol: 64, Blocks: 16, Short: 128}, Layers: 8, Esis: 65536, Base: 4096, Length: 4095},
		"02 ffff 00 ffffffffff 00020000 40 10 00 80 08 ffff 1000 0fff d85e0e73",
	},
	{
		api.Packet{Kind: api.PAnnounce, Session: 0x1234, Tick: 0x123456789a, Plan: api.Plan{Size: 0x1ffc0, Symbol: 64, Blocks: 16, Long: 15, Short: 127}, Layers: 7, Esis: 0x1235, Base: 0xabc, Length: 0x123},
		"02 1234 00 123456789a 0001ffc0 40 10 0f 7f 07 1234 0abc 0123 ebbe9137",
	},
	{
		api.Packet{Kind: api.PAnnounce, Session: 256, Tick: 1 << 32, Plan: api.Plan{Size: 256, Symbol: 4, Blocks: 1, Short: 64}, Layers: 1, Esis: 256, Base: 256, Length: 255},
		"02 0100 00 0100000000 00000100 04 01 00 40 01 00ff 0100 00ff 1019d0b8",
	},
}

// number is one of a packet's, and from where to where it may be.
type number struct {
	name      string
	at        func(p *api.Packet) *int
	low, high int
}

// ofBoth are the numbers of both kinds; an announcement's Layer is 0.
func ofBoth(layers int) []number {
	return []number{
		{"Session", func(p *api.Packet) *int { return &p.Session }, 0, 65535},
		{"Layer", func(p *api.Packet) *int { return &p.Layer }, 0, layers - 1},
		{"Tick", func(p *api.Packet) *int { return &p.Tick }, 0, 1<<40 - 1},
	}
}

// ofData are those that data alone have, of a packet of which Many is 4096.
func ofData() []number {
	return []number{
		{"Sync", func(p *api.Packet) *int { return &p.Sync }, -1, 7},
		{"Place", func(p *api.Packet) *int { return &p.Place }, 0, 4095},
		{"Many", func(p *api.Packet) *int { return &p.Many }, 1, 4096},
		{"Block", func(p *api.Packet) *int { return &p.Block }, 0, 15},
		{"Esi", func(p *api.Packet) *int { return &p.Esi }, 0, 65535},
	}
}

// ofAnnounce are those that an announcement alone has, of one of which Base is
// 4096; its plan's stand apart.
func ofAnnounce() []number {
	return []number{
		{"Layers", func(p *api.Packet) *int { return &p.Layers }, 1, 8},
		{"Esis", func(p *api.Packet) *int { return &p.Esis }, 1, 65536},
		{"Length", func(p *api.Packet) *int { return &p.Length }, 1, 4095},
		{"Base", func(p *api.Packet) *int { return &p.Base }, 2, 4096},
	}
}

// ofPlan are the plan's numbers.
func ofPlan() []number {
	return []number{
		{name: "Size", at: func(p *api.Packet) *int { return &p.Plan.Size }},
		{name: "Symbol", at: func(p *api.Packet) *int { return &p.Plan.Symbol }},
		{name: "Blocks", at: func(p *api.Packet) *int { return &p.Plan.Blocks }},
		{name: "Long", at: func(p *api.Packet) *int { return &p.Plan.Long }},
		{name: "Short", at: func(p *api.Packet) *int { return &p.Plan.Short }},
	}
}

// anyData is data that stay right, whatever one of their numbers is within its
// range.
func anyData() api.Packet {
	return api.Packet{Kind: api.PData, Session: 7, Layer: 3, Tick: 99, Sync: 2, Many: 4096, Block: 4, Esi: 600, Data: []byte("abc")}
}

// anyAnnounce is such an announcement.
func anyAnnounce() api.Packet {
	return api.Packet{Kind: api.PAnnounce, Session: 7, Tick: 99, Plan: api.Plan{Size: 10, Symbol: 2, Blocks: 3, Long: 2, Short: 1}, Layers: 4, Esis: 600, Base: 4096, Length: 1}
}

// far are numbers that none of a packet's may be.
func far() []int {
	return []int{math.MinInt, math.MinInt + 1, -1 << 40, -1<<32 + 1, -1 << 32, -1 << 31, -256, -2, 1 << 40, 1<<40 + 1, 1<<48 + 1, math.MaxInt - 1, math.MaxInt}
}

// unhex is the bytes that s tells, of groups of digits.
func unhex(s string) []byte {
	b, err := hex.DecodeString(strings.ReplaceAll(s, " ", ""))
	if err != nil {
		panic(err)
	}
	return b
}

// withSum is body with its sum, which is reckoned by another program.
func withSum(body []byte) []byte {
	sum := crc32.Checksum(body, crc32.MakeTable(crc32.Castagnoli))
	return binary.LittleEndian.AppendUint32(bytes.Clone(body), sum)
}

// refused says whether err is just a Fault of that call round that number.
func refused(t *testing.T, err error, call string, n api.Errno) {
	t.Helper()
	f, ok := err.(*api.Fault)
	if !ok || f == nil {
		t.Fatalf("%#v is no Fault", err)
	}
	if f.Call != call || fault.Num(err) != n || !errors.Is(err, n) {
		t.Errorf("%q %d, not %q %d", f.Call, fault.Num(err), call, n)
	}
}

// none says whether p is the packet beside an error.
func none(p api.Packet) bool {
	return len(p.Data) == 0 && same(p, api.Packet{})
}

// same says whether all fields are the same, one by one.
func same(a, b api.Packet) bool {
	numbers := slices.Concat(ofBoth(8), ofData(), ofAnnounce(), ofPlan())
	for _, n := range numbers {
		if *n.at(&a) != *n.at(&b) {
			return false
		}
	}
	return a.Kind == b.Kind && a.Burst == b.Burst && string(a.Data) == string(b.Data)
}

// wrong says whether Check and Put refuse p by that number.
func wrong(t *testing.T, p api.Packet, n api.Errno) {
	t.Helper()
	err := wire.Check(p)
	if err == nil {
		t.Fatalf("Check(%+v): nil", p)
	}
	refused(t, err, "wire.Check", n)
	b, err := wire.Put(p)
	refused(t, err, "wire.Put", n)
	if len(b) != 0 {
		t.Errorf("Put(%+v): %x beside an error", p, b)
	}
	if t.Failed() {
		t.Fatalf("of %+v", p)
	}
}

// put is Put of a right packet.
func put(t *testing.T, p api.Packet) []byte {
	t.Helper()
	if err := wire.Check(p); err != nil {
		t.Fatalf("Check(%+v): %v %d", p, err, fault.Num(err))
	}
	b, err := wire.Put(p)
	if err != nil {
		t.Fatalf("Put(%+v): %v %d", p, err, fault.Num(err))
	}
	return b
}

// get is Get of a right packet's bytes.
func get(t *testing.T, b []byte) api.Packet {
	t.Helper()
	p, err := wire.Get(b)
	if err != nil {
		t.Fatalf("Get(%x): %v %d", b, err, fault.Num(err))
	}
	return p
}

// getRefused says whether Get refuses b by that number.
func getRefused(t *testing.T, b []byte, n api.Errno) {
	t.Helper()
	p, err := wire.Get(b)
	if err == nil {
		t.Fatalf("Get(%x): %+v", b, p)
	}
	refused(t, err, "wire.Get", n)
	if !none(p) {
		t.Errorf("Get(%x): %+v beside an error", b, p)
	}
}

// right puts p, which is to be right, and looks whether its bytes are those that
// the chapter names, and give it back.
func right(t *testing.T, p api.Packet) {
	t.Helper()
	b := put(t, p)
	if want := withSum(bodyOf(p)); !bytes.Equal(b, want) {
		t.Fatalf("Put(%+v): %x, not %x", p, b, want)
	}
	if q := get(t, b); !same(q, p) {
		t.Fatalf("Get(%x): %+v, not %+v", b, q, p)
	}
}

// bodyOf is the bytes of a right packet, ahead of their sum.
func bodyOf(p api.Packet) []byte {
	two, four := binary.BigEndian.AppendUint16, binary.BigEndian.AppendUint32
	b := two([]byte{byte(p.Kind)}, uint16(p.Session))
	b = append(b, byte(p.Layer), byte(p.Tick>>32))
	b = four(b, uint32(p.Tick%(1<<32)))
	if p.Kind == api.PAnnounce {
		l := p.Plan
		b = four(b, uint32(l.Size))
		b = append(b, byte(l.Symbol), byte(l.Blocks), byte(l.Long), byte(l.Short), byte(p.Layers))
		return two(two(two(b, uint16(p.Esis-1)), uint16(p.Base)), uint16(p.Length))
	}
	sync := byte(p.Sync + 1)
	if p.Burst {
		sync += 128
	}
	b = two(two(append(b, sync), uint16(p.Many)), uint16(p.Place))
	b = two(append(b, byte(p.Block)), uint16(p.Esi))
	return append(b, p.Data...)
}

// packetOf is the packet that body tells, and whether it is a right one's.
func packetOf(body []byte) (api.Packet, bool) {
	two := func(at int) int { return int(binary.BigEndian.Uint16(body[at:])) }
	if len(body) < 9 {
		return api.Packet{}, false
	}
	tick := int(body[4])<<32 + int(binary.BigEndian.Uint32(body[5:]))
	p := api.Packet{Kind: int(body[0]), Session: two(1), Layer: int(body[3]), Tick: tick}
	switch {
	case p.Kind == 1 && len(body) > 17 && len(body) <= 17+64 && p.Layer < 8:
		p.Burst = body[9] > 127
		p.Sync = int(body[9]&127) - 1
		p.Many, p.Place, p.Block, p.Esi, p.Data = two(10), two(12), int(body[14]), two(15), body[17:]
		return p, p.Sync < 8 && p.Place < p.Many && p.Many < 4097 && p.Block < 16
	case p.Kind == 2 && len(body) == 24 && p.Layer == 0:
		size := int(binary.BigEndian.Uint32(body[9:]))
		p.Plan = api.Plan{Size: size, Symbol: int(body[13]), Blocks: int(body[14]), Long: int(body[15]), Short: int(body[16])}
		p.Layers, p.Esis, p.Base, p.Length = int(body[17]), two(18)+1, two(20), two(22)
		return p, blocking.Check(p.Plan) == nil && p.Layers > 0 && p.Layers < 9 && p.Length > 0 && p.Length < p.Base && p.Base < 4097
	}
	return p, false
}

// told says whether Get of body with its sum tells what packetOf does, and
// whether it is a right packet's.
func told(t *testing.T, body []byte) bool {
	t.Helper()
	want, ok := packetOf(body)
	b := withSum(body)
	if !ok {
		getRefused(t, b, api.ErrForm)
		return false
	}
	p := get(t, b)
	if !same(p, want) {
		t.Fatalf("Get(%x): %+v, not %+v", b, p, want)
	}
	if again := put(t, p); !bytes.Equal(again, b) {
		t.Fatalf("Put(%+v): %x, not %x", p, again, b)
	}
	return true
}

// drawnData is data, one of them right.
func drawnData(r *rand.Rand) api.Packet {
	p := api.Packet{Kind: api.PData, Session: r.Intn(65536), Layer: r.Intn(8), Tick: r.Intn(1 << r.Intn(41)), Burst: r.Intn(2) == 1}
	p.Sync, p.Many, p.Block, p.Esi = r.Intn(9)-1, 1+r.Intn(1<<r.Intn(13)), r.Intn(16), r.Intn(1<<r.Intn(17))
	p.Place = r.Intn(p.Many)
	p.Data = make([]byte, 1+r.Intn(64))
	r.Read(p.Data)
	return p
}

// drawnAnnounce is an announcement.
func drawnAnnounce(r *rand.Rand) api.Packet {
	p := api.Packet{Kind: api.PAnnounce, Session: r.Intn(65536), Tick: r.Intn(1 << r.Intn(41)), Layers: 1 + r.Intn(8), Esis: 1 + r.Intn(1<<r.Intn(17)), Base: 2 + r.Intn(4095)}
	p.Length = 1 + r.Intn(p.Base-1)
	symbol, most := 1+r.Intn(64), 1+r.Intn(128)
	plan, err := blocking.Of(r.Intn(16*symbol*most+1), symbol, most)
	if err != nil {
		panic(err)
	}
	p.Plan = plan
	return p
}

// drawn is a right packet.
func drawn(r *rand.Rand) api.Packet {
	if r.Intn(2) == 1 {
		return drawnAnnounce(r)
	}
	return drawnData(r)
}

// The chapter's example.
func TestExample(t *testing.T) {
	p := api.Packet{Kind: api.PData, Session: 1, Layer: 2, Tick: 3, Sync: -1, Many: 1, Place: 0, Block: 0, Esi: 5, Data: []byte{'a'}}
	want := []byte{1, 0, 1, 2, 0, 0, 0, 0, 3, 0, 0, 1, 0, 0, 0, 0, 5, 0x61, 0xef, 0x07, 0xcd, 0x05}
	if b := put(t, p); !bytes.Equal(b, want) {
		t.Errorf("%x, not %x", b, want)
	}
	if q := get(t, want); !same(p, q) || !wire.Same(p, q) {
		t.Errorf("%+v, not %+v", q, p)
	}
}

// P16.2: bytes that were laid by hand.
func TestWritten(t *testing.T) {
	for _, w := range written {
		want := unhex(w.bytes)
		if b := put(t, w.p); !bytes.Equal(b, want) {
			t.Errorf("Put(%+v): %x, not %x", w.p, b, want)
		}
		if p := get(t, want); !same(p, w.p) {
			t.Errorf("Get(%x): %+v, not %+v", want, p, w.p)
		}
	}
}

// P16.1: a number at the ends of its range is right, one outside is ErrRange,
// also beside what is no form.
func TestRanges(t *testing.T) {
	for _, c := range []struct {
		of      func() api.Packet
		numbers []number
	}{
		{anyData, slices.Concat(ofBoth(8), ofData())},
		{anyAnnounce, slices.Concat(ofBoth(1), ofAnnounce())},
	} {
		for _, n := range c.numbers {
			for _, in := range []int{n.low, min(n.low+1, n.high), (n.low + n.high) / 2, max(n.high-1, n.low), n.high} {
				p := c.of()
				*n.at(&p) = in
				right(t, p)
			}
			for _, out := range append(far(), n.low-1, n.high+1, n.low-256, n.high+256, n.high+65536, n.high+1<<32, n.low+1<<40) {
				p := c.of()
				*n.at(&p) = out
				if out >= n.low && out <= n.high {
					t.Fatalf("%s may be %d", n.name, out)
				}
				wrong(t, p, api.ErrRange)
				p.Data, p.Plan = bytes.Repeat([]byte{1}, 65), api.Plan{Size: 3}
				wrong(t, p, api.ErrRange)
				p.Burst = true
				wrong(t, p, api.ErrRange)
			}
		}
	}
}

// P16.1: what is of no kind.
func TestKinds(t *testing.T) {
	for _, kind := range append(far(), -1, 0, 3, 4, 128, 129, 255, 256, 257, 258, 1<<32, 1<<32+1, 1<<32+2) {
		wrong(t, api.Packet{Kind: kind}, api.ErrRange)
		for _, w := range written {
			p := w.p
			p.Kind = kind
			wrong(t, p, api.ErrRange)
			p.Data = nil
			wrong(t, p, api.ErrRange)
		}
	}
	// The other one has not what it must.
	for _, w := range written {
		p := w.p
		p.Kind = 3 - p.Kind
		wrong(t, p, api.ErrRange)
	}
}

// P16.1: a place is below Many.
func TestPlaces(t *testing.T) {
	for _, many := range []int{1, 2, 3, 255, 256, 257, 1000, 4095, 4096} {
		for _, place := range []int{0, 1, 2, 254, 255, 256, 257, 999, 1000, 4094, 4095, 4096, 4097, -1} {
			p := anyData()
			p.Many, p.Place = many, place
			if place >= 0 && place < many {
				right(t, p)
			} else {
				wrong(t, p, api.ErrRange)
			}
		}
	}
	for _, many := range []int{0, -1, -4096, 4097, 1 << 32, math.MinInt, math.MaxInt} {
		for _, place := range []int{0, -1, many - 1, many, many + 1, math.MaxInt, math.MinInt} {
			p := anyData()
			p.Many, p.Place = many, place
			wrong(t, p, api.ErrRange)
		}
	}
}

// P16.1: a burst is shorter than Base.
func TestLengths(t *testing.T) {
	for _, base := range []int{2, 3, 4, 255, 256, 257, 1000, 4095, 4096} {
		for _, length := range []int{1, 2, 3, 4, 254, 255, 256, 257, 999, 1000, 4094, 4095, 4096, 4097, 0, -1} {
			p := anyAnnounce()
			p.Base, p.Length = base, length
			if length > 0 && length < base {
				right(t, p)
			} else {
				wrong(t, p, api.ErrRange)
			}
		}
	}
	for _, base := range []int{1, 0, -1, -4096, 4097, 1 << 32, math.MinInt, math.MaxInt} {
		for _, length := range []int{0, 1, -1, base - 1, base, base + 1, math.MaxInt, math.MinInt} {
			p := anyAnnounce()
			p.Base, p.Length = base, length
			wrong(t, p, api.ErrRange)
		}
	}
}

// P16.1: what the other kind has must be zero, whatever else it is.
func TestMustBeZero(t *testing.T) {
	others := append(far(), -1, 1, 2, 3, 7, 255, 256, 4095, 4096, 65536, 1<<32, 1<<32+1)
	for _, w := range written {
		numbers := slices.Concat(ofAnnounce(), ofPlan())
		if w.p.Kind == api.PAnnounce {
			numbers = ofData()
		}
		for _, n := range numbers {
			for _, other := range others {
				p := w.p
				*n.at(&p) = other
				wrong(t, p, api.ErrForm)
			}
		}
	}
	for _, w := range written {
		p := w.p
		if p.Kind == api.PData {
			p.Plan = api.Plan{Size: 10, Symbol: 2, Blocks: 3, Long: 2, Short: 1}
			wrong(t, p, api.ErrForm)
			p.Layers, p.Esis, p.Base, p.Length = 2, 4, 4, 1
			wrong(t, p, api.ErrForm)
			continue
		}
		p.Burst = true
		wrong(t, p, api.ErrForm)
		for _, n := range []int{1, 2, 64, 65, 1000} {
			p = w.p
			p.Data = make([]byte, n)
			wrong(t, p, api.ErrForm)
		}
		p.Data = []byte{}
		if b := put(t, p); !bytes.Equal(b, unhex(w.bytes)) {
			t.Errorf("%x", b)
		}
	}
}

// P16.1: how many bytes data have.
func TestDataLengths(t *testing.T) {
	for n := range 300 {
		p := anyData()
		p.Data = bytes.Repeat([]byte{byte(n)}, n)
		if n < 1 || n > 64 {
			wrong(t, p, api.ErrForm)
		} else {
			right(t, p)
		}
	}
	for _, data := range [][]byte{nil, {}, make([]byte, 0, 5), make([]byte, 1<<16+1), make([]byte, 1<<20)} {
		p := anyData()
		p.Data = data
		wrong(t, p, api.ErrForm)
	}
}

// P16.1: an announcement's plan is right; it is ErrForm by whatever it is not,
// but for a Size of more than four bytes.
func TestPlans(t *testing.T) {
	p := anyAnnounce()
	for _, p.Plan = range []api.Plan{
		{Symbol: 1, Blocks: 1, Short: 1},
		{Symbol: 64, Blocks: 1, Short: 1},
		{Size: 64, Symbol: 64, Blocks: 1, Short: 1},
		{Size: 65, Symbol: 64, Blocks: 1, Short: 2},
		{Size: 65, Symbol: 64, Blocks: 2, Short: 1},
		{Size: 255, Symbol: 1, Blocks: 2, Long: 1, Short: 127},
		{Size: 2047, Symbol: 1, Blocks: 16, Long: 15, Short: 127},
		{Size: 65535, Symbol: 64, Blocks: 8, Short: 128},
		{Size: 65536, Symbol: 64, Blocks: 8, Short: 128},
		{Size: 65537, Symbol: 64, Blocks: 16, Long: 1, Short: 64},
		{Size: 131009, Symbol: 64, Blocks: 16, Short: 128},
	} {
		right(t, p)
	}
	for _, p.Plan = range []api.Plan{
		{},
		{Size: 1},
		{Size: -1, Symbol: 1, Blocks: 1, Short: 1},
		{Size: math.MinInt, Symbol: 1, Blocks: 1, Short: 1},
		{Size: -1 << 32, Symbol: 1, Blocks: 1, Short: 1},
		{Size: 1, Blocks: 1, Short: 1},
		{Size: 1, Symbol: -1, Blocks: 1, Short: 1},
		{Size: 1, Symbol: 65, Blocks: 1, Short: 1},
		{Size: 1, Symbol: 257, Blocks: 1, Short: 1},
		{Size: 1, Symbol: math.MaxInt, Blocks: 1, Short: 1},
		{Size: 1, Symbol: 1, Blocks: 0, Short: 1},
		{Size: 1, Symbol: 1, Blocks: 257, Short: 1},
		{Size: 17, Symbol: 1, Blocks: 17, Short: 1},
		{Size: 4, Symbol: 1, Blocks: 2, Long: 2, Short: 1},
		{Size: 3, Symbol: 1, Blocks: 2, Long: -1, Short: 2},
		{Size: 129, Symbol: 1, Blocks: 1, Short: 129},
		{Size: 1, Symbol: 1, Blocks: 1, Short: 257},
		{Size: 2, Symbol: 1, Blocks: 1, Short: 1},
		{Size: 0, Symbol: 1, Blocks: 1, Short: 2},
		{Size: 131073, Symbol: 64, Blocks: 16, Short: 128},
		{Size: 1<<32 - 1, Symbol: 64, Blocks: 16, Short: 128},
		{Size: 1<<32 - 1, Symbol: 1, Blocks: 1, Short: 1},
	} {
		wrong(t, p, api.ErrForm)
	}
	for _, size := range []int{1 << 32, 1<<32 + 1, 1<<32 + 10, 1 << 40, math.MaxInt - 1, math.MaxInt} {
		p = anyAnnounce()
		p.Plan.Size = size
		wrong(t, p, api.ErrRange)
		p.Plan.Symbol, p.Sync, p.Data = 65, 1, []byte{1}
		wrong(t, p, api.ErrRange)
	}
}

// P16.1: packets are the same just if all of their fields are, be they right or
// not.
func TestSame(t *testing.T) {
	packets := []api.Packet{{}, {Kind: -1, Sync: math.MinInt, Many: math.MaxInt, Data: make([]byte, 1000), Plan: api.Plan{Size: -1}}}
	for _, w := range written {
		packets = append(packets, w.p)
	}
	numbers := append(slices.Concat(ofBoth(8), ofData(), ofAnnounce(), ofPlan()), number{name: "Kind", at: func(p *api.Packet) *int { return &p.Kind }})
	for i, a := range packets {
		for j, b := range packets {
			b.Data = bytes.Clone(b.Data)
			if wire.Same(a, b) != (i == j) {
				t.Errorf("Same(%+v, %+v): %v", a, b, i != j)
			}
		}
		for _, n := range numbers {
			for _, more := range []int{1, -1, 256, 1 << 16, 1 << 32, 1 << 40, math.MinInt} {
				b := a
				*n.at(&b) += more
				if wire.Same(a, b) || wire.Same(b, a) {
					t.Errorf("Same(%+v, %+v), of %s", a, b, n.name)
				}
			}
		}
		b := a
		b.Burst = !a.Burst
		if wire.Same(a, b) || wire.Same(b, a) {
			t.Errorf("Same(%+v, %+v)", a, b)
		}
	}
}

// P16.1: data are the same just if their bytes are; no bytes are nil's like.
func TestSameData(t *testing.T) {
	lists := [][]byte{nil, {0}, {1}, {0, 0}, {0, 1}, {1, 0}, {1, 0, 0}, bytes.Repeat([]byte{7}, 64), append(bytes.Repeat([]byte{7}, 63), 8), bytes.Repeat([]byte{7}, 65)}
	for i, x := range lists {
		for j, y := range lists {
			a, b := anyData(), anyData()
			a.Data, b.Data = x, bytes.Clone(y)
			if wire.Same(a, b) != (i == j) {
				t.Errorf("Same of %x and %x: %v", x, y, i != j)
			}
		}
	}
	a, b := anyData(), anyData()
	a.Data, b.Data = nil, []byte{}
	if !wire.Same(a, b) || !wire.Same(b, a) || !wire.Same(b, b) {
		t.Error("no bytes are not the same as nil")
	}
}

// P16.2: bytes without their sum, or too few to have one: check.Take's number,
// whatever they tell.
func TestGetTake(t *testing.T) {
	getRefused(t, nil, api.ErrForm)
	for n := range 4 {
		getRefused(t, make([]byte, n), api.ErrForm)
		getRefused(t, bytes.Repeat([]byte{1}, n), api.ErrForm)
	}
	getRefused(t, []byte{0, 0, 0, 1}, api.ErrSum)
	getRefused(t, make([]byte, 22), api.ErrSum)
	for _, w := range written {
		b := unhex(w.bytes)
		for n := range b {
			want := api.ErrSum
			if n < 4 {
				want = api.ErrForm
			}
			getRefused(t, b[:n], want)
		}
		getRefused(t, append(bytes.Clone(b), 0), api.ErrSum)
		getRefused(t, append([]byte{0}, b...), api.ErrSum)
		getRefused(t, bodyOf(w.p), api.ErrSum)
		// The sum's highest byte first.
		end := len(b) - 4
		getRefused(t, append(bytes.Clone(b[:end]), b[end+3], b[end+2], b[end+1], b[end]), api.ErrSum)
	}
}

// P16.2: bytes with their sum, of any length: cut, or with more behind.
func TestGetLengths(t *testing.T) {
	getRefused(t, make([]byte, 4), api.ErrForm)
	for _, w := range written {
		body := bodyOf(w.p)
		for n := range body {
			told(t, body[:n])
			told(t, body[n:])
		}
		for n := range 300 {
			ok := told(t, append(bytes.Clone(body), make([]byte, n)...))
			if fits := n == 0 || w.p.Kind == api.PData && len(w.p.Data)+n <= 64; ok != fits {
				t.Fatalf("%d bytes more: %v", n, ok)
			}
			told(t, append(bytes.Clone(body), bytes.Repeat([]byte{255}, n)...))
			told(t, bytes.Repeat([]byte{byte(w.p.Kind)}, n))
		}
		// With a sum twice.
		told(t, withSum(body))
	}
}

// P16.2: each byte of a packet's, whatever it is.
func TestGetEachByte(t *testing.T) {
	for _, w := range written {
		body := bodyOf(w.p)
		for at := range body {
			for b := range 256 {
				other := bytes.Clone(body)
				other[at] = byte(b)
				told(t, other)
			}
		}
	}
}

// P16.2: bytes that tell a number out of its range, or what is not right
// otherwise.
func TestGetForm(t *testing.T) {
	for _, s := range []string{
		"00 0001 02 0000000003 00 0001 0000 00 0005 61",                   // no kind
		"03 0001 02 0000000003 00 0001 0000 00 0005 61",                   // no kind
		"81 0001 02 0000000003 00 0001 0000 00 0005 61",                   // no kind
		"01 0001 08 0000000003 00 0001 0000 00 0005 61",                   // Layer
		"01 0001 ff 0000000003 00 0001 0000 00 0005 61",                   // Layer
		"01 0001 02 0000000003 09 0001 0000 00 0005 61",                   // Sync
		"01 0001 02 0000000003 7f 0001 0000 00 0005 61",                   // Sync
		"01 0001 02 0000000003 89 0001 0000 00 0005 61",                   // Sync
		"01 0001 02 0000000003 ff 0001 0000 00 0005 61",                   // Sync
		"01 0001 02 0000000003 00 0000 0000 00 0005 61",                   // Many
		"01 0001 02 0000000003 00 1001 0000 00 0005 61",                   // Many
		"01 0001 02 0000000003 00 ffff 0000 00 0005 61",                   // Many
		"01 0001 02 0000000003 00 0001 0001 00 0005 61",                   // Place
		"01 0001 02 0000000003 00 1000 1000 00 0005 61",                   // Place
		"01 0001 02 0000000003 00 1000 ffff 00 0005 61",                   // Place
		"01 0001 02 0000000003 00 0001 0000 10 0005 61",                   // Block
		"01 0001 02 0000000003 00 0001 0000 ff 0005 61",                   // Block
		"01 0001 02 0000000003 00 0001 0000 00 0005",                      // no Data
		"01 0001 02 0000000003 00 0001 0000 00 00",                        // no whole Esi
		"01 0001 02 00000000",                                             // no whole Tick
		"01",                                                              // nothing else
		"02 0001 01 0000000003 0000000a 02 03 02 01 02 0003 0004 0001",    // Layer
		"02 0001 07 0000000003 0000000a 02 03 02 01 02 0003 0004 0001",    // Layer
		"02 0001 00 0000000003 0000000b 02 03 02 01 02 0003 0004 0001",    // Size
		"02 0001 00 0000000003 ffffffff 02 03 02 01 02 0003 0004 0001",    // Size
		"02 0001 00 0000000003 00000000 00 01 00 01 02 0003 0004 0001",    // Symbol
		"02 0001 00 0000000003 00000001 41 01 00 01 02 0003 0004 0001",    // Symbol
		"02 0001 00 0000000003 00000001 01 00 00 01 02 0003 0004 0001",    // Blocks
		"02 0001 00 0000000003 00000011 01 11 00 01 02 0003 0004 0001",    // Blocks
		"02 0001 00 0000000003 00000004 01 02 02 01 02 0003 0004 0001",    // Long
		"02 0001 00 0000000003 00000081 01 01 00 81 02 0003 0004 0001",    // Short
		"02 0001 00 0000000003 0000000a 02 03 02 01 00 0003 0004 0001",    // Layers
		"02 0001 00 0000000003 0000000a 02 03 02 01 09 0003 0004 0001",    // Layers
		"02 0001 00 0000000003 0000000a 02 03 02 01 02 0003 0001 0000",    // Base
		"02 0001 00 0000000003 0000000a 02 03 02 01 02 0003 0000 0001",    // Base
		"02 0001 00 0000000003 0000000a 02 03 02 01 02 0003 1001 0001",    // Base
		"02 0001 00 0000000003 0000000a 02 03 02 01 02 0003 0004 0000",    // Length
		"02 0001 00 0000000003 0000000a 02 03 02 01 02 0003 0004 0004",    // Length
		"02 0001 00 0000000003 0000000a 02 03 02 01 02 0003 0004 ffff",    // Length
		"02 0001 00 0000000003 0000000a 02 03 02 01 02 0003 0004 00",      // no whole Length
		"02 0001 00 0000000003 0000000a 02 03 02 01 02 0003 0004 0001 00", // a byte more
		"02 0001 00 0000000003",                                           // nothing of its own
	} {
		if told(t, unhex(s)) {
			t.Errorf("%s is right", s)
		}
	}
}

// P16.2: bytes as they come, and right packets' with some bytes turned.
func TestGetDrawn(t *testing.T) {
	r := rand.New(rand.NewSource(161))
	for range 20000 {
		body := make([]byte, r.Intn(90))
		r.Read(body)
		if len(body) > 0 {
			body[0] = byte(r.Intn(4))
		}
		told(t, body)
	}
	rightOnes := 0
	for range 20000 {
		body := bodyOf(drawn(r))
		for range 1 + r.Intn(3) {
			body[r.Intn(len(body))] += byte(r.Intn(5)) - 2
		}
		if told(t, body) {
			rightOnes++
		}
	}
	if rightOnes < 2000 || rightOnes > 18000 {
		t.Errorf("%d are right", rightOnes)
	}
}

// P16.3: Get of Put is the packet, Put of Get the bytes.
func TestBackAndForth(t *testing.T) {
	r := rand.New(rand.NewSource(162))
	for range 20000 {
		p := drawn(r)
		right(t, p)
		b := put(t, p)
		q := get(t, b)
		if !wire.Same(p, q) {
			t.Fatalf("%+v, not %+v", q, p)
		}
		if again := put(t, q); !bytes.Equal(again, b) {
			t.Fatalf("%x, not %x", again, b)
		}
	}
}

// P16.4: two right packets have the same bytes just if they are the same.
func TestSameBytes(t *testing.T) {
	r := rand.New(rand.NewSource(163))
	had := map[string]api.Packet{}
	for range 20000 {
		p := drawn(r)
		if r.Intn(2) == 1 {
			// One that is like others but for little.
			p = anyData()
			p.Session, p.Layer, p.Tick, p.Burst, p.Sync = r.Intn(2), r.Intn(2), r.Intn(2), r.Intn(2) == 1, r.Intn(2)
			p.Place, p.Block, p.Esi, p.Data = r.Intn(2), r.Intn(2), r.Intn(2), make([]byte, 1+r.Intn(2))
		}
		b := string(put(t, p))
		if q, ok := had[b]; ok && (!wire.Same(p, q) || !same(p, q)) {
			t.Fatalf("%+v and %+v: %x", p, q, b)
		}
		had[b] = p
	}
	for b, p := range had {
		q := get(t, []byte(b))
		if !wire.Same(p, q) {
			t.Fatalf("%+v, not %+v", q, p)
		}
		for _, n := range slices.Concat(ofBoth(8), ofData(), ofAnnounce()) {
			other := p
			*n.at(&other)++
			if c, err := wire.Put(other); err == nil && (string(c) == b || wire.Same(p, other)) {
				t.Fatalf("%+v and %+v: %x", p, other, b)
			}
		}
	}
}

// P16.4: no packet has more bytes than MaxPacket.
func TestMostBytes(t *testing.T) {
	r := rand.New(rand.NewSource(164))
	for range 5000 {
		p := drawn(r)
		want := 28
		if p.Kind == api.PData {
			want = 21 + len(p.Data)
		}
		if b := put(t, p); len(b) != want || len(b) > api.MaxPacket {
			t.Fatalf("%d bytes, not %d: %+v", len(b), want, p)
		}
	}
	for _, w := range written {
		if b := put(t, w.p); len(b) > api.MaxPacket {
			t.Errorf("%d bytes: %+v", len(b), w.p)
		}
	}
}

// P16.5: a packet's bytes that were spoilt are no packet's.
func TestSpoilt(t *testing.T) {
	r := rand.New(rand.NewSource(165))
	for _, w := range written {
		b := put(t, w.p)
		for at := range 8 * len(b) {
			masks := []uint32{1, 3, 0x80000001, math.MaxUint32, r.Uint32(), r.Uint32() >> r.Intn(32)}
			for _, mask := range masks {
				s, err := check.Spoil(b, at, mask)
				if err == nil {
					getRefused(t, s, api.ErrSum)
				}
			}
		}
	}
	for range 5000 {
		b := put(t, drawn(r))
		s, err := check.Spoil(b, r.Intn(8*len(b)-31), 1+r.Uint32()%math.MaxUint32)
		if err != nil {
			t.Fatal(err)
		}
		getRefused(t, s, api.ErrSum)
	}
}

// Rule 3: what is handed in, and what lies behind its end, stays as it was.
func TestNothingIsChanged(t *testing.T) {
	room := []byte("the data, and what is behind them")
	want := bytes.Clone(room)
	p := anyData()
	p.Data = room[4:8]
	q := p
	right(t, p)
	if !wire.Same(p, q) || &p.Data[0] != &room[4] {
		t.Errorf("%+v, not %+v", p, q)
	}
	p.Layers = 1
	wrong(t, p, api.ErrForm)
	if !bytes.Equal(room, want) {
		t.Errorf("%q, not %q", room, want)
	}
	for _, w := range written {
		b := append(unhex(w.bytes), "behind"...)
		was := bytes.Clone(b)
		get(t, b[:len(b)-6])
		getRefused(t, b, api.ErrSum)
		getRefused(t, b[:3], api.ErrForm)
		if !bytes.Equal(b, was) {
			t.Errorf("%x, not %x", b, was)
		}
	}
}

// Rule 3: what is answered is new memory, and hangs on no later change.
func TestAnswersAreNew(t *testing.T) {
	for _, w := range written {
		p := w.p
		p.Data = bytes.Clone(w.p.Data)
		b := put(t, p)
		clear(p.Data)
		if !bytes.Equal(b, unhex(w.bytes)) {
			t.Fatalf("%x, not %s", b, w.bytes)
		}
		q := get(t, b)
		again := get(t, b)
		clear(b)
		if !same(q, w.p) {
			t.Fatalf("%+v, not %+v", q, w.p)
		}
		_ = append(q.Data, "*****"...)
		clear(q.Data)
		if !same(again, w.p) || !bytes.Equal(b, make([]byte, len(b))) {
			t.Fatalf("%+v, not %+v; %x", again, w.p, b)
		}
		// What is written into the bytes shows in no packet.
		p = w.p
		data := bytes.Clone(p.Data)
		b = put(t, p)
		_ = append(b, "*****"...)
		clear(b)
		if !bytes.Equal(p.Data, data) || !bytes.Equal(put(t, p), unhex(w.bytes)) {
			t.Fatalf("%+v", p)
		}
	}
}

// Rule 4: calls hang on what they are given alone, be there many at once.
func TestManyAtOnce(t *testing.T) {
	var all sync.WaitGroup
	for i := range 8 {
		all.Go(func() {
			for j := range 200 {
				w := written[(i+j)%len(written)]
				b, err := wire.Put(w.p)
				if err != nil || !bytes.Equal(b, unhex(w.bytes)) {
					t.Errorf("%x %v", b, err)
				}
				p, err := wire.Get(b)
				if err != nil || !same(p, w.p) || !wire.Same(p, w.p) || wire.Check(p) != nil {
					t.Errorf("%+v %v", p, err)
				}
			}
		})
	}
	all.Wait()
}
