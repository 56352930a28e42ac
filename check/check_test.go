package check_test

import (
	"bytes"
	"errors"
	"hash/crc32"
	"math"
	"math/rand"
	"slices"
	"sync"
	"testing"

	"geyser/api"
	"geyser/check"
	"geyser/fault"
)

// The calls' signatures are the chapter's.
var (
	_ func(...[]byte) uint32                    = check.Sum
	_ func([]byte) []byte                       = check.Add
	_ func([]byte) ([]byte, error)              = check.Take
	_ func([]byte, int, uint32) ([]byte, error) = check.Spoil
)

// powers are those of Castagnoli's polynomial below its highest, 32.
var powers = []int{28, 27, 26, 25, 23, 22, 20, 19, 18, 14, 13, 11, 10, 9, 8, 6, 0}

// written are sums reckoned apart from the program: the chapter's, and those
// that RFC 3720 and others name.
var written = []struct {
	p   []byte
	sum uint32
}{
	{nil, 0},
	{[]byte{}, 0},
	{[]byte{0}, 0x527d5351},
	{[]byte{0xff}, 0xff000000},
	{[]byte{0, 0, 0, 0}, 0x48674bc7},
	{[]byte{0xff, 0xff, 0xff, 0xff}, 0xffffffff},
	{[]byte("a"), 0xc1d04330},
	{[]byte("abc"), 0x364b3fb7},
	{[]byte("123456789"), 0xe3069283},
	{[]byte("The quick brown fox jumps over the lazy dog"), 0x22620404},
	{make([]byte, 32), 0x8a9136aa},
	{bytes.Repeat([]byte{0xff}, 32), 0x62a8ab43},
	{counted(32, false), 0x46dd794e},
	{counted(32, true), 0x113fdb5c},
}

// counted is the bytes 0 to n - 1, or down from n - 1.
func counted(n int, down bool) []byte {
	p := make([]byte, n)
	for i := range p {
		p[i] = byte(i)
	}
	if down {
		slices.Reverse(p)
	}
	return p
}

// refused says whether err is just a Fault of that call round that number.
func refused(t *testing.T, err error, call string, n api.Errno) {
	t.Helper()
	f, ok := err.(*api.Fault)
	if !ok || f == nil {
		t.Fatalf("%#v is no Fault", err)
	}
	if f.Call != call || fault.Num(err) != n || !errors.Is(err, n) {
		t.Errorf("%q %d, not %q %d", f.Call, fault.Num(err), call, n)
	}
}

// take is Take of bytes with their sum.
func take(t *testing.T, p []byte) []byte {
	t.Helper()
	body, err := check.Take(p)
	if err != nil {
		t.Fatalf("Take(%x): %v %d", p, err, fault.Num(err))
	}
	return body
}

// spoil is Spoil of bits that can be turned.
func spoil(t *testing.T, p []byte, at int, mask uint32) []byte {
	t.Helper()
	s, err := check.Spoil(p, at, mask)
	if err != nil {
		t.Fatalf("Spoil(%x, %d, %x): %v %d", p, at, mask, err, fault.Num(err))
	}
	return s
}

// takeRefused says whether Take refuses p by that number.
func takeRefused(t *testing.T, p []byte, n api.Errno) {
	t.Helper()
	body, err := check.Take(p)
	refused(t, err, "check.Take", n)
	if len(body) != 0 {
		t.Errorf("Take(%x): %x beside an error", p, body)
	}
}

// spoilRefused says whether Spoil refuses them.
func spoilRefused(t *testing.T, p []byte, at int, mask uint32) {
	t.Helper()
	s, err := check.Spoil(p, at, mask)
	if err == nil {
		t.Fatalf("Spoil(%x, %d, %x): %x", p, at, mask, s)
	}
	refused(t, err, "check.Spoil", api.ErrForm)
	if len(s) != 0 {
		t.Errorf("Spoil(%x, %d, %x): %x beside an error", p, at, mask, s)
	}
}

// drawn is n bytes.
func drawn(r *rand.Rand, n int) []byte {
	p := make([]byte, n)
	r.Read(p)
	return p
}

// bitsOf is p bit by bit, the lowest one of each byte first.
func bitsOf(p []byte) []bool {
	var l []bool
	for _, b := range p {
		for i := range 8 {
			l = append(l, b/byte(1<<i)%2 == 1)
		}
	}
	return l
}

// divided is the sum as what is left of a division of polynomials: p's bits, the
// highest power first, and 32 powers more; the first 32 of all are turned.
func divided(p []byte) uint32 {
	l := append(bitsOf(p), make([]bool, 32)...)
	for i := range 32 {
		l[i] = !l[i]
	}
	for i := range 8 * len(p) {
		if !l[i] {
			continue
		}
		for _, power := range powers {
			l[i+32-power] = !l[i+32-power]
		}
	}
	var sum uint32
	for i, b := range l[8*len(p):] {
		if !b {
			sum += 1 << i
		}
	}
	return sum
}

// withSum is p, and behind it that sum, the lowest byte first.
func withSum(p []byte, sum uint32) []byte {
	return slices.Concat(p, []byte{byte(sum), byte(sum / 256), byte(sum / 65536), byte(sum / 16777216)})
}

// mayBe says whether there are such bits of n bytes to be turned.
func mayBe(n, at int, mask uint32) bool {
	if at < 0 || at > 8*n-1 || mask == 0 {
		return false
	}
	for i := range 32 {
		if mask>>i%2 == 1 && at+i > 8*n-1 {
			return false
		}
	}
	return true
}

// isTurned says whether s is p with just those bits turned.
func isTurned(p, s []byte, at int, mask uint32) bool {
	want := bitsOf(p)
	for i := range 32 {
		if mask>>i%2 == 1 {
			want[at+i] = !want[at+i]
		}
	}
	return slices.Equal(bitsOf(s), want)
}

// The chapter's example.
func TestExample(t *testing.T) {
	p := []byte("123456789")
	if s := check.Sum(p); s != 0xe3069283 {
		t.Errorf("%x", s)
	}
	if body := take(t, append(p, 0x83, 0x92, 0x06, 0xe3)); string(body) != "123456789" {
		t.Errorf("%q", body)
	}
}

// P15.1: sums that were reckoned apart, and the bytes with them.
func TestWritten(t *testing.T) {
	for _, w := range written {
		if s := check.Sum(w.p); s != w.sum {
			t.Errorf("Sum(%x): %x, not %x", w.p, s, w.sum)
		}
		want := withSum(w.p, w.sum)
		if p := check.Add(w.p); !bytes.Equal(p, want) {
			t.Errorf("Add(%x): %x, not %x", w.p, p, want)
		}
		if body := take(t, want); !bytes.Equal(body, w.p) {
			t.Errorf("Take(%x): %x", want, body)
		}
	}
}

// P15.1: the sum is what a division of polynomials leaves, and what another
// program reckons.
func TestSumDivided(t *testing.T) {
	r := rand.New(rand.NewSource(151))
	for b := range 256 {
		for _, p := range [][]byte{{byte(b)}, {byte(b), 0}, {0, byte(b)}, {0xff, byte(b), 0xff}} {
			if s, want := check.Sum(p), divided(p); s != want {
				t.Fatalf("Sum(%x): %x, not %x", p, s, want)
			}
		}
	}
	table := crc32.MakeTable(crc32.Castagnoli)
	for n := range 300 {
		p := drawn(r, n)
		s := check.Sum(p)
		if want := divided(p); s != want {
			t.Fatalf("Sum(%x): %x, not %x", p, s, want)
		}
		if want := crc32.Checksum(p, table); s != want {
			t.Fatalf("Sum(%x): %x, not %x", p, s, want)
		}
	}
	for _, p := range [][]byte{drawn(r, 1<<20+1), make([]byte, 1<<20)} {
		if s, want := check.Sum(p), crc32.Checksum(p, table); s != want {
			t.Errorf("Sum of %d bytes: %x, not %x", len(p), s, want)
		}
	}
}

// P15.1: the sum of lists is that of their bytes, one list behind the other, be
// some of them empty.
func TestSumOfLists(t *testing.T) {
	if s := check.Sum(); s != 0 {
		t.Errorf("Sum(): %x", s)
	}
	for _, lists := range [][][]byte{nil, {}, {nil}, {{}}, {nil, nil}, {{}, nil, {}}} {
		if s := check.Sum(lists...); s != 0 {
			t.Errorf("Sum(%x): %x", lists, s)
		}
	}
	p := []byte("123456789")
	for i := range len(p) + 1 {
		for j := i; j <= len(p); j++ {
			for _, lists := range [][][]byte{{p[:i], p[i:j], p[j:]}, {nil, p[:i], {}, p[i:], nil}, {p[:j], {}, p[j:]}} {
				if s := check.Sum(lists...); s != 0xe3069283 {
					t.Errorf("Sum(%q): %x", lists, s)
				}
			}
		}
	}
	r := rand.New(rand.NewSource(152))
	for range 300 {
		lists := make([][]byte, r.Intn(20))
		for i := range lists {
			lists[i] = drawn(r, r.Intn(9))
		}
		if s, want := check.Sum(lists...), divided(slices.Concat(lists...)); s != want {
			t.Fatalf("Sum(%x): %x, not %x", lists, s, want)
		}
	}
	// Their order tells.
	if s := check.Sum(p[4:], p[:4]); s == 0xe3069283 || s != divided([]byte("567891234")) {
		t.Errorf("%x", s)
	}
}

// P15.1: Add lays the sum behind the bytes, the lowest byte first.
func TestAdd(t *testing.T) {
	r := rand.New(rand.NewSource(153))
	for n := range 200 {
		p := drawn(r, n)
		if got, want := check.Add(p), withSum(p, divided(p)); !bytes.Equal(got, want) {
			t.Fatalf("Add(%x): %x, not %x", p, got, want)
		}
	}
	if got := check.Add(nil); !bytes.Equal(got, []byte{0, 0, 0, 0}) {
		t.Errorf("%x", got)
	}
}

// P15.1: fewer than four bytes, whatever they are.
func TestTakeForm(t *testing.T) {
	takeRefused(t, nil, api.ErrForm)
	takeRefused(t, []byte{}, api.ErrForm)
	for n := range 4 {
		takeRefused(t, make([]byte, n), api.ErrForm)
		takeRefused(t, bytes.Repeat([]byte{0xff}, n), api.ErrForm)
		// What lies behind the end would be the rest of the sum.
		takeRefused(t, check.Add(nil)[:n], api.ErrForm)
		takeRefused(t, check.Add([]byte("a"))[:n], api.ErrForm)
	}
}

// P15.1: the sum of no bytes, which four bytes alone are, is 0.
func TestTakeOfNone(t *testing.T) {
	if body := take(t, []byte{0, 0, 0, 0}); len(body) != 0 {
		t.Errorf("%x", body)
	}
	for bit := range 32 {
		takeRefused(t, withSum(nil, 1<<bit), api.ErrSum)
	}
	takeRefused(t, withSum(nil, math.MaxUint32), api.ErrSum)
}

// P15.1: bytes with another sum than theirs: turned or laid otherwise, or that
// of other bytes.
func TestTakeSum(t *testing.T) {
	r := rand.New(rand.NewSource(154))
	for n := 1; n < 100; n++ {
		p := drawn(r, n)
		sum := divided(p)
		for bit := range 32 {
			takeRefused(t, withSum(p, sum^1<<bit), api.ErrSum)
		}
		for _, other := range []uint32{sum + 1, sum - 1, ^sum, divided(p[1:]), divided(p[:n-1]), divided(append(bytes.Clone(p), 0)), divided(append([]byte{0}, p...))} {
			takeRefused(t, withSum(p, other), api.ErrSum)
		}
		whole := withSum(p, sum)
		takeRefused(t, whole[1:], api.ErrSum)
		takeRefused(t, whole[:n+3], api.ErrSum)
		takeRefused(t, append(bytes.Clone(whole), 0), api.ErrSum)
		takeRefused(t, append([]byte{0}, whole...), api.ErrSum)
	}
	for _, p := range []string{"1234", "123456789", "123456789\xe3\x06\x92\x83", "\x83\x92\x06\xe3123456789", "123456789\x7c\x6d\xf9\x1c", "123456798\x83\x92\x06\xe3", "23456789\x83\x92\x06\xe3", "\xff\xff\xff\xff"} {
		takeRefused(t, []byte(p), api.ErrSum)
	}
}

// P15.1: of all sums of a byte just one is its own.
func TestTakeJustOne(t *testing.T) {
	var sums []uint32
	for b := range 256 {
		sums = append(sums, divided([]byte{byte(b)}))
	}
	for b := range 256 {
		for i, sum := range sums {
			p := withSum([]byte{byte(b)}, sum)
			if i != b {
				takeRefused(t, p, api.ErrSum)
			} else if body := take(t, p); len(body) != 1 || body[0] != byte(b) {
				t.Fatalf("Take(%x): %x", p, body)
			}
		}
	}
}

// P15.2: bits that were turned apart from the program.
func TestSpoil(t *testing.T) {
	for _, c := range []struct {
		p    []byte
		at   int
		mask uint32
		want []byte
	}{
		{[]byte{0}, 0, 1, []byte{1}},
		{[]byte{0}, 7, 1, []byte{0x80}},
		{[]byte{0}, 0, 0x80, []byte{0x80}},
		{[]byte{0xff}, 3, 1, []byte{0xf7}},
		{[]byte{0xa5}, 0, 0xff, []byte{0x5a}},
		{[]byte{0x0f}, 2, 0x3f, []byte{0xf3}},
		{[]byte{0, 0}, 8, 1, []byte{0, 1}},
		{[]byte{0, 0}, 7, 3, []byte{0x80, 1}},
		{[]byte{0, 0}, 0, 0x8001, []byte{1, 0x80}},
		{[]byte{0, 0}, 1, 0x4002, []byte{4, 0x80}},
		{[]byte{1, 2, 3, 4}, 0, 0xffffffff, []byte{0xfe, 0xfd, 0xfc, 0xfb}},
		{[]byte{1, 2, 3, 4}, 0, 0x04030201, []byte{0, 0, 0, 0}},
		{[]byte{0, 0, 0, 0}, 0, 0x80000000, []byte{0, 0, 0, 0x80}},
		{[]byte{0, 0, 0, 0, 0}, 8, 0x80000000, []byte{0, 0, 0, 0, 0x80}},
		{[]byte{0, 0, 0, 0, 0}, 4, 0xffffffff, []byte{0xf0, 0xff, 0xff, 0xff, 0x0f}},
		{[]byte{0, 0, 0, 0, 0}, 7, 0x80000001, []byte{0x80, 0, 0, 0, 0x40}},
		{[]byte{0, 0, 0, 0, 0, 9}, 1, 0xf0000000, []byte{0, 0, 0, 0xe0, 1, 9}},
	} {
		if s := spoil(t, c.p, c.at, c.mask); !bytes.Equal(s, c.want) {
			t.Errorf("Spoil(%x, %d, %x): %x, not %x", c.p, c.at, c.mask, s, c.want)
		}
	}
}

// P15.2: Spoil turns just the mask's bits, and is refused just if one of them is
// none of p's, wherever it begins.
func TestSpoilAll(t *testing.T) {
	r := rand.New(rand.NewSource(155))
	for n := range 9 {
		p := drawn(r, n)
		for at := -34; at <= 8*n+34; at++ {
			masks := []uint32{0, 3, 0xff, 0xffff, math.MaxUint32, math.MaxUint32 - 1, 0x80000001, r.Uint32()}
			for bit := range 32 {
				masks = append(masks, 1<<bit, 1<<bit|1, r.Uint32()>>bit)
			}
			for _, mask := range masks {
				if !mayBe(n, at, mask) {
					spoilRefused(t, p, at, mask)
				} else if s := spoil(t, p, at, mask); !isTurned(p, s, at, mask) {
					t.Fatalf("Spoil(%x, %d, %x): %x", p, at, mask, s)
				}
			}
		}
	}
	for range 2000 {
		p, mask := drawn(r, 1+r.Intn(300)), r.Uint32()>>r.Intn(32)
		at := r.Intn(8 * len(p))
		if !mayBe(len(p), at, mask) {
			spoilRefused(t, p, at, mask)
		} else if s := spoil(t, p, at, mask); !isTurned(p, s, at, mask) {
			t.Fatalf("Spoil(%x, %d, %x): %x", p, at, mask, s)
		}
	}
}

// P15.2: places out of their range, no bits, and bits behind the last one, be
// there room behind it.
func TestSpoilRefused(t *testing.T) {
	for _, n := range []int{0, 1, 2, 3, 4, 5, 64, 128, 1000} {
		p := make([]byte, n, n+64)
		for _, at := range []int{math.MinInt, math.MinInt + 1, -1 << 32, -1<<32 + 1, -1 << 31, -8, -1, 8 * n, 8*n + 1, 1 << 31, 1 << 32, 1<<32 + 1, math.MaxInt - 32, math.MaxInt - 31, math.MaxInt - 1, math.MaxInt} {
			for _, mask := range []uint32{0, 1, 2, 0x80000000, math.MaxUint32} {
				spoilRefused(t, p, at, mask)
			}
		}
		for at := range 8 * n {
			spoilRefused(t, p, at, 0)
			// The last bit that there is, and the one behind it.
			left := 8*n - at
			if left <= 32 {
				spoil(t, p, at, 1<<(left-1))
				spoil(t, p, at, math.MaxUint32>>(32-left))
			}
			if left < 32 {
				spoilRefused(t, p, at, 1<<left)
				spoilRefused(t, p, at, 1<<left|1)
				spoilRefused(t, p, at, 0x80000000)
				spoilRefused(t, p, at, math.MaxUint32)
			}
		}
	}
	spoilRefused(t, nil, 0, 1)
	spoilRefused(t, nil, 0, 0)
}

// P15.2: the same bits, turned twice, are as they were.
func TestSpoilTwice(t *testing.T) {
	r := rand.New(rand.NewSource(156))
	for range 500 {
		p := drawn(r, 4+r.Intn(130))
		at, mask := r.Intn(8*len(p)-31), r.Uint32()|1
		s := spoil(t, p, at, mask)
		if bytes.Equal(s, p) {
			t.Fatalf("Spoil(%x, %d, %x): nothing is turned", p, at, mask)
		}
		if again := spoil(t, s, at, mask); !bytes.Equal(again, p) {
			t.Fatalf("Spoil(%x, %d, %x): %x, not %x", s, at, mask, again, p)
		}
	}
}

// P15.3: Take of Add are the bytes, also of such as have a sum already.
func TestTakeOfAdd(t *testing.T) {
	r := rand.New(rand.NewSource(157))
	if body := take(t, check.Add(nil)); len(body) != 0 {
		t.Errorf("%x", body)
	}
	for n := range 300 {
		for _, p := range [][]byte{drawn(r, n), make([]byte, n), bytes.Repeat([]byte{0xff}, n)} {
			once := check.Add(p)
			if body := take(t, once); !bytes.Equal(body, p) {
				t.Fatalf("%x, not %x", body, p)
			}
			if body := take(t, check.Add(once)); !bytes.Equal(body, once) {
				t.Fatalf("%x, not %x", body, once)
			}
		}
	}
}

// P15.4: bytes with their sum of which neighbouring bits were turned: all
// patterns of a few bits, at all places.
func TestSpoiltFew(t *testing.T) {
	for n := range 4 {
		p := check.Add(counted(n, false))
		for at := range 8 * len(p) {
			for mask := uint32(1); mask < 1<<10; mask += 2 {
				if mayBe(len(p), at, mask) {
					takeRefused(t, spoil(t, p, at, mask), api.ErrSum)
				}
			}
		}
	}
}

// P15.4: of a datagram's bytes at all places, patterns of each length up to 32
// bits.
func TestSpoilt(t *testing.T) {
	r := rand.New(rand.NewSource(158))
	for _, n := range []int{0, 1, 4, 5, 20, 60, api.MaxPacket - 4} {
		p := check.Add(drawn(r, n))
		for at := range 8 * len(p) {
			for length := range 32 {
				ends := uint32(1<<length | 1)
				for _, mask := range []uint32{ends, 1 << length, math.MaxUint32 >> (31 - length), ends | r.Uint32()>>(31-length)} {
					if mayBe(len(p), at, mask) {
						takeRefused(t, spoil(t, p, at, mask), api.ErrSum)
					}
				}
			}
			if t.Failed() {
				t.Fatalf("of %x", p)
			}
		}
	}
}

// Rule 3: what is handed in, and what lies behind its end, stays as it was.
func TestNothingIsChanged(t *testing.T) {
	room := append(withSum([]byte("123456789"), 0xe3069283), "behind the end"...)
	want := bytes.Clone(room)
	lists := [][]byte{room[:4], room[4:9], {7}}
	if s := check.Sum(lists[:2]...); s != 0xe3069283 {
		t.Errorf("%x", s)
	}
	check.Add(room[:5])
	check.Add(room[:0])
	take(t, room[:13])
	takeRefused(t, room[:12], api.ErrSum)
	takeRefused(t, room[:3], api.ErrForm)
	spoil(t, room[:9], 40, math.MaxUint32)
	spoilRefused(t, room[:9], 41, math.MaxUint32)
	if !bytes.Equal(room, want) || len(lists) != 3 || &lists[0][0] != &room[0] || &lists[1][0] != &room[4] || lists[2][0] != 7 {
		t.Errorf("%q %q, not %q", room, lists, want)
	}
}

// Rule 3: what is answered is new memory, and hangs on no later change.
func TestAnswersAreNew(t *testing.T) {
	room := append(withSum([]byte("123456789"), 0xe3069283), "behind the end"...)
	want := bytes.Clone(room)
	p := room[:13]
	added, taken, spoilt := check.Add(p), take(t, p), spoil(t, p, 100, 15)
	wants := [][]byte{bytes.Clone(added), bytes.Clone(taken), bytes.Clone(spoilt)}
	clear(room)
	for i, got := range [][]byte{added, taken, spoilt} {
		if !bytes.Equal(got, wants[i]) {
			t.Errorf("%q, not %q", got, wants[i])
		}
	}
	copy(room, want)
	for _, got := range [][]byte{added, taken, spoilt, check.Add(room[:0]), take(t, check.Add(nil))} {
		_ = append(got, "*****"...)
		clear(got)
	}
	if !bytes.Equal(room, want) {
		t.Errorf("%q, not %q", room, want)
	}
	for i, got := range [][]byte{check.Add(p), take(t, p), spoil(t, p, 100, 15)} {
		if !bytes.Equal(got, wants[i]) {
			t.Errorf("%q, not %q", got, wants[i])
		}
	}
}

// Rule 4: calls hang on what they are given alone, be there many at once.
func TestManyAtOnce(t *testing.T) {
	p := []byte("123456789")
	whole := withSum(p, 0xe3069283)
	var all sync.WaitGroup
	for i := range 8 {
		all.Go(func() {
			for range 200 {
				s, err := check.Spoil(p, i, 1)
				if err != nil || !isTurned(p, s, i, 1) {
					t.Errorf("%x %v", s, err)
				}
				body, err := check.Take(whole)
				if check.Sum(p) != 0xe3069283 || !bytes.Equal(check.Add(p), whole) || !bytes.Equal(body, p) || err != nil {
					t.Errorf("%x %v", body, err)
				}
			}
		})
	}
	all.Wait()
}
