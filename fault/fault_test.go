package fault_test

import (
	"errors"
	"fmt"
	"io"
	"math"
	"slices"
	"strconv"
	"testing"

	"geyser/api"
	"geyser/fault"
)

// The calls' signatures are the chapter's.
var (
	_ func(string, api.Errno) error = fault.New
	_ func(string, error) error     = fault.Wrap
	_ func(error) api.Errno         = fault.Num
	_ func(error) string            = fault.Call
	_ func(error) []string          = fault.Chain
	_ func(error, api.Errno) bool   = fault.Is
)

// numbers are api's own ones.
var numbers = []api.Errno{
	api.ErrRange, api.ErrForm, api.ErrLong, api.ErrNone,
	api.ErrFull, api.ErrSum, api.ErrState, api.ErrClash,
}

// giving answers errors.As and errors.Is by methods of its own.
type giving struct {
	n     api.Errno
	f     *api.Fault
	found bool
}

func (g giving) Error() string { return "giving" }

func (g giving) As(target any) bool {
	switch t := target.(type) {
	case *api.Errno:
		*t = g.n
	case **api.Fault:
		*t = g.f
	default:
		return false
	}
	return g.found
}

func (g giving) Is(target error) bool { return g.found && target == g.n }

// panicking panics when it is asked for what it is or wraps.
type panicking struct{}

func (panicking) Error() string { panic("Error") }
func (panicking) Unwrap() error { panic("Unwrap") }
func (panicking) Is(error) bool { panic("Is") }
func (panicking) As(any) bool   { panic("As") }

// uncomparable is an error that can't be held against another one.
type uncomparable []int

func (uncomparable) Error() string { return "uncomparable" }

// direct is err as the Fault that it has to be itself, not one that it wraps.
func direct(t *testing.T, err error) *api.Fault {
	t.Helper()
	f, ok := err.(*api.Fault)
	if !ok || f == nil {
		t.Fatalf("%#v is no Fault", err)
	}
	return f
}

// P1.1: New.
func TestNew(t *testing.T) {
	more := []api.Errno{-1, 9, math.MaxInt, math.MinInt}
	for _, n := range append(more, numbers...) {
		for _, call := range []string{"packed.Pack", "elim.Add", "", "\xff\x00"} {
			err := fault.New(call, n)
			f := direct(t, err)
			if f.Call != call || f.Err != error(n) {
				t.Errorf("New(%q, %d): %#v", call, n, f)
			}
			if err.Error() != "fault in "+call || f.Err.Error() != "error "+strconv.Itoa(int(n)) {
				t.Errorf("New(%q, %d) tells %q, %q", call, n, err, f.Err)
			}
		}
	}
	for _, call := range []string{"packed.Pack", ""} {
		if err := fault.New(call, 0); err != nil {
			t.Errorf("New(%q, 0): %#v", call, err)
		}
	}
}

// P1.1: Wrap.
func TestWrap(t *testing.T) {
	var none *api.Fault
	for _, err := range []error{
		fault.New("a.A", api.ErrLong),
		fault.Wrap("a.A", fault.New("b.B", api.ErrSum)),
		api.ErrForm, api.Errno(0), io.EOF, none, giving{}, panicking{},
	} {
		for _, call := range []string{"c.C", ""} {
			f := direct(t, fault.Wrap(call, err))
			if f.Call != call || f.Err != err {
				t.Errorf("Wrap(%q, %T): %#v", call, err, f)
			}
		}
	}
	for _, call := range []string{"c.C", ""} {
		if err := fault.Wrap(call, nil); err != nil {
			t.Errorf("Wrap(%q, nil): %#v", call, err)
		}
	}
}

// P1.1: each answer is new memory, and what is wrapped stays as it was.
func TestWrapKeepsWhatIsWrapped(t *testing.T) {
	one, two := fault.New("a.A", api.ErrLong), fault.New("a.A", api.ErrLong)
	if one == two {
		t.Error("two answers share their memory")
	}
	direct(t, fault.Wrap("b.B", one)).Call = "c.C"
	if f := direct(t, one); f.Call != "a.A" || f.Err != error(api.ErrLong) {
		t.Errorf("wrapped: %#v", f)
	}
	if fault.Wrap("b.B", one) == fault.Wrap("b.B", one) {
		t.Error("two answers share their memory")
	}
}

// looks are errors, and what is found in them.
var looks = []struct {
	name  string
	err   error
	num   api.Errno
	call  string
	chain []string
	is    []api.Errno
}{
	{name: "no error"},
	{
		"the chapter's example",
		fault.Wrap("b.B", fault.New("a.A", api.ErrLong)),
		api.ErrLong, "b.B", []string{"b.B", "a.A"}, []api.Errno{api.ErrLong},
	},
	{
		"one Fault",
		fault.New("a.A", api.ErrClash),
		api.ErrClash, "a.A", []string{"a.A"}, []api.Errno{api.ErrClash},
	},
	{
		"several Faults, some of one call, one without a name",
		fault.Wrap("c.C", fault.Wrap("", fault.Wrap("c.C", fault.New("a.A", api.ErrRange)))),
		api.ErrRange, "c.C", []string{"c.C", "", "c.C", "a.A"}, []api.Errno{api.ErrRange},
	},
	{
		"an outermost Fault without a name",
		fault.Wrap("", fault.New("a.A", api.ErrNone)),
		api.ErrNone, "", []string{"", "a.A"}, []api.Errno{api.ErrNone},
	},
	{
		name: "a number without a Fault",
		err:  api.ErrState, num: api.ErrState, is: []api.Errno{api.ErrState},
	},
	{
		name: "a number of no name",
		err:  api.Errno(-7), num: -7, is: []api.Errno{-7},
	},
	{
		name: "a number wrapped by another error, without a Fault",
		err:  fmt.Errorf("other: %w", api.ErrSum), num: api.ErrSum, is: []api.Errno{api.ErrSum},
	},
	{name: "another error", err: io.EOF},
	{name: "another error that tells a number's text", err: errors.New("error 3")},
	{name: "an error that can't be compared", err: uncomparable{1}},
	{
		name: "a Fault round another error",
		err:  fault.Wrap("b.B", fault.Wrap("a.A", io.EOF)),
		call: "b.B", chain: []string{"b.B", "a.A"},
	},
	{
		name: "a Fault round nothing",
		err:  fault.Wrap("b.B", &api.Fault{Call: "a.A"}),
		call: "b.B", chain: []string{"b.B", "a.A"},
	},
	{
		name: "a Fault round the number 0",
		err:  fault.Wrap("b.B", api.Errno(0)),
		call: "b.B", chain: []string{"b.B"}, is: []api.Errno{0},
	},
	{
		"other errors around and between",
		fmt.Errorf("x: %w", fault.Wrap("b.B", fmt.Errorf("y: %w", fmt.Errorf("z: %w", fault.New("a.A", api.ErrForm))))),
		api.ErrForm, "b.B", []string{"b.B", "a.A"}, []api.Errno{api.ErrForm},
	},
	{
		"joined: the first number, the first Fault and what it wraps; each number is there",
		errors.Join(io.EOF, fault.Wrap("b.B", fault.New("a.A", api.ErrForm)), fault.New("c.C", api.ErrSum)),
		api.ErrForm, "b.B", []string{"b.B", "a.A"}, []api.Errno{api.ErrForm, api.ErrSum},
	},
	{
		"joined: a bare number ahead of a Fault",
		fault.Wrap("b.B", errors.Join(api.ErrLong, fault.New("a.A", api.ErrSum))),
		api.ErrLong, "b.B", []string{"b.B", "a.A"}, []api.Errno{api.ErrLong, api.ErrSum},
	},
	{
		"an error that gives a number and a Fault",
		fault.Wrap("b.B", giving{n: api.ErrNone, f: &api.Fault{Call: "g.G"}, found: true}),
		api.ErrNone, "b.B", []string{"b.B", "g.G"}, []api.Errno{api.ErrNone},
	},
	{
		name: "an error that lays a number and a Fault, and says that there are none",
		err:  giving{n: api.ErrNone, f: &api.Fault{Call: "g.G"}},
	},
	{name: "a nil Fault", err: (*api.Fault)(nil)},
	{
		name: "a Fault round a nil one",
		err:  fault.Wrap("b.B", (*api.Fault)(nil)),
		call: "b.B", chain: []string{"b.B"},
	},
	{name: "an error that panics", err: panicking{}},
	{
		name: "a Fault round an error that panics",
		err:  fault.Wrap("b.B", fault.Wrap("a.A", panicking{})),
		call: "b.B", chain: []string{"b.B", "a.A"},
	},
}

// P1.2: Num.
func TestNum(t *testing.T) {
	for _, l := range looks {
		if n := fault.Num(l.err); n != l.num {
			t.Errorf("%s: %d, not %d", l.name, n, l.num)
		}
	}
}

// P1.2: Call.
func TestCall(t *testing.T) {
	for _, l := range looks {
		if c := fault.Call(l.err); c != l.call {
			t.Errorf("%s: %q, not %q", l.name, c, l.call)
		}
	}
}

// P1.2: Chain.
func TestChain(t *testing.T) {
	for _, l := range looks {
		if c := fault.Chain(l.err); !slices.Equal(c, l.chain) {
			t.Errorf("%s: %q, not %q", l.name, c, l.chain)
		}
	}
}

// P1.2: each answer of Chain is new memory.
func TestChainIsNew(t *testing.T) {
	err := fault.Wrap("b.B", fault.New("a.A", api.ErrLong))
	l := fault.Chain(err)
	l[0], l[1] = "x", "y"
	if c := fault.Chain(err); !slices.Equal(c, []string{"b.B", "a.A"}) {
		t.Errorf("%q", c)
	}
}

// P1.2: Is.
func TestIs(t *testing.T) {
	asked := append([]api.Errno{0, -1, -7, 9, math.MaxInt, math.MinInt}, numbers...)
	for _, l := range looks {
		for _, n := range asked {
			if is := fault.Is(l.err, n); is != slices.Contains(l.is, n) {
				t.Errorf("%s: Is of %d: %v", l.name, n, is)
			}
		}
	}
}

// P1.3: whatever calls are wrapped round a number, it is found, and no other
// one; the calls are told in order.
func TestWhateverIsWrapped(t *testing.T) {
	for _, n := range numbers {
		err, calls := fault.New("p.C0", n), []string{"p.C0"}
		for i := range 40 {
			call := "p.C" + strconv.Itoa((i*i+1)%7)
			err, calls = fault.Wrap(call, err), append([]string{call}, calls...)
			if i%5 == 3 {
				err = fmt.Errorf("other: %w", err)
			}
			found(t, err, n, calls)
		}
	}
}

// P1.3: so it is with as many as may be nested.
func TestDeep(t *testing.T) {
	err, calls := fault.New("p.C0", api.ErrState), []string{"p.C0"}
	for i := range 1<<16 - 2 {
		call := "p.C" + strconv.Itoa(i)
		err, calls = fault.Wrap(call, err), append(calls, call)
	}
	slices.Reverse(calls)
	found(t, err, api.ErrState, calls)
}

// found says whether just n and the calls are in err.
func found(t *testing.T, err error, n api.Errno, calls []string) {
	t.Helper()
	if fault.Num(err) != n || fault.Call(err) != calls[0] {
		t.Errorf("Num %d, Call %q", fault.Num(err), fault.Call(err))
	}
	if !slices.Equal(fault.Chain(err), calls) {
		t.Errorf("Chain of %d calls is another one", len(calls))
	}
	for _, m := range append([]api.Errno{0}, numbers...) {
		if fault.Is(err, m) != (m == n) {
			t.Errorf("%d: Is of %d: %v", n, m, m != n)
		}
	}
	var f *api.Fault
	var m api.Errno
	if !errors.As(err, &f) || f.Call != calls[0] || !errors.As(err, &m) || m != n || !errors.Is(err, n) {
		t.Errorf("errors finds %v, %d", f, m)
	}
}
