package wire_test

import (
	"bytes"
	"math"
	"strings"
	"testing"

	"capsule/api"
	"capsule/wire"
)

const maxValue = math.MaxUint64

// samples returns values that just fit into fields of every size, that just do not, and some between.
func samples() []uint64 {
	l := []uint64{0, 1, 0xFACE, 0x0123456789ABCDEF, 0xFEDCBA9876543210, maxValue, maxValue - 1}
	for bit := range 64 {
		p := uint64(1) << bit
		l = append(l, p-1, p, p+1)
	}
	return l
}

// P1.1: the bytes of a field, the least significant one first.
func TestPut(t *testing.T) {
	for _, c := range []struct {
		v    uint64
		n    int
		want []byte
	}{
		{258, 4, []byte{2, 1, 0, 0}},
		{0, 1, []byte{0}},
		{255, 1, []byte{255}},
		{0xFFFF, 2, []byte{255, 255}},
		{0x030201, 3, []byte{1, 2, 3}},
		{0x0807060504030201, 8, []byte{1, 2, 3, 4, 5, 6, 7, 8}},
		{1<<56 - 1, 7, []byte{255, 255, 255, 255, 255, 255, 255}},
		{maxValue, 8, []byte{255, 255, 255, 255, 255, 255, 255, 255}},
	} {
		if b, e := wire.Put(c.v, c.n); e != api.OK || !bytes.Equal(b, c.want) {
			t.Errorf("Put(%d, %d): %v %v", c.v, c.n, b, e)
		}
	}
}

// P1.1: sizes from 1 to 8 only, values that fit only, and ErrArg before ErrRange.
func TestPutErrors(t *testing.T) {
	for _, n := range []int{math.MinInt, -1, 0, 9, 16, math.MaxInt} {
		for _, v := range []uint64{0, maxValue} {
			if b, e := wire.Put(v, n); e != api.ErrArg || len(b) != 0 {
				t.Errorf("Put(%d, %d): %v %v", v, n, b, e)
			}
		}
	}
	for n := 1; n < 8; n++ {
		limit := uint64(1) << (8 * n)
		if b, e := wire.Put(limit-1, n); e != api.OK || len(b) != n {
			t.Errorf("Put(%d, %d): %v %v", limit-1, n, b, e)
		}
		for _, v := range []uint64{limit, maxValue} {
			if b, e := wire.Put(v, n); e != api.ErrRange || len(b) != 0 {
				t.Errorf("Put(%d, %d): %v %v", v, n, b, e)
			}
		}
	}
}

// P1.1: the value of a field of 1 to 8 bytes.
func TestGet(t *testing.T) {
	for _, c := range []struct {
		b    []byte
		want uint64
		e    api.Errno
	}{
		{nil, 0, api.ErrArg},
		{[]byte{}, 0, api.ErrArg},
		{[]byte{7}, 7, api.OK},
		{[]byte{2, 1}, 258, api.OK},
		{[]byte{0, 0, 1}, 1 << 16, api.OK},
		{[]byte{1, 2, 3, 4, 5, 6, 7, 8}, 0x0807060504030201, api.OK},
		{[]byte{0, 0, 0, 0, 0, 0, 0, 128}, 1 << 63, api.OK},
		{make([]byte, 9), 0, api.ErrArg},
		{make([]byte, 100), 0, api.ErrArg},
	} {
		before := bytes.Clone(c.b)
		if v, e := wire.Get(c.b); v != c.want || e != c.e {
			t.Errorf("Get(%v): %d %v", c.b, v, e)
		}
		if !bytes.Equal(c.b, before) {
			t.Errorf("Get changed its argument %v to %v", before, c.b)
		}
	}
}

// P1.6: Get is the inverse of Put.
func TestGetOfPut(t *testing.T) {
	for _, v := range samples() {
		for n := 1; n <= 8; n++ {
			b, e := wire.Put(v, n)
			fits := n == 8 || v>>(8*n) == 0
			if fits != (e == api.OK) {
				t.Fatalf("Put(%d, %d): %v", v, n, e)
			}
			if !fits {
				continue
			}
			if x, e := wire.Get(b); x != v || e != api.OK || len(b) != n {
				t.Errorf("Get of Put(%d, %d): %d %v", v, n, x, e)
			}
		}
	}
}

// P1.2: bit fields up to bit 63.
func TestField(t *testing.T) {
	for _, c := range []struct {
		v          uint64
		low, width int
		want       uint64
	}{
		{64206, 4, 8, 172},
		{0xFACE, 0, 4, 0xE},
		{0xFACE, 12, 4, 0xF},
		{0xFACE, 16, 48, 0},
		{1 << 63, 63, 1, 1},
		{1<<63 - 1, 63, 1, 0},
		{maxValue, 0, 64, maxValue},
		{maxValue, 1, 63, 1<<63 - 1},
		{maxValue, 0, 63, 1<<63 - 1},
	} {
		if x, e := wire.Field(c.v, c.low, c.width); x != c.want || e != api.OK {
			t.Errorf("%v: %x %v", c, x, e)
		}
	}
}

// P1.2: Insert replaces the bit field.
func TestInsert(t *testing.T) {
	for _, c := range []struct {
		v          uint64
		low, width int
		x, want    uint64
		e          api.Errno
	}{
		{64206, 4, 8, 1, 61470, api.OK},
		{0, 63, 1, 1, 1 << 63, api.OK},
		{maxValue, 63, 1, 0, 1<<63 - 1, api.OK},
		{5, 0, 64, maxValue, maxValue, api.OK},
		{5, 1, 63, 1<<63 - 1, maxValue, api.OK},
		{5, 4, 8, 255, 0xFF5, api.OK},
		{5, 4, 8, 256, 0, api.ErrRange},
		{5, 63, 1, 2, 0, api.ErrRange},
		{5, 1, 63, 1 << 63, 0, api.ErrRange},
		{5, 0, 1, maxValue, 0, api.ErrRange},
	} {
		if x, e := wire.Insert(c.v, c.low, c.width, c.x); x != c.want || e != c.e {
			t.Errorf("%v: %x %v", c, x, e)
		}
	}
}

// P1.2: bit fields that are not valid, those whose sum overflows included; ErrArg before ErrRange.
func TestInvalidBitFields(t *testing.T) {
	for _, c := range []struct{ low, width int }{
		{-1, 1}, {-1, 2}, {math.MinInt, 1}, {0, 0}, {0, -1}, {64, 0}, {0, 65}, {1, 64}, {63, 2}, {64, 1},
		{math.MaxInt, 1}, {1, math.MaxInt}, {math.MaxInt, math.MaxInt}, {math.MinInt, math.MinInt}, {-10, 20}, {70, -6},
	} {
		if x, e := wire.Field(maxValue, c.low, c.width); x != 0 || e != api.ErrArg {
			t.Errorf("Field %v: %x %v", c, x, e)
		}
		for _, x := range []uint64{0, maxValue} {
			if x, e := wire.Insert(maxValue, c.low, c.width, x); x != 0 || e != api.ErrArg {
				t.Errorf("Insert %v: %x %v", c, x, e)
			}
		}
	}
}

// P1.6: Field of Insert returns the value inserted, and Insert changes no other bit.
func TestFieldOfInsert(t *testing.T) {
	for _, v := range []uint64{0, 0xFACE, 0x0123456789ABCDEF, maxValue} {
		for low := range 64 {
			for width := 1; low+width <= 64; width++ {
				x := uint64(0xA5C3F00F96E1B487) >> (64 - width)
				checkInsert(t, v, low, width, x)
			}
		}
	}
}

func checkInsert(t *testing.T, v uint64, low, width int, x uint64) {
	t.Helper()
	y, e := wire.Insert(v, low, width, x)
	if e != api.OK {
		t.Fatalf("Insert(%x, %d, %d, %x): %v", v, low, width, x, e)
	}
	if z, e := wire.Field(y, low, width); z != x || e != api.OK {
		t.Errorf("Field of Insert(%x, %d, %d, %x): %x %v", v, low, width, x, z, e)
	}
	for bit := range 64 {
		inside := bit >= low && bit < low+width
		if !inside && (v^y)>>bit&1 != 0 {
			t.Errorf("Insert(%x, %d, %d, %x) changed bit %d", v, low, width, x, bit)
		}
	}
}

// P1.3: padded texts.
func TestPad(t *testing.T) {
	for _, c := range []struct {
		s    string
		n    int
		want string
	}{
		{"ab", 4, "ab  "}, {"ab", 2, "ab"}, {"", 0, ""}, {"", 3, "   "}, {" ~", 3, " ~ "}, {"ab  ", 5, "ab   "},
	} {
		if b, e := wire.Pad(c.s, c.n); string(b) != c.want || e != api.OK {
			t.Errorf("%v: %q %v", c, b, e)
		}
	}
	long := strings.Repeat("x", wire.MaxLen)
	if b, e := wire.Pad(long, wire.MaxLen); string(b) != long || e != api.OK {
		t.Error(len(b), e)
	}
	if b, e := wire.Pad("x", wire.MaxLen); string(b) != "x"+strings.Repeat(" ", wire.MaxLen-1) || e != api.OK {
		t.Error(len(b), e)
	}
}

// P1.3: texts that cannot be padded; ErrArg before ErrLong.
func TestPadErrors(t *testing.T) {
	for _, c := range []struct {
		s string
		n int
		e api.Errno
	}{
		{"a", -1, api.ErrArg}, {"", -1, api.ErrArg}, {"", math.MinInt, api.ErrArg},
		{"\x1f", 4, api.ErrArg}, {"\x7f", 4, api.ErrArg}, {"ab\n", 4, api.ErrArg}, {"\x00", 4, api.ErrArg}, {"\xff", 4, api.ErrArg}, {"\u00e9", 4, api.ErrArg},
		{"a\n", 1, api.ErrArg}, {"\n", wire.MaxLen + 1, api.ErrArg},
		{"abc", 2, api.ErrLong}, {"a", 0, api.ErrLong}, {" ", 0, api.ErrLong},
		{"", wire.MaxLen + 1, api.ErrLong}, {"a", math.MaxInt, api.ErrLong},
		{strings.Repeat("x", wire.MaxLen+1), wire.MaxLen + 1, api.ErrLong},
	} {
		if b, e := wire.Pad(c.s, c.n); e != c.e || len(b) != 0 {
			t.Errorf("Pad(%.10q, %d): %v", c.s, c.n, e)
		}
	}
}

// P1.3: Text removes the spaces at the end only, and accepts the characters 20 to 7E only.
func TestText(t *testing.T) {
	for _, c := range []struct {
		b, want string
		e       api.Errno
	}{
		{"", "", api.OK}, {"ab  ", "ab", api.OK}, {"ab", "ab", api.OK}, {"   ", "", api.OK}, {"  a b ", "  a b", api.OK},
		{"a\t ", "", api.ErrArg}, {"\x1f", "", api.ErrArg}, {"ab\x00", "", api.ErrArg},
	} {
		if s, e := wire.Text([]byte(c.b)); s != c.want || e != c.e {
			t.Errorf("%q: %q %v", c.b, s, e)
		}
	}
	if s, e := wire.Text(nil); s != "" || e != api.OK {
		t.Error(s, e)
	}
	if s, e := wire.Text([]byte(strings.Repeat("x", wire.MaxLen+1))); len(s) != wire.MaxLen+1 || e != api.OK {
		t.Error(len(s), e)
	}
	for c := range 256 {
		valid := c >= 0x20 && c <= 0x7E
		b := []byte{'a', byte(c), 'b'}
		if _, e := wire.Text(b); (e == api.OK) != valid || !valid && e != api.ErrArg {
			t.Errorf("Text of the byte %x: %v", c, e)
		}
		if _, e := wire.Pad(string(b), 3); (e == api.OK) != valid || !valid && e != api.ErrArg {
			t.Errorf("Pad of the byte %x: %v", c, e)
		}
	}
}

// P1.6: Text is the inverse of Pad for texts that do not end with a space.
func TestTextOfPad(t *testing.T) {
	for _, s := range []string{"", "a", " a", "a b", "  x  y", "~!", strings.Repeat("long ", 50) + "."} {
		for extra := range 5 {
			b, e := wire.Pad(s, len(s)+extra)
			if e != api.OK || len(b) != len(s)+extra {
				t.Fatal(s, extra, e)
			}
			if x, e := wire.Text(b); x != s || e != api.OK {
				t.Errorf("%q: %q %v", s, x, e)
			}
		}
	}
}
