package wire_test

import (
	"bytes"
	"math"
	"slices"
	"testing"

	"capsule/api"
	"capsule/wire"
)

// stands fails the test unless the reader is at this position with so many bytes left.
func stands(t *testing.T, r *wire.Reader, at, left int) {
	t.Helper()
	if r.At() != at || r.Left() != left {
		t.Errorf("the reader is at %d with %d bytes left, not at %d with %d", r.At(), r.Left(), at, left)
	}
}

// P1.5: each method reads from the position on and advances it.
func TestReaderReads(t *testing.T) {
	r := wire.NewReader([]byte{5, 0, 0, 'x', ' ', 9, 8, 1, 2, 3, 44, 1, 2, 3, 4, 5, 6, 7, 8})
	stands(t, r, 0, 19)
	if v, e := r.Next(2); v != 5 || e != api.OK {
		t.Error(v, e)
	}
	stands(t, r, 2, 17)
	if e := r.Zeros(1); e != api.OK {
		t.Error(e)
	}
	stands(t, r, 3, 16)
	if b, e := r.Take(2); string(b) != "x " || e != api.OK {
		t.Error(b, e)
	}
	stands(t, r, 5, 14)
	if l, e := r.All(2, 3); !slices.Equal(l, []uint64{0x0809, 0x030201}) || e != api.OK {
		t.Error(l, e)
	}
	stands(t, r, 10, 9)
	if e := r.Skip(1); e != api.OK {
		t.Error(e)
	}
	stands(t, r, 11, 8)
	if v, e := r.Next(8); v != 0x0807060504030201 || e != api.OK {
		t.Error(v, e)
	}
	stands(t, r, 19, 0)
}

// P1.5: reading nothing is possible everywhere, and changes nothing.
func TestReadNothing(t *testing.T) {
	r := wire.NewReader([]byte{1})
	for _, at := range []int{0, 1} {
		if b, e := r.Take(0); len(b) != 0 || e != api.OK {
			t.Error(b, e)
		}
		if l, e := r.All(); len(l) != 0 || e != api.OK {
			t.Error(l, e)
		}
		if r.Zeros(0) != api.OK || r.Skip(0) != api.OK {
			t.Error("Zeros or Skip of 0 bytes")
		}
		stands(t, r, at, 1-at)
		r.Next(1)
	}
}

// P1.5: errors, ErrArg before ErrShort before ErrFormat; the position does not change.
func TestReaderErrors(t *testing.T) {
	r := wire.NewReader([]byte{9, 0, 0, 7})
	r.Skip(1)
	for _, n := range []int{math.MinInt, -1, 0, 9, math.MaxInt} {
		if v, e := r.Next(n); v != 0 || e != api.ErrArg {
			t.Errorf("Next(%d): %d %v", n, v, e)
		}
	}
	for _, n := range []int{4, 8} {
		if v, e := r.Next(n); v != 0 || e != api.ErrShort {
			t.Errorf("Next(%d): %d %v", n, v, e)
		}
	}
	for _, c := range []struct {
		n    int
		want api.Errno
	}{{math.MinInt, api.ErrArg}, {-1, api.ErrArg}, {4, api.ErrShort}, {math.MaxInt, api.ErrShort}} {
		if b, e := r.Take(c.n); len(b) != 0 || e != c.want {
			t.Errorf("Take(%d): %v %v", c.n, b, e)
		}
		if e := r.Zeros(c.n); e != c.want {
			t.Errorf("Zeros(%d): %v", c.n, e)
		}
		if e := r.Skip(c.n); e != c.want {
			t.Errorf("Skip(%d): %v", c.n, e)
		}
	}
	if e := r.Zeros(3); e != api.ErrFormat {
		t.Error(e)
	}
	stands(t, r, 1, 3)
	if e := r.Zeros(2); e != api.OK {
		t.Error(e)
	}
	stands(t, r, 3, 1)
	if e := r.Zeros(1); e != api.ErrFormat {
		t.Error(e)
	}
	stands(t, r, 3, 1)
}

// P1.5: a byte that is not 0 is found at every place.
func TestZerosFindsEveryByte(t *testing.T) {
	for i := range 20 {
		b := make([]byte, 20)
		b[i] = byte(1 << (i % 8))
		r := wire.NewReader(b)
		if e := r.Zeros(20); e != api.ErrFormat {
			t.Errorf("byte %d: %v", i, e)
		}
		stands(t, r, 0, 20)
		if e := r.Zeros(i); e != api.OK {
			t.Errorf("before byte %d: %v", i, e)
		}
		stands(t, r, i, 20-i)
	}
}

// P1.5: All returns the error of the first field that cannot be read, and reads none.
func TestAllErrors(t *testing.T) {
	r := wire.NewReader([]byte{1, 2, 3, 4, 5})
	r.Skip(1)
	for _, c := range []struct {
		sizes []int
		want  api.Errno
	}{
		{[]int{0}, api.ErrArg}, {[]int{9}, api.ErrArg}, {[]int{-1}, api.ErrArg}, {[]int{2, math.MaxInt}, api.ErrArg},
		{[]int{5}, api.ErrShort}, {[]int{2, 3}, api.ErrShort}, {[]int{4, 1}, api.ErrShort}, {[]int{1, 1, 1, 1, 1}, api.ErrShort},
		{[]int{5, 9}, api.ErrShort}, {[]int{4, 9}, api.ErrArg}, {[]int{9, 5}, api.ErrArg}, {[]int{2, 3, 0}, api.ErrShort},
	} {
		if l, e := r.All(c.sizes...); len(l) != 0 || e != c.want {
			t.Errorf("All(%v): %v %v, not %v", c.sizes, l, e, c.want)
		}
		stands(t, r, 1, 4)
	}
	if l, e := r.All(1, 3); !slices.Equal(l, []uint64{2, 0x050403}) || e != api.OK {
		t.Error(l, e)
	}
	stands(t, r, 5, 0)
}

// P1.5: a nil, a zero and an empty reader have no bytes.
func TestEmptyReaders(t *testing.T) {
	for i, r := range []*wire.Reader{nil, {}, new(wire.Reader), wire.NewReader(nil), wire.NewReader([]byte{})} {
		stands(t, r, 0, 0)
		if v, e := r.Next(1); v != 0 || e != api.ErrShort {
			t.Errorf("reader %d: Next(1): %d %v", i, v, e)
		}
		if v, e := r.Next(0); v != 0 || e != api.ErrArg {
			t.Errorf("reader %d: Next(0): %d %v", i, v, e)
		}
		for _, c := range []struct {
			n    int
			want api.Errno
		}{{-1, api.ErrArg}, {0, api.OK}, {1, api.ErrShort}} {
			if b, e := r.Take(c.n); len(b) != 0 || e != c.want {
				t.Errorf("reader %d: Take(%d): %v %v", i, c.n, b, e)
			}
			if e := r.Zeros(c.n); e != c.want {
				t.Errorf("reader %d: Zeros(%d): %v", i, c.n, e)
			}
			if e := r.Skip(c.n); e != c.want {
				t.Errorf("reader %d: Skip(%d): %v", i, c.n, e)
			}
		}
		for _, c := range []struct {
			sizes []int
			want  api.Errno
		}{{nil, api.OK}, {[]int{1}, api.ErrShort}, {[]int{1, 9}, api.ErrShort}, {[]int{9, 1}, api.ErrArg}} {
			if l, e := r.All(c.sizes...); len(l) != 0 || e != c.want {
				t.Errorf("reader %d: All(%v): %v %v", i, c.sizes, l, e)
			}
		}
		stands(t, r, 0, 0)
	}
}

// P1.5 and the document's rules: a reader has the bytes as they were, and shares none with its arguments and results.
func TestReaderSharesNothing(t *testing.T) {
	arg := []byte{1, 2, 3, 4}
	r := wire.NewReader(arg)
	arg[0] = 100
	if v, e := r.Next(1); v != 1 || e != api.OK {
		t.Error(v, e)
	}
	first, e := r.Take(2)
	if !bytes.Equal(first, []byte{2, 3}) || e != api.OK {
		t.Fatal(first, e)
	}
	first[1] = 100
	_ = append(first, 50)
	if v, e := r.Next(1); v != 4 || e != api.OK {
		t.Error(v, e)
	}
	if !bytes.Equal(arg, []byte{100, 2, 3, 4}) {
		t.Error(arg)
	}
	sizes := []int{1, 2}
	wire.NewReader(arg).All(sizes...)
	if !slices.Equal(sizes, []int{1, 2}) {
		t.Error(sizes)
	}
}

// P1.5: a reader is not limited to MaxLen bytes.
func TestLongReader(t *testing.T) {
	b := make([]byte, wire.MaxLen+9)
	b[wire.MaxLen+1] = 6
	r := wire.NewReader(b)
	if e := r.Zeros(wire.MaxLen + 1); e != api.OK {
		t.Error(e)
	}
	if v, e := r.Next(8); v != 6 || e != api.OK {
		t.Error(v, e)
	}
	stands(t, r, wire.MaxLen+9, 0)
}

// P1.6: fields that were written with AddAll are read with All.
func TestAllOfAddAll(t *testing.T) {
	var fields []api.WireField
	var sizes []int
	var values []uint64
	for i, v := range samples() {
		n := i%8 + 1
		v &= math.MaxUint64 >> (64 - 8*n)
		fields = append(fields, api.WireField{Value: v, Size: n})
		sizes = append(sizes, n)
		values = append(values, v)
	}
	var w wire.Writer
	if e := w.AddAll(fields...); e != api.OK {
		t.Fatal(e)
	}
	r := wire.NewReader(w.Bytes())
	if l, e := r.All(sizes...); !slices.Equal(l, values) || e != api.OK {
		t.Error(l, e)
	}
	stands(t, r, w.Len(), 0)
}

// P1.4 and P1.5: the last example of the chapter.
func TestReadWhatWasWritten(t *testing.T) {
	var w wire.Writer
	w.Add(5, 2)
	w.Zero(1)
	wants(t, &w, 5, 0, 0)
	r := wire.NewReader(w.Bytes())
	if v, e := r.Next(2); v != 5 || e != api.OK {
		t.Error(v, e)
	}
	if e := r.Zeros(1); e != api.OK {
		t.Error(e)
	}
	if v, e := r.Next(1); v != 0 || e != api.ErrShort {
		t.Error(v, e)
	}
}
