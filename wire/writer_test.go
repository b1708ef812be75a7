package wire_test

import (
	"bytes"
	"math"
	"strings"
	"testing"

	"capsule/api"
	"capsule/wire"
)

// wants fails the test unless the writer has these bytes.
func wants(t *testing.T, w *wire.Writer, b ...byte) {
	t.Helper()
	if !bytes.Equal(w.Bytes(), b) || w.Len() != len(b) {
		t.Errorf("the writer has %d bytes %v, not %v", w.Len(), w.Bytes(), b)
	}
}

// filled returns a writer that has room for so many bytes.
func filled(t *testing.T, room int) *wire.Writer {
	t.Helper()
	w := &wire.Writer{}
	if e := w.AddBytes(bytes.Repeat([]byte{7}, wire.MaxLen-room)...); e != api.OK || w.Len() != wire.MaxLen-room {
		t.Fatal(e, w.Len())
	}
	return w
}

// P1.4: each method appends to what is there.
func TestWriterAppends(t *testing.T) {
	var w wire.Writer
	wants(t, &w)
	for i, e := range []api.Errno{
		w.Add(5, 2), w.Zero(1), w.AddText("x", 3), w.AddBytes(9, 8),
		w.AddAll(api.WireField{Value: 0x0102030405, Size: 5}, api.WireField{Value: 6, Size: 1}),
		w.Zero(0), w.AddText("", 0), w.AddBytes(), w.AddAll(),
	} {
		if e != api.OK {
			t.Errorf("call %d: %v", i, e)
		}
	}
	wants(t, &w, 5, 0, 0, 'x', ' ', ' ', 9, 8, 5, 4, 3, 2, 1, 6)
}

// P1.4: a number of bytes or a value that is not valid leaves the bytes as they are.
func TestWriterErrors(t *testing.T) {
	var w wire.Writer
	w.AddBytes(1, 2, 3)
	for i, c := range []struct{ got, want api.Errno }{
		{w.Add(0, 0), api.ErrArg}, {w.Add(0, 9), api.ErrArg}, {w.Add(0, -1), api.ErrArg}, {w.Add(math.MaxUint64, 0), api.ErrArg},
		{w.Add(256, 1), api.ErrRange}, {w.Add(1<<56, 7), api.ErrRange},
		{w.Zero(-1), api.ErrArg}, {w.Zero(math.MinInt), api.ErrArg},
		{w.Zero(wire.MaxLen - 2), api.ErrLong}, {w.Zero(math.MaxInt), api.ErrLong},
		{w.AddText("a", -1), api.ErrArg}, {w.AddText("\n", 4), api.ErrArg}, {w.AddText("\x7f", 0), api.ErrArg}, {w.AddText("\n", math.MaxInt), api.ErrArg},
		{w.AddText("abc", 2), api.ErrLong}, {w.AddText("a", wire.MaxLen-2), api.ErrLong}, {w.AddText("a", math.MaxInt), api.ErrLong},
		{w.AddBytes(make([]byte, wire.MaxLen)...), api.ErrLong},
	} {
		if c.got != c.want {
			t.Errorf("call %d: %v, not %v", i, c.got, c.want)
		}
	}
	wants(t, &w, 1, 2, 3)
}

// P1.4: AddAll returns the error of the first wrong field and writes none.
func TestAddAllErrors(t *testing.T) {
	good := api.WireField{Value: 1, Size: 2}
	wrongSize := api.WireField{Value: 0, Size: 9}
	wrongValue := api.WireField{Value: 300, Size: 1}
	var w wire.Writer
	w.AddBytes(4)
	for i, c := range []struct {
		l    []api.WireField
		want api.Errno
	}{
		{[]api.WireField{good, wrongValue}, api.ErrRange},
		{[]api.WireField{good, wrongSize}, api.ErrArg},
		{[]api.WireField{wrongValue, wrongSize}, api.ErrRange},
		{[]api.WireField{wrongSize, wrongValue}, api.ErrArg},
		{[]api.WireField{good, {Value: math.MaxUint64, Size: 0}}, api.ErrArg},
	} {
		if e := w.AddAll(c.l...); e != c.want {
			t.Errorf("call %d: %v, not %v", i, e, c.want)
		}
	}
	wants(t, &w, 4)
}

// P1.4: in AddAll the lack of room for a field comes before the errors of the fields behind it.
func TestAddAllWithoutRoom(t *testing.T) {
	w := filled(t, 3)
	for i, c := range []struct {
		l    []api.WireField
		want api.Errno
	}{
		{[]api.WireField{{Value: 1, Size: 2}, {Value: 1, Size: 2}}, api.ErrLong},
		{[]api.WireField{{Value: 1, Size: 2}, {Value: 1, Size: 2}, {Size: 9}}, api.ErrLong},
		{[]api.WireField{{Value: 1, Size: 4}, {Value: 256, Size: 1}}, api.ErrLong},
		{[]api.WireField{{Value: 1, Size: 3}, {Size: 9}}, api.ErrArg},
		{[]api.WireField{{Value: 1, Size: 3}, {Value: 256, Size: 1}}, api.ErrRange},
		{[]api.WireField{{Value: 1, Size: 2}, {Value: 1, Size: 1}, {Value: 1, Size: 1}}, api.ErrLong},
	} {
		if e := w.AddAll(c.l...); e != c.want || w.Len() != wire.MaxLen-3 {
			t.Errorf("call %d: %v, not %v; %d bytes", i, e, c.want, w.Len())
		}
	}
	if e := w.AddAll(api.WireField{Value: 1, Size: 2}, api.WireField{Value: 3, Size: 1}); e != api.OK || w.Len() != wire.MaxLen {
		t.Error(e, w.Len())
	}
	if b := w.Bytes(); !bytes.HasSuffix(b, []byte{7, 1, 0, 3}) {
		t.Error(b[len(b)-4:])
	}
}

// P1.4: a writer has at most MaxLen bytes, exactly MaxLen included, whichever method adds them.
func TestWriterFull(t *testing.T) {
	for i, add := range []func(w *wire.Writer, n int) api.Errno{
		func(w *wire.Writer, n int) api.Errno { return w.Add(0, n) },
		func(w *wire.Writer, n int) api.Errno { return w.AddAll(api.WireField{Value: 1, Size: n}) },
		func(w *wire.Writer, n int) api.Errno { return w.AddBytes(make([]byte, n)...) },
		func(w *wire.Writer, n int) api.Errno { return w.AddText("", n) },
		func(w *wire.Writer, n int) api.Errno { return w.Zero(n) },
	} {
		w := filled(t, 2)
		before := w.Bytes()
		if e := add(w, 3); e != api.ErrLong || !bytes.Equal(w.Bytes(), before) {
			t.Errorf("method %d, one byte too many: %v, %d bytes", i, e, w.Len())
		}
		if e := add(w, 2); e != api.OK || w.Len() != wire.MaxLen || len(w.Bytes()) != wire.MaxLen {
			t.Errorf("method %d, just full: %v, %d bytes", i, e, w.Len())
		}
		if e := add(w, 1); e != api.ErrLong || w.Len() != wire.MaxLen {
			t.Errorf("method %d, full: %v, %d bytes", i, e, w.Len())
		}
	}
}

// P1.4: one call may fill a writer, and a full writer still accepts nothing and reports other errors first.
func TestFullInOneCall(t *testing.T) {
	var zeros, bytesOnly, text wire.Writer
	if e := zeros.Zero(wire.MaxLen); e != api.OK || !bytes.Equal(zeros.Bytes(), make([]byte, wire.MaxLen)) {
		t.Error(e, zeros.Len())
	}
	if e := bytesOnly.AddBytes(make([]byte, wire.MaxLen+1)...); e != api.ErrLong || bytesOnly.Len() != 0 {
		t.Error(e, bytesOnly.Len())
	}
	if e := text.AddText("ab", wire.MaxLen); e != api.OK || string(text.Bytes()) != "ab"+strings.Repeat(" ", wire.MaxLen-2) {
		t.Error(e, text.Len())
	}
	for i, c := range []struct{ got, want api.Errno }{
		{zeros.Zero(0), api.OK}, {zeros.AddText("", 0), api.OK}, {zeros.AddBytes(), api.OK}, {zeros.AddAll(), api.OK},
		{zeros.Zero(-1), api.ErrArg}, {zeros.AddText("\n", 1), api.ErrArg}, {zeros.Add(0, 9), api.ErrArg}, {zeros.Add(256, 1), api.ErrRange},
	} {
		if c.got != c.want {
			t.Errorf("call %d: %v, not %v", i, c.got, c.want)
		}
	}
}

// P1.4: a nil Writer has no bytes, and ErrNil comes before all other errors.
func TestNilWriter(t *testing.T) {
	var w *wire.Writer
	for i, e := range []api.Errno{
		w.Add(0, 1), w.Add(0, 9), w.Add(256, 1), w.AddAll(), w.AddAll(api.WireField{Size: 9}), w.AddBytes(), w.AddBytes(1),
		w.AddText("", 0), w.AddText("\n", -1), w.Zero(0), w.Zero(-1), w.Zero(math.MaxInt),
	} {
		if e != api.ErrNil {
			t.Errorf("call %d: %v", i, e)
		}
	}
	if b := w.Bytes(); len(b) != 0 || w.Len() != 0 {
		t.Error(b, w.Len())
	}
}

// P1.4 and the document's rules: a writer shares no memory with its arguments and results.
func TestWriterSharesNothing(t *testing.T) {
	var w wire.Writer
	arg := []byte{1, 2, 3}
	w.AddBytes(arg...)
	arg[0] = 100
	wants(t, &w, 1, 2, 3)
	got := w.Bytes()
	got[1] = 100
	_ = append(got[:2:3], 50)
	wants(t, &w, 1, 2, 3)
	old := w.Bytes()
	w.AddBytes(4)
	if !bytes.Equal(old, []byte{1, 2, 3}) {
		t.Error(old)
	}
	fields := []api.WireField{{Value: 1, Size: 1}, {Value: 2, Size: 2}}
	w.AddAll(fields...)
	if fields[0] != (api.WireField{Value: 1, Size: 1}) || fields[1] != (api.WireField{Value: 2, Size: 2}) {
		t.Error(fields)
	}
}

// P1.4 and P1.1: Add appends what Put returns.
func TestAddIsPut(t *testing.T) {
	for _, v := range samples() {
		for n := -1; n <= 10; n++ {
			var w wire.Writer
			b, want := wire.Put(v, n)
			if e := w.Add(v, n); e != want {
				t.Errorf("Add(%d, %d): %v, not %v", v, n, e, want)
			}
			wants(t, &w, b...)
		}
	}
}
