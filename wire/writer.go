package wire

import (
	"bytes"

	"capsule/api"
)

// Writer collects at most MaxLen bytes. The zero Writer is empty and may be used.
type Writer struct{ data []byte }

// Add appends a field.
func (w *Writer) Add(v uint64, n int) api.Errno {
	return w.AddAll(api.WireField{Value: v, Size: n})
}

// AddAll appends all of the fields, or none of them.
func (w *Writer) AddAll(l ...api.WireField) api.Errno {
	if w == nil {
		return api.ErrNil
	}
	room := w.room()
	for _, f := range l {
		if e := checkField(f.Value, f.Size); e != api.OK {
			return e
		}
		if f.Size > room {
			return api.ErrLong
		}
		room -= f.Size
	}
	for _, f := range l {
		w.data = appendField(w.data, f.Value, f.Size)
	}
	return api.OK
}

// AddBytes appends bytes.
func (w *Writer) AddBytes(b ...byte) api.Errno {
	if w == nil {
		return api.ErrNil
	}
	if len(b) > w.room() {
		return api.ErrLong
	}
	w.data = append(w.data, b...)
	return api.OK
}

// AddText appends a text, followed by spaces up to n bytes.
func (w *Writer) AddText(s string, n int) api.Errno {
	if w == nil {
		return api.ErrNil
	}
	b, e := Pad(s, n)
	if e != api.OK {
		return e
	}
	return w.AddBytes(b...)
}

// Zero appends n bytes 0.
func (w *Writer) Zero(n int) api.Errno {
	if w == nil {
		return api.ErrNil
	}
	if n < 0 {
		return api.ErrArg
	}
	if n > w.room() {
		return api.ErrLong
	}
	w.data = append(w.data, make([]byte, n)...)
	return api.OK
}

// Bytes returns a copy of the bytes.
func (w *Writer) Bytes() []byte {
	if w == nil {
		return nil
	}
	return bytes.Clone(w.data)
}

// Len returns the number of bytes.
func (w *Writer) Len() int {
	if w == nil {
		return 0
	}
	return len(w.data)
}

// room returns the number of bytes that may still be added.
func (w *Writer) room() int {
	return MaxLen - len(w.data)
}
