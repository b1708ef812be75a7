package sgl

import (
	"iter"

	"capsule/api"
	"capsule/memory"
	"capsule/wire"
)

// walk collects the spans of a transfer on its way along a list.
type walk struct {
	*memory.Memory
	toHost  bool
	missing int // the bytes that have not been found
	spans   []api.Span
	at      uint64 // where the next descriptor is
	left    int    // the descriptors of the segment from there on
	last    bool   // the segment is the last one
}

// handlers returns what a walk does at a descriptor of each kind.
func handlers() map[api.SGLKind]func(*walk, api.Descriptor) {
	return map[api.SGLKind]func(*walk, api.Descriptor){
		api.SGLData:    (*walk).addBlock,
		api.SGLKeyed:   (*walk).addBlock,
		api.SGLBucket:  (*walk).addBucket,
		api.SGLSegment: (*walk).enter,
		api.SGLLast:    (*walk).enter,
	}
}

// descriptors yields the words of the first descriptor, and then those of the segments that have been entered. It reads each of them only when the ones before have been handled.
func (w *walk) descriptors(first [2]uint64) iter.Seq2[int, [2]uint64] {
	return func(yield func(int, [2]uint64) bool) {
		words := first
		for number := 0; yield(number, words) && w.left > 0; number++ {
			words = w.next()
		}
	}
}

func (w *walk) next() [2]uint64 {
	b := must(w.Read(w.at, descriptorSize))
	w.at += descriptorSize
	w.left--
	return [2]uint64{must(wire.Get(b[:wordSize:wordSize])), must(wire.Get(b[wordSize:descriptorSize:descriptorSize]))}
}

// enter goes on with the segment that a descriptor names. The first descriptor of a list stands in no segment, so none are left there.
func (w *walk) enter(d api.Descriptor) {
	require(api.ErrSegment, d.Len > 0, d.Len%descriptorSize == 0, w.left == 0, !w.last)
	requireOK(w.Check(d.Addr, d.Len))
	w.at, w.left, w.last = d.Addr, d.Len/descriptorSize, d.Kind == api.SGLLast
}

func (w *walk) addBlock(d api.Descriptor) {
	requireOK(w.Check(d.Addr, d.Len))
	w.add(api.Span{Addr: d.Addr, Len: d.Len})
}

func (w *walk) addBucket(d api.Descriptor) {
	if w.toHost {
		w.add(api.Span{Len: d.Len, Bucket: true})
	}
}

// add adds a span up to the end of the transfer.
func (w *walk) add(s api.Span) {
	s.Len = min(s.Len, w.missing)
	if s.Len > 0 {
		w.spans = append(w.spans, s)
		w.missing -= s.Len
	}
}
