package sgl_test

import (
	"fmt"
	"slices"
	"testing"

	"capsule/api"
	"capsule/sgl"
)

// standing is the bytes of a descriptor in a segment, and where they are.
type standing struct {
	at uint64
	b  item
}

// stand returns descriptors that stand one behind the other.
func stand(at uint64, l ...api.Descriptor) []standing {
	var s []standing
	for i, d := range l {
		s = append(s, standing{at + itemBytes*uint64(i), itemOf(d)})
	}
	return s
}

// transfer is the arguments of Spans and the descriptors in segments, in the order in which they are read.
type transfer struct {
	without bool
	first   api.Descriptor
	n       int
	items   []standing
}

func (x transfer) spans(t *testing.T) ([]api.Span, api.Errno) {
	t.Helper()
	if x.without {
		return sgl.Spans(nil, x.first, x.n, true)
	}
	p := someBytes(2)
	for _, s := range x.items {
		copy(p[s.at:], s.b[:])
	}
	return sgl.Spans(filled(t, p), x.first, x.n, true)
}

// fault makes a transfer wrong.
type fault struct {
	name  string
	e     api.Errno
	apply func(x *transfer)
}

// faults returns what can be wrong with a transfer, in the order in which it is to be found. The lengths of its data are no multiples of 16.
func faults(x transfer) []fault {
	l := []fault{
		{"no memory", api.ErrNil, func(x *transfer) { x.without = true }},
		{"first kind", api.ErrArg, func(x *transfer) { x.first.Kind += 8 }},
		{"first length below 0", api.ErrArg, func(x *transfer) { x.first.Len -= 1 << 40 }},
		{"too many bytes", api.ErrArg, func(x *transfer) { x.n += mostBytes }},
	}
	if x.first.Kind == api.SGLSegment || x.first.Kind == api.SGLLast {
		l = append(l, fault{"first segment's length", api.ErrSegment, func(x *transfer) { x.first.Len += 8 }})
	}
	if x.first.Kind != api.SGLBucket {
		l = append(l, fault{"first place", api.ErrRange, func(x *transfer) { x.first.Addr |= farAway }})
	}
	for i, s := range x.items {
		l = append(l, faultsOf(i, s.b)...)
	}
	return append(l, fault{"too few bytes", api.ErrLength, func(x *transfer) { x.n++ }})
}

// faultsOf returns what can be wrong with a descriptor in a segment.
func faultsOf(i int, b item) []fault {
	change := func(what string, e api.Errno, place int, bits byte) fault {
		return fault{fmt.Sprint(what, " of item ", i), e, func(x *transfer) { x.items[i].b[place] |= bits }}
	}
	l := []fault{change("type", api.ErrType, 15, 0x01), change("type", api.ErrType, 15, 0x80)}
	if d, _ := b.descriptor(); d.Kind != api.SGLKeyed {
		l = append(l, change("zero", api.ErrType, 13, 2))
	}
	switch d, _ := b.descriptor(); d.Kind {
	case api.SGLBucket:
		return append(l, change("address", api.ErrArg, 3, 1))
	case api.SGLData:
		l = append(l, change("kind", api.ErrSegment, 15, 0x20))
	case api.SGLSegment, api.SGLLast:
		l = append(l, change("length", api.ErrSegment, 8, 8))
	}
	return append(l, change("place", api.ErrRange, 5, 1))
}

// P15.2: of each one, two and three things that are wrong the first one is found, in lists with no, one and several segments.
func TestSpansErrorOrder(t *testing.T) {
	for _, c := range []transfer{
		{first: block(100, 50), n: 50},
		{first: keyed(100, 50, 9), n: 50},
		{first: bucket(50), n: 50},
		{first: last(1000, 3), n: 3 + 5 + 7, items: stand(1000, bucket(3), block(10, 5), keyed(20, 7, 1))},
		{first: more(1000, 3), n: 5 + 3 + 7, items: slices.Concat(stand(1000, block(10, 5), bucket(3), more(2000, 1)), stand(2000, block(10, 7)))},
		{first: more(4096, 2), n: 5 + 3 + 7 + 9, items: slices.Concat(stand(4096, block(10, 5), more(1000, 2)), stand(1000, bucket(3), last(2000, 2)), stand(2000, keyed(30, 7, 8), block(40, 9)))},
	} {
		l := faults(c)
		if _, e := c.spans(t); e != api.OK {
			t.Fatal(c, e)
		}
		for i, f := range l {
			for j := i; j < len(l); j++ {
				for k := j; k < len(l); k++ {
					x := c
					x.items = slices.Clone(c.items)
					for _, g := range slices.Compact([]int{i, j, k}) {
						l[g].apply(&x)
					}
					if s, e := x.spans(t); len(s) != 0 || e != f.e {
						t.Errorf("%d bytes, %s, %s, %s: %v %v, not %v", c.n, f.name, l[j].name, l[k].name, s, e, f.e)
					}
				}
			}
		}
	}
}

// P15.2: where a list has too many descriptors, what is wrong with the last one that is examined is found before, and what is wrong with the next one is not.
func TestSpansErrorOrderLong(t *testing.T) {
	wrong := []struct {
		b item
		e api.Errno
	}{
		{item{15: 1}, api.ErrType}, {item{12: 1}, api.ErrType},
		{itemOf(api.Descriptor{Kind: api.SGLBucket, Addr: 1}), api.ErrArg},
		{itemOf(more(0, 1)), api.ErrSegment}, {itemOf(last(farAway, 1)), api.ErrSegment}, {itemOf(more(0, 0)), api.ErrSegment},
		{itemOf(block(farAway, 1)), api.ErrRange}, {itemOf(keyed(farAway, 0, 1)), api.ErrRange},
	}
	const at, before = 100, 1022
	for _, x := range wrong {
		for _, y := range append(wrong, wrong[0]) {
			for _, first := range []api.Descriptor{last(at, before+4), more(at, before+4)} {
				p := someBytes(5)
				p.set(at, slices.Repeat([]api.Descriptor{block(7, 1)}, before+4)...)
				copy(p[at+before*itemBytes:], x.b[:])
				copy(p[at+(before+1)*itemBytes:], y.b[:])
				m := filled(t, p)
				fails(t, m, first, before+1, x.e)
				put(t, m, at+before*itemBytes, block(7, 0))
				fails(t, m, first, before+1, api.ErrLong)
				put(t, m, at+before*itemBytes, block(7, 1))
				if _, e := sgl.Spans(m, first, before+1, true); e != api.OK {
					t.Errorf("%v: %v", first, e)
				}
				fails(t, m, first, before+2, api.ErrLong)
			}
		}
	}
}
