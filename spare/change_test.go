package spare_test

import (
	"bytes"
	"hash/crc32"
	"math/rand/v2"
	"slices"
	"testing"

	"capsule/api"
	"capsule/spare"
)

// decodePage decodes the data followed by the spare bytes of a page.
func decodePage(page []byte) (api.Spare, api.Errno) {
	n := len(page) - api.SpareSize
	return spare.Decode(page[n:], page[:n])
}

// changed fails the test unless a page is rejected after four of its bytes from at on (or as many as there are) were changed in this way. It restores the page.
func changed(t *testing.T, page []byte, at int, change uint32) {
	t.Helper()
	flip := func() (some bool) {
		for i := range 4 {
			if c := byte(change >> (8 * i)); c != 0 && at+i < len(page) {
				page[at+i] ^= c
				some = true
			}
		}
		return some
	}
	if !flip() {
		return
	}
	if s, e := decodePage(page); s != (api.Spare{}) || e != api.ErrCheck {
		t.Errorf("the change %x at %d of %d bytes: %v, %v", change, at, len(page), s, e)
	}
	flip()
}

// changes returns ways to change four bytes: each bit alone, each two bits, and some more.
func changes() []uint32 {
	l := []uint32{0xFFFFFFFF, 0xFF, 0xFFFF, 0xFFFFFF, 0xFF00, 0xFF0000, 0xFF000000, 0x82F63B78, 0x80000001}
	for i := range 32 {
		for j := range i + 1 {
			l = append(l, 1<<i|1<<j)
		}
	}
	r := rand.New(rand.NewPCG(5, 4))
	for range 300 {
		l = append(l, r.Uint32())
	}
	return l
}

// P5.4: changes within four consecutive bytes at every place, also across the border between the data and the spare bytes, and across the one before the checksum.
func TestChangesOfFourBytes(t *testing.T) {
	ways := changes()
	for i, s := range samples() {
		for _, n := range []int{0, 1, 3, 4, 5, 12, 40} {
			data := filled(n, i)
			page := append(slices.Clone(data), encoded(t, s, data)...)
			for at := range page {
				for _, change := range ways {
					changed(t, page, at, change)
				}
			}
			decodes(t, page[n:], page[:n], s)
		}
	}
}

// P5.4: each change of two bytes around the borders, and many places of a page of the usual size.
func TestChangesAtBorders(t *testing.T) {
	s, n := samples()[0], 6
	page := append(filled(n, 8), encoded(t, s, filled(n, 8))...)
	for _, at := range []int{0, n - 2, n - 1, n, n + bodySize - 2, n + bodySize - 1, n + bodySize, n + 62} {
		for change := range uint32(1 << 16) {
			changed(t, page, at, change)
		}
	}
	n = api.SectorSize
	page = append(filled(n, 9), encoded(t, s, filled(n, 9))...)
	r := rand.New(rand.NewPCG(5, 6))
	for at := 0; at < len(page); at += 1 + r.IntN(9) {
		changed(t, page, at, r.Uint32())
	}
}

// torn returns a page of which only the first n bytes were programmed.
func torn(page []byte, n int) []byte {
	return append(slices.Clone(page[:n]), bytes.Repeat([]byte{0xFF}, len(page)-n)...)
}

// tear replaces all bytes of a page from each index on by FF, and fails the test unless each result is rejected or has not changed.
func tear(t *testing.T, page []byte, want api.Spare) {
	t.Helper()
	for n := range len(page) + 1 {
		b := torn(page, n)
		s, e := decodePage(b)
		if bytes.Equal(b, page) {
			if s != want || e != api.OK {
				t.Errorf("nothing of %d bytes has changed: %v, %v", len(page), s, e)
			}
		} else if s != (api.Spare{}) || e != api.ErrCheck && e != api.ErrFormat {
			t.Errorf("%d of %d bytes programmed: %v, %v", n, len(page), s, e)
		}
	}
}

// P5.4: a page whose bytes from some index on are FF is rejected, or has not changed.
func TestTorn(t *testing.T) {
	for i, s := range samples() {
		for _, n := range []int{0, 1, 4, 12, 64, 500} {
			data := filled(n, i)
			tear(t, append(data, encoded(t, s, data)...), s)
			data = bytes.Repeat([]byte{0xFF}, n)
			tear(t, append(data, encoded(t, s, data)...), s)
		}
	}
	for seed := range 600 { // among so many checksums there are some that end with FF
		data := filled(8, seed)
		s := api.Spare{Kind: api.SpareData, Sector: seed, Sequence: 1, Length: 1}
		tear(t, append(data, encoded(t, s, data)...), s)
	}
}

// leading returns the four bytes that make FFFFFFFF the CRC-32C of themselves followed by b: it takes the steps of layer 2 back from the last state.
func leading(b []byte) []byte {
	state := uint32(0) // the complement of the checksum
	back := func() {
		for range 8 {
			if state>>31 == 1 {
				state = (state^0x82F63B78)<<1 | 1
			} else {
				state <<= 1
			}
		}
	}
	for _, c := range slices.Backward(b) {
		back()
		state ^= uint32(c)
	}
	for range 4 {
		back()
	}
	state ^= 0xFFFFFFFF
	return []byte{byte(state), byte(state >> 8), byte(state >> 16), byte(state >> 24)}
}

// P5.4 and P5.2: a torn page is rejected even where the checksum FFFFFFFF happens to match it; where it matches the whole page, nothing has changed.
func TestTornWithMatchingChecksum(t *testing.T) {
	for _, s := range samples() {
		for n := range bodySize + 1 {
			rest := torn(body(s), n)
			data := leading(rest)
			if crc32.Checksum(slices.Concat(data, rest), crc32.MakeTable(crc32.Castagnoli)) != 0xFFFFFFFF {
				t.Fatalf("the checksum of %x followed by %x is not FFFFFFFF", data, rest)
			}
			page := append(slices.Clone(data), encoded(t, s, data)...)
			tear(t, page, s)
			if got := torn(page, 4+n); n < bodySize {
				cannotDecode(t, got[4:], data, api.ErrFormat)
			} else {
				decodes(t, got[4:], data, s)
			}
		}
	}
}
