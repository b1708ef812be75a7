package digest_test

import (
	"bytes"
	"hash/crc32"
	"slices"
	"testing"

	"capsule/digest"
)

// slow32 is a step of CRC-32C, bit by bit, as the chapter defines it.
func slow32(s uint32, c byte) uint32 {
	s ^= uint32(c)
	for range 8 {
		out := s & 1
		s >>= 1
		if out == 1 {
			s ^= 0x82F63B78
		}
	}
	return s
}

// slow16 is a step of CRC-16, bit by bit, as the chapter defines it.
func slow16(s uint16, c byte) uint16 {
	s ^= uint16(c) << 8
	for range 8 {
		out := s >> 15
		s <<= 1
		if out == 1 {
			s ^= 0x8BB7
		}
	}
	return s
}

func slowUpdate32(s uint32, b []byte) uint32 {
	for _, c := range b {
		s = slow32(s, c)
	}
	return s
}

func slowUpdate16(s uint16, b []byte) uint16 {
	for _, c := range b {
		s = slow16(s, c)
	}
	return s
}

// numbers returns n numbers without a visible order, the same ones for the same seed.
func numbers(seed uint64, n int) []uint64 {
	l := make([]uint64, n)
	for i := range l {
		seed = seed*6364136223846793005 + 1442695040888963407
		l[i] = seed ^ seed>>29
	}
	return l
}

// sequence returns n bytes without a visible order, the same ones for the same seed.
func sequence(seed uint64, n int) []byte {
	b := make([]byte, n)
	for i, v := range numbers(seed, n) {
		b[i] = byte(v >> 40)
	}
	return b
}

// sequences returns short and long sequences, some of them of equal bytes.
func sequences() [][]byte {
	l := [][]byte{nil, {}, []byte("123456789")}
	for i, n := range []int{1, 2, 3, 4, 5, 7, 8, 9, 15, 16, 17, 64, 255, 256, 257, 4160, 70001} {
		l = append(l, sequence(uint64(i), n), make([]byte, n), bytes.Repeat([]byte{0xFF}, n))
	}
	return l
}

// states returns states of 32 bits: each bit alone, first and last ones, and some between. Their lower halves are states of CRC-16.
func states() []uint32 {
	l := []uint32{0, 0xFFFFFFFF, 0x12345678, 0x82F63B78, 0x8BB7, 0x48674BC7}
	for bit := range 32 {
		l = append(l, 1<<bit, ^uint32(1<<bit))
	}
	return l
}

// followed32 returns a sequence that is followed by its CRC-32C.
func followed32(b []byte) []byte {
	c := digest.CRC32C(b)
	return append(bytes.Clone(b), byte(c), byte(c>>8), byte(c>>16), byte(c>>24))
}

// followed16 returns a sequence that is followed by its CRC-16.
func followed16(b []byte) []byte {
	c := digest.CRC16(b)
	return append(bytes.Clone(b), byte(c>>8), byte(c))
}

// P2.1: the examples of the chapter and other known checksums.
func TestKnown(t *testing.T) {
	rising, falling := make([]byte, 32), make([]byte, 32)
	for i := range rising {
		rising[i], falling[31-i] = byte(i), byte(i)
	}
	for _, c := range []struct {
		b      []byte
		want32 uint32
		want16 uint16
	}{
		{nil, 0, 0},
		{[]byte{}, 0, 0},
		{[]byte{0}, 0x527D5351, 0},
		{[]byte{1}, 0xA016D052, 0x8BB7},
		{[]byte("a"), 0xC1D04330, 0xFAAE},
		{[]byte("123456789"), 0xE3069283, 0xD0DB},
		{make([]byte, 32), 0x8A9136AA, 0},
		{bytes.Repeat([]byte{0xFF}, 32), 0x62A8AB43, 0xA293},
		{rising, 0x46DD794E, 0x0224},
		{falling, 0x113FDB5C, 0xC39A},
	} {
		if x := digest.CRC32C(c.b); x != c.want32 {
			t.Errorf("CRC32C(%x): %08X, not %08X", c.b, x, c.want32)
		}
		if x := digest.CRC16(c.b); x != c.want16 {
			t.Errorf("CRC16(%x): %04X, not %04X", c.b, x, c.want16)
		}
	}
}

// P2.1: each byte alone.
func TestOneByte(t *testing.T) {
	for c := range 256 {
		b := []byte{byte(c)}
		if x, want := digest.CRC32C(b), ^slow32(0xFFFFFFFF, byte(c)); x != want {
			t.Errorf("CRC32C(%02X): %08X, not %08X", c, x, want)
		}
		if x, want := digest.CRC16(b), slow16(0, byte(c)); x != want {
			t.Errorf("CRC16(%02X): %04X, not %04X", c, x, want)
		}
	}
}

// P2.1: short and long sequences, compared with the definitions and with another implementation of CRC-32C.
func TestChecksums(t *testing.T) {
	other := crc32.MakeTable(crc32.Castagnoli)
	for _, b := range append(sequences(), sequence(99, 1<<20)) {
		want := ^slowUpdate32(0xFFFFFFFF, b)
		if x := digest.CRC32C(b); x != want || x != crc32.Checksum(b, other) {
			t.Errorf("CRC32C of %d bytes: %08X, not %08X", len(b), x, want)
		}
		if x, want := digest.CRC16(b), slowUpdate16(0, b); x != want {
			t.Errorf("CRC16 of %d bytes: %04X, not %04X", len(b), x, want)
		}
	}
}

// P2.2: a step with every byte from many states.
func TestSteps(t *testing.T) {
	for _, s := range states() {
		for c := range 256 {
			b := []byte{byte(c)}
			if x, want := digest.Update32(s, b), slow32(s, byte(c)); x != want {
				t.Errorf("Update32(%08X, %02X): %08X, not %08X", s, c, x, want)
			}
			if x, want := digest.Update16(uint16(s), b), slow16(uint16(s), byte(c)); x != want {
				t.Errorf("Update16(%04X, %02X): %04X, not %04X", uint16(s), c, x, want)
			}
		}
	}
}

// P2.2: a step from every state of CRC-16.
func TestStates16(t *testing.T) {
	for s := range 1 << 16 {
		b := []byte{byte(s * 31)}
		if x, want := digest.Update16(uint16(s), b), slow16(uint16(s), b[0]); x != want {
			t.Fatalf("Update16(%04X, %x): %04X, not %04X", s, b, x, want)
		}
	}
}

// P2.2: all bytes of a sequence, in order, from many states; no byte leaves the state as it is.
func TestUpdates(t *testing.T) {
	for _, s := range states() {
		for _, b := range sequences() {
			if len(b) > 300 {
				continue
			}
			if x, want := digest.Update32(s, b), slowUpdate32(s, b); x != want {
				t.Errorf("Update32(%08X, %d bytes): %08X, not %08X", s, len(b), x, want)
			}
			if x, want := digest.Update16(uint16(s), b), slowUpdate16(uint16(s), b); x != want {
				t.Errorf("Update16(%04X, %d bytes): %04X, not %04X", uint16(s), len(b), x, want)
			}
		}
		if x, y := digest.Update32(s, nil), digest.Update32(s, []byte{}); x != s || y != s {
			t.Errorf("Update32(%08X, no bytes): %08X %08X", s, x, y)
		}
		if x, y := digest.Update16(uint16(s), nil), digest.Update16(uint16(s), []byte{}); x != uint16(s) || y != uint16(s) {
			t.Errorf("Update16(%04X, no bytes): %04X %04X", uint16(s), x, y)
		}
	}
}

// P2.1 and P2.2: a checksum is an update from the first state.
func TestFirstStates(t *testing.T) {
	for _, b := range sequences() {
		if x, y := digest.CRC32C(b), ^digest.Update32(0xFFFFFFFF, b); x != y {
			t.Errorf("%d bytes: CRC32C %08X, Update32 %08X", len(b), x, y)
		}
		if x, y := digest.CRC16(b), digest.Update16(0, b); x != y {
			t.Errorf("%d bytes: CRC16 %04X, Update16 %04X", len(b), x, y)
		}
	}
}

// P2.3: no parts, empty parts, and parts of many lengths in their order.
func TestSums(t *testing.T) {
	var many, same [][]byte
	for i := range 500 {
		many = append(many, sequence(uint64(i), i%7), nil)
	}
	shared := sequence(5, 40)
	for range 3000 {
		same = append(same, shared[3:5])
	}
	for i, parts := range [][][]byte{
		nil, {}, {nil}, {{}}, {nil, {}, nil},
		{[]byte("123456789")}, {[]byte("1234"), []byte("56789")}, {nil, []byte("123456789"), {}},
		{[]byte("56789"), []byte("1234")}, {{0}, {0, 0}, {0}}, {{1}, {2}, {3}},
		sequences(), many, same, {shared[:30], shared[10:], shared},
	} {
		whole := bytes.Join(parts, nil)
		if x, want := digest.Sum32(parts...), ^slowUpdate32(0xFFFFFFFF, whole); x != want || x != digest.CRC32C(whole) {
			t.Errorf("list %d: Sum32 %08X, not %08X", i, x, want)
		}
		if x, want := digest.Sum16(parts...), slowUpdate16(0, whole); x != want || x != digest.CRC16(whole) {
			t.Errorf("list %d: Sum16 %04X, not %04X", i, x, want)
		}
	}
	if x, y := digest.Sum32(), digest.Sum16(); x != 0 || y != 0 {
		t.Errorf("no parts: %08X %04X", x, y)
	}
}

// P2.3: a sequence that is cut at every place.
func TestCuts(t *testing.T) {
	b := sequence(8, 150)
	x, y := digest.CRC32C(b), digest.CRC16(b)
	for i := range len(b) + 1 {
		for j := i; j <= len(b); j += 7 {
			if digest.Sum32(b[:i], b[i:j], b[j:]) != x || digest.Sum16(b[:i], b[i:j], b[j:]) != y {
				t.Errorf("cut at %d and %d", i, j)
			}
		}
	}
}

// P2.4: updating twice has the same effect as updating once with the concatenation.
func TestUpdateTwice(t *testing.T) {
	b := sequence(9, 120)
	for _, s := range states() {
		x, y := digest.Update32(s, b), digest.Update16(uint16(s), b)
		for i := range len(b) + 1 {
			if digest.Update32(digest.Update32(s, b[:i]), b[i:]) != x {
				t.Errorf("Update32 from %08X, cut at %d", s, i)
			}
			if digest.Update16(digest.Update16(uint16(s), b[:i]), b[i:]) != y {
				t.Errorf("Update16 from %04X, cut at %d", uint16(s), i)
			}
		}
	}
}

// P2.4: a sequence followed by its checksum.
func TestFollowedByChecksum(t *testing.T) {
	for _, b := range sequences() {
		if x := digest.CRC32C(followed32(b)); x != 0x48674BC7 {
			t.Errorf("%d bytes: CRC32C %08X", len(b), x)
		}
		if x := digest.CRC16(followed16(b)); x != 0 {
			t.Errorf("%d bytes: CRC16 %04X", len(b), x)
		}
	}
}

// flip returns b with the bits of pattern changed from the bit at on. The bits of a byte are counted in the order in which a checksum takes them: from the lowest one for CRC-32C, from the highest one for CRC-16.
func flip(b []byte, at int, pattern uint32, highest bool) []byte {
	b = bytes.Clone(b)
	for i := range 32 {
		bit := (at + i) % 8
		if highest {
			bit = 7 - bit
		}
		if pattern>>i&1 == 1 {
			b[(at+i)/8] ^= 1 << bit
		}
	}
	return b
}

// P2.4: changes of every width up to 32 bits, at every place of a sequence.
func TestChanged32(t *testing.T) {
	for _, n := range []int{1, 4, 5, 33} {
		b := sequence(uint64(n), n)
		x := digest.CRC32C(b)
		for width := 1; width <= min(32, 8*n); width++ {
			ones := ^uint32(0) >> (32 - width)
			for at := range 8*n - width + 1 {
				for _, v := range append(numbers(uint64(at*32+width), 4), 0, 1<<32-1) {
					pattern := (uint32(v) | 1 | 1<<(width-1)) & ones
					if digest.CRC32C(flip(b, at, pattern, false)) == x {
						t.Errorf("%d bytes, bits %d to %d: the change %X is not found", n, at, at+width-1, pattern)
					}
				}
			}
		}
	}
}

// P2.4: every change within 16 bits, at the beginning, in the middle and at the end of a sequence.
func TestChanged16(t *testing.T) {
	for _, n := range []int{2, 3, 24} {
		b := sequence(uint64(n), n)
		x := digest.CRC16(b)
		last := 8*n - 16
		for _, at := range []int{0, last / 2, last/2 + min(3, last/2), last} {
			for pattern := uint32(1); pattern < 1<<16; pattern++ {
				if digest.CRC16(flip(b, at, pattern, true)) == x {
					t.Errorf("%d bytes, from bit %d: the change %X is not found", n, at, pattern)
				}
			}
		}
	}
}

// P2.4: changes of a long sequence and of the checksum that follows it, at the beginning, in the middle and at the end.
func TestChangedLong(t *testing.T) {
	b := sequence(77, 4160)
	for i, v := range numbers(4, 60) {
		long32, long16 := followed32(b), followed16(b)
		pattern := uint32(v) | 1
		for _, at := range []int{i % 32, 8*2080 + i, 8*len(long32) - 32 - i} {
			if digest.CRC32C(flip(long32, at, pattern, false)) == 0x48674BC7 {
				t.Errorf("CRC32C, from bit %d: the change %X is not found", at, pattern)
			}
		}
		pattern &= 0xFFFF
		for _, at := range []int{i % 16, 8*2080 + i, 8*len(long16) - 16 - i} {
			if digest.CRC16(flip(long16, at, pattern, true)) == 0 {
				t.Errorf("CRC16, from bit %d: the change %X is not found", at, pattern)
			}
		}
	}
}

// P2.4: the exclusive or of three sequences.
func TestExclusiveOr(t *testing.T) {
	for _, n := range []int{0, 1, 2, 3, 4, 5, 31, 32, 1000} {
		a, b, c := sequence(1, n), sequence(2, n), sequence(3, n)
		all := make([]byte, n)
		for i := range all {
			all[i] = a[i] ^ b[i] ^ c[i]
		}
		if x, want := digest.CRC32C(all), digest.CRC32C(a)^digest.CRC32C(b)^digest.CRC32C(c); x != want {
			t.Errorf("%d bytes: CRC32C %08X, not %08X", n, x, want)
		}
		if x, want := digest.CRC16(all), digest.CRC16(a)^digest.CRC16(b)^digest.CRC16(c); x != want {
			t.Errorf("%d bytes: CRC16 %04X, not %04X", n, x, want)
		}
	}
}

// The document's rules: no byte of an argument is modified, not even behind its end, and no part is replaced.
func TestArgumentsStay(t *testing.T) {
	whole := sequence(11, 64)
	before := bytes.Clone(whole)
	b := whole[8:40]
	digest.CRC32C(b)
	digest.CRC16(b)
	digest.Update32(1, b)
	digest.Update16(1, b)
	parts := [][]byte{b, nil, whole[:3], {}}
	digest.Sum32(parts...)
	digest.Sum16(parts...)
	if !bytes.Equal(whole, before) {
		t.Errorf("%x became %x", before, whole)
	}
	if !slices.EqualFunc(parts, [][]byte{before[8:40], nil, before[:3], {}}, bytes.Equal) {
		t.Errorf("the parts became %x", parts)
	}
}

// The document's rules: a result depends on the arguments alone, not on earlier calls.
func TestNothingIsKept(t *testing.T) {
	b := []byte("123456789")
	for range 3 {
		if digest.CRC32C(b) != 0xE3069283 || digest.CRC16(b) != 0xD0DB || digest.Sum32() != 0 || digest.Sum16() != 0 {
			t.Error("a repeated call has another result")
		}
		digest.Update32(7, sequence(1, 20))
		digest.Update16(7, sequence(1, 20))
	}
	b[0]++
	if digest.CRC32C(b) == 0xE3069283 || digest.CRC16(b) == 0xD0DB {
		t.Error("a changed sequence has the old checksum")
	}
}
