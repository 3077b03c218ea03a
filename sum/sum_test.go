package sum_test

import (
	"bytes"
	"testing"

	"caucus/sum"
)

// slow is the sum as the document tells it, bit by bit.
func slow(b []byte) uint32 {
	s := uint32(0xFFFFFFFF)
	for _, x := range b {
		s ^= uint32(x)
		for range 8 {
			out := s & 1
			s >>= 1
			if out == 1 {
				s ^= 0x82F63B78
			}
		}
	}
	return s ^ 0xFFFFFFFF
}

// dice throws numbers that are the same in every run.
type dice uint64

func (d *dice) below(n int) int {
	*d = *d*6364136223846793005 + 1442695040888963407
	return int(uint64(*d) >> 33 % uint64(n))
}

func (d *dice) bytes(n int) []byte {
	b := make([]byte, n)
	for i := range b {
		b[i] = byte(d.below(256))
	}
	return b
}

// turn turns bits of b, counted as the sum takes them: the lowest of each byte first.
func turn(b []byte, bits ...int) {
	for _, i := range bits {
		b[i/8] ^= 1 << (i % 8)
	}
}

// P1.1
func TestOfTellsKnownSums(t *testing.T) {
	up, down := make([]byte, 32), make([]byte, 32)
	for i := range up {
		up[i], down[i] = byte(i), byte(31-i)
	}
	for _, c := range []struct {
		of   []byte
		want uint32
	}{
		{nil, 0},
		{[]byte{}, 0},
		{[]byte("a"), 0xC1D04330},
		{[]byte("123456789"), 0xE3069283},
		{make([]byte, 32), 0x8A9136AA},
		{bytes.Repeat([]byte{0xFF}, 32), 0x62A8AB43},
		{up, 0x46DD794E},
		{down, 0x113FDB5C},
	} {
		if s := sum.Of(c.of); s != c.want {
			t.Errorf("Of(%x): %08x, want %08x", c.of, s, c.want)
		}
	}
}

// P1.1
func TestOfIsTheSumBitByBit(t *testing.T) {
	for x := range 256 {
		if b := []byte{byte(x)}; sum.Of(b) != slow(b) {
			t.Errorf("Of(%x): %08x, want %08x", b, sum.Of(b), slow(b))
		}
	}
	d := dice(1)
	for n := range 600 {
		if b := d.bytes(n); sum.Of(b) != slow(b) {
			t.Errorf("Of(%x): %08x, want %08x", b, sum.Of(b), slow(b))
		}
	}
}

// P1.1
func TestOfTakesPartsInTheirOrder(t *testing.T) {
	if s := sum.Of(); s != 0 {
		t.Errorf("Of(): %08x", s)
	}
	if s := sum.Of(nil, nil, []byte{}); s != 0 {
		t.Errorf("Of of empty parts: %08x", s)
	}
	if s := sum.Of([]byte("1234"), []byte(""), []byte("56789")); s != 0xE3069283 {
		t.Errorf("Of of three parts: %08x", s)
	}
	if sum.Of([]byte("56789"), []byte("1234")) != slow([]byte("567891234")) {
		t.Error("parts that are turned about are not taken as they stand")
	}
	if sum.Of(make([]byte, 1)) == sum.Of(make([]byte, 2)) {
		t.Error("one nought more makes no difference")
	}
}

// P1.5
func TestOfDoesNotHangOnCuts(t *testing.T) {
	d := dice(5)
	b := d.bytes(40)
	want := sum.Of(b)
	for i := range len(b) + 1 {
		for j := i; j <= len(b); j++ {
			if s := sum.Of(b[:i], b[i:j], b[j:]); s != want {
				t.Fatalf("cut at %d and %d: %08x, want %08x", i, j, s, want)
			}
		}
	}
	var single [][]byte
	for i := range b {
		single = append(single, b[i:i+1])
	}
	if s := sum.Of(single...); s != want {
		t.Errorf("byte by byte: %08x, want %08x", s, want)
	}
}

// P1.2
func TestSealPutsTheSumBehind(t *testing.T) {
	for _, b := range [][]byte{nil, {}} {
		if x := sum.Seal(b); !bytes.Equal(x, make([]byte, 4)) {
			t.Errorf("Seal of nothing: %x", x)
		}
	}
	if x := sum.Seal([]byte("a")); string(x) != "a\x30\x43\xd0\xc1" {
		t.Errorf("Seal(a): %x", x)
	}
	d := dice(2)
	for n := range 300 {
		b := d.bytes(n)
		s := slow(b)
		want := append(bytes.Clone(b), byte(s), byte(s>>8), byte(s>>16), byte(s>>24))
		if x := sum.Seal(b); !bytes.Equal(x, want) {
			t.Fatalf("Seal(%x): %x, want %x", b, x, want)
		}
	}
}

// P1.3, P1.6
func TestOpenTellsWhatWasSealed(t *testing.T) {
	if b, ok := sum.Open(make([]byte, 4)); len(b) != 0 || !ok {
		t.Errorf("Open of nothing that was sealed: %x, %v", b, ok)
	}
	if b, ok := sum.Open([]byte("a\x30\x43\xd0\xc1")); string(b) != "a" || !ok {
		t.Errorf("Open: %q, %v", b, ok)
	}
	d := dice(3)
	for _, n := range []int{0, 1, 2, 3, 4, 5, 64, 508, 4096, 65532, 65536, 1 << 20} {
		b := d.bytes(n)
		if x, ok := sum.Open(sum.Seal(b)); !ok || !bytes.Equal(x, b) {
			t.Errorf("of %d bytes: not opened as they were", n)
		}
		if x, ok := sum.Open(sum.Seal(sum.Seal(b))); !ok || !bytes.Equal(x, sum.Seal(b)) {
			t.Errorf("of %d bytes, sealed twice: not opened as they were sealed once", n)
		}
	}
}

// P1.3, R2
func TestOpenRefuses(t *testing.T) {
	for _, b := range [][]byte{
		nil,
		{},
		{0},
		{0, 0, 0},
		{0x61, 0x30, 0x43, 0xd0},
		{0x61, 0x30, 0x43, 0xd0, 0xc0},
		{0x61, 0xc1, 0xd0, 0x43, 0x30}, // the highest byte first
		{0x30, 0x43, 0xd0, 0xc1, 0x61}, // the sum ahead
		{0x62, 0x30, 0x43, 0xd0, 0xc1},
		{0, 0, 0, 0, 0},
		{0xFF, 0xFF, 0xFF, 0xFF},
		{1, 0, 0, 0},
	} {
		if x, ok := sum.Open(b); x != nil || ok {
			t.Errorf("Open(%x): %x, %v", b, x, ok)
		}
	}
	d := dice(4)
	sealed := sum.Seal(d.bytes(30))
	for n := range sealed {
		if x, ok := sum.Open(sealed[:n]); x != nil || ok {
			t.Errorf("Open of the first %d bytes: %x, %v", n, x, ok)
		}
	}
	if x, ok := sum.Open(append(sealed, 0)); x != nil || ok {
		t.Errorf("Open of one byte more: %x, %v", x, ok)
	}
}

// P1.4
func TestWhatIsHandedInStays(t *testing.T) {
	room := []byte("bodyand more behind it")
	whole := bytes.Clone(room)
	sum.Of(room[:4], room[4:7])
	sum.Seal(room[:4])
	if !bytes.Equal(room, whole) {
		t.Errorf("Seal or Of changed what it was handed, or the room behind it: %q", room)
	}
	room = append(sum.Seal([]byte("body")), "and more"...)
	whole = bytes.Clone(room)
	if _, ok := sum.Open(room[:8]); !ok {
		t.Error("not opened")
	}
	sum.Open(room[:7])
	if !bytes.Equal(room, whole) {
		t.Errorf("Open changed what it was handed, or the room behind it: %q", room)
	}
}

// P1.4
func TestWhatIsAnsweredIsNewMemory(t *testing.T) {
	room := append(make([]byte, 0, 64), "body"...)
	sealed := sum.Seal(room)
	want := bytes.Clone(sealed)
	spoil(room)
	if !bytes.Equal(sealed, want) {
		t.Errorf("what was sealed changed along with what was handed in: %x", sealed)
	}
	opened, _ := sum.Open(sealed)
	spoil(sealed)
	if string(opened) != "body" {
		t.Errorf("what was opened changed along with what was handed in: %q", opened)
	}
	sealed = bytes.Clone(want)
	opened, _ = sum.Open(sealed)
	spoil(opened)
	if !bytes.Equal(sealed, want) {
		t.Errorf("what was handed in changed along with what was opened: %x", sealed)
	}
}

// spoil turns every bit of b, and of the room behind it.
func spoil(b []byte) {
	b = b[:cap(b)]
	for i := range b {
		b[i] ^= 0xFF
	}
}

// P1.7: each one, two and three bits of short texts.
func TestFewSpoiltBitsAreSeenInShortTexts(t *testing.T) {
	d := dice(7)
	for _, n := range []int{0, 1, 5} {
		x := sum.Seal(d.bytes(n))
		for i := range 8 * len(x) {
			refused(t, x, i)
			for j := range i {
				refused(t, x, i, j)
				for k := range j {
					refused(t, x, i, j, k)
				}
			}
		}
	}
}

// P1.7: at the greatest length, of 65,536 bytes.
func TestFewSpoiltBitsAreSeenInLongTexts(t *testing.T) {
	d := dice(8)
	x := sum.Seal(d.bytes(65532))
	end := 8 * len(x)
	for _, l := range [][]int{{0}, {end - 1}, {end - 33}, {0, end - 1}, {0, 1, end - 1}, {end - 33, end - 32}} {
		refused(t, x, l...)
	}
	for range 300 {
		i, j, k := d.below(end), d.below(end), d.below(end)
		if i == j || j == k || i == k {
			continue
		}
		refused(t, x, i)
		refused(t, x, i, j)
		refused(t, x, i, j, k)
	}
}

// P1.7: any bits that lie within 32 side by side, in the order in which the sum takes them.
func TestSpoiltRunsAreSeen(t *testing.T) {
	d := dice(9)
	for _, n := range []int{0, 1, 8, 40} {
		x := sum.Seal(d.bytes(n))
		for at := range 8*len(x) - 31 {
			spoiltRun(t, x, at, 0xFFFFFFFF)
			spoiltRun(t, x, at, 0x80000001)
			spoiltRun(t, x, at, 0x82F63B78)
			for range 40 {
				spoiltRun(t, x, at, uint32(d.below(1<<31))<<1|1)
			}
		}
	}
	x := sum.Seal(d.bytes(65532))
	for range 100 {
		spoiltRun(t, x, d.below(8*len(x)-31), uint32(d.below(1<<31))<<1|1)
	}
}

// spoiltRun turns, of the 32 bits from at on, those that are set in which.
func spoiltRun(t *testing.T, x []byte, at int, which uint32) {
	t.Helper()
	var bits []int
	for i := range 32 {
		if which>>i&1 == 1 {
			bits = append(bits, at+i)
		}
	}
	refused(t, x, bits...)
}

// refused tells a fault if x is still opened where these bits are turned.
func refused(t *testing.T, x []byte, bits ...int) {
	t.Helper()
	turn(x, bits...)
	if b, ok := sum.Open(x); b != nil || ok {
		t.Fatalf("of %d bytes, bits %v turned: opened", len(x), bits)
	}
	turn(x, bits...)
}

// P1.8
func TestSumsGoBitByBit(t *testing.T) {
	d := dice(10)
	for n := range 300 {
		a, b, both := d.bytes(n), d.bytes(n), make([]byte, n)
		for i := range both {
			both[i] = a[i] ^ b[i]
		}
		if s, want := sum.Of(both), sum.Of(a)^sum.Of(b)^sum.Of(make([]byte, n)); s != want {
			t.Fatalf("of %d bytes taken together: %08x, want %08x", n, s, want)
		}
	}
}
