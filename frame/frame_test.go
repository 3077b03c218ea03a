package frame_test

import (
	"bytes"
	"math"
	"math/rand/v2"
	"slices"
	"strings"
	"testing"

	"caucus/api"
	"caucus/frame"
	"caucus/sum"
)

// top is the greatest number that a frame may have.
const top = 1<<35 - 1

// hello is the chapter's first example.
func hello() api.Frame {
	return api.Frame{Kind: 1, From: 1, To: 2, Inc: 1, Conn: 3}
}

const helloBytes = "\x01\x01\x02\x01\x03\x00\x00\x00\x00"

// data is the chapter's second example.
func data() api.Frame {
	return api.Frame{Kind: 2, From: 2, To: 1, Inc: 1, Conn: 1, PeerInc: 1, PeerConn: 3, Seq: 300, Body: []byte("x")}
}

const dataBytes = "\x02\x02\x01\x01\x01\x01\x03\x00\xac\x02\x01\x78"

// greatest is a frame of as many bytes as may be.
func greatest() api.Frame {
	return api.Frame{Kind: 2, From: 10, To: 9, Inc: top, Conn: top, PeerInc: top, PeerConn: top, Ack: top, Seq: top, Body: bytes.Repeat([]byte{0xFF}, 448)}
}

// with is a frame in which some things are changed.
func with(f api.Frame, changes ...func(*api.Frame)) api.Frame {
	f.Body = bytes.Clone(f.Body)
	for _, change := range changes {
		change(&f)
	}
	return f
}

// alike tells whether two frames are the same; nil and empty bodies are one.
func alike(f, g api.Frame) bool {
	return f.Kind == g.Kind && f.From == g.From && f.To == g.To && f.Inc == g.Inc && f.Conn == g.Conn &&
		f.PeerInc == g.PeerInc && f.PeerConn == g.PeerConn && f.Ack == g.Ack && f.Seq == g.Seq && bytes.Equal(f.Body, g.Body)
}

// may tells, as the document does, whether a frame may be.
func may(f api.Frame) bool {
	if f.Kind != 1 && f.Kind != 2 || f.From < 1 || f.From > 10 || f.To < 1 || f.To > 10 || f.From == f.To {
		return false
	}
	if f.Inc > top || f.Conn > top || f.PeerInc > top || f.PeerConn > top || f.Ack > top || f.Seq > top {
		return false
	}
	if f.Inc == 0 || f.Conn == 0 {
		return false
	}
	both := f.PeerInc > 0 && f.PeerConn > 0
	none := f.PeerInc == 0 && f.PeerConn == 0 && f.Ack == 0
	if !both && !none {
		return false
	}
	if f.Kind == 1 {
		return f.Seq == 0 && len(f.Body) == 0
	}
	return f.Seq > 0 && f.PeerInc > 0 && len(f.Body) >= 1 && len(f.Body) <= 448
}

// short is a short number as the document tells it.
func short(x uint64) []byte {
	var b []byte
	for x > 127 {
		b = append(b, byte(x%128+128))
		x /= 128
	}
	return append(b, byte(x))
}

// bare are, as the document tells them, the bytes of a frame that are sealed, whether it may be or not.
func bare(f api.Frame) []byte {
	b := []byte{byte(f.Kind), byte(f.From), byte(f.To)}
	for _, x := range []uint64{f.Inc, f.Conn, f.PeerInc, f.PeerConn, f.Ack, f.Seq} {
		b = append(b, short(x)...)
	}
	if f.Kind == 2 {
		b = append(b, short(uint64(len(f.Body)))...)
		b = append(b, f.Body...)
	}
	return b
}

// sealed are bytes, and their sum.
func sealed(s string) []byte { return sum.Seal([]byte(s)) }

// told tells whether a frame's bytes would tell all of it: its small numbers are one byte each, and it has a body only where that is written.
func told(f api.Frame) bool {
	for _, n := range []int{f.Kind, f.From, f.To} {
		if n < 0 || n > 255 {
			return false
		}
	}
	return f.Kind == 2 || len(f.Body) == 0
}

// refused tells a fault if bytes are taken for a frame, or anything is told beside the error.
func refused(t *testing.T, what string, b []byte) {
	t.Helper()
	if f, err := frame.Decode(b); err != api.ErrForm || f.Body != nil || !alike(f, api.Frame{}) {
		t.Fatalf("%s: Decode(%x): %v, %d", what, b, f, err)
	}
}

// encoded are the bytes of a frame that may be.
func encoded(t *testing.T, f api.Frame) []byte {
	t.Helper()
	b, err := frame.Encode(f)
	if err != api.OK {
		t.Fatalf("Encode(%v): %d", f, err)
	}
	return b
}

// oneOf draws one of a few.
func oneOf[T any](d *rand.Rand, l ...T) T { return l[d.IntN(len(l))] }

// count is a random number above 0 that may be; short ones are as likely as long ones.
func count(d *rand.Rand) uint64 { return d.Uint64N(top)>>d.IntN(35) + 1 }

// some is a random frame that may be.
func some(d *rand.Rand) api.Frame {
	f := api.Frame{Kind: d.IntN(2) + 1, From: d.IntN(10) + 1, Inc: count(d), Conn: count(d)}
	f.To = (f.From+d.IntN(9))%10 + 1
	if f.Kind == 2 || d.IntN(2) == 0 {
		f.PeerInc, f.PeerConn, f.Ack = count(d), count(d), count(d)-1
	}
	if f.Kind == 2 {
		f.Seq, f.Body = count(d), make([]byte, oneOf(d, 1, 2, 127, 128, 447, 448, d.IntN(448)+1))
		for i := range f.Body {
			f.Body[i] = byte(d.Uint32())
		}
	}
	return f
}

// number is where one of a frame's numbers stands.
func number(f *api.Frame, i int) *uint64 {
	return []*uint64{&f.Inc, &f.Conn, &f.PeerInc, &f.PeerConn, &f.Ack, &f.Seq}[i]
}

// bent is a frame with one thing changed, so that many of them may not be.
func bent(d *rand.Rand, f api.Frame) api.Frame {
	f.Body = bytes.Clone(f.Body)
	switch d.IntN(5) {
	case 0:
		f.Kind = oneOf(d, -1, 0, 1, 2, 3, 255, 257, 258)
	case 1:
		f.From = oneOf(d, math.MinInt, -1, 0, 1, 10, 11, 255, 257, f.To)
	case 2:
		f.To = oneOf(d, math.MinInt, -1, 0, 1, 10, 11, 255, 258, f.From)
	case 3:
		*number(&f, d.IntN(6)) = oneOf[uint64](d, 0, 1, 2, 127, 128, top, top+1, 1<<35|1, math.MaxUint64)
	case 4:
		f.Body = make([]byte, oneOf(d, 0, 1, 448, 449, 450, 1000))
	}
	return f
}

// runs calls f with random frames: one that may be, and one that may not be, perhaps.
func runs(f func(d *rand.Rand, good, other api.Frame)) {
	d := rand.New(rand.NewPCG(5, 1))
	for range 20000 {
		good := some(d)
		f(d, good, bent(d, good))
	}
}

// P5.1
func TestMay(t *testing.T) {
	peer := func(inc, conn, ack uint64) func(*api.Frame) {
		return func(f *api.Frame) { f.PeerInc, f.PeerConn, f.Ack = inc, conn, ack }
	}
	ends := func(from, to int) func(*api.Frame) { return func(f *api.Frame) { f.From, f.To = from, to } }
	own := func(inc, conn uint64) func(*api.Frame) { return func(f *api.Frame) { f.Inc, f.Conn = inc, conn } }
	kind := func(k int) func(*api.Frame) { return func(f *api.Frame) { f.Kind = k } }
	seq := func(n uint64) func(*api.Frame) { return func(f *api.Frame) { f.Seq = n } }
	body := func(n int) func(*api.Frame) { return func(f *api.Frame) { f.Body = make([]byte, n) } }
	for _, c := range []struct {
		what string
		f    api.Frame
		want bool
	}{
		{"the zero frame", api.Frame{}, false},
		{"the hello of the examples", hello(), true},
		{"the data of the examples", data(), true},
		{"the greatest one", greatest(), true},
		{"kind 0, as a hello", with(hello(), kind(0)), false},
		{"kind 3, as a hello", with(hello(), kind(3)), false},
		{"kind 3, as data", with(data(), kind(3)), false},
		{"kind -1", with(hello(), kind(-1)), false},
		{"kind 257, one byte of which is a hello's", with(hello(), kind(257)), false},
		{"kind 258, one byte of which is data's", with(data(), kind(258)), false},
		{"a hello, but of data's kind", with(hello(), kind(2)), false},
		{"data, but of a hello's kind", with(data(), kind(1)), false},
		{"from 0", with(hello(), ends(0, 2)), false},
		{"to 0", with(hello(), ends(1, 0)), false},
		{"from -1", with(hello(), ends(-1, 2)), false},
		{"to the least number", with(hello(), ends(1, math.MinInt)), false},
		{"from 10", with(hello(), ends(10, 1)), true},
		{"to 10", with(hello(), ends(1, 10)), true},
		{"from 11", with(hello(), ends(11, 1)), false},
		{"to 11", with(hello(), ends(1, 11)), false},
		{"from 257", with(hello(), ends(257, 2)), false},
		{"to 258", with(hello(), ends(1, 258)), false},
		{"from 1 to 1", with(hello(), ends(1, 1)), false},
		{"from 10 to 10", with(data(), ends(10, 10)), false},
		{"the greatest life and connection", with(hello(), own(top, top)), true},
		{"life 2^35", with(hello(), own(top+1, 1)), false},
		{"connection 2^35", with(hello(), own(1, top+1)), false},
		{"the greatest life of all", with(hello(), own(math.MaxUint64, 1)), false},
		{"life 0", with(hello(), own(0, 1)), false},
		{"connection 0", with(hello(), own(1, 0)), false},
		{"data of life 0", with(data(), own(0, 1)), false},
		{"data of connection 0", with(data(), own(1, 0)), false},
		{"a peer", with(hello(), peer(1, 1, 0)), true},
		{"a peer, and bodies of it", with(hello(), peer(1, 1, 1)), true},
		{"the greatest peer", with(hello(), peer(top, top, top)), true},
		{"a peer's life alone", with(hello(), peer(1, 0, 0)), false},
		{"a peer's connection alone", with(hello(), peer(0, 1, 0)), false},
		{"an ack alone", with(hello(), peer(0, 0, 1)), false},
		{"an ack, and a life alone", with(hello(), peer(1, 0, 1)), false},
		{"an ack, and a connection alone", with(hello(), peer(0, 1, 1)), false},
		{"a peer's life 2^35", with(hello(), peer(top+1, 1, 0)), false},
		{"a peer's connection 2^35", with(hello(), peer(1, top+1, 0)), false},
		{"an ack of 2^35", with(hello(), peer(1, 1, top+1)), false},
		{"a hello with a number", with(hello(), seq(1)), false},
		{"a hello with a body", with(hello(), body(1)), false},
		{"a hello with both, and a peer", with(hello(), peer(1, 1, 0), seq(1), body(1)), false},
		{"a hello with an empty body", with(hello(), func(f *api.Frame) { f.Body = []byte{} }), true},
		{"data without a number", with(data(), seq(0)), false},
		{"data with the greatest number", with(data(), seq(top)), true},
		{"data with number 2^35", with(data(), seq(top+1)), false},
		{"data with the greatest number of all", with(data(), seq(math.MaxUint64)), false},
		{"data without a peer", with(data(), peer(0, 0, 0)), false},
		{"data without a peer's life", with(data(), peer(0, 3, 0)), false},
		{"data without a peer's connection", with(data(), peer(1, 0, 0)), false},
		{"data with an ack", with(data(), peer(1, 3, 9)), true},
		{"data without a body", with(data(), func(f *api.Frame) { f.Body = nil }), false},
		{"data with an empty body", with(data(), body(0)), false},
		{"data with 448 bytes", with(data(), body(448)), true},
		{"data with 449 bytes", with(data(), body(449)), false},
		{"data with a long body", with(data(), body(1<<16)), false},
	} {
		if got := frame.May(c.f); got != c.want || may(c.f) != c.want {
			t.Errorf("%s: %v", c.what, got)
		}
	}
}

// P5.1: all kinds, ends, numbers and bodies at which something changes, each with each.
func TestMayAtAllEdges(t *testing.T) {
	edges := []uint64{0, 1, top, top + 1}
	bodies := [][]byte{nil, make([]byte, 1), make([]byte, 448), make([]byte, 449)}
	allowed := 0
	for i := range 1 << 16 {
		f := api.Frame{From: 1, To: 10, Body: bodies[i>>14&3], Kind: i >> 12 & 3}
		for k := range 6 {
			*number(&f, k) = edges[i>>(2*k)&3]
		}
		if frame.May(f) != may(f) {
			t.Fatalf("May(%v): %v", f, !may(f))
		}
		if may(f) {
			allowed++
		}
	}
	if want := 4*(1+4*3) + 4*4*3*2*2; allowed != want {
		t.Errorf("%d may be, want %d", allowed, want)
	}
	for from := -2; from < 260; from++ {
		for to := -2; to < 260; to++ {
			f, g := hello(), data()
			f.From, f.To, g.From, g.To = from, to, from, to
			if frame.May(f) != may(f) || frame.May(g) != may(g) {
				t.Fatalf("from %d to %d: %v, %v", from, to, frame.May(f), frame.May(g))
			}
		}
	}
}

// P5.1, P5.2: of random frames.
func TestMayAndEncodeOfRandomFrames(t *testing.T) {
	seen := map[bool]int{}
	runs(func(d *rand.Rand, good, other api.Frame) {
		for _, f := range []api.Frame{good, other} {
			seen[may(f)]++
			if frame.May(f) != may(f) {
				t.Fatalf("May(%v): %v", f, !may(f))
			}
			b, err := frame.Encode(f)
			if !may(f) && (b != nil || err != api.ErrForm) || may(f) && (!bytes.Equal(b, sum.Seal(bare(f))) || err != api.OK) {
				t.Fatalf("Encode(%v): %x, %d", f, b, err)
			}
		}
	})
	if seen[true] < 10000 || seen[false] < 5000 {
		t.Errorf("frames of one kind alone: %v", seen)
	}
}

// P5.2, P5.3
func TestBytes(t *testing.T) {
	long := strings.Repeat("y", 448)
	for _, c := range []struct {
		f    api.Frame
		want string
	}{
		{hello(), helloBytes},
		{data(), dataBytes},
		{api.Frame{Kind: 1, From: 10, To: 9, Inc: 127, Conn: 128, PeerInc: 2, PeerConn: 3, Ack: 4}, "\x01\x0a\x09\x7f\x80\x01\x02\x03\x04\x00"},
		{api.Frame{Kind: 2, From: 3, To: 4, Inc: 5, Conn: 6, PeerInc: 7, PeerConn: 8, Ack: 9, Seq: 10, Body: []byte{0, 255}}, "\x02\x03\x04\x05\x06\x07\x08\x09\x0a\x02\x00\xff"},
		{api.Frame{Kind: 1, From: 1, To: 2, Inc: top, Conn: 1}, "\x01\x01\x02\xff\xff\xff\xff\x7f\x01\x00\x00\x00\x00"},
		{with(data(), func(f *api.Frame) { f.Body = []byte(long) }), dataBytes[:10] + "\xc0\x03" + long},
	} {
		if b := encoded(t, c.f); !bytes.Equal(b, sealed(c.want)) {
			t.Errorf("Encode(%v): %x", c.f, b)
		}
		if f, err := frame.Decode(sealed(c.want)); !alike(f, c.f) || err != api.OK {
			t.Errorf("Decode of %x, sealed: %v, %d", c.want, f, err)
		}
	}
	if f, err := frame.Decode(sealed(helloBytes)); f.Body != nil || err != api.OK {
		t.Errorf("a hello has a body: %v, %d", f.Body, err)
	}
}

// P5.2, R3: an empty body and none are one.
func TestEncodeOfAnEmptyBody(t *testing.T) {
	f := hello()
	f.Body = []byte{}
	if b, err := frame.Encode(f); !bytes.Equal(b, sealed(helloBytes)) || err != api.OK {
		t.Errorf("of a hello: %x, %d", b, err)
	}
	f = data()
	f.Body = []byte{}
	if b, err := frame.Encode(f); b != nil || err != api.ErrForm {
		t.Errorf("of data: %x, %d", b, err)
	}
}

// P5.3: what is sealed well, but is no frame's.
func TestDecodeRefuses(t *testing.T) {
	for what, s := range map[string]string{
		"nothing":                                 "",
		"kind 0":                                  "\x00" + helloBytes[1:],
		"kind 3":                                  "\x03" + helloBytes[1:],
		"kind 3, as data":                         "\x03" + dataBytes[1:],
		"kind 255":                                "\xff" + helloBytes[1:],
		"data of a hello's kind":                  "\x01" + dataBytes[1:],
		"a hello of data's kind":                  "\x02" + helloBytes[1:],
		"from 0":                                  "\x01\x00\x02\x01\x03\x00\x00\x00\x00",
		"to 0":                                    "\x01\x01\x00\x01\x03\x00\x00\x00\x00",
		"from 11":                                 "\x01\x0b\x02\x01\x03\x00\x00\x00\x00",
		"to 11":                                   "\x01\x01\x0b\x01\x03\x00\x00\x00\x00",
		"from 2 to 2":                             "\x01\x02\x02\x01\x03\x00\x00\x00\x00",
		"life 0":                                  "\x01\x01\x02\x00\x03\x00\x00\x00\x00",
		"connection 0":                            "\x01\x01\x02\x01\x00\x00\x00\x00\x00",
		"life 2^35":                               "\x01\x01\x02\x80\x80\x80\x80\x80\x01\x03\x00\x00\x00\x00",
		"a life of 64 bits":                       "\x01\x01\x02\xff\xff\xff\xff\xff\xff\xff\xff\xff\x01\x03\x00\x00\x00\x00",
		"a life beyond 64 bits":                   "\x01\x01\x02\x81\x80\x80\x80\x80\x80\x80\x80\x80\x02\x03\x00\x00\x00\x00",
		"a life of eleven groups":                 "\x01\x01\x02\x81\x80\x80\x80\x80\x80\x80\x80\x80\x80\x01\x03\x00\x00\x00\x00",
		"a life in more groups than it needs":     "\x01\x01\x02\x81\x00\x03\x00\x00\x00\x00",
		"a peer's life in more groups":            "\x01\x01\x02\x01\x03\x80\x00\x00\x00\x00",
		"a hello's number in more groups":         "\x01\x01\x02\x01\x03\x00\x00\x00\x80\x00",
		"a peer's life alone":                     "\x01\x01\x02\x01\x03\x01\x00\x00\x00",
		"a peer's connection alone":               "\x01\x01\x02\x01\x03\x00\x01\x00\x00",
		"an ack alone":                            "\x01\x01\x02\x01\x03\x00\x00\x01\x00",
		"a hello with a number":                   "\x01\x01\x02\x01\x03\x00\x00\x00\x01",
		"a hello with a number and a peer":        "\x01\x01\x02\x01\x03\x01\x01\x00\x01",
		"a hello with an empty text":              helloBytes + "\x00",
		"a hello with a body":                     helloBytes + "\x01x",
		"two hellos":                              helloBytes + helloBytes,
		"data without a peer":                     "\x02\x02\x01\x01\x01\x00\x00\x00\x01\x01x",
		"data without a number":                   "\x02\x02\x01\x01\x01\x01\x03\x00\x00\x01x",
		"data without a body":                     "\x02\x02\x01\x01\x01\x01\x03\x00\x01",
		"data with an empty body":                 "\x02\x02\x01\x01\x01\x01\x03\x00\x01\x00",
		"data with a body that ends early":        "\x02\x02\x01\x01\x01\x01\x03\x00\x01\x02x",
		"data with more than its body":            dataBytes + "y",
		"data with a nought more":                 dataBytes + "\x00",
		"a body's length in more groups":          "\x02\x02\x01\x01\x01\x01\x03\x00\x01\x81\x00x",
		"a body of 449 bytes":                     "\x02\x02\x01\x01\x01\x01\x03\x00\x01\xc1\x03" + strings.Repeat("x", 449),
		"a body of 448 bytes, told as 449":        "\x02\x02\x01\x01\x01\x01\x03\x00\x01\xc1\x03" + strings.Repeat("x", 448),
		"a body of very many bytes, not there":    "\x02\x02\x01\x01\x01\x01\x03\x00\x01\xff\xff\xff\xff\xff\xff\xff\xff\xff\x01x",
		"a body of many bytes, all of them there": "\x02\x02\x01\x01\x01\x01\x03\x00\x01\x80\x80\x04" + strings.Repeat("x", 1<<16),
		"a frame's bytes, sealed twice":           string(sealed(helloBytes)),
	} {
		refused(t, what, sealed(s))
	}
}

// P5.3: what is not sealed, or sealed otherwise.
func TestDecodeRefusesWhatIsNotSealed(t *testing.T) {
	refused(t, "nil", nil)
	for _, s := range []string{"", "\x00", "\x00\x00\x00", "\x00\x00\x00\x00", "\xff\xff\xff\xff", helloBytes, dataBytes, helloBytes + "\x00\x00\x00\x00"} {
		refused(t, "not sealed", []byte(s))
	}
	b := sealed(helloBytes)
	last := b[len(b)-4:]
	slices.Reverse(last)
	refused(t, "the sum's bytes turned about", b)
	refused(t, "the sum of something else", append([]byte(helloBytes), sealed(dataBytes)[len(dataBytes):]...))
	refused(t, "the sum ahead", append(sealed(helloBytes)[len(helloBytes):], helloBytes...))
}

// P5.3: of frames' fields as bytes, whether they may be or not.
func TestDecodeOfRandomFrames(t *testing.T) {
	seen := map[bool]int{}
	runs(func(d *rand.Rand, _, f api.Frame) {
		if !told(f) {
			return
		}
		seen[may(f)]++
		b := sum.Seal(bare(f))
		if !may(f) {
			refused(t, "random", b)
		} else if g, err := frame.Decode(b); !alike(f, g) || err != api.OK {
			t.Fatalf("Decode(%x): %v, %d", b, g, err)
		}
	})
	if seen[true] < 2000 || seen[false] < 2000 {
		t.Errorf("frames of one kind alone: %v", seen)
	}
}

// P5.3: neither a beginning of a frame's bytes nor more than them is a frame's, though it be sealed anew.
func TestDecodeOfBeginnings(t *testing.T) {
	d := rand.New(rand.NewPCG(5, 2))
	frames := []api.Frame{hello(), data(), greatest()}
	for range 20 {
		frames = append(frames, some(d))
	}
	for _, f := range frames {
		b := encoded(t, f)
		inner := b[:len(b)-4]
		for i := range b {
			refused(t, "a beginning", b[:i])
		}
		for i := range inner {
			refused(t, "a beginning, sealed", sum.Seal(inner[:i]))
		}
		for x := range 256 {
			refused(t, "a byte more", append(bytes.Clone(b), byte(x)))
			refused(t, "a byte more, sealed", sum.Seal(append(bytes.Clone(inner), byte(x))))
		}
	}
}

// P5.4
func TestWhatIsHandedInStays(t *testing.T) {
	room := []byte("bodyand more behind it")
	f := data()
	f.Body = room[:4]
	frame.May(f)
	b := encoded(t, f)
	if string(room) != "bodyand more behind it" {
		t.Errorf("Encode changed what it was handed, or the room behind it: %q", room)
	}
	for _, s := range [][]byte{b, b[:len(b)-1], sealed(helloBytes), sealed("\x01"), sealed("\x02\x02\x01\x01\x01\x01\x03\x00\x01\x02x")} {
		whole := append(bytes.Clone(s), "and more"...)
		frame.Decode(whole[:len(s)])
		if !bytes.Equal(whole, append(bytes.Clone(s), "and more"...)) {
			t.Errorf("Decode changed what it was handed, or the room behind it: %x", whole)
		}
	}
}

// P5.4
func TestWhatIsAnsweredIsNewMemory(t *testing.T) {
	f := data()
	f.Body = []byte("body")
	b := encoded(t, f)
	want := bytes.Clone(b)
	spoil(f.Body)
	if !bytes.Equal(b, want) {
		t.Errorf("the bytes changed along with the frame: %x", b)
	}
	one, _ := frame.Decode(b)
	other, _ := frame.Decode(b)
	spoil(one.Body)
	if !bytes.Equal(b, want) || string(other.Body) != "body" {
		t.Errorf("changed along with a body that was answered: %x, %q", b, other.Body)
	}
	spoil(b)
	if string(other.Body) != "body" {
		t.Errorf("the body changed along with the bytes: %q", other.Body)
	}
	f.Body = []byte("body")
	if again := encoded(t, f); !bytes.Equal(again, want) {
		t.Errorf("bytes changed along with those that were answered: %x", again)
	}
}

// spoil turns every bit of b, and of the room behind it.
func spoil(b []byte) {
	b = b[:cap(b)]
	for i := range b {
		b[i] ^= 0xFF
	}
}

// P5.5
func TestThereAndBack(t *testing.T) {
	if n := len(encoded(t, greatest())); n != 3+6*5+2+448+4 || n > 512 {
		t.Errorf("the greatest frame has %d bytes", n)
	}
	back := func(f api.Frame) {
		b := encoded(t, f)
		if len(b) > api.MaxFrame {
			t.Fatalf("%v has %d bytes", f, len(b))
		}
		if g, err := frame.Decode(b); !alike(f, g) || err != api.OK {
			t.Fatalf("%v comes back as %v, %d", f, g, err)
		}
	}
	back(greatest())
	for n := 1; n <= 448; n++ {
		back(with(data(), func(f *api.Frame) { f.Body = bytes.Repeat([]byte{byte(n)}, n) }))
	}
	runs(func(_ *rand.Rand, good, _ api.Frame) { back(good) })
}

// P5.6
func TestOneForm(t *testing.T) {
	seen := 0
	runs(func(d *rand.Rand, good, _ api.Frame) {
		inner := bare(good)
		for range d.IntN(3) + 1 {
			inner[d.IntN(min(len(inner), 24))] ^= byte(1 << d.IntN(8))
		}
		b := sum.Seal(inner)
		f, err := frame.Decode(b)
		if err != api.OK {
			refused(t, "spoilt and sealed", b)
			return
		}
		seen++
		if !may(f) || !bytes.Equal(encoded(t, f), b) {
			t.Fatalf("Decode(%x): %v", b, f)
		}
	})
	if seen < 1000 {
		t.Errorf("only %d frames were read", seen)
	}
}

// P5.7: each one, two and three bits of short frames.
func TestFewSpoiltBitsOfShortFrames(t *testing.T) {
	for _, f := range []api.Frame{hello(), data()} {
		b := encoded(t, f)
		for i := range 8 * len(b) {
			spoilt(t, b, i)
			for j := range i {
				spoilt(t, b, i, j)
				for k := range j {
					spoilt(t, b, i, j, k)
				}
			}
		}
	}
}

// P5.7: each bit of long frames, and random ones.
func TestFewSpoiltBitsOfLongFrames(t *testing.T) {
	b := encoded(t, greatest())
	end := 8 * len(b)
	for i := range end {
		spoilt(t, b, i)
		for _, j := range []int{(i + 1) % end, (i + 8) % end, (i + end/2) % end} {
			spoilt(t, b, i, j)
		}
	}
	d := rand.New(rand.NewPCG(5, 3))
	for range 20000 {
		l := d.Perm(end)[:3]
		spoilt(t, b, l[:2]...)
		spoilt(t, b, l...)
	}
}

// spoilt tells a fault if b is still a frame's where these bits are turned.
func spoilt(t *testing.T, b []byte, bits ...int) {
	t.Helper()
	turn(b, bits)
	refused(t, "spoilt", b)
	turn(b, bits)
}

func turn(b []byte, bits []int) {
	for _, i := range bits {
		b[i/8] ^= 1 << (i % 8)
	}
}

// P5.8: unlike frames have unlike bytes, those above all that differ in one thing, or in whose number is whose.
func TestApart(t *testing.T) {
	seen := map[string]api.Frame{}
	apart := func(f api.Frame) {
		b := string(encoded(t, f))
		if g, found := seen[b]; found && !alike(f, g) {
			t.Fatalf("%v and %v have the bytes %x", f, g, b)
		}
		seen[b] = f
	}
	small := []uint64{0, 1, 2, 128, 129}
	for i := range 5 * 5 * 5 * 5 * 5 * 5 {
		f := api.Frame{Kind: 1, From: 1, To: 2}
		for k := range 6 {
			*number(&f, k) = small[i%5]
			i /= 5
		}
		g := with(f, func(g *api.Frame) { g.Kind, g.Body = 2, []byte{1} })
		for _, f := range []api.Frame{f, g, with(g, func(g *api.Frame) { g.Body = []byte{1, 1} }), with(g, func(g *api.Frame) { g.From, g.To = 2, 1 })} {
			if may(f) {
				apart(f)
			}
		}
	}
	runs(func(_ *rand.Rand, good, other api.Frame) {
		apart(good)
		if may(other) {
			apart(other)
		}
	})
	if len(seen) < 20000 {
		t.Errorf("only %d frames", len(seen))
	}
}
