package code_test

import (
	"bytes"
	"math"
	"math/rand/v2"
	"slices"
	"strings"
	"testing"

	"caucus/api"
	"caucus/code"
)

// wide is a wide number as the document tells it.
func wide(x uint64, size int) []byte {
	var b []byte
	for range size {
		b = append(b, byte(x%256))
		x /= 256
	}
	return b
}

// short is a short number as the document tells it.
func short(x uint64) []byte {
	var b []byte
	for x > 127 {
		b = append(b, byte(x%128+128))
		x /= 128
	}
	return append(b, byte(x))
}

// edges are the numbers at which a wide or a short one gets longer.
func edges() []uint64 {
	l := []uint64{0, 1, 2, math.MaxUint64 - 1, math.MaxUint64}
	for bit := range 64 {
		x := uint64(1) << bit
		l = append(l, x-1, x, x+1)
	}
	return l
}

// number is a random one; short ones are as likely as long ones.
func number(d *rand.Rand) uint64 { return d.Uint64() >> d.IntN(64) }

func random(d *rand.Rand, n int) []byte {
	b := make([]byte, n)
	for i := range b {
		b[i] = byte(d.Uint32())
	}
	return b
}

// call is one call of a Writer, with what it is handed, and the same one of a Reader.
type call struct {
	name string
	x    uint64
	b    []byte
}

var names = []string{"U8", "U16", "U32", "U64", "Uint", "Text", "Raw"}

var sizes = map[string]int{"U8": 1, "U16": 2, "U32": 4, "U64": 8}

func randomCall(d *rand.Rand) call {
	c := call{name: names[d.IntN(len(names))]}
	switch size, ok := sizes[c.name]; {
	case ok:
		c.x = number(d) >> (64 - 8*size)
	case c.name == "Uint":
		c.x = number(d)
	default:
		c.b = random(d, []int{0, 1, 5, 127, 128, 300}[d.IntN(6)])
	}
	return c
}

func (c call) write(w *code.Writer) {
	switch c.name {
	case "U8":
		w.U8(uint8(c.x))
	case "U16":
		w.U16(uint16(c.x))
	case "U32":
		w.U32(uint32(c.x))
	case "U64":
		w.U64(c.x)
	case "Uint":
		w.Uint(c.x)
	case "Text":
		w.Text(string(c.b))
	case "Raw":
		w.Raw(c.b)
	}
}

// form is what the call writes.
func (c call) form() []byte {
	size, ok := sizes[c.name]
	switch {
	case ok:
		return wide(c.x, size)
	case c.name == "Uint":
		return short(c.x)
	case c.name == "Text":
		return append(short(uint64(len(c.b))), c.b...)
	}
	return c.b
}

// read tells the call that would write what it takes of r.
func (c call) read(r *code.Reader) call {
	a := call{name: c.name}
	switch c.name {
	case "U8":
		a.x = uint64(r.U8())
	case "U16":
		a.x = uint64(r.U16())
	case "U32":
		a.x = uint64(r.U32())
	case "U64":
		a.x = r.U64()
	case "Uint":
		a.x = r.Uint()
	case "Text":
		a.b = []byte(r.Text(max(len(c.b), 1)))
	case "Raw":
		a.b = r.Raw(len(c.b))
	}
	return a
}

func (c call) same(a call) bool {
	return c.name == a.name && c.x == a.x && bytes.Equal(c.b, a.b)
}

// readsNothing tells a fault of the test if a call of r answers something, or takes something.
func readsNothing(t *testing.T, r *code.Reader) {
	t.Helper()
	left := r.Left()
	if r.U8() != 0 || r.U16() != 0 || r.U32() != 0 || r.U64() != 0 || r.Uint() != 0 {
		t.Error("a number was read")
	}
	if s := r.Text(100); s != "" {
		t.Errorf("a text was read: %q", s)
	}
	if b := r.Raw(1); b != nil {
		t.Errorf("bytes were read: %x", b)
	}
	if b := r.Raw(0); len(b) != 0 {
		t.Errorf("bytes were read: %x", b)
	}
	if r.Left() != left {
		t.Errorf("of %d bytes %d are left", left, r.Left())
	}
	if r.Err() != api.ErrForm || r.End() != api.ErrForm || r.Err() != api.ErrForm {
		t.Errorf("Err %d, End %d", r.Err(), r.End())
	}
}

// P2.1
func TestWriterWritesTheExample(t *testing.T) {
	w := code.NewWriter()
	w.U16(258)
	w.Uint(300)
	w.Put(1, 128)
	w.Text("ab")
	if b := w.Bytes(); string(b) != "\x02\x01\xac\x02\x01\x80\x01\x02ab" || w.Len() != 10 {
		t.Errorf("%x, of length %d", b, w.Len())
	}
}

// P2.1
func TestWriterWritesNumbers(t *testing.T) {
	for _, x := range edges() {
		for name, size := range sizes {
			c := call{name: name, x: x & (1<<(8*size) - 1)}
			w := code.NewWriter()
			c.write(w)
			if b := w.Bytes(); !bytes.Equal(b, wide(c.x, size)) || w.Len() != size {
				t.Errorf("%s(%d): %x, of length %d", name, c.x, b, w.Len())
			}
		}
		w := code.NewWriter()
		w.Uint(x)
		if b := w.Bytes(); !bytes.Equal(b, short(x)) || w.Len() != len(b) {
			t.Errorf("Uint(%d): %x, of length %d", x, b, w.Len())
		}
	}
	w := code.NewWriter()
	w.Uint(math.MaxUint64)
	if b := w.Bytes(); string(b) != "\xff\xff\xff\xff\xff\xff\xff\xff\xff\x01" {
		t.Errorf("Uint of the greatest number: %x", b)
	}
}

// P2.1
func TestWriterPutsNumbersInOrder(t *testing.T) {
	w := code.NewWriter()
	w.Put()
	if b := w.Bytes(); len(b) != 0 || w.Len() != 0 {
		t.Errorf("Put of none: %x", b)
	}
	var want []byte
	for _, x := range edges() {
		want = append(want, short(x)...)
	}
	w.Put(edges()...)
	if b := w.Bytes(); !bytes.Equal(b, want) || w.Len() != len(want) {
		t.Errorf("Put: %x, want %x", b, want)
	}
}

// P2.1
func TestWriterWritesTextsAndBytes(t *testing.T) {
	for _, n := range []int{0, 1, 127, 128, 16383, 16384, 70000} {
		s := strings.Repeat("x\x00\xff", n)[:n]
		w := code.NewWriter()
		w.Text(s)
		if want := string(short(uint64(n))) + s; string(w.Bytes()) != want || w.Len() != len(want) {
			t.Errorf("a text of %d bytes is not written as its number and itself", n)
		}
		w = code.NewWriter()
		w.Raw([]byte(s))
		if string(w.Bytes()) != s || w.Len() != n {
			t.Errorf("%d bytes are not written as they are", n)
		}
	}
	w := code.NewWriter()
	w.Raw(nil)
	if w.Len() != 0 {
		t.Error("no bytes are written as some")
	}
	w.Text("")
	if b := w.Bytes(); string(b) != "\x00" {
		t.Errorf("the empty text: %x", b)
	}
}

// P2.1
func TestWriterKeepsWhatItHad(t *testing.T) {
	d := rand.New(rand.NewPCG(2, 1))
	for range 300 {
		w := code.NewWriter()
		var want []byte
		for range d.IntN(12) {
			c := randomCall(d)
			c.write(w)
			want = append(want, c.form()...)
			if w.Len() != len(want) {
				t.Fatalf("behind %s: %d bytes, want %d", c.name, w.Len(), len(want))
			}
		}
		if b := w.Bytes(); !bytes.Equal(b, want) {
			t.Fatalf("%x, want %x", b, want)
		}
		if b := w.Bytes(); !bytes.Equal(b, want) {
			t.Fatalf("the second time: %x, want %x", b, want)
		}
	}
}

// P2.2
func TestReaderTakesFromTheFront(t *testing.T) {
	r := code.NewReader([]byte("\x07\x02\x01\x04\x03\x02\x01\x08\x07\x06\x05\x04\x03\x02\x01\xac\x02\x02abcd"))
	if r.Left() != 22 {
		t.Fatalf("at first %d bytes are left", r.Left())
	}
	if x := r.U8(); x != 7 || r.Left() != 21 {
		t.Errorf("U8: %d, left %d", x, r.Left())
	}
	if x := r.U16(); x != 0x0102 || r.Left() != 19 {
		t.Errorf("U16: %x, left %d", x, r.Left())
	}
	if x := r.U32(); x != 0x01020304 || r.Left() != 15 {
		t.Errorf("U32: %x, left %d", x, r.Left())
	}
	if x := r.U64(); x != 0x0102030405060708 || r.Left() != 7 {
		t.Errorf("U64: %x, left %d", x, r.Left())
	}
	if x := r.Uint(); x != 300 || r.Left() != 5 {
		t.Errorf("Uint: %d, left %d", x, r.Left())
	}
	if s := r.Text(2); s != "ab" || r.Left() != 2 {
		t.Errorf("Text: %q, left %d", s, r.Left())
	}
	if r.Err() != api.OK {
		t.Error("a fault while bytes are left")
	}
	if b := r.Raw(2); string(b) != "cd" || r.Left() != 0 {
		t.Errorf("Raw: %q, left %d", b, r.Left())
	}
	if r.Err() != api.OK || r.End() != api.OK {
		t.Error("a fault at the end")
	}
}

// P2.2, P2.3
func TestReaderWantsAllBytesOfAWideNumber(t *testing.T) {
	for name, size := range sizes {
		for n := range size {
			r := code.NewReader(bytes.Repeat([]byte{0xFF}, n))
			if a := (call{name: name}).read(r); a.x != 0 || r.Left() != n || r.Err() != api.ErrForm {
				t.Errorf("%s of %d bytes: %x, left %d, %d", name, n, a.x, r.Left(), r.Err())
			}
			readsNothing(t, r)
		}
		r := code.NewReader(bytes.Repeat([]byte{0xFF}, size))
		if a := (call{name: name}).read(r); a.x != math.MaxUint64>>(64-8*size) || r.End() != api.OK {
			t.Errorf("%s of the greatest number: %x, %d", name, a.x, r.Err())
		}
	}
}

// refusesShort tells a fault of the test if a short number, or a text, is read of b.
func refusesShort(t *testing.T, b string) {
	t.Helper()
	r := code.NewReader([]byte(b))
	if x := r.Uint(); x != 0 || r.Err() != api.ErrForm || r.Left() != len(b) {
		t.Errorf("Uint of %x: %d, %d, left %d", b, x, r.Err(), r.Left())
	}
	readsNothing(t, r)
	r = code.NewReader([]byte(b))
	if s := r.Text(math.MaxInt); s != "" || r.Err() != api.ErrForm || r.Left() != len(b) {
		t.Errorf("Text of %x: %q, %d, left %d", b, s, r.Err(), r.Left())
	}
	readsNothing(t, r)
}

// P2.2, P2.3
func TestReaderRefusesShortNumbersWithoutEnd(t *testing.T) {
	for groups := range 12 {
		refusesShort(t, strings.Repeat("\x80", groups))
		refusesShort(t, strings.Repeat("\xff", groups))
	}
}

// P2.2, P2.3
func TestReaderRefusesShortNumbersThatAreNone(t *testing.T) {
	nine := strings.Repeat("\xff", 9)
	for _, b := range []string{
		"\x80\x00", "\x81\x00", "\xff\x00", "\x80\x80\x00", "\xff\x80\x00", nine + "\x00", // one group too many
		nine + "\x02", nine + "\x03", nine + "\x7f", nine + "\x41", // beyond 64 bits
		nine + "\x81\x00", nine + "\x81\x01", nine + "\xff\x01", strings.Repeat("\x80", 10) + "\x01", // eleven groups
	} {
		refusesShort(t, b)
		refusesShort(t, b+"\x01\x02\x03")
	}
}

// P2.2
func TestReaderTakesShortNumbers(t *testing.T) {
	for _, x := range edges() {
		for _, behind := range []string{"", "\x00", "\x80\xff"} {
			r := code.NewReader([]byte(string(short(x)) + behind))
			if y := r.Uint(); y != x || r.Err() != api.OK || r.Left() != len(behind) {
				t.Errorf("Uint of %d: %d, %d, left %d", x, y, r.Err(), r.Left())
			}
		}
	}
}

// P2.2, P2.3
func TestReaderHoldsTextsToTheirMost(t *testing.T) {
	for _, c := range []struct {
		b    string
		most int
		s    string
		ok   bool
	}{
		{"\x00", 0, "", true},
		{"\x00", 5, "", true},
		{"\x00", -1, "", false},
		{"\x00", math.MinInt, "", false},
		{"\x02ab", 2, "ab", true},
		{"\x02ab", math.MaxInt, "ab", true},
		{"\x02ab", 1, "", false},
		{"\x02ab", 0, "", false},
		{"\x02ab", -2, "", false},
		{"\x02a", 2, "", false},
		{"\x02", 2, "", false},
		{"", 2, "", false},
		{"\x82\x00ab", 2, "", false},
		{"\x80\x01" + strings.Repeat("z", 128), 128, strings.Repeat("z", 128), true},
		{"\x80\x01" + strings.Repeat("z", 128), 127, "", false},
		{"\x80\x01" + strings.Repeat("z", 127), 128, "", false},
		{"\xff\xff\xff\xff\xff\xff\xff\xff\x7fab", math.MaxInt, "", false},
		{"\x80\x80\x80\x80\x80\x80\x80\x80\x80\x01ab", math.MaxInt, "", false},
		{"\xff\xff\xff\xff\xff\xff\xff\xff\xff\x01ab", math.MaxInt, "", false},
		{"\xff\xff\xff\xff\xff\xff\xff\xff\xff\x01ab", -1, "", false},
	} {
		r := code.NewReader([]byte(c.b))
		s := r.Text(c.most)
		if s != c.s || (r.Err() == api.OK) != c.ok {
			t.Errorf("%x: Text(%d): %q, %d", c.b, c.most, s, r.Err())
		}
		if c.ok && r.Left() != 0 {
			t.Errorf("%x: Text(%d): left %d", c.b, c.most, r.Left())
		}
		if !c.ok {
			if r.Left() != len(c.b) {
				t.Errorf("%x: Text(%d): a fault, and left %d", c.b, c.most, r.Left())
			}
			readsNothing(t, r)
		}
	}
	r := code.NewReader([]byte("\x02abc"))
	if s := r.Text(9); s != "ab" || r.Left() != 1 || r.Err() != api.OK {
		t.Errorf("a text with more behind it: %q, left %d, %d", s, r.Left(), r.Err())
	}
}

// P2.2, P2.3
func TestReaderTakesAsManyBytesAsThereAre(t *testing.T) {
	for _, n := range []int{-1, math.MinInt, 4, 5, math.MaxInt} {
		r := code.NewReader([]byte("abc"))
		if b := r.Raw(n); b != nil || r.Err() != api.ErrForm || r.Left() != 3 {
			t.Errorf("Raw(%d) of three bytes: %q, %d, left %d", n, b, r.Err(), r.Left())
		}
		readsNothing(t, r)
	}
	for n := range 4 {
		r := code.NewReader([]byte("abc"))
		if b := r.Raw(n); string(b) != "abc"[:n] || r.Err() != api.OK || r.Left() != 3-n {
			t.Errorf("Raw(%d) of three bytes: %q, %d, left %d", n, b, r.Err(), r.Left())
		}
	}
	r := code.NewReader(nil)
	if b := r.Raw(0); len(b) != 0 || r.End() != api.OK {
		t.Errorf("Raw(0) of no bytes: %x, %d", b, r.Err())
	}
}

// P2.3
func TestFaultsStay(t *testing.T) {
	r := code.NewReader([]byte{0x81, 0, 7})
	if x := r.Uint(); x != 0 || r.Left() != 3 || r.U8() != 0 || r.Err() != api.ErrForm {
		t.Errorf("behind a short number that is none: %d, left %d, %d", x, r.Left(), r.Err())
	}
	readsNothing(t, r)

	r = code.NewReader([]byte{1, 2, 3})
	r.U8()
	r.Fail()
	if r.Err() != api.ErrForm || r.Left() != 2 {
		t.Errorf("behind Fail: %d, left %d", r.Err(), r.Left())
	}
	readsNothing(t, r)
	r.Fail()
	readsNothing(t, r)

	r = code.NewReader([]byte{})
	r.Fail()
	if r.End() != api.ErrForm {
		t.Error("at its end, Fail leaves no fault")
	}
	readsNothing(t, r)
}

// P2.3
func TestEndIsAFaultWhereBytesAreLeft(t *testing.T) {
	r := code.NewReader([]byte{7, 8})
	if x := r.U8(); x != 7 || r.Err() != api.OK {
		t.Errorf("U8: %d, %d", x, r.Err())
	}
	if e := r.End(); e != api.ErrForm || r.Left() != 1 {
		t.Errorf("End: %d, left %d", e, r.Left())
	}
	readsNothing(t, r)

	r = code.NewReader([]byte{7})
	r.U8()
	if r.End() != api.OK || r.End() != api.OK || r.Err() != api.OK {
		t.Error("End, where nothing is left, is a fault")
	}
	if r.U8() != 0 || r.Err() != api.ErrForm || r.End() != api.ErrForm {
		t.Error("a fault behind End does not stay")
	}
}

// P2.4
func TestZeroOnes(t *testing.T) {
	var w code.Writer
	if b := w.Bytes(); len(b) != 0 || w.Len() != 0 {
		t.Errorf("a zero Writer has %x", b)
	}
	w.Text("a")
	if b := w.Bytes(); string(b) != "\x01a" || w.Len() != 2 {
		t.Errorf("a zero Writer took %x", b)
	}
	var r code.Reader
	if r.Left() != 0 || r.Err() != api.OK || r.End() != api.OK {
		t.Errorf("a zero Reader: left %d, %d, %d", r.Left(), r.Err(), r.End())
	}
	if b := r.Raw(0); len(b) != 0 || r.Err() != api.OK {
		t.Error("of a zero Reader no bytes are a fault")
	}
	if r.U8() != 0 || r.Err() != api.ErrForm {
		t.Error("of a zero Reader a byte is no fault")
	}
	readsNothing(t, &r)
	var f code.Reader
	f.Fail()
	readsNothing(t, &f)
}

// P2.4
func TestNilOnes(t *testing.T) {
	var w *code.Writer
	for _, name := range names {
		call{name: name, x: 5, b: []byte("abc")}.write(w)
	}
	w.Put(1, 2)
	w.Put()
	if b := w.Bytes(); b != nil || w.Len() != 0 {
		t.Errorf("a nil Writer has %x", b)
	}
	var r *code.Reader
	if r.Left() != 0 || r.Err() != api.ErrForm || r.End() != api.ErrForm {
		t.Errorf("a nil Reader: left %d, %d, %d", r.Left(), r.Err(), r.End())
	}
	r.Fail()
	readsNothing(t, r)
}

// P2.4
func TestWhatIsHandedInIsNotKept(t *testing.T) {
	room := []byte("abcd and more")
	whole := bytes.Clone(room)
	w := code.NewWriter()
	w.Raw(room[:4])
	w.U64(math.MaxUint64)
	r := code.NewReader(room[:4])
	if x := r.U8(); x != 'a' {
		t.Errorf("U8: %c", x)
	}
	if !bytes.Equal(room, whole) {
		t.Errorf("what was handed in was changed: %q", room)
	}
	clear(room)
	if b := w.Bytes(); string(b[:4]) != "abcd" {
		t.Errorf("what a Writer has changed along with what was handed in: %q", b[:4])
	}
	if b := r.Raw(3); string(b) != "bcd" {
		t.Errorf("what a Reader has changed along with what was handed in: %q", b)
	}
	l := []uint64{1, 2, 3, 4}
	w.Put(l[:3]...)
	if !slices.Equal(l, []uint64{1, 2, 3, 4}) {
		t.Errorf("Put changed what it was handed: %v", l)
	}
}

// P2.4
func TestWhatIsAnsweredIsNewMemory(t *testing.T) {
	w := code.NewWriter()
	w.Text("body")
	b := w.Bytes()
	clear(b[:cap(b)])
	if string(w.Bytes()) != "\x04body" {
		t.Errorf("what a Writer has changed along with what it answered: %q", w.Bytes())
	}
	b = w.Bytes()
	w.U8(7)
	if string(append(b, 9)) != "\x04body\x09" || string(w.Bytes()) != "\x04body\x07" {
		t.Errorf("the Writer and what it answered share their room: %q", w.Bytes())
	}

	given := []byte("abcdef")
	r := code.NewReader(given)
	first, none := r.Raw(2), r.Raw(0)
	second := r.Raw(2)
	_, _ = append(none, "xx"...), append(first, "yy"...)
	clear(first)
	if string(second) != "cd" || string(given) != "abcdef" {
		t.Errorf("what a Reader answered is not apart: %q, %q", second, given)
	}
	_ = append(second, "zz"...)
	clear(second[:cap(second)])
	if b := r.Raw(2); string(b) != "ef" {
		t.Errorf("what a Reader has changed along with what it answered: %q", b)
	}
}

// P2.5
func TestThereAndBack(t *testing.T) {
	d := rand.New(rand.NewPCG(2, 5))
	for range 500 {
		w := code.NewWriter()
		var l []call
		for range d.IntN(15) {
			l = append(l, randomCall(d))
			l[len(l)-1].write(w)
		}
		r := code.NewReader(w.Bytes())
		for _, c := range l {
			if a := c.read(r); !c.same(a) || r.Err() != api.OK {
				t.Fatalf("%v is read as %v, %d", c, a, r.Err())
			}
		}
		if e := r.End(); e != api.OK {
			t.Fatalf("behind %v: %d, left %d", l, e, r.Left())
		}
	}
}

// P2.5
func TestRowsThatArePutAreReadAsNumbers(t *testing.T) {
	w := code.NewWriter()
	w.Put(edges()...)
	r := code.NewReader(w.Bytes())
	for _, x := range edges() {
		if y := r.Uint(); y != x {
			t.Errorf("%d is read as %d", x, y)
		}
	}
	if r.End() != api.OK {
		t.Errorf("left %d", r.Left())
	}
}

// oneForm tells a fault of the test if what c reads of b without a fault is not, written, what it took.
func oneForm(t *testing.T, c call, b []byte) {
	t.Helper()
	r := code.NewReader(b)
	a := c.read(r)
	if r.Err() != api.OK {
		if r.Left() != len(b) || a.x != 0 || len(a.b) != 0 {
			t.Fatalf("%s of %x: a fault, and %v, left %d", c.name, b, a, r.Left())
		}
		return
	}
	w := code.NewWriter()
	a.write(w)
	if took := b[:len(b)-r.Left()]; !bytes.Equal(w.Bytes(), took) {
		t.Fatalf("%s of %x: takes %x, and writes %x", c.name, b, took, w.Bytes())
	}
}

// P2.6
func TestOneForm(t *testing.T) {
	for x := range 1 << 16 {
		oneForm(t, call{name: "Uint"}, []byte{byte(x), byte(x >> 8)})
		oneForm(t, call{name: "Uint"}, []byte{byte(x) | 0x80, byte(x >> 8), 1})
		oneForm(t, call{name: "Text", b: make([]byte, 300)}, []byte{byte(x), byte(x >> 8), 5})
	}
	d := rand.New(rand.NewPCG(2, 6))
	for range 100000 {
		c := randomCall(d)
		b := random(d, d.IntN(14))
		for i := range d.IntN(len(b) + 1) {
			b[i] |= 0x80 // so that numbers of many groups are tried
		}
		oneForm(t, c, b)
	}
}

// P2.7
func TestBeginningsAreNothing(t *testing.T) {
	d := rand.New(rand.NewPCG(2, 7))
	l := []call{{name: "U64"}, {name: "Uint", x: math.MaxUint64}, {name: "Text", b: make([]byte, 128)}, {name: "Text"}}
	for range 300 {
		l = append(l, randomCall(d))
	}
	for _, c := range l {
		for n := range c.form() {
			r := code.NewReader(c.form()[:n])
			if a := c.read(r); a.x != 0 || len(a.b) != 0 || r.Err() != api.ErrForm || r.Left() != n {
				t.Fatalf("of %v, the first %d bytes: %v, %d", c, n, a, r.Err())
			}
		}
	}
}

func put(l []uint64) []byte {
	w := code.NewWriter()
	w.Put(l...)
	return w.Bytes()
}

// P2.8
func TestRowsAreApart(t *testing.T) {
	d := rand.New(rand.NewPCG(2, 8))
	few := []uint64{0, 1, 127, 128, 129, 255, 256, 16383, 16384, math.MaxUint64}
	var rows [][]uint64
	for _, x := range few {
		rows = append(rows, []uint64{x})
		for _, y := range few {
			rows = append(rows, []uint64{x, y})
		}
	}
	rows = append(rows, nil)
	for range 400 {
		row := make([]uint64, d.IntN(5))
		for i := range row {
			row[i] = number(d)
		}
		rows = append(rows, row)
	}
	for _, a := range rows {
		for _, b := range rows {
			if slices.Equal(a, b) {
				continue
			}
			if x, y := put(a), put(b); bytes.Equal(x, y) || len(a) == len(b) && bytes.HasPrefix(x, y) {
				t.Fatalf("%v and %v: %x and %x", a, b, x, y)
			}
		}
	}
}
