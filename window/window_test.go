package window_test

import (
	"bytes"
	"math"
	"math/rand/v2"
	"strconv"
	"strings"
	"testing"

	"caucus/api"
	"caucus/window"
)

// top is the greatest number that a body may have.
const top = 1<<35 - 1

// numbers are those at whose side something turns.
var numbers = []uint64{0, 1, 2, 7, 8, 9, 47, 48, 49, top - 49, top - 48, top - 47, top - 9, top - 8, top - 7, top - 1, top, top + 1, top + 2, 1 << 63, math.MaxUint64 - 48, math.MaxUint64 - 47, math.MaxUint64 - 8, math.MaxUint64 - 7, math.MaxUint64 - 1, math.MaxUint64}

// texts are bodies of these bytes.
func texts(l ...string) [][]byte {
	var box [][]byte
	for _, s := range l {
		box = append(box, []byte(s))
	}
	return box
}

// filled is a sender with n bodies in its box, all unlike one another.
func filled(base uint64, n int) api.Sender {
	s := api.Sender{Base: base}
	for i := range n {
		s.Box = append(s.Box, []byte("body "+strconv.Itoa(i)))
	}
	return s
}

// clone is a sender that shares nothing with s.
func clone(s api.Sender) api.Sender {
	t := api.Sender{Base: s.Base}
	for _, body := range s.Box {
		t.Box = append(t.Box, bytes.Clone(body))
	}
	return t
}

// alike tells whether two boxes hold the same; nil and empty lists are one.
func alike(a, b [][]byte) bool {
	if len(a) != len(b) {
		return false
	}
	for i := range a {
		if !bytes.Equal(a[i], b[i]) {
			return false
		}
	}
	return true
}

// same tells whether two senders are.
func same(a, b api.Sender) bool { return a.Base == b.Base && alike(a.Box, b.Box) }

// mayBe tells, as the document does, whether a sender may be.
func mayBe(s api.Sender) bool {
	if len(s.Box) > 48 {
		return false
	}
	for _, body := range s.Box {
		if len(body) == 0 || len(body) > 448 {
			return false
		}
	}
	return s.Base <= top && s.Base+uint64(len(s.Box)) <= top
}

// pushed tells what the document says of a Push.
func pushed(s api.Sender, body []byte) (api.Sender, api.Errno) {
	if !mayBe(s) {
		return api.Sender{}, api.ErrArg
	}
	if len(body) == 0 || len(body) > 448 {
		return api.Sender{}, api.ErrLong
	}
	if len(s.Box) == 48 || s.Base+uint64(len(s.Box))+1 > top {
		return api.Sender{}, api.ErrFull
	}
	t := clone(s)
	t.Box = append(t.Box, body)
	return t, api.OK
}

// acked tells what the document says of an Acked.
func acked(s api.Sender, upto uint64) (api.Sender, bool) {
	if mayBe(s) {
		for n := 1; n <= 8 && n <= len(s.Box); n++ {
			if upto == s.Base+uint64(n) {
				return api.Sender{Base: upto, Box: s.Box[n:]}, true
			}
		}
	}
	return s, false
}

// dueOf tells the bodies that are due, as the document says; their numbers go on from Base + 1.
func dueOf(s api.Sender) [][]byte {
	if !mayBe(s) {
		return nil
	}
	if len(s.Box) > 8 {
		return s.Box[:8]
	}
	return s.Box
}

// gone tells what Due goes over: bodies, and their numbers.
func gone(s api.Sender) (seqs []uint64, box [][]byte) {
	for seq, body := range window.Due(s) {
		seqs, box = append(seqs, seq), append(box, body)
	}
	return seqs, box
}

// push is a Push that must go well.
func push(t *testing.T, s api.Sender, bodies ...[]byte) api.Sender {
	t.Helper()
	for _, body := range bodies {
		next, err := window.Push(s, body)
		if err != api.OK {
			t.Fatalf("Push to %d bodies behind %d: %d", len(s.Box), s.Base, err)
		}
		s = next
	}
	return s
}

// checkPush holds a Push against the document.
func checkPush(t *testing.T, s api.Sender, body []byte) api.Errno {
	t.Helper()
	want, fault := pushed(s, body)
	if got, err := window.Push(s, body); !same(got, want) || err != fault {
		t.Errorf("Push of %d bytes to %d bodies behind %d: %d behind %d, %d; not %d behind %d, %d",
			len(body), len(s.Box), s.Base, len(got.Box), got.Base, err, len(want.Box), want.Base, fault)
	}
	return fault
}

// checkDue holds what is due against the document.
func checkDue(t *testing.T, s api.Sender) int {
	t.Helper()
	want := dueOf(s)
	seqs, box := gone(s)
	if !alike(box, want) {
		t.Errorf("due of %d bodies behind %d: %q, not %q", len(s.Box), s.Base, box, want)
	}
	for i, seq := range seqs {
		if seq != s.Base+uint64(i)+1 {
			t.Errorf("due of %d bodies behind %d: numbers %d", len(s.Box), s.Base, seqs)
		}
	}
	return len(want)
}

// checkAcked holds an Acked against the document.
func checkAcked(t *testing.T, s api.Sender, upto uint64) bool {
	t.Helper()
	want, ok := acked(s, upto)
	if got, was := window.Acked(s, upto); !same(got, want) || was != ok {
		t.Errorf("Acked(%d bodies behind %d, %d): %d behind %d, %v; not %d behind %d, %v",
			len(s.Box), s.Base, upto, len(got.Box), got.Base, was, len(want.Box), want.Base, ok)
	}
	return ok
}

// The chapter's examples: P7.1 to P7.4.
func TestExamples(t *testing.T) {
	s := push(t, api.Sender{}, texts("a", "b")...)
	if s.Base != 0 || !alike(s.Box, texts("a", "b")) {
		t.Errorf("a and b pushed: %v", s)
	}
	if seqs, box := gone(s); len(seqs) != 2 || seqs[0] != 1 || seqs[1] != 2 || !alike(box, texts("a", "b")) {
		t.Errorf("a and b pushed: due %d, %q", seqs, box)
	}
	u, ok := window.Acked(s, 1)
	if seqs, box := gone(u); !ok || len(seqs) != 1 || seqs[0] != 2 || !alike(box, texts("b")) {
		t.Errorf("1 acknowledged: %v, due %d, %q", ok, seqs, box)
	}
	if v, ok := window.Acked(u, 3); ok || v.Base != 1 || !alike(v.Box, texts("b")) {
		t.Errorf("3 acknowledged, where 2 is the last one: %v, %v", v, ok)
	}
	for _, c := range []struct {
		got, seq, want uint64
		ok             bool
	}{{0, 2, 0, false}, {0, 1, 1, true}, {1, 1, 1, false}} {
		if r, ok := window.Take(api.Receiver{Got: c.got}, c.seq); r.Got != c.want || ok != c.ok {
			t.Errorf("Take(Got %d, %d): %d, %v", c.got, c.seq, r.Got, ok)
		}
	}
	for _, c := range []struct {
		s    api.Sender
		body []byte
		err  api.Errno
	}{
		{api.Sender{}, nil, api.ErrLong},
		{api.Sender{}, []byte{}, api.ErrLong},
		{api.Sender{}, make([]byte, 449), api.ErrLong},
		{filled(0, 48), []byte("x"), api.ErrFull},
	} {
		if got, err := window.Push(c.s, c.body); err != c.err || got.Base != 0 || len(got.Box) != 0 {
			t.Errorf("Push of %d bytes behind %d bodies: %v, %d", len(c.body), len(c.s.Box), got, err)
		}
	}
}

// P7.1
func TestPush(t *testing.T) {
	for _, n := range []int{1, 2, 447, 448} {
		body := bytes.Repeat([]byte{0xA5}, n)
		if s, err := window.Push(api.Sender{Base: 3, Box: texts("x")}, body); err != api.OK || s.Base != 3 || !alike(s.Box, [][]byte{[]byte("x"), body}) {
			t.Errorf("Push of %d bytes: %v, %d", n, s, err)
		}
	}
	for _, n := range []int{0, 449, 450, 512, 1 << 16} {
		if s, err := window.Push(filled(3, 1), make([]byte, n)); err != api.ErrLong || !same(s, api.Sender{}) {
			t.Errorf("Push of %d bytes: %v, %d", n, s, err)
		}
	}
	s := api.Sender{}
	for n := range 48 {
		s = push(t, s, []byte("body "+strconv.Itoa(n)))
		if !same(s, filled(0, n+1)) {
			t.Fatalf("%d were pushed: %q", n+1, s.Box)
		}
	}
	if u, err := window.Push(s, []byte("x")); err != api.ErrFull || !same(u, api.Sender{}) {
		t.Errorf("Push of the 49th: %v, %d", u, err)
	}
}

// P7.1: the last body that there may be has the number MaxCount.
func TestPushOfTheLastOnes(t *testing.T) {
	for n := range 48 {
		base := uint64(top - n)
		if u, err := window.Push(filled(base, n), []byte("x")); err != api.ErrFull || !same(u, api.Sender{}) {
			t.Errorf("Push behind %d bodies behind %d: %v, %d", n, base, u, err)
		}
		if u := push(t, filled(base-1, n), []byte("x")); u.Base != base-1 || len(u.Box) != n+1 || string(u.Box[n]) != "x" {
			t.Errorf("Push behind %d bodies behind %d: %v", n, base-1, u)
		}
	}
}

// P7.1: of several errors the one that is named first.
func TestPushTellsTheFirstError(t *testing.T) {
	for _, body := range [][]byte{nil, []byte("x"), make([]byte, 448), make([]byte, 449)} {
		for _, s := range []api.Sender{filled(0, 49), filled(top, 1), filled(top+1, 0), {Box: [][]byte{nil}}} {
			if u, err := window.Push(s, body); err != api.ErrArg || !same(u, api.Sender{}) {
				t.Errorf("Push of %d bytes to %d bodies behind %d: %v, %d", len(body), len(s.Box), s.Base, u, err)
			}
		}
	}
	for _, body := range [][]byte{nil, make([]byte, 449)} {
		for _, s := range []api.Sender{filled(0, 48), filled(top, 0), filled(top-48, 48)} {
			if u, err := window.Push(s, body); err != api.ErrLong || !same(u, api.Sender{}) {
				t.Errorf("Push of %d bytes to %d bodies behind %d: %v, %d", len(body), len(s.Box), s.Base, u, err)
			}
		}
	}
}

// P7.1 to P7.3: at all edges of Base and of how many bodies there are.
func TestAtAllEdges(t *testing.T) {
	seen := map[api.Errno]int{}
	due, taken := map[int]int{}, map[bool]int{}
	for _, base := range numbers {
		for n := range 58 {
			s := filled(base, n)
			for _, body := range [][]byte{nil, []byte("x"), make([]byte, 448), make([]byte, 449)} {
				seen[checkPush(t, s, body)]++
			}
			due[checkDue(t, s)]++
			for d := range uint64(60) {
				taken[checkAcked(t, s, base+d)]++
				taken[checkAcked(t, s, base-d)]++
			}
			for _, upto := range numbers {
				taken[checkAcked(t, s, upto)]++
			}
		}
	}
	if seen[api.OK] == 0 || seen[api.ErrArg] == 0 || seen[api.ErrLong] == 0 || seen[api.ErrFull] == 0 || len(due) != 9 || len(taken) != 2 {
		t.Errorf("not all was seen: %v, %v, %v", seen, due, taken)
	}
}

// wrong are senders that may not be.
func wrong() []api.Sender {
	l := []api.Sender{filled(0, 49), filled(7, 1000), filled(top, 1), filled(top-47, 48), filled(top+1, 0), filled(1<<63, 3),
		filled(math.MaxUint64, 0), filled(math.MaxUint64, 1), filled(math.MaxUint64, 2), filled(math.MaxUint64-7, 9), filled(math.MaxUint64-40, 48)}
	for _, n := range []int{1, 2, 8, 9, 48} {
		for _, at := range []int{0, n / 2, n - 1} {
			for _, body := range [][]byte{nil, {}, make([]byte, 449), make([]byte, 5000)} {
				s := filled(5, n)
				s.Box[at] = body
				l = append(l, s)
			}
		}
	}
	return l
}

// P7.1 to P7.3: of senders that may not be.
func TestOfWhatMayNotBe(t *testing.T) {
	for _, s := range wrong() {
		was := clone(s)
		if u, err := window.Push(s, []byte("x")); err != api.ErrArg || !same(u, api.Sender{}) {
			t.Errorf("Push to %d bodies behind %d: %v, %d", len(s.Box), s.Base, u, err)
		}
		if seqs, box := gone(s); len(seqs) != 0 || len(box) != 0 {
			t.Errorf("due of %d bodies behind %d: %d", len(s.Box), s.Base, seqs)
		}
		for d := range uint64(12) {
			if u, ok := window.Acked(s, s.Base+d); ok || !same(u, was) {
				t.Errorf("Acked(%d bodies behind %d, %d): %d behind %d, %v", len(s.Box), s.Base, s.Base+d, len(u.Box), u.Base, ok)
			}
		}
	}
}

// P7.1 to P7.3: of senders with bodies of the greatest and the smallest length.
func TestOfLongBodies(t *testing.T) {
	for _, n := range []int{1, 8, 9, 47, 48} {
		s := filled(9, n)
		for i := range s.Box {
			s.Box[i] = bytes.Repeat([]byte{byte(i)}, 1+i%2*447)
		}
		if n < 48 {
			if u := push(t, s, []byte("x")); !alike(u.Box[:n], s.Box) || string(u.Box[n]) != "x" {
				t.Errorf("Push to %d bodies: %q", n, u.Box)
			}
		}
		if _, box := gone(s); !alike(box, s.Box[:min(n, 8)]) {
			t.Errorf("due of %d bodies: %q", n, box)
		}
		if u, ok := window.Acked(s, 10); !ok || u.Base != 10 || !alike(u.Box, s.Box[1:]) {
			t.Errorf("Acked of %d bodies: %q, %v", n, u.Box, ok)
		}
	}
}

// P7.2
func TestDue(t *testing.T) {
	for _, base := range []uint64{0, 1, 300, top - 48} {
		for n := range 49 {
			s := filled(base, n)
			seqs, box := gone(s)
			if len(seqs) != min(n, 8) || !alike(box, s.Box[:min(n, 8)]) {
				t.Errorf("due of %d bodies behind %d: %d, %q", n, base, seqs, box)
			}
			for i, seq := range seqs {
				if seq != base+1+uint64(i) {
					t.Errorf("due of %d bodies behind %d: %d", n, base, seqs)
				}
			}
		}
	}
}

// P7.2: one may stop at any of them, and go over them anew.
func TestDueStops(t *testing.T) {
	all := window.Due(filled(20, 12))
	for most := 1; most <= 9; most++ {
		var seqs []uint64
		for seq := range all {
			seqs = append(seqs, seq)
			if len(seqs) == most {
				break
			}
		}
		if len(seqs) != min(most, 8) || seqs[0] != 21 || seqs[len(seqs)-1] != 20+uint64(len(seqs)) {
			t.Errorf("stopped at %d: %d", most, seqs)
		}
	}
}

// P7.2: whoever goes over them within going over them sees them all.
func TestDueWithinDue(t *testing.T) {
	n := 0
	all := window.Due(filled(0, 10))
	for a := range all {
		inner := uint64(0)
		for b := range all {
			if inner++; b != inner {
				t.Errorf("within %d: %d, not %d", a, b, inner)
			}
			n++
		}
	}
	if n != 64 {
		t.Errorf("%d pairs", n)
	}
}

// P7.3
func TestAcked(t *testing.T) {
	s := filled(100, 11)
	for upto := uint64(101); upto <= 108; upto++ {
		if u, ok := window.Acked(s, upto); !ok || u.Base != upto || !alike(u.Box, s.Box[upto-100:]) {
			t.Errorf("up to %d: %d behind %d, %v", upto, len(u.Box), u.Base, ok)
		}
	}
	for _, upto := range []uint64{0, 1, 8, 99, 100, 109, 110, 111, 112, 101 + 1<<32, math.MaxUint64} {
		if u, ok := window.Acked(s, upto); ok || !same(u, s) {
			t.Errorf("up to %d: %d behind %d, %v", upto, len(u.Box), u.Base, ok)
		}
	}
	for _, base := range []uint64{0, 5, top} {
		for _, upto := range numbers {
			if u, ok := window.Acked(api.Sender{Base: base}, upto); ok || u.Base != base || len(u.Box) != 0 {
				t.Errorf("of none behind %d up to %d: %v, %v", base, upto, u, ok)
			}
		}
	}
	if u, ok := window.Acked(filled(top-3, 3), top); !ok || u.Base != top || len(u.Box) != 0 {
		t.Errorf("up to the last one there may be: %v, %v", u, ok)
	}
}

// P7.4
func TestTake(t *testing.T) {
	for _, got := range []uint64{0, 1, 6, 1 << 32, top - 2, top - 1} {
		if r, ok := window.Take(api.Receiver{Got: got}, got+1); !ok || r.Got != got+1 {
			t.Errorf("Take(Got %d, %d): %v, %v", got, got+1, r, ok)
		}
	}
	for _, got := range numbers {
		for _, seq := range numbers {
			want, next := got, got <= top-1 && seq <= top && seq-1 == got
			if next {
				want = seq
			}
			if r, ok := window.Take(api.Receiver{Got: got}, seq); r.Got != want || ok != next {
				t.Errorf("Take(Got %d, %d): %d, %v", got, seq, r.Got, ok)
			}
		}
	}
	for _, got := range []uint64{top, top + 1, 1 << 63, math.MaxUint64 - 1, math.MaxUint64} {
		for _, seq := range []uint64{0, 1, got, got + 1, got + 2} {
			if r, ok := window.Take(api.Receiver{Got: got}, seq); ok || r.Got != got {
				t.Errorf("Take(Got %d, %d): %d, %v", got, seq, r.Got, ok)
			}
		}
	}
}

// random is a sender, often one that may not be.
func random(r *rand.Rand) api.Sender {
	s := api.Sender{Base: numbers[r.IntN(len(numbers))] + r.Uint64N(50)}
	if r.IntN(2) == 0 {
		s.Base = r.Uint64N(top - 50)
	}
	for range r.IntN(51) {
		s.Box = append(s.Box, randomBody(r, 400))
	}
	return s
}

// randomBody is a body, of a length that may not be once in so many times.
func randomBody(r *rand.Rand, rare int) []byte {
	n := 1 + r.IntN(6)
	if r.IntN(rare) == 0 {
		n = []int{0, 448, 449, 600}[r.IntN(4)]
	}
	body := make([]byte, n)
	for i := range body {
		body[i] = byte(r.Uint32())
	}
	return body
}

// P7.1 to P7.3
func TestOfRandomSenders(t *testing.T) {
	r := rand.New(rand.NewPCG(7, 1))
	seen, oks, due := map[api.Errno]int{}, map[bool]int{}, map[bool]int{}
	for range 20000 {
		s := random(r)
		was := clone(s)
		seen[checkPush(t, s, randomBody(r, 8))]++
		oks[checkAcked(t, s, s.Base+r.Uint64N(14)-2)]++
		due[checkDue(t, s) > 0]++
		if !same(s, was) {
			t.Fatalf("changed: %v, not %v", s, was)
		}
	}
	if len(seen) != 4 || len(oks) != 2 || len(due) != 2 {
		t.Errorf("not all was seen: %v, %v, %v", seen, oks, due)
	}
}

// roomy is a sender with room behind its box, and behind each body.
func roomy(base uint64, n int) (s, all api.Sender) {
	s = filled(base, n)
	for i, body := range s.Box {
		s.Box[i] = append(body, "more behind it"...)[:len(body)]
	}
	s.Box = append(s.Box, texts("behind", "it")...)[:n]
	all = api.Sender{Base: base, Box: append([][]byte(nil), s.Box[:n+2]...)}
	for i, body := range all.Box {
		all.Box[i] = body[:cap(body)]
	}
	return s, all
}

// P7.5
func TestWhatIsHandedInStays(t *testing.T) {
	for _, n := range []int{0, 1, 7, 8, 9, 47, 48, 49} {
		s, all := roomy(4, n)
		was := clone(all)
		body := []byte("a body, and more")
		window.Push(s, body[:6])
		window.Push(s, body[:0])
		for _, b := range dueBodies(s) {
			spoil(b)
		}
		for upto := range uint64(20) {
			u, _ := window.Acked(s, upto)
			spoilSender(u)
		}
		if u, err := window.Push(s, body[:6]); err == api.OK {
			spoilSender(u)
		}
		if behind := (api.Sender{Base: 4, Box: s.Box[:n+2]}); !alike(wide(behind).Box, was.Box) || len(s.Box) != n {
			t.Errorf("changed, with %d bodies: %q, not %q", n, wide(behind).Box, was.Box)
		}
		if string(body) != "a body, and more" {
			t.Errorf("the body that was pushed changed: %q", body)
		}
	}
}

// wide is a sender whose bodies reach to the end of their room.
func wide(s api.Sender) api.Sender {
	var box [][]byte
	for _, body := range s.Box {
		box = append(box, body[:cap(body)])
	}
	return api.Sender{Base: s.Base, Box: box}
}

// dueBodies are the bodies that are due.
func dueBodies(s api.Sender) [][]byte {
	_, box := gone(s)
	return box
}

// spoil changes a body's bytes, and the room behind it.
func spoil(body []byte) {
	body = body[:cap(body)]
	for i := range body {
		body[i] ^= 0xFF
	}
}

// spoilSender changes all that lies in a box, and the room behind it.
func spoilSender(s api.Sender) {
	for _, body := range s.Box {
		spoil(body)
	}
	box := s.Box[:cap(s.Box)]
	for i := range box {
		box[i] = []byte("spoilt")
	}
}

// P7.5
func TestWhatIsAnsweredIsNewMemory(t *testing.T) {
	for _, n := range []int{0, 1, 8, 9, 47} {
		s := filled(4, n)
		body := []byte("a body")
		u := push(t, s, body)
		left, ok := window.Acked(u, 5)
		stays, not := window.Acked(u, 4)
		if !ok || not {
			t.Fatalf("Acked with %d bodies: %v, %v", n, ok, not)
		}
		wantU, wantLeft := clone(u), clone(left)
		spoil(body)
		spoilSender(s)
		if !same(u, wantU) || !same(left, wantLeft) || !same(stays, wantU) {
			t.Errorf("changed along with what was handed in, with %d bodies", n)
		}
		spoilSender(stays)
		if !same(u, wantU) || !same(left, wantLeft) {
			t.Errorf("changed along with what stayed, with %d bodies", n)
		}
		spoilSender(left)
		if !same(u, wantU) {
			t.Errorf("changed along with what was left, with %d bodies", n)
		}
		more := clone(u)
		if n < 47 {
			more = push(t, u, []byte("one more"))
		}
		wantMore := clone(more)
		spoilSender(u)
		if !same(more, wantMore) {
			t.Errorf("changed along with the sender ahead of it, with %d bodies", n)
		}
	}
}

// P7.5: so it is where a sender that may not be is answered as it is.
func TestWhatStaysIsNewMemory(t *testing.T) {
	for _, s := range append(wrong(), filled(0, 3)) {
		was := clone(s)
		u, ok := window.Acked(s, s.Base+20)
		if ok || !same(u, was) {
			t.Errorf("Acked of %d bodies behind %d: %v", len(s.Box), s.Base, ok)
		}
		spoilSender(u)
		if !same(s, was) {
			t.Errorf("%d bodies behind %d changed along with what was answered", len(s.Box), s.Base)
		}
	}
}

// P7.5: what is due is what was due when Due was called, however often one goes over it.
func TestDueIsNewMemory(t *testing.T) {
	s := filled(4, 10)
	want := clone(s).Box[:8]
	all := window.Due(s)
	other := window.Due(s)
	spoilSender(s)
	for round := range 3 {
		var box [][]byte
		for _, body := range all {
			box = append(box, bytes.Clone(body))
			spoil(body)
		}
		if !alike(box, want) {
			t.Errorf("round %d: %q, not %q", round, box, want)
		}
	}
	i := 0
	for _, body := range other {
		if !bytes.Equal(body, want[i]) {
			t.Errorf("changed along with bodies that were handed out: %q, not %q", body, want[i])
		}
		i++
	}
}

// P7.5: a box may hold the same bytes twice; what is answered does not.
func TestOfSharedBodies(t *testing.T) {
	whole := []byte("abcdef")
	for _, box := range [][][]byte{{whole, whole, whole}, {whole[:1], whole[:2], whole[1:4]}} {
		s := api.Sender{Box: box}
		pushed := push(t, s, box[0])
		left, _ := window.Acked(pushed, 1)
		stays, _ := window.Acked(pushed, 0)
		for _, l := range [][][]byte{pushed.Box, left.Box, stays.Box, dueBodies(pushed)} {
			was := clone(api.Sender{Box: l}).Box
			spoil(l[0])
			if !alike(l[1:], was[1:]) {
				t.Errorf("%q changed along with %q", l[1:], l[0])
			}
		}
	}
}

// P7.5: nil and empty boxes are one.
func TestEmptyBoxes(t *testing.T) {
	for _, box := range [][][]byte{nil, {}} {
		s := api.Sender{Base: 6, Box: box}
		if seqs, _ := gone(s); len(seqs) != 0 {
			t.Errorf("due of none: %d", seqs)
		}
		if u := push(t, s, []byte("x")); u.Base != 6 || !alike(u.Box, texts("x")) {
			t.Errorf("Push to none: %v", u)
		}
		if u, ok := window.Acked(s, 7); ok || u.Base != 6 || len(u.Box) != 0 {
			t.Errorf("Acked of none: %v, %v", u, ok)
		}
	}
}

// way is a way between two sides that loses, doubles and turns about all that it carries, for however long.
type way struct {
	sender   api.Sender
	receiver api.Receiver
	bodies   []sent   // that were sent, ever
	told     []uint64 // that the receiver told, ever
	pushed   []string
	taken    []string
}

type sent struct {
	seq  uint64
	body string
}

// send puts what is due on its way.
func (w *way) send() {
	for seq, body := range window.Due(w.sender) {
		w.bodies = append(w.bodies, sent{seq, string(body)})
	}
}

// comes hands the receiver one body, and tells whether it was taken.
func (w *way) comes(one sent) bool {
	r, ok := window.Take(w.receiver, one.seq)
	if ok {
		w.taken = append(w.taken, one.body)
	}
	w.receiver = r
	return ok
}

// tells hands the sender what the receiver told at some time.
func (w *way) tells(upto uint64) bool {
	s, ok := window.Acked(w.sender, upto)
	w.sender = s
	return ok
}

// push pushes one more body.
func (w *way) push(t *testing.T) {
	body := "body " + strconv.Itoa(len(w.pushed)+1)
	s, err := window.Push(w.sender, []byte(body))
	switch {
	case err == api.OK:
		w.sender, w.pushed = s, append(w.pushed, body)
	case err != api.ErrFull || len(w.sender.Box) != 48:
		t.Errorf("Push behind %d bodies: %d", len(w.sender.Box), err)
	}
}

// check holds P7.6: those that are taken are the first ones that were pushed; what is acknowledged was taken.
func (w *way) check(t *testing.T) {
	t.Helper()
	if len(w.taken) > len(w.pushed) || strings.Join(w.taken, ",") != strings.Join(w.pushed[:len(w.taken)], ",") {
		t.Fatalf("taken %q of %q", w.taken, w.pushed)
	}
	if w.receiver.Got != uint64(len(w.taken)) || w.sender.Base > w.receiver.Got || w.sender.Base+uint64(len(w.sender.Box)) != uint64(len(w.pushed)) {
		t.Fatalf("acknowledged %d and %d behind it, taken %d, of %d", w.sender.Base, len(w.sender.Box), w.receiver.Got, len(w.pushed))
	}
}

// step does one thing, whatever it is.
func (w *way) step(t *testing.T, r *rand.Rand) {
	switch r.IntN(6) {
	case 0:
		w.push(t)
	case 1:
		w.send()
	case 2, 3:
		if n := len(w.bodies); n > 0 {
			w.comes(w.bodies[max(r.IntN(n), r.IntN(n))])
		}
	case 4:
		w.told = append(w.told, w.receiver.Got)
	case 5:
		if n := len(w.told); n > 0 {
			w.tells(w.told[max(r.IntN(n), r.IntN(n))])
		}
	}
}

// P7.6
func TestInOrderEachOnce(t *testing.T) {
	much := 0
	for seed := range uint64(60) {
		r := rand.New(rand.NewPCG(76, seed))
		w := &way{}
		for range 1500 {
			w.step(t, r)
			w.check(t)
		}
		if len(w.taken) > 20 && w.sender.Base > 8 {
			much++
		}
	}
	if much < 30 {
		t.Errorf("only %d ways carried much", much)
	}
}

// P7.6 and P7.8: so it is wherever a row begins.
func TestOnTheWayToTheEnd(t *testing.T) {
	s, r := api.Sender{Base: top - 20}, api.Receiver{Got: top - 20}
	for i := range 20 {
		s = push(t, s, []byte{byte(i + 1)})
	}
	if _, err := window.Push(s, []byte("x")); err != api.ErrFull {
		t.Errorf("the last one there may be was pushed: then %d", err)
	}
	n := byte(0)
	for rounds := 0; len(s.Box) > 0; rounds++ {
		if rounds > 2 {
			t.Fatalf("%d bodies are left behind %d", len(s.Box), s.Base)
		}
		for seq, body := range window.Due(s) {
			u, ok := window.Take(r, seq)
			if n++; !ok || body[0] != n {
				t.Fatalf("number %d: %v, %x", seq, ok, body)
			}
			r = u
		}
		s, _ = window.Acked(s, r.Got)
	}
	if n != 20 || r.Got != top || s.Base != top {
		t.Errorf("%d came, up to %d, acknowledged %d", n, r.Got, s.Base)
	}
	if _, err := window.Push(s, []byte("x")); err != api.ErrFull {
		t.Errorf("all numbers were given: then %d", err)
	}
	if u, ok := window.Take(r, top+1); ok || u != r {
		t.Errorf("all numbers were taken: then %v, %v", u, ok)
	}
}

// P7.7
func TestItGoesOn(t *testing.T) {
	for n := range 49 {
		w := &way{}
		for range n {
			w.push(t)
		}
		for left := n; left > 0; left -= 8 {
			w.bodies = nil
			w.send()
			if len(w.bodies) != min(left, 8) {
				t.Fatalf("%d of %d are due", len(w.bodies), left)
			}
			for _, one := range w.bodies {
				if !w.comes(one) {
					t.Fatalf("%d is not the next one behind %d", one.seq, w.receiver.Got)
				}
			}
			if !w.tells(w.receiver.Got) || len(w.sender.Box) != max(left-8, 0) {
				t.Fatalf("%d of %d are left", len(w.sender.Box), left)
			}
			w.check(t)
		}
		if len(w.taken) != n || len(dueBodies(w.sender)) != 0 {
			t.Errorf("%d of %d were taken", len(w.taken), n)
		}
	}
}

// P7.7: so it is behind whatever happened on the way.
func TestItGoesOnBehindAll(t *testing.T) {
	for seed := range uint64(40) {
		r := rand.New(rand.NewPCG(77, seed))
		w := &way{}
		for range 50 + r.IntN(500) {
			w.step(t, r)
		}
		for rounds := 0; len(w.sender.Box) > 0; rounds++ {
			if rounds > 6 {
				t.Fatalf("%d bodies are left behind %d", len(w.sender.Box), w.sender.Base)
			}
			left := len(w.sender.Box)
			w.bodies = nil
			w.send()
			for _, one := range w.bodies {
				w.comes(one)
			}
			w.tells(w.receiver.Got)
			w.check(t)
			if len(w.sender.Box) != max(left-8, 0) {
				t.Fatalf("%d of %d bodies are left", len(w.sender.Box), left)
			}
		}
		if len(w.taken) != len(w.pushed) {
			t.Errorf("%d of %d were taken", len(w.taken), len(w.pushed))
		}
	}
}

// P7.8
func TestOnce(t *testing.T) {
	r := rand.New(rand.NewPCG(78, 1))
	for range 5000 {
		got := r.Uint64N(top)
		taken, ok := window.Take(api.Receiver{Got: got}, got+1)
		if again, twice := window.Take(taken, got+1); !ok || twice || again != taken {
			t.Errorf("%d was taken twice: %v, %v, %v", got+1, ok, twice, again)
		}
		s := filled(r.Uint64N(top-48), 1+r.IntN(48))
		upto := s.Base + 1 + r.Uint64N(uint64(min(len(s.Box), 8)))
		left, ok := window.Acked(s, upto)
		if again, twice := window.Acked(left, upto); !ok || twice || !same(again, left) {
			t.Errorf("%d was acknowledged twice: %v, %v", upto, ok, twice)
		}
		for seq := upto; seq > 0 && seq+8 > upto; seq-- {
			if again, twice := window.Acked(left, seq); twice || !same(again, left) {
				t.Errorf("%d was acknowledged behind %d", seq, upto)
			}
		}
	}
}
