package packet_test

import (
	"bytes"
	"math"
	"math/rand/v2"
	"slices"
	"strings"
	"testing"

	"caucus/api"
	"caucus/code"
	"caucus/packet"
)

// top is the greatest number that a packet may have.
const top = 1<<35 - 1

// live is the life node.inc.
func live(node int, inc uint64) api.Proc { return api.Proc{Node: node, Inc: inc} }

// lives are some nodes' first lives.
func lives(nodes ...int) []api.Proc {
	var l []api.Proc
	for _, n := range nodes {
		l = append(l, live(n, 1))
	}
	return l
}

// heads are those of data for some nodes.
func heads(nodes ...int) []api.Head {
	var l []api.Head
	for _, n := range nodes {
		l = append(l, api.Head{Dst: n, Conn: 1, Seq: 1})
	}
	return l
}

// advert is the chapter's first example.
func advert() api.Packet {
	return api.Packet{Kind: 1, Advert: api.Advert{Server: live(1, 2), Seq: 5, Peers: []api.Proc{live(2, 1), live(3, 7)}}}
}

const advertBytes = "\x01\x01\x02\x05\x02\x02\x01\x03\x07"

// data is the chapter's second example.
func data() api.Packet {
	return api.Packet{Kind: 2, Src: live(5, 1), Hops: 8, Heads: []api.Head{{Dst: 1, Conn: 1, Seq: 300}, {Dst: 6, Conn: 2, Seq: 1}}, Body: []byte("hi")}
}

const dataBytes = "\x02\x05\x01\x08\x02\x01\x01\xac\x02\x06\x02\x01\x02hi"

// ack is the chapter's third example.
func ack() api.Packet {
	return api.Packet{Kind: 3, Src: live(6, 1), Heads: []api.Head{{Dst: 5, Conn: 2, Seq: 1, Inc: 1}}}
}

const ackBytes = "\x03\x06\x01\x00\x01\x05\x02\x01\x01"

// examples are one packet of each kind.
func examples() []api.Packet { return []api.Packet{advert(), data(), ack()} }

// greatest are packets of as many bytes as one of their kind may have.
func greatest() []api.Packet {
	p := api.Packet{Kind: 2, Src: live(10, top), Hops: 8, Body: bytes.Repeat([]byte{0xFF}, 320)}
	for n := 1; n <= 9; n++ {
		p.Heads = append(p.Heads, api.Head{Dst: n, Conn: top, Seq: top})
	}
	return []api.Packet{
		{Kind: 1, Advert: api.Advert{Server: live(4, top), Seq: top, Peers: []api.Proc{live(1, top), live(2, top), live(3, top)}}},
		p,
		{Kind: 3, Src: live(10, top), Hops: 8, Heads: []api.Head{{Dst: 9, Conn: top, Seq: top, Inc: top}}},
	}
}

// clone is a packet with memory of its own.
func clone(p api.Packet) api.Packet {
	p.Heads, p.Body, p.Advert.Peers = slices.Clone(p.Heads), bytes.Clone(p.Body), slices.Clone(p.Advert.Peers)
	return p
}

// with is a packet in which something is changed.
func with(p api.Packet, change func(*api.Packet)) api.Packet {
	p = clone(p)
	change(&p)
	return p
}

// alike tells whether two packets are the same; nil and empty lists are one.
func alike(p, q api.Packet) bool {
	return p.Kind == q.Kind && p.Src == q.Src && p.Hops == q.Hops && slices.Equal(p.Heads, q.Heads) && bytes.Equal(p.Body, q.Body) &&
		p.Advert.Server == q.Advert.Server && p.Advert.Seq == q.Advert.Seq && slices.Equal(p.Advert.Peers, q.Advert.Peers)
}

// within tells whether a node's number is from 1 to most, and its life one that may be in a packet.
func within(q api.Proc, most int) bool {
	return 1 <= q.Node && q.Node <= most && 1 <= q.Inc && q.Inc <= top
}

// may tells, as the document does, whether a packet may be.
func may(p api.Packet) bool {
	if p.Kind == 1 {
		return mayAdvert(p.Advert) && alike(p, api.Packet{Kind: 1, Advert: p.Advert})
	}
	if p.Kind != 2 && p.Kind != 3 || !alike(p, api.Packet{Kind: p.Kind, Src: p.Src, Hops: p.Hops, Heads: p.Heads, Body: p.Body}) {
		return false
	}
	if !within(p.Src, 10) || p.Hops < 0 || p.Hops > 8 || len(p.Heads) == 0 {
		return false
	}
	for i, h := range p.Heads {
		if h.Dst < 1 || h.Dst > 10 || h.Dst == p.Src.Node || i > 0 && p.Heads[i-1].Dst >= h.Dst {
			return false
		}
		if h.Conn < 1 || h.Conn > top || h.Seq > top || h.Inc > top {
			return false
		}
		if p.Kind == 2 && (h.Seq == 0 || h.Inc != 0) || p.Kind == 3 && h.Inc == 0 {
			return false
		}
	}
	if p.Kind == 3 {
		return len(p.Heads) == 1 && len(p.Body) == 0
	}
	return 1 <= len(p.Body) && len(p.Body) <= 320
}

// mayAdvert tells, as the document does, whether an advert may be.
func mayAdvert(a api.Advert) bool {
	for i, q := range a.Peers {
		if !within(q, 4) || q.Node == a.Server.Node {
			return false
		}
		for _, earlier := range a.Peers[:i] {
			if earlier.Node > q.Node || earlier.Node == q.Node {
				return false
			}
		}
	}
	return within(a.Server, 4) && 1 <= a.Seq && a.Seq <= top
}

// bare are, as the document tells them, the bytes of a packet, whether it may be or not; those of an unknown kind are an ack's.
func bare(p api.Packet) []byte {
	w := code.NewWriter()
	life := func(q api.Proc) {
		w.U8(uint8(q.Node))
		w.Uint(q.Inc)
	}
	kind := uint8(p.Kind)
	w.U8(kind)
	if kind == 1 {
		life(p.Advert.Server)
		w.Uint(p.Advert.Seq)
		w.U8(uint8(len(p.Advert.Peers)))
		for _, q := range p.Advert.Peers {
			life(q)
		}
		return w.Bytes()
	}
	life(p.Src)
	w.U8(uint8(p.Hops))
	w.U8(uint8(len(p.Heads)))
	for _, h := range p.Heads {
		w.U8(uint8(h.Dst))
		w.Put(h.Conn, h.Seq)
		if kind != 2 {
			w.Uint(h.Inc)
		}
	}
	if kind == 2 {
		w.Text(string(p.Body))
	}
	return w.Bytes()
}

// told is what a packet's bytes tell of it: of each kind what it has, of its small numbers one byte.
func told(p api.Packet) api.Packet {
	low := func(n int) int { return int(uint8(n)) }
	q := api.Packet{Kind: low(p.Kind)}
	if q.Kind == 1 {
		q.Advert = clone(p).Advert
		q.Advert.Server.Node = low(q.Advert.Server.Node)
		for i := range q.Advert.Peers {
			q.Advert.Peers[i].Node = low(q.Advert.Peers[i].Node)
		}
		return q
	}
	q.Src, q.Hops, q.Heads = live(low(p.Src.Node), p.Src.Inc), low(p.Hops), slices.Clone(p.Heads)
	for i := range q.Heads {
		q.Heads[i].Dst = low(q.Heads[i].Dst)
		if q.Kind == 2 {
			q.Heads[i].Inc = 0
		}
	}
	if q.Kind == 2 {
		q.Body = p.Body
	}
	return q
}

// encoded are the bytes of a packet that may be.
func encoded(t *testing.T, p api.Packet) []byte {
	t.Helper()
	b, err := packet.Encode(p)
	if err != api.OK {
		t.Fatalf("Encode(%v): %d", p, err)
	}
	return b
}

// refused tells a fault if bytes are taken for a packet, or anything is told beside the error.
func refused(t *testing.T, what string, b []byte) {
	t.Helper()
	p, err := packet.Decode(b)
	if err != api.ErrForm || p.Heads != nil || p.Body != nil || p.Advert.Peers != nil || !alike(p, api.Packet{}) {
		t.Fatalf("%s: Decode(%x): %v, %d", what, b, p, err)
	}
}

// oneOf draws one of a few.
func oneOf[T any](d *rand.Rand, l ...T) T { return l[d.IntN(len(l))] }

// count is a random number above 0 that may be; short ones are as likely as long ones.
func count(d *rand.Rand) uint64 { return d.Uint64N(top)>>d.IntN(35) + 1 }

// others are some of the nodes from 1 to most, rising, but not this one.
func others(d *rand.Rand, most, node int) []int {
	var l []int
	for n := 1; n <= most; n++ {
		if n != node && d.IntN(2) == 0 {
			l = append(l, n)
		}
	}
	return l
}

// some is a random packet that may be.
func some(d *rand.Rand) api.Packet {
	p := api.Packet{Kind: d.IntN(3) + 1}
	if p.Kind == 1 {
		p.Advert.Server, p.Advert.Seq = live(d.IntN(4)+1, count(d)), count(d)
		for _, n := range others(d, 4, p.Advert.Server.Node) {
			p.Advert.Peers = append(p.Advert.Peers, live(n, count(d)))
		}
		return p
	}
	p.Src, p.Hops = live(d.IntN(10)+1, count(d)), d.IntN(9)
	one := (p.Src.Node+d.IntN(9))%10 + 1
	if p.Kind == 3 {
		p.Heads = []api.Head{{Dst: one, Conn: count(d), Seq: count(d) - 1, Inc: count(d)}}
		return p
	}
	to := others(d, 10, p.Src.Node)
	if len(to) == 0 {
		to = []int{one}
	}
	for _, n := range to {
		p.Heads = append(p.Heads, api.Head{Dst: n, Conn: count(d), Seq: count(d)})
	}
	p.Body = make([]byte, oneOf(d, 1, 2, 127, 128, 319, 320, d.IntN(320)+1))
	for i := range p.Body {
		p.Body[i] = byte(d.Uint32())
	}
	return p
}

// strange draws a number at which something changes.
func strange(d *rand.Rand) uint64 {
	return oneOf[uint64](d, 0, 1, 2, 127, 128, top, top+1, 1<<35|1, math.MaxUint64)
}

// strangeNode draws a node's number, or none.
func strangeNode(d *rand.Rand) int {
	return oneOf(d, math.MinInt, -1, 0, 1, 2, 3, 4, 5, 9, 10, 11, 255, 256, 257, math.MaxInt)
}

// bent is a packet with one thing changed, so that many of them may not be.
func bent(d *rand.Rand, p api.Packet) api.Packet {
	p = clone(p)
	switch d.IntN(6) {
	case 0:
		p.Kind = oneOf(d, math.MinInt, -1, 0, 1, 2, 3, 4, 255, 257, 258, 259)
	case 1:
		p.Src = oneOf(d, live(strangeNode(d), p.Src.Inc), live(p.Src.Node, strange(d)))
	case 2:
		p.Hops = oneOf(d, math.MinInt, -1, 0, 1, 8, 9, 255, 256, 264)
	case 3:
		bendHeads(d, &p)
	case 4:
		p.Body = make([]byte, oneOf(d, 0, 1, 320, 321, 322, 1000))
	case 5:
		bendAdvert(d, &p.Advert)
	}
	return p
}

func bendHeads(d *rand.Rand, p *api.Packet) {
	if len(p.Heads) == 0 || d.IntN(4) == 0 {
		p.Heads = oneOf(d, nil, heads(1), heads(1, 2), heads(2, 1), heads(3, 3), heads(1, 2, 3, 4, 5, 6, 7, 8, 9, 10))
		return
	}
	h := &p.Heads[d.IntN(len(p.Heads))]
	switch d.IntN(4) {
	case 0:
		h.Dst = strangeNode(d)
	case 1:
		h.Conn = strange(d)
	case 2:
		h.Seq = strange(d)
	case 3:
		h.Inc = strange(d)
	}
}

func bendAdvert(d *rand.Rand, a *api.Advert) {
	switch d.IntN(5) {
	case 0:
		a.Server.Node = strangeNode(d)
	case 1:
		a.Server.Inc = strange(d)
	case 2:
		a.Seq = strange(d)
	case 3:
		a.Peers = append(a.Peers, live(strangeNode(d), strange(d)))
	case 4:
		if len(a.Peers) > 0 {
			a.Peers[d.IntN(len(a.Peers))] = live(strangeNode(d), strange(d))
		}
	}
}

// runs calls f with random packets: one that may be, and one that may not be, perhaps.
func runs(f func(d *rand.Rand, good, other api.Packet)) {
	d := rand.New(rand.NewPCG(6, 1))
	for range 30000 {
		good := some(d)
		f(d, good, bent(d, good))
	}
}

// edge is a packet, and whether it may be.
type edge struct {
	what string
	p    api.Packet
	want bool
}

// asked tells a fault where May says otherwise.
func asked(t *testing.T, l []edge) {
	t.Helper()
	for _, c := range l {
		if got := packet.May(c.p); got != c.want || may(c.p) != c.want {
			t.Errorf("%s: %v", c.what, got)
		}
	}
}

// P6.1: of kinds.
func TestMayOfKinds(t *testing.T) {
	l := []edge{{"the zero packet", api.Packet{}, false}}
	for _, p := range examples() {
		for kind := -2; kind < 600; kind++ {
			l = append(l, edge{"another kind", with(p, func(p *api.Packet) { p.Kind = kind }), kind == p.Kind})
		}
	}
	for _, p := range greatest() {
		l = append(l, edge{"the greatest one", p, true})
	}
	asked(t, l)
}

// P6.1: of adverts.
func TestMayOfAdverts(t *testing.T) {
	peers := func(l ...api.Proc) api.Packet {
		return with(advert(), func(p *api.Packet) { p.Advert.Peers = l })
	}
	server := func(node int, inc uint64) api.Packet {
		return api.Packet{Kind: 1, Advert: api.Advert{Server: live(node, inc), Seq: 1}}
	}
	seq := func(n uint64) api.Packet { return with(advert(), func(p *api.Packet) { p.Advert.Seq = n }) }
	asked(t, []edge{
		{"nothing but its kind", api.Packet{Kind: 1}, false},
		{"no peers", peers(), true},
		{"an empty list of them", peers([]api.Proc{}...), true},
		{"all peers", peers(lives(2, 3, 4)...), true},
		{"the server itself", peers(lives(1, 2)...), false},
		{"another life of the server", peers(live(1, 3)), false},
		{"the last server", server(4, top), true},
		{"a client as server", server(5, 1), false},
		{"node 0 as server", server(0, 1), false},
		{"node -1 as server", server(-1, 1), false},
		{"node 257 as server", server(257, 1), false},
		{"life 0 of the server", server(1, 0), false},
		{"life 2^35 of the server", server(1, top+1), false},
		{"a client as peer", peers(lives(2, 5)...), false},
		{"the last node as peer", peers(lives(10)...), false},
		{"node 0 as peer", peers(lives(0, 2)...), false},
		{"life 0 of a peer", peers(live(2, 0)), false},
		{"the greatest life of a peer", peers(live(2, top)), true},
		{"life 2^35 of a peer", peers(live(2, 1), live(3, top+1)), false},
		{"the greatest life of all", peers(live(2, math.MaxUint64)), false},
		{"peers the other way round", peers(lives(3, 2)...), false},
		{"a peer twice", peers(lives(2, 2)...), false},
		{"two lives of a peer", peers(live(2, 1), live(2, 2)), false},
		{"two lives of a peer, the later ahead", peers(live(2, 2), live(2, 1)), false},
		{"a peer again behind another", peers(lives(2, 3, 2)...), false},
		{"very many peers", peers(lives(make([]int, 1<<12)...)...), false},
		{"number 0", seq(0), false},
		{"number 1", seq(1), true},
		{"the greatest number", seq(top), true},
		{"number 2^35", seq(top + 1), false},
		{"the greatest number of all", seq(math.MaxUint64), false},
		{"a source", with(advert(), func(p *api.Packet) { p.Src = live(5, 1) }), false},
		{"a source's node alone", with(advert(), func(p *api.Packet) { p.Src.Node = 5 }), false},
		{"a source's life alone", with(advert(), func(p *api.Packet) { p.Src.Inc = 1 }), false},
		{"hops", with(advert(), func(p *api.Packet) { p.Hops = 1 }), false},
		{"hops below 0", with(advert(), func(p *api.Packet) { p.Hops = -1 }), false},
		{"a head", with(advert(), func(p *api.Packet) { p.Heads = heads(2) }), false},
		{"a head of noughts", with(advert(), func(p *api.Packet) { p.Heads = make([]api.Head, 1) }), false},
		{"an empty list of heads", with(advert(), func(p *api.Packet) { p.Heads = []api.Head{} }), true},
		{"a body", with(advert(), func(p *api.Packet) { p.Body = []byte{0} }), false},
		{"an empty body", with(advert(), func(p *api.Packet) { p.Body = []byte{} }), true},
	})
}

// P6.1: what data and acks have alike.
func TestMayOfDataAndAcks(t *testing.T) {
	for _, p := range []api.Packet{data(), ack()} {
		src := func(node int, inc uint64) api.Packet {
			return with(p, func(p *api.Packet) { p.Src = live(node, inc) })
		}
		hops := func(n int) api.Packet { return with(p, func(p *api.Packet) { p.Hops = n }) }
		head := func(change func(*api.Head)) api.Packet {
			return with(p, func(p *api.Packet) { change(&p.Heads[len(p.Heads)-1]) })
		}
		dst := func(n int) api.Packet { return head(func(h *api.Head) { h.Dst = n }) }
		conn := func(n uint64) api.Packet { return head(func(h *api.Head) { h.Conn = n }) }
		advert := func(change func(*api.Advert)) api.Packet {
			return with(p, func(p *api.Packet) { change(&p.Advert) })
		}
		asked(t, []edge{
			{"the example", p, true},
			{"nothing but its kind", api.Packet{Kind: p.Kind}, false},
			{"from a server", src(2, 1), true},
			{"from the last node", src(10, top), true},
			{"from node 0", src(0, 1), false},
			{"from node 11", src(11, 1), false},
			{"from node -1", src(-1, 1), false},
			{"from node 261", src(261, 1), false},
			{"from life 0", src(4, 0), false},
			{"from life 2^35", src(4, top+1), false},
			{"from nobody", src(0, 0), false},
			{"for the one it is from", src(p.Heads[0].Dst, 1), false},
			{"for the one it is from, by another life", src(p.Heads[0].Dst, 9), false},
			{"no hops", hops(0), true},
			{"most hops", hops(8), true},
			{"a hop more", hops(9), false},
			{"hops below 0", hops(-1), false},
			{"256 hops", hops(256), false},
			{"the least number of hops", hops(math.MinInt), false},
			{"no heads", with(p, func(p *api.Packet) { p.Heads = nil }), false},
			{"an empty list of heads", with(p, func(p *api.Packet) { p.Heads = []api.Head{} }), false},
			{"for the last node", dst(10), true},
			{"for node 11", dst(11), false},
			{"for node 0", dst(0), false},
			{"for node -1", dst(-1), false},
			{"for node 262", dst(262), false},
			{"connection 0", conn(0), false},
			{"the greatest connection", conn(top), true},
			{"connection 2^35", conn(top + 1), false},
			{"the greatest number of all", conn(math.MaxUint64), false},
			{"the greatest number", head(func(h *api.Head) { h.Seq = top }), true},
			{"number 2^35", head(func(h *api.Head) { h.Seq = top + 1 }), false},
			{"an advert's server", advert(func(a *api.Advert) { a.Server = live(1, 1) }), false},
			{"an advert's node", advert(func(a *api.Advert) { a.Server.Node = 1 }), false},
			{"an advert's number", advert(func(a *api.Advert) { a.Seq = 1 }), false},
			{"an advert's peers", advert(func(a *api.Advert) { a.Peers = lives(2) }), false},
			{"an empty list of peers", advert(func(a *api.Advert) { a.Peers = []api.Proc{} }), true},
			{"a peer of noughts", advert(func(a *api.Advert) { a.Peers = make([]api.Proc, 1) }), false},
		})
	}
}

// P6.1: what data has otherwise than acks.
func TestMayOfData(t *testing.T) {
	to := func(nodes ...int) api.Packet {
		return with(data(), func(p *api.Packet) { p.Heads = heads(nodes...) })
	}
	body := func(n int) api.Packet { return with(data(), func(p *api.Packet) { p.Body = make([]byte, n) }) }
	asked(t, []edge{
		{"for one", to(1), true},
		{"for all others", to(1, 2, 3, 4, 6, 7, 8, 9, 10), true},
		{"for all", to(1, 2, 3, 4, 5, 6, 7, 8, 9, 10), false},
		{"for itself", to(5), false},
		{"for itself, too, behind another", to(1, 5), false},
		{"for 6 and 1", to(6, 1), false},
		{"for 6 and 6", to(6, 6), false},
		{"for 1, 6 and 1", to(1, 6, 1), false},
		{"for 1, 6 and 2", to(1, 6, 2), false},
		{"for very many", to(make([]int, 1<<12)...), false},
		{"an ack's head", with(data(), func(p *api.Packet) { p.Heads[0].Inc = 1 }), false},
		{"an ack's head behind another", with(data(), func(p *api.Packet) { p.Heads[1].Inc = 1 }), false},
		{"number 0", with(data(), func(p *api.Packet) { p.Heads[0].Seq = 0 }), false},
		{"number 0 behind another", with(data(), func(p *api.Packet) { p.Heads[1].Seq = 0 }), false},
		{"no body", with(data(), func(p *api.Packet) { p.Body = nil }), false},
		{"an empty body", body(0), false},
		{"a body of 1 byte", body(1), true},
		{"a body of 320 bytes", body(320), true},
		{"a body of 321 bytes", body(321), false},
		{"a long body", body(1 << 16), false},
	})
}

// P6.1: what acks have otherwise than data.
func TestMayOfAcks(t *testing.T) {
	head := func(change func(*api.Head)) api.Packet {
		return with(ack(), func(p *api.Packet) { change(&p.Heads[0]) })
	}
	asked(t, []edge{
		{"number 0", head(func(h *api.Head) { h.Seq = 0 }), true},
		{"life 0", head(func(h *api.Head) { h.Inc = 0 }), false},
		{"the greatest life", head(func(h *api.Head) { h.Inc = top }), true},
		{"life 2^35", head(func(h *api.Head) { h.Inc = top + 1 }), false},
		{"the greatest life of all", head(func(h *api.Head) { h.Inc = math.MaxUint64 }), false},
		{"for two", with(ack(), func(p *api.Packet) { p.Heads = append(p.Heads, api.Head{Dst: 7, Conn: 1, Seq: 1, Inc: 1}) }), false},
		{"for one, twice", with(ack(), func(p *api.Packet) { p.Heads = append(p.Heads, p.Heads[0]) }), false},
		{"a body", with(ack(), func(p *api.Packet) { p.Body = []byte("x") }), false},
		{"an empty body", with(ack(), func(p *api.Packet) { p.Body = []byte{} }), true},
	})
}

// P6.1: all nodes as source and destination, as server and peer.
func TestMayOfAllNodes(t *testing.T) {
	for a := -2; a < 260; a++ {
		for b := -2; b < 260; b++ {
			asked(t, []edge{
				{"data", with(data(), func(p *api.Packet) { p.Src.Node, p.Heads = a, heads(b) }), 1 <= a && a <= 10 && 1 <= b && b <= 10 && a != b},
				{"an ack", with(ack(), func(p *api.Packet) { p.Src.Node, p.Heads[0].Dst = a, b }), 1 <= a && a <= 10 && 1 <= b && b <= 10 && a != b},
				{"an advert", with(advert(), func(p *api.Packet) { p.Advert.Server.Node, p.Advert.Peers = a, lives(b) }), 1 <= a && a <= 4 && 1 <= b && b <= 4 && a != b},
			})
		}
	}
}

// P6.1, P6.2: of random packets.
func TestMayAndEncodeOfRandomPackets(t *testing.T) {
	seen := map[bool]int{}
	runs(func(d *rand.Rand, good, other api.Packet) {
		if !may(good) {
			t.Fatalf("some: %v", good)
		}
		for _, p := range []api.Packet{good, other} {
			seen[may(p)]++
			if packet.May(p) != may(p) {
				t.Fatalf("May(%v): %v", p, !may(p))
			}
			b, err := packet.Encode(p)
			if !may(p) && (b != nil || err != api.ErrForm) || may(p) && (!bytes.Equal(b, bare(p)) || err != api.OK) {
				t.Fatalf("Encode(%v): %x, %d", p, b, err)
			}
		}
	})
	if seen[true] < 30000 || seen[false] < 10000 {
		t.Errorf("packets of one kind alone: %v", seen)
	}
}

// P6.2, P6.3
func TestBytes(t *testing.T) {
	long := strings.Repeat("y", 320)
	for _, c := range []struct {
		p    api.Packet
		want string
	}{
		{advert(), advertBytes},
		{data(), dataBytes},
		{ack(), ackBytes},
		{with(advert(), func(p *api.Packet) { p.Advert.Peers = nil }), "\x01\x01\x02\x05\x00"},
		{api.Packet{Kind: 1, Advert: api.Advert{Server: live(4, 300), Seq: 128, Peers: lives(1, 2, 3)}}, "\x01\x04\xac\x02\x80\x01\x03\x01\x01\x02\x01\x03\x01"},
		{api.Packet{Kind: 1, Advert: api.Advert{Server: live(2, top), Seq: top}}, "\x01\x02\xff\xff\xff\xff\x7f\xff\xff\xff\xff\x7f\x00"},
		{api.Packet{Kind: 2, Src: live(1, 127), Heads: []api.Head{{Dst: 10, Conn: 128, Seq: 2}}, Body: []byte{0, 255}}, "\x02\x01\x7f\x00\x01\x0a\x80\x01\x02\x02\x00\xff"},
		{with(data(), func(p *api.Packet) { p.Body = []byte(long) }), dataBytes[:12] + "\xc0\x02" + long},
		{api.Packet{Kind: 3, Src: live(10, 9), Hops: 7, Heads: []api.Head{{Dst: 1, Conn: 2, Seq: 0, Inc: 300}}}, "\x03\x0a\x09\x07\x01\x01\x02\x00\xac\x02"},
		{api.Packet{Kind: 3, Src: live(2, 1), Hops: 8, Heads: []api.Head{{Dst: 1, Conn: top, Seq: top, Inc: top}}}, "\x03\x02\x01\x08\x01\x01\xff\xff\xff\xff\x7f\xff\xff\xff\xff\x7f\xff\xff\xff\xff\x7f"},
	} {
		if b := encoded(t, c.p); string(b) != c.want {
			t.Errorf("Encode(%v): %x", c.p, b)
		}
		if p, err := packet.Decode([]byte(c.want)); !alike(p, c.p) || err != api.OK {
			t.Errorf("Decode(%x): %v, %d", c.want, p, err)
		}
	}
}

// P6.3: what its kind does not name a packet does not have.
func TestDecodeOfWhatIsNotThere(t *testing.T) {
	for _, p := range examples() {
		q, _ := packet.Decode(encoded(t, p))
		if p.Kind != 1 && q.Advert.Peers != nil || p.Kind == 1 && q.Heads != nil || p.Kind != 2 && q.Body != nil {
			t.Errorf("%v is %#v", p, q)
		}
	}
}

// P6.2: the chapter's packets that are none.
func TestEncodeRefuses(t *testing.T) {
	for what, p := range map[string]api.Packet{
		"the zero packet":   {},
		"data of 5.1 for 5": with(data(), func(p *api.Packet) { p.Heads = heads(5) }),
		"data for 6 and 1":  with(data(), func(p *api.Packet) { slices.Reverse(p.Heads) }),
		"an advert of 5.1":  with(advert(), func(p *api.Packet) { p.Advert.Server = live(5, 1) }),
		"an ack for two":    with(data(), func(p *api.Packet) { p.Kind, p.Heads[0].Inc, p.Heads[1].Inc, p.Body = 3, 1, 1, nil }),
		"kind 257":          with(advert(), func(p *api.Packet) { p.Kind = 257 }),
		"kind -1":           with(ack(), func(p *api.Packet) { p.Kind = -1 }),
	} {
		if b, err := packet.Encode(p); b != nil || err != api.ErrForm || packet.May(p) {
			t.Errorf("%s: %x, %d, %v", what, b, err, packet.May(p))
		}
	}
}

// P6.3: bytes that are no packet's.
func TestDecodeRefuses(t *testing.T) {
	refused(t, "nil", nil)
	for what, s := range map[string]string{
		"nothing":                                "",
		"kind 0":                                 "\x00" + advertBytes[1:],
		"kind 4":                                 "\x04" + ackBytes[1:],
		"kind 255":                               "\xff" + dataBytes[1:],
		"a kind alone":                           "\x01",
		"an advert's bytes as data":              "\x02" + advertBytes[1:],
		"an advert's bytes as an ack":            "\x03" + advertBytes[1:],
		"data's bytes as an advert":              "\x01" + dataBytes[1:],
		"data's bytes as an ack":                 "\x03" + dataBytes[1:],
		"an ack's bytes as an advert":            "\x01" + ackBytes[1:],
		"an ack's bytes as data":                 "\x02" + ackBytes[1:],
		"an advert of 5.1":                       "\x01\x05\x01\x05\x00",
		"an advert of node 0":                    "\x01\x00\x01\x05\x00",
		"an advert of life 0":                    "\x01\x01\x00\x05\x00",
		"an advert of life 2^35":                 "\x01\x01\x80\x80\x80\x80\x80\x01\x05\x00",
		"an advert's number 0":                   "\x01\x01\x02\x00\x00",
		"an advert's number 2^35":                "\x01\x01\x02\x80\x80\x80\x80\x80\x01\x00",
		"an advert's number in more groups":      "\x01\x01\x02\x85\x00\x00",
		"an advert's life in more groups":        "\x01\x01\x82\x00\x05\x00",
		"a number beyond 64 bits":                "\x01\x01\x02\x81\x80\x80\x80\x80\x80\x80\x80\x80\x02\x00",
		"an advert without its peers":            "\x01\x01\x02\x05",
		"an advert whose peers end early":        "\x01\x01\x02\x05\x02\x02\x01",
		"an advert with one peer more than told": "\x01\x01\x02\x05\x01\x02\x01\x03\x07",
		"an advert with a peer's life 0":         "\x01\x01\x02\x05\x01\x02\x00",
		"an advert with a client as peer":        "\x01\x01\x02\x05\x01\x05\x01",
		"an advert with the server as peer":      "\x01\x01\x02\x05\x01\x01\x02",
		"an advert with peers that do not rise":  "\x01\x01\x02\x05\x02\x03\x07\x02\x01",
		"an advert with two lives of a peer":     "\x01\x01\x02\x05\x02\x02\x01\x02\x02",
		"an advert with 255 peers, not there":    "\x01\x01\x02\x05\xff",
		"data of 5.1 for 5":                      "\x02\x05\x01\x08\x01\x05\x01\x01\x02hi",
		"data for 6 and 1":                       "\x02\x05\x01\x08\x02\x06\x02\x01\x01\x01\x01\x02hi",
		"data for 6 and 6":                       "\x02\x05\x01\x08\x02\x06\x02\x01\x06\x02\x01\x02hi",
		"data for nobody":                        "\x02\x05\x01\x08\x00\x02hi",
		"data for node 0":                        "\x02\x05\x01\x08\x01\x00\x01\x01\x02hi",
		"data for node 11":                       "\x02\x05\x01\x08\x01\x0b\x01\x01\x02hi",
		"data of node 0":                         "\x02\x00\x01\x08\x01\x01\x01\x01\x02hi",
		"data of node 11":                        "\x02\x0b\x01\x08\x01\x01\x01\x01\x02hi",
		"data of life 0":                         "\x02\x05\x00\x08\x01\x01\x01\x01\x02hi",
		"data of life 2^35":                      "\x02\x05\x80\x80\x80\x80\x80\x01\x08\x01\x01\x01\x01\x02hi",
		"data with 9 hops":                       "\x02\x05\x01\x09\x01\x01\x01\x01\x02hi",
		"data with 255 hops":                     "\x02\x05\x01\xff\x01\x01\x01\x01\x02hi",
		"data of connection 0":                   "\x02\x05\x01\x08\x01\x01\x00\x01\x02hi",
		"data of connection 2^35":                "\x02\x05\x01\x08\x01\x01\x80\x80\x80\x80\x80\x01\x01\x02hi",
		"data with number 0":                     "\x02\x05\x01\x08\x01\x01\x01\x00\x02hi",
		"data with number 2^35":                  "\x02\x05\x01\x08\x01\x01\x01\x80\x80\x80\x80\x80\x01\x02hi",
		"data with a number in more groups":      "\x02\x05\x01\x08\x01\x01\x01\x81\x00\x02hi",
		"data without a body":                    "\x02\x05\x01\x08\x01\x01\x01\x01",
		"data with an empty body":                "\x02\x05\x01\x08\x01\x01\x01\x01\x00",
		"data with a body that ends early":       "\x02\x05\x01\x08\x01\x01\x01\x01\x03hi",
		"data with more than its body":           "\x02\x05\x01\x08\x01\x01\x01\x01\x01hi",
		"a body's length in more groups":         "\x02\x05\x01\x08\x01\x01\x01\x01\x82\x00hi",
		"a body of 321 bytes":                    "\x02\x05\x01\x08\x01\x01\x01\x01\xc1\x02" + strings.Repeat("x", 321),
		"a body of very many bytes, not there":   "\x02\x05\x01\x08\x01\x01\x01\x01\xff\xff\xff\xff\xff\xff\xff\xff\xff\x01x",
		"a body of many bytes, all of them":      "\x02\x05\x01\x08\x01\x01\x01\x01\x80\x80\x04" + strings.Repeat("x", 1<<16),
		"data with 255 heads, all of them":       "\x02\x05\x01\x08\xff" + strings.Repeat("\x01\x01\x01", 255) + "\x02hi",
		"data with 255 heads, not there":         "\x02\x05\x01\x08\xff",
		"an ack for nobody":                      "\x03\x06\x01\x00\x00",
		"an ack for two":                         "\x03\x06\x01\x00\x02\x05\x02\x01\x01\x07\x02\x01\x01",
		"an ack for the one it is from":          "\x03\x06\x01\x00\x01\x06\x02\x01\x01",
		"an ack of connection 0":                 "\x03\x06\x01\x00\x01\x05\x00\x01\x01",
		"an ack of life 0":                       "\x03\x06\x01\x00\x01\x05\x02\x01\x00",
		"an ack of life 2^35":                    "\x03\x06\x01\x00\x01\x05\x02\x01\x80\x80\x80\x80\x80\x01",
		"an ack without a life":                  "\x03\x06\x01\x00\x01\x05\x02\x01",
		"an ack with 9 hops":                     "\x03\x06\x01\x09\x01\x05\x02\x01\x01",
		"an ack with an empty body":              ackBytes + "\x00",
		"an ack with a body":                     ackBytes + "\x01x",
		"two acks":                               ackBytes + ackBytes,
	} {
		refused(t, what, []byte(s))
	}
}

// P6.3: of packets' fields as bytes, whether they may be or not: what they tell is read, or refused.
func TestDecodeOfRandomPackets(t *testing.T) {
	seen := map[bool]int{}
	runs(func(d *rand.Rand, _, p api.Packet) {
		b, want := bare(p), told(p)
		seen[may(want)]++
		if !may(want) {
			refused(t, "random", b)
		} else if q, err := packet.Decode(b); !alike(q, want) || err != api.OK {
			t.Fatalf("Decode(%x): %v, %d", b, q, err)
		}
	})
	if seen[true] < 5000 || seen[false] < 5000 {
		t.Errorf("packets of one kind alone: %v", seen)
	}
}

// P6.4
func TestWhatIsHandedInStays(t *testing.T) {
	for _, p := range examples() {
		p.Heads = append(p.Heads, heads(3, 4)...)[:len(p.Heads)]
		p.Body = append(p.Body, "more behind it"...)[:len(p.Body)]
		p.Advert.Peers = append(p.Advert.Peers, lives(7, 8)...)[:len(p.Advert.Peers)]
		all := api.Packet{Heads: p.Heads[:cap(p.Heads)], Body: p.Body[:cap(p.Body)], Advert: api.Advert{Peers: p.Advert.Peers[:cap(p.Advert.Peers)]}}
		was := clone(all)
		packet.May(p)
		b := encoded(t, p)
		if !alike(all, was) {
			t.Errorf("Encode changed what it was handed, or the room behind it: %v", all)
		}
		for n := range len(b) + 1 {
			whole := append(bytes.Clone(b[:n]), "and more"...)
			packet.Decode(whole[:n])
			if string(whole) != string(b[:n])+"and more" {
				t.Errorf("Decode changed what it was handed, or the room behind it: %x", whole)
			}
		}
	}
}

// P6.4
func TestWhatIsAnsweredIsNewMemory(t *testing.T) {
	for _, want := range examples() {
		p := clone(want)
		b := encoded(t, p)
		bytesWere := bytes.Clone(b)
		spoil(p)
		if !bytes.Equal(b, bytesWere) {
			t.Errorf("the bytes changed along with the packet: %x", b)
		}
		one, _ := packet.Decode(b)
		other, _ := packet.Decode(b)
		spoil(one)
		if !bytes.Equal(b, bytesWere) || !alike(other, want) {
			t.Errorf("changed along with a packet that was answered: %x, %v", b, other)
		}
		spoil(api.Packet{Body: b})
		if !alike(other, want) {
			t.Errorf("the packet changed along with the bytes: %v", other)
		}
		if again := encoded(t, want); !bytes.Equal(again, bytesWere) {
			t.Errorf("bytes changed along with those that were answered: %x", again)
		}
	}
}

// spoil changes all that lies in a packet's lists, and in the room behind them.
func spoil(p api.Packet) {
	for i := range p.Heads[:cap(p.Heads)] {
		p.Heads[:cap(p.Heads)][i] = api.Head{Dst: 99}
	}
	for i := range p.Body[:cap(p.Body)] {
		p.Body[:cap(p.Body)][i] ^= 0xFF
	}
	peers := p.Advert.Peers
	for i := range peers[:cap(peers)] {
		peers[:cap(peers)][i] = live(99, 99)
	}
}

// P6.4: nil and empty lists are alike.
func TestEmptyLists(t *testing.T) {
	for _, p := range append(examples(), with(advert(), func(p *api.Packet) { p.Advert.Peers = nil })) {
		q := clone(p)
		q.Heads, q.Body, q.Advert.Peers = slices.Concat([]api.Head{}, p.Heads), append([]byte{}, p.Body...), append([]api.Proc{}, p.Advert.Peers...)
		if a, b := encoded(t, p), encoded(t, q); !bytes.Equal(a, b) {
			t.Errorf("%#v has the bytes %x", q, b)
		}
	}
}

// P6.5
func TestThereAndBack(t *testing.T) {
	back := func(p api.Packet) {
		b := encoded(t, p)
		if len(b) > api.MaxPacket {
			t.Fatalf("%v has %d bytes", p, len(b))
		}
		if q, err := packet.Decode(b); !alike(p, q) || err != api.OK {
			t.Fatalf("%v comes back as %v, %d", p, q, err)
		}
	}
	for i, p := range greatest() {
		back(p)
		if n := len(encoded(t, p)); n != []int{1 + 6 + 5 + 1 + 3*6, 1 + 6 + 1 + 1 + 9*11 + 2 + 320, 1 + 6 + 1 + 1 + 16}[i] {
			t.Errorf("the greatest packet of kind %d has %d bytes", i+1, n)
		}
	}
	for n := 1; n <= 320; n++ {
		back(with(data(), func(p *api.Packet) { p.Body = bytes.Repeat([]byte{byte(n)}, n) }))
	}
	runs(func(_ *rand.Rand, good, _ api.Packet) { back(good) })
}

// P6.6
func TestOneForm(t *testing.T) {
	seen := map[int]int{}
	runs(func(d *rand.Rand, good, _ api.Packet) {
		b := bare(good)
		for range d.IntN(3) + 1 {
			b[d.IntN(min(len(b), 24))] ^= byte(1 << d.IntN(8))
		}
		p, err := packet.Decode(b)
		if err != api.OK {
			refused(t, "spoilt", b)
			return
		}
		seen[p.Kind]++
		if !may(p) || !bytes.Equal(encoded(t, p), b) {
			t.Fatalf("Decode(%x): %v", b, p)
		}
	})
	if min(seen[1], seen[2], seen[3]) < 500 {
		t.Errorf("too few packets were read: %v", seen)
	}
}

// P6.6: of all short rows of a few bytes.
func TestOneFormOfShortRows(t *testing.T) {
	few, seen := "\x00\x01\x02\x03\x05\x81", 0
	for n := range 9 {
		rows := 1
		for range n {
			rows *= len(few)
		}
		for row := range rows {
			b := make([]byte, n)
			for i := range b {
				b[i] = few[row%len(few)]
				row /= len(few)
			}
			p, err := packet.Decode(b)
			if err != api.OK {
				continue
			}
			seen++
			if !may(p) || !bytes.Equal(encoded(t, p), b) {
				t.Fatalf("Decode(%x): %v", b, p)
			}
		}
	}
	if seen < 1000 {
		t.Errorf("only %d packets were read", seen)
	}
}

// P6.7
func TestItsEnd(t *testing.T) {
	d := rand.New(rand.NewPCG(6, 2))
	packets := append(examples(), greatest()...)
	packets = append(packets, with(advert(), func(p *api.Packet) { p.Advert.Peers = nil }))
	for range 300 {
		packets = append(packets, some(d))
	}
	for _, p := range packets {
		b := encoded(t, p)
		for i := range b {
			refused(t, "a beginning", b[:i])
		}
		for x := range 256 {
			refused(t, "a byte more", append(bytes.Clone(b), byte(x)))
		}
	}
}
