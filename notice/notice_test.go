package notice_test

import (
	"bytes"
	"math"
	"math/rand/v2"
	"slices"
	"testing"

	"caucus/api"
	"caucus/code"
	"caucus/notice"
)

// top is the greatest number that there is.
const top = math.MaxUint64

// live is the life node.inc.
func live(node int, inc uint64) api.Proc { return api.Proc{Node: node, Inc: inc} }

// lives are some nodes' first lives.
func lives(nodes ...int) []api.Proc {
	var l []api.Proc
	for _, n := range nodes {
		l = append(l, live(n, 1))
	}
	return l
}

// join is the chapter's first example.
func join() api.Notice { return api.Notice{Kind: 1, Who: live(5, 2), Round: 300, Cid: 7} }

const joinBytes = "\x01\x05\x02\xac\x02\x07\x00"

// leave is the chapter's second example.
func leave() api.Notice { return api.Notice{Kind: 2, Who: live(5, 2)} }

const leaveBytes = "\x02\x05\x02"

// beat is a join notice's other kind, with a server.
func beat() api.Notice {
	return api.Notice{Kind: 3, Who: live(5, 2), Round: 300, Cid: 7, Set: lives(1)}
}

const beatBytes = "\x03\x05\x02\xac\x02\x07\x01\x01\x01"

// start is the chapter's third example.
func start() api.Notice {
	return api.Notice{Kind: 4, Who: live(1, 1), Cid: 9, Set: []api.Proc{live(5, 2)}}
}

const startBytes = "\x04\x01\x01\x09\x01\x05\x02"

// agreed is a notice of the view that is chapter 4's example.
func agreed() api.Notice {
	v := api.View{Id: api.ViewId{Round: 3, Server: live(1, 1)}, Members: []api.Proc{live(5, 2), live(6, 1)}, Starts: []uint64{4, 9}}
	return api.Notice{Kind: 5, View: v}
}

const agreedBytes = "\x05\x03\x01\x01\x02\x05\x02\x06\x01\x04\x09"

// first is the view that a life has by itself.
func first(p api.Proc) api.View {
	return api.View{Id: api.ViewId{Server: p}, Members: []api.Proc{p}, Starts: []uint64{0}}
}

// examples are one notice of each kind, in the kinds' order.
func examples() []api.Notice { return []api.Notice{join(), leave(), beat(), start(), agreed()} }

// bytesOf are the bytes of examples.
func bytesOf() []string { return []string{joinBytes, leaveBytes, beatBytes, startBytes, agreedBytes} }

// greatest are notices of as many bytes as one of their kind may have.
func greatest() []api.Notice {
	far := func(nodes ...int) []api.Proc {
		l := lives(nodes...)
		for i := range l {
			l[i].Inc = top
		}
		return l
	}
	v := api.View{Id: api.ViewId{Round: top, Server: live(4, top)}, Members: far(5, 6, 7, 8, 9, 10), Starts: slices.Repeat([]uint64{top}, 6)}
	return []api.Notice{
		{Kind: 1, Who: live(10, top), Round: top, Cid: top, Set: far(4)},
		{Kind: 2, Who: live(10, top)},
		{Kind: 3, Who: live(10, top), Round: top, Cid: top, Set: far(4)},
		{Kind: 4, Who: live(4, top), Cid: top, Set: far(5, 6, 7, 8, 9, 10)},
		{Kind: 5, View: v},
	}
}

// clone is a notice with memory of its own.
func clone(n api.Notice) api.Notice {
	n.Set, n.View.Members, n.View.Starts = slices.Clone(n.Set), slices.Clone(n.View.Members), slices.Clone(n.View.Starts)
	return n
}

// with is a notice in which something is changed.
func with(n api.Notice, change func(*api.Notice)) api.Notice {
	n = clone(n)
	change(&n)
	return n
}

// alike tells whether two notices are the same; nil and empty lists are one.
func alike(a, b api.Notice) bool {
	return a.Kind == b.Kind && a.Who == b.Who && a.Round == b.Round && a.Cid == b.Cid && slices.Equal(a.Set, b.Set) && named(a, b) &&
		slices.Equal(a.View.Members, b.View.Members) && slices.Equal(a.View.Starts, b.View.Starts)
}

// named tells whether the views of two notices have the same name.
func named(a, b api.Notice) bool {
	p, q := a.View.Id, b.View.Id
	return p.Round == q.Round && p.Server.Node == q.Server.Node && p.Server.Inc == q.Server.Inc
}

// within tells whether a node's number is from 1 to most, and its life one that may be.
func within(p api.Proc, most int) bool { return 1 <= p.Node && p.Node <= most && p.Inc > 0 }

// rising tells whether 1 to 6 lives may be and their nodes rise, so that they are a set with no node twice.
func rising(l []api.Proc) bool {
	for i, p := range l {
		if !within(p, 10) || i > 0 && l[i-1].Node >= p.Node {
			return false
		}
	}
	return 1 <= len(l) && len(l) <= 6
}

// may tells, as the document does, whether a notice may be.
func may(n api.Notice) bool {
	bare := api.Notice{Kind: n.Kind}
	holds := false
	switch n.Kind {
	case 1, 3:
		bare.Who, bare.Round, bare.Cid, bare.Set = n.Who, n.Round, n.Cid, n.Set
		holds = within(n.Who, 10) && (len(n.Set) == 0 || len(n.Set) == 1 && within(n.Set[0], 4))
	case 2:
		bare.Who = n.Who
		holds = within(n.Who, 10)
	case 4:
		bare.Who, bare.Cid, bare.Set = n.Who, n.Cid, n.Set
		holds = within(n.Who, 4) && n.Cid != 0 && rising(n.Set)
	case 5:
		bare.View = n.View
		holds = n.View.Id.Round != 0 && within(n.View.Id.Server, 4) && rising(n.View.Members) &&
			len(n.View.Starts) == len(n.View.Members) && !slices.Contains(n.View.Starts, 0)
	}
	return holds && alike(n, bare)
}

// bare are, as the document tells them, the bytes of a notice, whether it may be or not; those of an unknown kind are a leave notice's.
func bare(n api.Notice) []byte {
	w := code.NewWriter()
	put := func(l ...api.Proc) {
		for _, p := range l {
			w.U8(uint8(p.Node))
			w.Uint(p.Inc)
		}
	}
	kind := uint8(n.Kind)
	w.U8(kind)
	if kind == 5 {
		w.Uint(n.View.Id.Round)
		put(n.View.Id.Server)
		w.U8(uint8(len(n.View.Members)))
		put(n.View.Members...)
		w.Put(n.View.Starts...)
		return w.Bytes()
	}
	put(n.Who)
	if kind == 1 || kind == 3 {
		w.Uint(n.Round)
	}
	if kind == 1 || kind == 3 || kind == 4 {
		w.Uint(n.Cid)
		w.U8(uint8(len(n.Set)))
		put(n.Set...)
	}
	return w.Bytes()
}

// told is what a notice's bytes tell of it: of each kind what it has, of its small numbers one byte.
func told(n api.Notice) api.Notice {
	low := func(l []api.Proc) []api.Proc {
		l = slices.Clone(l)
		for i := range l {
			l[i].Node = int(uint8(l[i].Node))
		}
		return l
	}
	m := api.Notice{Kind: int(uint8(n.Kind))}
	if m.Kind == 5 {
		m.View = clone(n).View
		m.View.Members, m.View.Id.Server = low(n.View.Members), low([]api.Proc{n.View.Id.Server})[0]
		return m
	}
	m.Who = low([]api.Proc{n.Who})[0]
	if m.Kind == 1 || m.Kind == 3 {
		m.Round = n.Round
	}
	if m.Kind == 1 || m.Kind == 3 || m.Kind == 4 {
		m.Cid, m.Set = n.Cid, low(n.Set)
	}
	return m
}

// encoded are the bytes of a notice that may be.
func encoded(t *testing.T, n api.Notice) []byte {
	t.Helper()
	b, err := notice.Encode(n)
	if err != api.OK {
		t.Fatalf("Encode(%v): %d", n, err)
	}
	return b
}

// refused tells a fault if bytes are taken for a notice, or anything is told beside the error.
func refused(t *testing.T, what string, b []byte) {
	t.Helper()
	n, err := notice.Decode(b)
	if err != api.ErrForm || n.Set != nil || n.View.Members != nil || n.View.Starts != nil || !alike(n, api.Notice{}) {
		t.Fatalf("%s: Decode(%x): %v, %d", what, b, n, err)
	}
}

// oneOf draws one of a few.
func oneOf[T any](d *rand.Rand, l ...T) T { return l[d.IntN(len(l))] }

// number is a random one, perhaps 0; short ones are as likely as long ones.
func number(d *rand.Rand) uint64 { return d.Uint64() >> d.IntN(65) }

// count is a random number above 0.
func count(d *rand.Rand) uint64 { return max(number(d), 1) }

// members are 1 to 6 random lives, of rising nodes.
func members(d *rand.Rand) []api.Proc {
	nodes := d.Perm(10)[:d.IntN(6)+1]
	slices.Sort(nodes)
	var l []api.Proc
	for _, n := range nodes {
		l = append(l, live(n+1, count(d)))
	}
	return l
}

// some is a random notice that may be.
func some(d *rand.Rand) api.Notice {
	n := api.Notice{Kind: d.IntN(5) + 1}
	who, server := live(d.IntN(10)+1, count(d)), live(d.IntN(4)+1, count(d))
	switch n.Kind {
	case 1, 3:
		n.Who, n.Round, n.Cid = who, number(d), number(d)
		n.Set = oneOf(d, nil, []api.Proc{server})
	case 2:
		n.Who = who
	case 4:
		n.Who, n.Cid, n.Set = server, count(d), members(d)
	case 5:
		n.View = api.View{Id: api.ViewId{Round: count(d), Server: server}, Members: members(d)}
		for range n.View.Members {
			n.View.Starts = append(n.View.Starts, count(d))
		}
	}
	return n
}

// strange draws a life at whose numbers something changes, perhaps.
func strange(d *rand.Rand) api.Proc {
	node := oneOf(d, math.MinInt, -1, 0, 1, 2, 4, 5, 6, 10, 11, 255, 256, 257, 261, math.MaxInt)
	return live(node, oneOf[uint64](d, 0, 1, 2, 300, top))
}

// bentList is a list of lives with one thing changed.
func bentList(d *rand.Rand, l []api.Proc) []api.Proc {
	if len(l) == 0 || d.IntN(4) == 0 {
		return oneOf(d, nil, []api.Proc{}, lives(1), lives(4), lives(5), lives(1, 2), lives(5, 6, 7, 8, 9, 10), lives(4, 5, 6, 7, 8, 9, 10), lives(make([]int, 257)...))
	}
	i, j := d.IntN(len(l)), d.IntN(len(l))
	switch d.IntN(5) {
	case 0:
		l[i] = strange(d)
	case 1:
		l = append(l, strange(d))
	case 2:
		l[i], l[j] = l[j], l[i]
	case 3:
		l = slices.Insert(l, i, live(l[i].Node, l[i].Inc-1))
	case 4:
		l = l[:i]
	}
	return l
}

// bent is a notice with one thing changed, so that many of them may not be.
func bent(d *rand.Rand, n api.Notice) api.Notice {
	n = clone(n)
	switch d.IntN(9) {
	case 0:
		n.Kind = oneOf(d, math.MinInt, -1, 0, 1, 2, 3, 4, 5, 6, 255, 256, 257, 258, 259, 260, 261, math.MaxInt)
	case 1:
		n.Who = strange(d)
	case 2:
		n.Round = oneOf(d, 0, 1, number(d))
	case 3:
		n.Cid = oneOf(d, 0, 1, number(d))
	case 4:
		n.Set = bentList(d, n.Set)
	case 5:
		n.View.Id = api.ViewId{Round: oneOf(d, 0, n.View.Id.Round), Server: oneOf(d, strange(d), n.View.Id.Server)}
	case 6:
		n.View.Members = bentList(d, n.View.Members)
	case 7:
		n.View.Starts = oneOf(d, nil, []uint64{}, []uint64{0}, []uint64{1}, []uint64{1, 2}, append(n.View.Starts, 0), append(n.View.Starts, 1))
	case 8:
		n.View = oneOf(d, api.View{}, agreed().View, first(live(5, 1)), first(live(1, 1)))
	}
	return n
}

// runs calls f with random notices: one that may be, and one that may not be, perhaps.
func runs(f func(d *rand.Rand, good, other api.Notice)) {
	d := rand.New(rand.NewPCG(8, 1))
	for range 30000 {
		good := some(d)
		f(d, good, bent(d, good))
	}
}

// edge is a notice, and whether it may be.
type edge struct {
	what string
	n    api.Notice
	want bool
}

// asked tells a fault where May says otherwise, or Encode.
func asked(t *testing.T, l []edge) {
	t.Helper()
	for _, c := range l {
		if got := notice.May(c.n); got != c.want || may(c.n) != c.want {
			t.Errorf("%s: %v", c.what, got)
		}
		if b, err := notice.Encode(c.n); (err == api.OK) != c.want || !c.want && (err != api.ErrForm || b != nil) {
			t.Errorf("%s: Encode: %x, %d", c.what, b, err)
		}
	}
}

// P8.1: of kinds.
func TestMayOfKinds(t *testing.T) {
	l := []edge{{"the zero notice", api.Notice{}, false}}
	for _, n := range examples() {
		l = append(l, edge{"the example", n, true}, edge{"nothing but its kind", api.Notice{Kind: n.Kind}, false})
		for kind := -2; kind < 600; kind++ {
			// A join and a beat have the same fields, a leave one of them: the others may be zero.
			want := kind == n.Kind || n.Kind <= 3 && (kind == 1 || kind == 3)
			l = append(l, edge{"another kind", with(n, func(n *api.Notice) { n.Kind = kind }), want})
		}
	}
	for _, n := range greatest() {
		l = append(l, edge{"the greatest one", n, true})
	}
	asked(t, l)
}

// P8.1: whose notice it is.
func TestMayOfWho(t *testing.T) {
	for _, n := range examples()[:4] {
		who := func(node int, inc uint64) api.Notice {
			return with(n, func(n *api.Notice) { n.Who = live(node, inc) })
		}
		client := n.Kind != 4
		asked(t, []edge{
			{"the first server", who(1, 1), true},
			{"the last server, its last life", who(4, top), true},
			{"the first client", who(5, 1), client},
			{"the last node, its last life", who(10, top), client},
			{"a node behind all", who(11, 1), false},
			{"node 0", who(0, 1), false},
			{"node -1", who(-1, 1), false},
			{"node 257", who(257, 1), false},
			{"the least node", who(math.MinInt, 1), false},
			{"the greatest node", who(math.MaxInt, 1), false},
			{"life 0", who(1, 0), false},
			{"nobody", who(0, 0), false},
		})
	}
}

// P8.1: of joins and beats.
func TestMayOfJoinsAndBeats(t *testing.T) {
	for _, n := range []api.Notice{join(), beat()} {
		set := func(l ...api.Proc) api.Notice { return with(n, func(n *api.Notice) { n.Set = l }) }
		asked(t, []edge{
			{"no round", with(n, func(n *api.Notice) { n.Round = 0 }), true},
			{"the greatest round", with(n, func(n *api.Notice) { n.Round = top }), true},
			{"no number", with(n, func(n *api.Notice) { n.Cid = 0 }), true},
			{"the greatest number", with(n, func(n *api.Notice) { n.Cid = top }), true},
			{"neither, and nobody", api.Notice{Kind: n.Kind, Who: n.Who}, true},
			{"nobody", set(), true},
			{"an empty list", set([]api.Proc{}...), true},
			{"the first server", set(lives(1)...), true},
			{"the last server, its last life", set(live(4, top)), true},
			{"the first client", set(lives(5)...), false},
			{"the last node", set(lives(10)...), false},
			{"a node behind all", set(lives(11)...), false},
			{"node 0", set(lives(0)...), false},
			{"node -1", set(lives(-1)...), false},
			{"node 257", set(lives(257)...), false},
			{"life 0", set(live(1, 0)), false},
			{"the zero life", set(api.Proc{}), false},
			{"two servers", set(lives(1, 2)...), false},
			{"a server twice", set(lives(1, 1)...), false},
			{"a server, and the zero life", set(live(1, 1), api.Proc{}), false},
			{"256 lives", set(lives(make([]int, 256)...)...), false},
			{"a view", with(n, func(n *api.Notice) { n.View = agreed().View }), false},
			{"a view's round", with(n, func(n *api.Notice) { n.View.Id.Round = 1 }), false},
			{"a view's server", with(n, func(n *api.Notice) { n.View.Id.Server.Node = 1 }), false},
			{"a view's server's life", with(n, func(n *api.Notice) { n.View.Id.Server.Inc = 1 }), false},
			{"a view's member", with(n, func(n *api.Notice) { n.View.Members = make([]api.Proc, 1) }), false},
			{"a view's start", with(n, func(n *api.Notice) { n.View.Starts = make([]uint64, 1) }), false},
			{"a view's empty lists", with(n, func(n *api.Notice) { n.View.Members, n.View.Starts = []api.Proc{}, []uint64{} }), true},
		})
	}
}

// P8.1: of leaves.
func TestMayOfLeaves(t *testing.T) {
	leaves := func(change func(*api.Notice)) api.Notice { return with(leave(), change) }
	asked(t, []edge{
		{"a round", leaves(func(n *api.Notice) { n.Round = 1 }), false},
		{"a number", leaves(func(n *api.Notice) { n.Cid = 1 }), false},
		{"a server", leaves(func(n *api.Notice) { n.Set = lives(1) }), false},
		{"the zero life", leaves(func(n *api.Notice) { n.Set = make([]api.Proc, 1) }), false},
		{"an empty list", leaves(func(n *api.Notice) { n.Set = []api.Proc{} }), true},
		{"a view", leaves(func(n *api.Notice) { n.View = agreed().View }), false},
		{"a view's round", leaves(func(n *api.Notice) { n.View.Id.Round = 1 }), false},
		{"a view's server", leaves(func(n *api.Notice) { n.View.Id.Server.Node = 1 }), false},
		{"a view's member", leaves(func(n *api.Notice) { n.View.Members = make([]api.Proc, 1) }), false},
		{"a view's start", leaves(func(n *api.Notice) { n.View.Starts = make([]uint64, 1) }), false},
	})
}

// P8.1: of starts.
func TestMayOfStarts(t *testing.T) {
	starts := func(change func(*api.Notice)) api.Notice { return with(start(), change) }
	set := func(l ...api.Proc) api.Notice { return starts(func(n *api.Notice) { n.Set = l }) }
	asked(t, []edge{
		{"a round", starts(func(n *api.Notice) { n.Round = 1 }), false},
		{"number 0", starts(func(n *api.Notice) { n.Cid = 0 }), false},
		{"number 1", starts(func(n *api.Notice) { n.Cid = 1 }), true},
		{"the greatest number", starts(func(n *api.Notice) { n.Cid = top }), true},
		{"nobody", set(), false},
		{"an empty list", set([]api.Proc{}...), false},
		{"a server", set(lives(1)...), true},
		{"the first and the last node", set(live(1, 1), live(10, top)), true},
		{"a node behind all", set(lives(5, 11)...), false},
		{"node 0", set(lives(0, 5)...), false},
		{"node -1", set(lives(-1)...), false},
		{"node 261", set(lives(261)...), false},
		{"life 0", set(live(5, 1), live(6, 0)), false},
		{"the zero life", set(api.Proc{}), false},
		{"6 clients", set(lives(5, 6, 7, 8, 9, 10)...), true},
		{"7 lives", set(lives(4, 5, 6, 7, 8, 9, 10)...), false},
		{"256 lives", set(lives(make([]int, 256)...)...), false},
		{"257 lives", set(lives(make([]int, 257)...)...), false},
		{"the other way round", set(lives(6, 5)...), false},
		{"a life twice", set(lives(5, 5)...), false},
		{"two lives of a node", set(live(5, 1), live(5, 2)), false},
		{"two lives of a node, the later ahead", set(live(5, 2), live(5, 1)), false},
		{"two lives of a node behind others", set(live(5, 1), live(6, 1), live(6, 2)), false},
		{"a node again behind another", set(lives(5, 6, 5)...), false},
		{"a view", starts(func(n *api.Notice) { n.View = agreed().View }), false},
		{"a view's round", starts(func(n *api.Notice) { n.View.Id.Round = 1 }), false},
		{"a view's server", starts(func(n *api.Notice) { n.View.Id.Server.Node = 1 }), false},
		{"a view's member", starts(func(n *api.Notice) { n.View.Members = make([]api.Proc, 1) }), false},
		{"a view's start", starts(func(n *api.Notice) { n.View.Starts = make([]uint64, 1) }), false},
	})
}

// P8.1: of views.
func TestMayOfViews(t *testing.T) {
	views := func(change func(*api.Notice)) api.Notice { return with(agreed(), change) }
	asked(t, []edge{
		{"somebody", views(func(n *api.Notice) { n.Who = live(1, 1) }), false},
		{"a node alone", views(func(n *api.Notice) { n.Who.Node = 1 }), false},
		{"a life alone", views(func(n *api.Notice) { n.Who.Inc = 1 }), false},
		{"a round", views(func(n *api.Notice) { n.Round = 3 }), false},
		{"a number", views(func(n *api.Notice) { n.Cid = 4 }), false},
		{"a set", views(func(n *api.Notice) { n.Set = lives(5) }), false},
		{"the zero life", views(func(n *api.Notice) { n.Set = make([]api.Proc, 1) }), false},
		{"an empty list", views(func(n *api.Notice) { n.Set = []api.Proc{} }), true},
		{"a first view", views(func(n *api.Notice) { n.View = first(live(5, 2)) }), false},
		{"a server's first view", views(func(n *api.Notice) { n.View = first(live(1, 1)) }), false},
		{"the view's round 0", views(func(n *api.Notice) { n.View.Id.Round = 0 }), false},
		{"the view's round 1", views(func(n *api.Notice) { n.View.Id.Round = 1 }), true},
		{"the view's greatest round", views(func(n *api.Notice) { n.View.Id.Round = top }), true},
		{"a client's name", views(func(n *api.Notice) { n.View.Id.Server.Node = 5 }), false},
		{"a name of life 0", views(func(n *api.Notice) { n.View.Id.Server.Inc = 0 }), false},
		{"no members", views(func(n *api.Notice) { n.View.Members, n.View.Starts = nil, nil }), false},
		{"members the other way round", views(func(n *api.Notice) { slices.Reverse(n.View.Members) }), false},
		{"a node twice", views(func(n *api.Notice) { n.View.Members[1].Node, n.View.Members[1].Inc = 5, 3 }), false},
		{"a start that is 0", views(func(n *api.Notice) { n.View.Starts[1] = 0 }), false},
		{"a start too few", views(func(n *api.Notice) { n.View.Starts = n.View.Starts[:1] }), false},
		{"a start too many", views(func(n *api.Notice) { n.View.Starts = append(n.View.Starts, 1) }), false},
		{"the zero view", views(func(n *api.Notice) { n.View = api.View{} }), false},
	})
}

// P8.1, P8.2
func TestMayOfRandomNotices(t *testing.T) {
	seen := map[bool]map[int]int{true: {}, false: {}}
	runs(func(_ *rand.Rand, good, n api.Notice) {
		seen[may(n)][n.Kind]++
		asked(t, []edge{{"random", good, true}, {"random, and bent", n, may(n)}})
		if t.Failed() {
			t.Fatal(good, n)
		}
	})
	for kind := 1; kind <= 5; kind++ {
		if seen[true][kind] < 500 || seen[false][kind] < 500 {
			t.Errorf("of kind %d there were few that may be, or few that may not: %v", kind, seen)
		}
	}
}

// P8.1: each field counts.
func TestSame(t *testing.T) {
	full := greatest()[0]
	full.View = agreed().View
	full.Set = lives(5, 6)
	changes := map[string]func(*api.Notice){
		"kind":                    func(n *api.Notice) { n.Kind = 3 },
		"kind, by 256":            func(n *api.Notice) { n.Kind += 256 },
		"whose node":              func(n *api.Notice) { n.Who.Node-- },
		"whose life":              func(n *api.Notice) { n.Who.Inc-- },
		"round":                   func(n *api.Notice) { n.Round-- },
		"round, by its last bit":  func(n *api.Notice) { n.Round >>= 1 },
		"number":                  func(n *api.Notice) { n.Cid-- },
		"set's node":              func(n *api.Notice) { n.Set[1].Node = 7 },
		"set's life":              func(n *api.Notice) { n.Set[0].Inc = 2 },
		"set's order":             func(n *api.Notice) { slices.Reverse(n.Set) },
		"set, one more":           func(n *api.Notice) { n.Set = append(n.Set, live(7, 1)) },
		"set, the last one twice": func(n *api.Notice) { n.Set = append(n.Set, n.Set[1]) },
		"set, one less":           func(n *api.Notice) { n.Set = n.Set[:1] },
		"set, none":               func(n *api.Notice) { n.Set = nil },
		"view's round":            func(n *api.Notice) { n.View.Id.Round++ },
		"view's server":           func(n *api.Notice) { n.View.Id.Server.Node++ },
		"view's server's life":    func(n *api.Notice) { n.View.Id.Server.Inc++ },
		"view's member":           func(n *api.Notice) { n.View.Members[1].Inc++ },
		"view's members' order":   func(n *api.Notice) { slices.Reverse(n.View.Members) },
		"view's members":          func(n *api.Notice) { n.View.Members = n.View.Members[:1] },
		"view's start":            func(n *api.Notice) { n.View.Starts[1]++ },
		"view's starts' order":    func(n *api.Notice) { slices.Reverse(n.View.Starts) },
		"view's starts":           func(n *api.Notice) { n.View.Starts = n.View.Starts[:1] },
		"view, the zero one":      func(n *api.Notice) { n.View = api.View{} },
	}
	if !notice.Same(full, clone(full)) {
		t.Error("a notice is another one than itself")
	}
	for what, change := range changes {
		other := with(full, change)
		if notice.Same(full, other) || notice.Same(other, full) {
			t.Errorf("%s: the same", what)
		}
		if !notice.Same(other, clone(other)) {
			t.Errorf("%s: another one than itself", what)
		}
	}
}

// P8.1: of random notices; those that may not be are compared likewise.
func TestSameOfRandomNotices(t *testing.T) {
	seen := map[bool]int{}
	runs(func(d *rand.Rand, good, n api.Notice) {
		other := some(d)
		seen[alike(good, n)]++
		if notice.Same(good, n) != alike(good, n) || notice.Same(n, other) != alike(n, other) || !notice.Same(n, clone(n)) {
			t.Fatalf("Same of two of %v, %v, %v", good, n, other)
		}
	})
	if seen[true] < 1000 || seen[false] < 1000 {
		t.Errorf("pairs of one kind alone: %v", seen)
	}
}

// P8.1, P8.2: nil and empty lists are alike.
func TestEmptyLists(t *testing.T) {
	for _, n := range append(examples(), api.Notice{}) {
		e := n
		e.Set = slices.Concat([]api.Proc{}, n.Set)
		e.View.Members = append([]api.Proc{}, n.View.Members...)
		e.View.Starts = append([]uint64{}, n.View.Starts...)
		if !notice.Same(n, e) || !notice.Same(e, n) || notice.May(n) != notice.May(e) {
			t.Errorf("%#v is another one with empty lists", n)
		}
		one, _ := notice.Encode(n)
		other, _ := notice.Encode(e)
		if !bytes.Equal(one, other) {
			t.Errorf("%#v has the bytes %x", e, other)
		}
	}
}

// P8.2, P8.3: each kind's bytes.
func TestExamples(t *testing.T) {
	all, want := examples(), bytesOf()
	all = append(all, with(join(), func(n *api.Notice) { n.Set = lives(1) }))
	want = append(want, joinBytes[:len(joinBytes)-1]+"\x01\x01\x01")
	for i, n := range all {
		if b, err := notice.Encode(n); string(b) != want[i] || err != api.OK {
			t.Errorf("Encode(%v): %x, %d", n, b, err)
		}
		if m, err := notice.Decode([]byte(want[i])); !alike(m, n) || err != api.OK {
			t.Errorf("Decode(%x): %v, %d", want[i], m, err)
		}
	}
	if b, err := notice.Encode(with(leave(), func(n *api.Notice) { n.Cid = 1 })); b != nil || err != api.ErrForm {
		t.Errorf("Encode of a leave notice with a number: %x, %d", b, err)
	}
}

// P8.2
func TestEncodeOfRandomNotices(t *testing.T) {
	runs(func(_ *rand.Rand, good, _ api.Notice) {
		if b := encoded(t, good); !bytes.Equal(b, bare(good)) {
			t.Fatalf("Encode(%v): %x", good, b)
		}
	})
}

// P8.3: of bytes that are no notice's.
func TestDecodeOfOtherBytes(t *testing.T) {
	many := string(bytes.Repeat([]byte("\x05\x01"), 255))
	for what, s := range map[string]string{
		"no bytes":                           "",
		"kind 0":                             "\x00",
		"kind 0, and a life":                 "\x00\x05\x02",
		"a proposal's kind":                  "\x06",
		"kind 6, and a life":                 "\x06\x05\x02",
		"kind 255":                           "\xff\x05\x02",
		"a kind alone":                       "\x02",
		"a leave with more":                  "\x02\x05\x02\x00",
		"two leaves":                         leaveBytes + leaveBytes,
		"a leave of node 0":                  "\x02\x00\x02",
		"a leave of node 11":                 "\x02\x0b\x02",
		"a leave of life 0":                  "\x02\x05\x00",
		"a leave, its life in more groups":   "\x02\x05\x82\x00",
		"a leave, its life beyond 64 bits":   "\x02\x05\xff\xff\xff\xff\xff\xff\xff\xff\xff\x02",
		"a join without its set":             "\x01\x05\x02\xac\x02\x07",
		"a join, its round in more groups":   "\x01\x05\x02\x80\x00\x07\x00",
		"a join, its number in more groups":  "\x01\x05\x02\x00\x87\x00\x00",
		"a join of a client's start":         "\x01\x05\x02\x00\x07\x01\x05\x01",
		"a join of two servers' starts":      "\x01\x05\x02\x00\x07\x02\x01\x01\x02\x01",
		"a join of a start of life 0":        "\x01\x05\x02\x00\x07\x01\x01\x00",
		"a join of a start of node 0":        "\x01\x05\x02\x00\x07\x01\x00\x01",
		"a join of a start that isn't there": "\x01\x05\x02\x00\x07\x01",
		"a join, its set's length in two":    "\x01\x05\x02\x00\x07\x80\x00",
		"a join with a start, and more":      "\x01\x05\x02\x00\x07\x01\x01\x01\x00",
		"a join of 255 starts":               "\x01\x05\x02\x00\x07\xff" + many,
		"a beat without its set":             "\x03\x05\x02\x00\x00",
		"a beat of life 0":                   "\x03\x05\x00\x00\x00\x00",
		"a beat of two servers' starts":      "\x03\x05\x02\x00\x07\x02\x01\x01\x02\x01",
		"a start from a client":              "\x04\x05\x01\x09\x01\x05\x02",
		"a start of number 0":                "\x04\x01\x01\x00\x01\x05\x02",
		"a start of nobody":                  "\x04\x01\x01\x09\x00",
		"a start without its set":            "\x04\x01\x01\x09",
		"a start of 7":                       "\x04\x01\x01\x09\x07\x04\x01\x05\x01\x06\x01\x07\x01\x08\x01\x09\x01\x0a\x01",
		"a start of 255":                     "\x04\x01\x01\x09\xff" + many,
		"a start of 255 that aren't there":   "\x04\x01\x01\x09\xff",
		"a start, the other way round":       "\x04\x01\x01\x09\x02\x06\x01\x05\x01",
		"a start of a life twice":            "\x04\x01\x01\x09\x02\x05\x01\x05\x01",
		"a start of two lives of a node":     "\x04\x01\x01\x09\x02\x05\x01\x05\x02",
		"a start with a round":               "\x04\x01\x01\x02\x09\x01\x05\x02",
		"a start, the second not there":      "\x04\x01\x01\x09\x02\x05\x02",
		"a view of round 0":                  "\x05\x00\x01\x01\x02\x05\x02\x06\x01\x04\x09",
		"a first view":                       "\x05\x00\x05\x02\x01\x05\x02\x00",
		"a server's first view":              "\x05\x00\x01\x01\x01\x01\x01\x00",
		"a first view, its start not there":  "\x05\x00\x05\x02\x01\x05\x02",
		"a view by a client's name":          "\x05\x03\x05\x01\x02\x05\x02\x06\x01\x04\x09",
		"a view of nobody":                   "\x05\x03\x01\x01\x00",
		"a view with a start 0":              "\x05\x03\x01\x01\x02\x05\x02\x06\x01\x04\x00",
		"a view, its second start not there": "\x05\x03\x01\x01\x02\x05\x02\x06\x01\x04",
		"a view with a start too many":       agreedBytes + "\x01",
		"a view of two lives of a node":      "\x05\x03\x01\x01\x02\x05\x01\x05\x02\x04\x09",
		"a view behind somebody":             "\x05\x01\x01\x03\x01\x01\x02\x05\x02\x06\x01\x04\x09",
		"very many bytes":                    leaveBytes + string(make([]byte, 1<<16)),
	} {
		refused(t, what, []byte(s))
	}
	refused(t, "nil", nil)
}

// P8.3: of notices' fields as bytes, whether they may be or not: what they tell is read, or refused.
func TestDecodeOfRandomNotices(t *testing.T) {
	seen := map[bool]int{}
	runs(func(_ *rand.Rand, _, n api.Notice) {
		b, want := bare(n), told(n)
		// Lengths of more than a byte, and starts that aren't as many as the members, tell something else.
		if len(n.Set) > 255 || len(n.View.Members) > 255 || len(n.View.Starts) != len(n.View.Members) {
			return
		}
		seen[may(want)]++
		if !may(want) {
			refused(t, "random", b)
		} else if m, err := notice.Decode(b); !alike(m, want) || err != api.OK {
			t.Fatalf("Decode(%x): %v, %d", b, m, err)
		}
	})
	if seen[true] < 5000 || seen[false] < 2500 {
		t.Errorf("notices of one kind alone: %v", seen)
	}
}

// P8.2, P8.3
func TestWhatIsHandedInStays(t *testing.T) {
	for _, n := range examples() {
		n.Set = append(n.Set, lives(7, 8)...)[:len(n.Set)]
		n.View.Members = append(n.View.Members, lives(7, 8)...)[:len(n.View.Members)]
		n.View.Starts = append(n.View.Starts, 70, 80)[:len(n.View.Starts)]
		all := roomy(n)
		was := clone(all)
		notice.May(n)
		notice.Same(n, n)
		b := encoded(t, n)
		if !alike(all, was) {
			t.Errorf("what was handed in has changed, or the room behind it: %v", all)
		}
		for i := range len(b) + 1 {
			whole := append(bytes.Clone(b[:i]), "and more"...)
			notice.Decode(whole[:i])
			if string(whole) != string(b[:i])+"and more" {
				t.Errorf("Decode changed what it was handed, or the room behind it: %x", whole)
			}
		}
	}
}

// roomy is a notice whose lists have the room behind their ends, too.
func roomy(n api.Notice) api.Notice {
	v := n.View
	return api.Notice{Set: n.Set[:cap(n.Set)], View: api.View{Members: v.Members[:cap(v.Members)], Starts: v.Starts[:cap(v.Starts)]}}
}

// spoil changes all that lies in a notice's lists, and in the room behind them.
func spoil(n api.Notice) {
	all := roomy(n)
	for i := range all.Set {
		all.Set[i] = live(99, 99)
	}
	for i := range all.View.Members {
		all.View.Members[i] = live(98, 98)
	}
	for i := range all.View.Starts {
		all.View.Starts[i] = 97
	}
}

// P8.2, P8.3
func TestWhatIsAnsweredIsNewMemory(t *testing.T) {
	for i, want := range examples() {
		n, text := clone(want), bytesOf()[i]
		b := encoded(t, n)
		spoil(n)
		if string(b) != text {
			t.Errorf("the bytes changed along with the notice: %x", b)
		}
		one, _ := notice.Decode(b)
		other, _ := notice.Decode(b)
		spoil(one)
		if string(b) != text || !alike(other, want) {
			t.Errorf("changed along with a notice that was answered: %x, %v", b, other)
		}
		again := encoded(t, want)
		for j := range b[:cap(b)] {
			b[:cap(b)][j] ^= 0xFF
		}
		if string(again) != text || string(encoded(t, want)) != text || !alike(other, want) {
			t.Errorf("changed along with the bytes: %x, %v", again, other)
		}
	}
}

// P8.4
func TestThereAndBack(t *testing.T) {
	back := func(n api.Notice) {
		b := encoded(t, n)
		if len(b) > api.MaxText {
			t.Fatalf("%v has %d bytes", n, len(b))
		}
		if m, err := notice.Decode(b); !alike(m, n) || !notice.Same(m, n) || err != api.OK {
			t.Fatalf("%v comes back as %v, %d", n, m, err)
		}
	}
	for i, n := range greatest() {
		back(n)
		if size := len(encoded(t, n)); size != []int{1 + 11 + 20 + 1 + 11, 1 + 11, 1 + 11 + 20 + 1 + 11, 1 + 11 + 10 + 1 + 6*11, 1 + 10 + 11 + 1 + 6*21}[i] {
			t.Errorf("the greatest notice of kind %d has %d bytes", i+1, size)
		}
	}
	runs(func(_ *rand.Rand, good, _ api.Notice) { back(good) })
}

// P8.5
func TestItsEnd(t *testing.T) {
	d := rand.New(rand.NewPCG(8, 2))
	all := append(examples(), greatest()...)
	for range 300 {
		all = append(all, some(d))
	}
	for _, n := range all {
		b := encoded(t, n)
		for i := range b {
			refused(t, "a beginning", b[:i])
		}
		for x := range 256 {
			refused(t, "a byte more", append(bytes.Clone(b), byte(x)))
		}
		refused(t, "another one behind it", append(bytes.Clone(b), encoded(t, some(d))...))
	}
}

// P8.5: what is read is, written, what was read; so unlike bytes are unlike notices'.
func TestOneForm(t *testing.T) {
	seen := map[int]int{}
	runs(func(d *rand.Rand, good, _ api.Notice) {
		b := bare(good)
		for range d.IntN(3) + 1 {
			b[d.IntN(len(b))] ^= byte(1 << d.IntN(8))
		}
		n, err := notice.Decode(b)
		if err != api.OK {
			refused(t, "spoilt", b)
			return
		}
		seen[n.Kind]++
		if !may(n) || !bytes.Equal(encoded(t, n), b) {
			t.Fatalf("Decode(%x): %v", b, n)
		}
	})
	if len(seen) != 5 || min(seen[1], seen[2], seen[3], seen[4], seen[5]) < 500 {
		t.Errorf("too few notices were read: %v", seen)
	}
}

// P8.5: of all short rows of a few bytes.
func TestOneFormOfShortRows(t *testing.T) {
	few, seen := "\x00\x01\x02\x03\x04\x05\x81", map[int]int{}
	for n := range 8 {
		rows := 1
		for range n {
			rows *= len(few)
		}
		for row := range rows {
			b := make([]byte, n)
			for i := range b {
				b[i] = few[row%len(few)]
				row /= len(few)
			}
			m, err := notice.Decode(b)
			if err != api.OK {
				continue
			}
			seen[m.Kind]++
			if !may(m) || !bytes.Equal(encoded(t, m), b) {
				t.Fatalf("Decode(%x): %v", b, m)
			}
		}
	}
	if min(seen[1], seen[2], seen[3], seen[4]) < 20 {
		t.Errorf("too few notices were read: %v", seen)
	}
}

// P8.5: unlike notices have unlike bytes.
func TestUnlikeNotices(t *testing.T) {
	by := map[string]api.Notice{}
	seen := 0
	runs(func(_ *rand.Rand, good, other api.Notice) {
		for _, n := range []api.Notice{good, other} {
			if !may(n) {
				continue
			}
			b := string(encoded(t, n))
			if m, was := by[b]; was && !alike(m, n) {
				t.Fatalf("%v and %v have the bytes %x", m, n, b)
			}
			by[b] = n
		}
		if may(other) && !alike(good, other) {
			seen++
		}
	})
	if seen < 1000 {
		t.Errorf("only %d pairs that are unlike and near", seen)
	}
}
