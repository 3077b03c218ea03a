package view_test

import (
	"math"
	"math/rand/v2"
	"slices"
	"testing"

	"caucus/api"
	"caucus/code"
	"caucus/proc"
	"caucus/view"
)

// p is the life node.inc.
func p(node int, inc uint64) api.Proc { return api.Proc{Node: node, Inc: inc} }

// ps are lives of some nodes, their first ones.
func ps(nodes ...int) []api.Proc {
	var l []api.Proc
	for _, n := range nodes {
		l = append(l, p(n, 1))
	}
	return l
}

// id is the name of a round and a life.
func id(round uint64, s api.Proc) api.ViewId { return api.ViewId{Round: round, Server: s} }

// vw is a view.
func vw(name api.ViewId, members []api.Proc, starts ...uint64) api.View {
	return api.View{Id: name, Members: members, Starts: starts}
}

// good is the view of the chapter's examples.
func good() api.View { return vw(id(3, p(1, 1)), []api.Proc{p(5, 2), p(6, 1)}, 4, 9) }

// goodBytes is what Put writes of it.
const goodBytes = "\x03\x01\x01\x02\x05\x02\x06\x01\x04\x09"

// lives are those at which something changes, and some beside them.
func lives() []api.Proc {
	var l []api.Proc
	for _, n := range []int{math.MinInt, -1, 0, 1, 2, api.MaxServers, api.MaxServers + 1, api.MaxNodes, api.MaxNodes + 1, 255, 256, 257, math.MaxInt} {
		for _, i := range []uint64{0, 1, 2, 300, math.MaxUint64} {
			l = append(l, p(n, i))
		}
	}
	return l
}

// names are those of some rounds and of lives.
func names() []api.ViewId {
	var l []api.ViewId
	for _, r := range []uint64{0, 1, 2, 127, 128, math.MaxUint64} {
		for _, q := range lives() {
			l = append(l, id(r, q))
		}
	}
	return l
}

// alike tells whether two views are the same; nil and empty lists are one.
func alike(v, w api.View) bool {
	return v.Id == w.Id && slices.Equal(v.Members, w.Members) && slices.Equal(v.Starts, w.Starts)
}

// mayLive tells, as the document does, whether a life may be.
func mayLive(q api.Proc) bool { return 1 <= q.Node && q.Node <= 10 && q.Inc > 0 }

// may tells, as the document does, whether a view may be.
func may(v api.View) bool {
	s := v.Id.Server
	if !mayLive(s) {
		return false
	}
	if v.Id.Round == 0 {
		return len(v.Members) == 1 && v.Members[0] == s && len(v.Starts) == 1 && v.Starts[0] == 0
	}
	if s.Node > 4 || len(v.Members) < 1 || len(v.Members) > 6 || len(v.Starts) != len(v.Members) {
		return false
	}
	for i, m := range v.Members {
		if !mayLive(m) || i > 0 && v.Members[i-1].Node >= m.Node || v.Starts[i] == 0 {
			return false
		}
	}
	return true
}

// oneOf draws one of a few.
func oneOf[T any](d *rand.Rand, l ...T) T { return l[d.IntN(len(l))] }

// some is a random view, near to those that may be.
func some(d *rand.Rand) api.View {
	v := api.View{Id: id(oneOf[uint64](d, 0, 1, 2, 300, math.MaxUint64), p(d.IntN(5)+1, uint64(d.IntN(3)+1)))}
	if v.Id.Round == 0 {
		v = view.First(v.Id.Server)
	} else {
		node := d.IntN(3)
		for range d.IntN(4) + 1 {
			node += d.IntN(2) + 1
			v.Members = append(v.Members, p(node, uint64(d.IntN(3)+1)))
			v.Starts = append(v.Starts, oneOf[uint64](d, 1, 2, 127, 128, math.MaxUint64))
		}
	}
	if d.IntN(2) == 0 {
		v = bent(d, v)
	}
	return v
}

// bent is a view with one thing changed, so that most of them may not be.
func bent(d *rand.Rand, v api.View) api.View {
	i := d.IntN(len(v.Members))
	switch d.IntN(8) {
	case 0:
		v.Id.Round = uint64(d.IntN(2))
	case 1:
		v.Id.Server = oneOf(d, lives()...)
	case 2:
		v.Members[i] = oneOf(d, lives()...)
	case 3:
		v.Members = append(v.Members, oneOf(d, v.Members...))
	case 4:
		v.Members = v.Members[:i]
	case 5:
		v.Starts[i] = uint64(d.IntN(2))
	case 6:
		v.Starts = append(v.Starts, uint64(d.IntN(2)))
	case 7:
		v.Starts = v.Starts[:i]
	}
	return v
}

// runs calls f with random views.
func runs(f func(d *rand.Rand, v, w api.View)) {
	d := rand.New(rand.NewPCG(4, 1))
	for range 5000 {
		f(d, some(d), some(d))
	}
}

// P4.1
func TestFirst(t *testing.T) {
	for _, q := range lives() {
		want := vw(id(0, q), []api.Proc{q}, 0)
		if v := view.First(q); !alike(v, want) {
			t.Errorf("First(%v): %v", q, v)
		}
		if v := view.First(q); view.May(v) != mayLive(q) {
			t.Errorf("May of the first view of %v: %v", q, view.May(v))
		}
	}
}

// P4.1
func TestMay(t *testing.T) {
	one, name := ps(5), id(1, p(1, 1))
	for _, c := range []struct {
		what string
		v    api.View
		want bool
	}{
		{"the example", good(), true},
		{"a client's name", vw(id(3, p(5, 2)), good().Members, 4, 9), false},
		{"a start that is 0", vw(good().Id, good().Members, 4, 0), false},
		{"members the other way round", vw(good().Id, []api.Proc{p(6, 1), p(5, 2)}, 4, 9), false},
		{"a node twice", vw(good().Id, []api.Proc{p(5, 1), p(5, 2)}, 4, 9), false},
		{"a node twice behind others", vw(name, []api.Proc{p(5, 1), p(6, 1), p(6, 2)}, 1, 1, 1), false},
		{"a life twice", vw(name, ps(5, 5), 1, 1), false},
		{"a member that may not be", vw(name, []api.Proc{p(5, 1), p(6, 0)}, 1, 1), false},
		{"a member of node 0", vw(name, ps(0, 5), 1, 1), false},
		{"a member behind all nodes", vw(name, ps(5, 11), 1, 1), false},
		{"members at both ends of the nodes", vw(name, []api.Proc{p(1, 1), p(10, math.MaxUint64)}, 1, math.MaxUint64), true},
		{"round 1", vw(name, one, 1), true},
		{"the greatest round", vw(id(math.MaxUint64, p(1, 1)), one, 1), true},
		{"the last server's name", vw(id(1, p(4, 9)), one, 1), true},
		{"a name behind the servers", vw(id(1, p(5, 1)), one, 1), false},
		{"a name that may not be", vw(id(1, p(1, 0)), one, 1), false},
		{"a name of node 0", vw(id(1, p(0, 1)), one, 1), false},
		{"the zero view", api.View{}, false},
		{"no members", vw(name, nil), false},
		{"no members, but a start", vw(name, nil, 1), false},
		{"as many members as may be", vw(name, ps(5, 6, 7, 8, 9, 10), 1, 2, 3, 4, 5, 6), true},
		{"one more", vw(name, ps(4, 5, 6, 7, 8, 9, 10), 1, 2, 3, 4, 5, 6, 7), false},
		{"a start too few", vw(name, ps(5, 6), 1), false},
		{"a start too many", vw(name, ps(5, 6), 1, 1, 1), false},
		{"no starts", vw(name, one), false},
		{"the first view of a server", vw(id(0, p(1, 1)), ps(1), 0), true},
		{"the first view of the last node", vw(id(0, p(10, 7)), []api.Proc{p(10, 7)}, 0), true},
		{"the first view of a life that may not be", vw(id(0, p(5, 0)), []api.Proc{p(5, 0)}, 0), false},
		{"the first view of a node behind all", vw(id(0, p(11, 1)), ps(11), 0), false},
		{"round 0, a start above 0", vw(id(0, p(1, 1)), ps(1), 1), false},
		{"round 0, another member", vw(id(0, p(1, 1)), ps(2), 0), false},
		{"round 0, another life", vw(id(0, p(5, 1)), []api.Proc{p(5, 2)}, 0), false},
		{"round 0, two members", vw(id(0, p(1, 1)), ps(1, 2), 0, 0), false},
		{"round 0, as views with servers are", vw(id(0, p(1, 1)), ps(5, 6), 1, 1), false},
		{"round 0, no member", vw(id(0, p(1, 1)), nil, 0), false},
		{"round 0, no start", vw(id(0, p(1, 1)), ps(1)), false},
		{"round 0, two starts", vw(id(0, p(1, 1)), ps(1), 0, 0), false},
		{"a first view, but for its round", vw(id(1, p(1, 1)), ps(1), 0), false},
	} {
		if got := view.May(c.v); got != c.want || may(c.v) != c.want {
			t.Errorf("%s: %v", c.what, got)
		}
	}
}

// P4.1
func TestMayOfRandomViews(t *testing.T) {
	seen := map[bool]int{}
	runs(func(d *rand.Rand, v, _ api.View) {
		seen[view.May(v)]++
		if view.May(v) != may(v) {
			t.Fatalf("May(%v): %v", v, !may(v))
		}
	})
	if seen[true] < 1000 || seen[false] < 1000 {
		t.Errorf("views of one kind alone: %v", seen)
	}
}

// P4.1
func TestMayId(t *testing.T) {
	for _, n := range names() {
		want := mayLive(n.Server) && (n.Round == 0 || n.Server.Node <= 4)
		if view.MayId(n) != want {
			t.Errorf("MayId(%v): %v", n, !want)
		}
		has := vw(n, []api.Proc{n.Server}, min(n.Round, 1))
		if view.MayId(n) != view.May(has) {
			t.Errorf("MayId(%v): %v, and a view that has it: %v", n, view.MayId(n), !view.MayId(n))
		}
	}
}

// ahead tells, as the document does, whether the name a stands ahead of b.
func ahead(a, b api.ViewId) bool {
	switch {
	case a.Round != b.Round:
		return a.Round < b.Round
	case a.Server.Node != b.Server.Node:
		return a.Server.Node < b.Server.Node
	}
	return a.Server.Inc < b.Server.Inc
}

// P4.2
func TestCompareExamples(t *testing.T) {
	if c := view.Compare(id(3, p(1, 1)), id(3, p(2, 1))); c != -1 {
		t.Errorf("of one round: %d", c)
	}
	if c := view.Compare(id(4, p(1, 1)), id(3, p(2, 1))); c != 1 {
		t.Errorf("of two rounds: %d", c)
	}
}

// P4.2, P4.5: it is one order, since it is told by an order of numbers.
func TestCompare(t *testing.T) {
	for _, a := range names() {
		for _, b := range names() {
			want := 0
			if ahead(a, b) {
				want = -1
			} else if ahead(b, a) {
				want = 1
			}
			if got := view.Compare(a, b); got != want {
				t.Fatalf("Compare(%v, %v): %d", a, b, got)
			}
		}
	}
}

// P4.5
func TestOrderIsOne(t *testing.T) {
	d := rand.New(rand.NewPCG(4, 2))
	draw := func() api.ViewId { return id(uint64(d.IntN(3)), p(d.IntN(3), uint64(d.IntN(3)))) }
	for range 20000 {
		a, b, c := draw(), draw(), draw()
		ab, bc, ac := view.Compare(a, b), view.Compare(b, c), view.Compare(a, c)
		if ab != -view.Compare(b, a) || (ab == 0) != (a == b) {
			t.Fatalf("of %v, %v: %d, %d", a, b, ab, view.Compare(b, a))
		}
		if ab <= 0 && bc <= 0 && (ac > 0 || ac == 0 && ab+bc < 0) {
			t.Fatalf("of %v, %v, %v: %d, %d, %d", a, b, c, ab, bc, ac)
		}
	}
}

// P4.2
func TestSame(t *testing.T) {
	for what, w := range map[string]api.View{
		"another round":        vw(id(4, p(1, 1)), good().Members, 4, 9),
		"another node's name":  vw(id(3, p(2, 1)), good().Members, 4, 9),
		"another life's name":  vw(id(3, p(1, 2)), good().Members, 4, 9),
		"another member":       vw(good().Id, []api.Proc{p(5, 2), p(7, 1)}, 4, 9),
		"another life":         vw(good().Id, []api.Proc{p(5, 1), p(6, 1)}, 4, 9),
		"members turned about": vw(good().Id, []api.Proc{p(6, 1), p(5, 2)}, 4, 9),
		"a member fewer":       vw(good().Id, []api.Proc{p(5, 2)}, 4, 9),
		"a member twice":       vw(good().Id, []api.Proc{p(5, 2), p(6, 1), p(6, 1)}, 4, 9),
		"another start":        vw(good().Id, good().Members, 4, 8),
		"starts turned about":  vw(good().Id, good().Members, 9, 4),
		"a start fewer":        vw(good().Id, good().Members, 4),
		"a start more":         vw(good().Id, good().Members, 4, 9, 0),
		"no members":           vw(good().Id, nil, 4, 9),
		"no starts":            vw(good().Id, good().Members),
		"nothing":              {},
	} {
		if view.Same(good(), w) || view.Same(w, good()) {
			t.Errorf("%s: Same", what)
		}
	}
	if !view.Same(good(), good()) {
		t.Error("not Same as itself")
	}
	if !view.Same(api.View{}, api.View{Members: []api.Proc{}, Starts: []uint64{}}) || !view.Same(api.View{Members: []api.Proc{}, Starts: []uint64{}}, api.View{}) {
		t.Error("nil and empty lists are one")
	}
}

// P4.2
func TestSameOfRandomViews(t *testing.T) {
	runs(func(d *rand.Rand, v, w api.View) {
		if !view.Same(v, v) || view.Same(v, w) != alike(v, w) || view.Same(w, v) != alike(v, w) {
			t.Fatalf("Same(%v, %v): %v", v, w, view.Same(v, w))
		}
	})
}

// P4.3
func TestStartAndPlace(t *testing.T) {
	doubled := vw(id(1, p(1, 1)), []api.Proc{p(7, 1), p(0, 0), p(5, 2), p(5, 1), p(5, 2)}, 11, 0, 13, 14)
	late := vw(id(1, p(1, 1)), []api.Proc{p(5, 1), p(6, 1), p(5, 1), p(6, 1)}, 8)
	for _, c := range []struct {
		v       api.View
		q       api.Proc
		start   uint64
		started bool
		place   int
		placed  bool
	}{
		{good(), p(5, 2), 4, true, 0, true},
		{good(), p(6, 1), 9, true, 1, true},
		{good(), p(5, 1), 0, false, 0, false},
		{good(), p(6, 2), 0, false, 0, false},
		{good(), p(1, 1), 0, false, 0, false},
		{good(), p(7, 1), 0, false, 0, false},
		{view.First(p(5, 2)), p(5, 2), 0, true, 0, true},
		{view.First(p(5, 2)), p(5, 3), 0, false, 0, false},
		{view.First(api.Proc{}), api.Proc{}, 0, true, 0, true},
		{api.View{}, api.Proc{}, 0, false, 0, false},
		{api.View{Starts: []uint64{7}}, api.Proc{}, 0, false, 0, false},
		{doubled, p(7, 1), 11, true, 0, true},
		{doubled, p(0, 0), 0, true, 1, true},
		{doubled, p(5, 2), 13, true, 2, true},
		{doubled, p(5, 1), 14, true, 3, true},
		{late, p(5, 1), 8, true, 0, true},
		{late, p(6, 1), 0, false, 1, true},
		{vw(good().Id, good().Members), p(5, 2), 0, false, 0, true},
	} {
		if x, ok := view.Start(c.v, c.q); x != c.start || ok != c.started {
			t.Errorf("Start(%v, %v): %d, %v", c.v, c.q, x, ok)
		}
		if i, ok := view.Place(c.v, c.q); i != c.place || ok != c.placed {
			t.Errorf("Place(%v, %v): %d, %v", c.v, c.q, i, ok)
		}
	}
}

// P4.3
func TestCommon(t *testing.T) {
	v := vw(id(1, p(1, 1)), []api.Proc{p(7, 1), p(5, 2), p(0, 0), p(5, 1), p(7, 1)}, 1)
	w := vw(id(2, p(2, 1)), []api.Proc{p(6, 1), p(7, 1), p(7, 1), p(5, 2), p(5, 3), p(0, 0)}, 2)
	want := []api.Proc{p(0, 0), p(5, 2), p(7, 1)}
	if l := view.Common(v, w); !slices.Equal(l, want) {
		t.Errorf("Common: %v", l)
	}
	if l := view.Common(w, v); !slices.Equal(l, want) {
		t.Errorf("Common, the other way: %v", l)
	}
	if l := view.Common(v, v); !slices.Equal(l, []api.Proc{p(0, 0), p(5, 1), p(5, 2), p(7, 1)}) {
		t.Errorf("Common with itself: %v", l)
	}
	if len(view.Common(v, api.View{})) != 0 || len(view.Common(api.View{}, v)) != 0 || len(view.Common(view.First(p(5, 1)), view.First(p(5, 2)))) != 0 {
		t.Error("Common of those that have none")
	}
	if l := view.Common(view.First(p(5, 2)), good()); !slices.Equal(l, []api.Proc{p(5, 2)}) {
		t.Errorf("Common of a first view: %v", l)
	}
}

// P4.3
func TestCommonOfRandomViews(t *testing.T) {
	runs(func(d *rand.Rand, v, w api.View) {
		l := view.Common(v, w)
		for i, q := range l {
			if i > 0 && proc.Compare(l[i-1], q) >= 0 || !slices.Contains(v.Members, q) || !slices.Contains(w.Members, q) {
				t.Fatalf("Common(%v, %v): %v", v, w, l)
			}
		}
		for _, q := range v.Members {
			if slices.Contains(w.Members, q) && !slices.Contains(l, q) {
				t.Fatalf("Common(%v, %v): %v", v, w, l)
			}
		}
	})
}

// written are the bytes that Put writes.
func written(v api.View) []byte {
	w := code.NewWriter()
	view.Put(w, v)
	return w.Bytes()
}

// writtenId are the bytes that PutId writes.
func writtenId(n api.ViewId) []byte {
	w := code.NewWriter()
	view.PutId(w, n)
	return w.Bytes()
}

// P4.4
func TestPut(t *testing.T) {
	for _, c := range []struct {
		want string
		v    api.View
	}{
		{goodBytes, good()},
		{"\x00\x05\xac\x02\x01\x05\xac\x02\x00", view.First(p(5, 300))},
		{"\xac\x02\x01\x01\x01\x05\x01\xac\x02", vw(id(300, p(1, 1)), ps(5), 300)},
		{"\x00\x00\x00\x00", api.View{}},
		{"\x01\x01\x01\x00\x07\x80\x01", vw(id(1, p(1, 1)), nil, 7, 128)},
		{"\x01\x01\x01\x02\x06\x01\x05\x01", vw(id(1, p(1, 1)), ps(6, 5))},
		{"\x02\xff\x00\x01\x0a\x02\x00", vw(id(2, p(-1, 0)), []api.Proc{p(266, 2)}, 0)},
	} {
		if b := written(c.v); string(b) != c.want {
			t.Errorf("Put(%v): %x", c.v, b)
		}
	}
	w := code.NewWriter()
	w.U8(7)
	view.Put(w, good())
	view.Put(w, view.First(p(5, 1)))
	if b := w.Bytes(); string(b) != "\x07"+goodBytes+"\x00\x05\x01\x01\x05\x01\x00" {
		t.Errorf("behind one another: %x", b)
	}
	view.Put(nil, good())
}

// P4.4
func TestPutOfMoreThanAByteTells(t *testing.T) {
	for _, c := range []struct {
		n    int
		want byte
	}{{6, 6}, {255, 255}, {256, 0}, {258, 2}} {
		b := written(vw(id(1, p(1, 1)), make([]api.Proc, c.n), 9))
		if b[3] != c.want || len(b) != 4+2*c.n+1 {
			t.Errorf("of %d members: number %d, %d bytes", c.n, b[3], len(b))
		}
	}
}

// P4.4
func TestPutId(t *testing.T) {
	for _, c := range []struct {
		want string
		n    api.ViewId
	}{
		{"\x03\x01\x01", id(3, p(1, 1))},
		{"\xac\x02\x05\x80\x01", id(300, p(5, 128))},
		{"\x00\x00\x00", api.ViewId{}},
		{"\x01\xff\x00", id(1, p(-1, 0))},
		{"\xff\xff\xff\xff\xff\xff\xff\xff\xff\x01\x01\x01", id(math.MaxUint64, p(257, 1))},
	} {
		if b := writtenId(c.n); string(b) != c.want {
			t.Errorf("PutId(%v): %x", c.n, b)
		}
	}
	w := code.NewWriter()
	w.U8(7)
	view.PutId(w, id(3, p(1, 1)))
	view.PutId(w, id(0, p(5, 2)))
	if b := w.Bytes(); string(b) != "\x07\x03\x01\x01\x00\x05\x02" {
		t.Errorf("behind one another: %x", b)
	}
	view.PutId(nil, id(3, p(1, 1)))
}

// P4.4, P4.5
func TestGetId(t *testing.T) {
	for _, n := range names() {
		if n.Server.Node < 0 || n.Server.Node > 255 {
			continue
		}
		b := writtenId(n)
		r := code.NewReader(append(b, 7))
		got := view.GetId(r)
		if !view.MayId(n) {
			if got != (api.ViewId{}) || r.Err() != api.ErrForm {
				t.Errorf("GetId of %v: %v, %v", n, got, r.Err())
			}
			continue
		}
		if got != n || r.Err() != api.OK || r.Left() != 1 || r.U8() != 7 || r.End() != api.OK {
			t.Errorf("GetId of %v: %v, %v", n, got, r.Err())
		}
		for i := range b {
			r := code.NewReader(b[:i])
			if got := view.GetId(r); got != (api.ViewId{}) || r.Err() != api.ErrForm {
				t.Errorf("GetId of %d bytes of %v: %v, %v", i, n, got, r.Err())
			}
		}
	}
}

// P4.4
func TestGetIdFaults(t *testing.T) {
	for _, s := range []string{
		"", "\x03", "\x03\x01", "\x03\x01\x80", "\x80\x00\x01\x01", "\x03\x01\x81\x00",
		"\x03\x05\x01", "\x01\x0a\x01", "\x00\x0b\x01", "\x00\x00\x01", "\x00\x01\x00", "\x03\x01\x00",
		"\xff\xff\xff\xff\xff\xff\xff\xff\xff\x02\x01\x01",
	} {
		r := code.NewReader([]byte(s))
		if got := view.GetId(r); got != (api.ViewId{}) || r.Err() != api.ErrForm {
			t.Errorf("GetId of %x: %v, %v", s, got, r.Err())
		}
	}
	r := code.NewReader([]byte{3, 1, 1})
	r.Fail()
	if got := view.GetId(r); got != (api.ViewId{}) || r.Left() != 3 {
		t.Errorf("behind a fault: %v, %d left", got, r.Left())
	}
	if got := view.GetId(nil); got != (api.ViewId{}) {
		t.Errorf("of nil: %v", got)
	}
}

// nothing tells whether Get of b answers nothing, and fails.
func nothing(b []byte) bool {
	r := code.NewReader(b)
	return alike(view.Get(r), api.View{}) && r.Err() == api.ErrForm
}

// P4.4, P4.5
func TestGet(t *testing.T) {
	for _, v := range []api.View{
		good(),
		view.First(p(1, 1)),
		view.First(p(10, math.MaxUint64)),
		vw(id(math.MaxUint64, p(4, math.MaxUint64)), ps(10), math.MaxUint64),
		vw(id(1, p(1, 1)), ps(5, 6, 7, 8, 9, 10), 1, 127, 128, 300, 1<<63, math.MaxUint64),
		vw(id(1, p(1, 1)), ps(1, 2, 3, 4, 5, 6), 6, 5, 4, 3, 2, 1),
	} {
		b := written(v)
		for _, behind := range []string{"", "\x00", "\x01", "\xff", goodBytes} {
			r := code.NewReader(append(slices.Clone(b), behind...))
			if got := view.Get(r); !alike(got, v) || r.Err() != api.OK || string(r.Raw(r.Left())) != behind {
				t.Errorf("Get of %v, %x behind: %v, %v", v, behind, got, r.Err())
			}
		}
		for i := range b {
			if !nothing(b[:i]) {
				t.Errorf("Get of %d bytes of %v", i, v)
			}
		}
	}
}

// told tells whether a view's bytes tell all of it: each node is one byte, and the starts are as many as the members.
func told(v api.View) bool {
	for _, q := range append([]api.Proc{v.Id.Server}, v.Members...) {
		if q.Node < 0 || q.Node > 255 {
			return false
		}
	}
	return len(v.Starts) == len(v.Members)
}

// P4.4, P4.5
func TestGetOfRandomViews(t *testing.T) {
	seen := map[bool]int{}
	runs(func(d *rand.Rand, v, w api.View) {
		if !told(v) {
			return
		}
		seen[may(v)]++
		r := code.NewReader(append(written(v), written(w)...))
		got := view.Get(r)
		if !may(v) {
			if !alike(got, api.View{}) || r.Err() != api.ErrForm {
				t.Fatalf("Get of %v: %v, %v", v, got, r.Err())
			}
		} else if !alike(got, v) || r.Err() != api.OK || r.Left() != len(written(w)) {
			t.Fatalf("Get of %v: %v, %v", v, got, r.Err())
		}
	})
	if seen[true] < 1000 || seen[false] < 500 {
		t.Errorf("views of one kind alone: %v", seen)
	}
}

// P4.4
func TestGetFaults(t *testing.T) {
	for what, s := range map[string]string{
		"no bytes":                     "",
		"a client's name":              "\x03\x05\x02\x02\x05\x02\x06\x01\x04\x09",
		"a name that may not be":       "\x03\x01\x00\x02\x05\x02\x06\x01\x04\x09",
		"a name of node 0":             "\x03\x00\x01\x02\x05\x02\x06\x01\x04\x09",
		"a start that is 0":            "\x03\x01\x01\x02\x05\x02\x06\x01\x04\x00",
		"another start that is 0":      "\x03\x01\x01\x02\x05\x02\x06\x01\x00\x09",
		"a start not in its one form":  "\x03\x01\x01\x02\x05\x02\x06\x01\x04\x89\x00",
		"a start beyond 64 bits":       "\x03\x01\x01\x01\x05\x02\xff\xff\xff\xff\xff\xff\xff\xff\xff\x02",
		"a start too few":              "\x03\x01\x01\x02\x05\x02\x06\x01\x04",
		"no starts":                    "\x03\x01\x01\x02\x05\x02\x06\x01",
		"members turned about":         "\x03\x01\x01\x02\x06\x01\x05\x02\x04\x09",
		"a node twice":                 "\x03\x01\x01\x02\x05\x01\x05\x02\x04\x09",
		"a life twice":                 "\x03\x01\x01\x02\x05\x02\x05\x02\x04\x09",
		"a member that may not be":     "\x03\x01\x01\x02\x05\x02\x06\x00\x04\x09",
		"a member behind all nodes":    "\x03\x01\x01\x02\x05\x02\x0b\x01\x04\x09",
		"no members":                   "\x03\x01\x01\x00",
		"no members, but starts":       "\x03\x01\x01\x00\x04\x09",
		"more members than may be":     "\x03\x01\x01\x07\x04\x01\x05\x01\x06\x01\x07\x01\x08\x01\x09\x01\x0a\x01\x01\x01\x01\x01\x01\x01\x01",
		"more members than are there":  "\x03\x01\x01\x03\x05\x02\x06\x01",
		"a first view, start 1":        "\x00\x05\x02\x01\x05\x02\x01",
		"a first view, its start gone": "\x00\x05\x02\x01\x05\x02",
		"a first view, a bad start":    "\x00\x05\x02\x01\x05\x02\x80\x00",
		"a first view of another node": "\x00\x05\x02\x01\x06\x02\x00",
		"a first view of another life": "\x00\x05\x02\x01\x05\x01\x00",
		"a first view of two":          "\x00\x05\x02\x02\x05\x02\x06\x01\x00\x00",
		"a first view of none":         "\x00\x05\x02\x00",
		"a first view of a bad life":   "\x00\x05\x00\x01\x05\x00\x00",
		"a first view behind all":      "\x00\x0b\x01\x01\x0b\x01\x00",
		"round 0, as with servers":     "\x00\x01\x01\x02\x05\x02\x06\x01\x04\x09",
	} {
		if !nothing([]byte(s)) {
			t.Errorf("%s: %x is read", what, s)
		}
	}
	r := code.NewReader([]byte(goodBytes))
	r.Fail()
	if got := view.Get(r); !alike(got, api.View{}) || r.Left() != len(goodBytes) || r.Err() != api.ErrForm {
		t.Errorf("behind a fault: %v, %d left", got, r.Left())
	}
	if got := view.Get(nil); !alike(got, api.View{}) {
		t.Errorf("of nil: %v", got)
	}
}

// P4.4: of whatever bytes, what is read is a view that may be, whose bytes were taken; or there is a fault, and nothing.
func TestGetOfSpoiltBytes(t *testing.T) {
	runs(func(d *rand.Rand, v, w api.View) {
		b := append(written(v), written(w)...)
		for range d.IntN(3) + 1 {
			b[d.IntN(len(b))] ^= byte(1 << d.IntN(8))
		}
		r := code.NewReader(b)
		got := view.Get(r)
		if r.Err() != api.OK {
			if !alike(got, api.View{}) {
				t.Fatalf("Get of %x: a fault, and %v", b, got)
			}
			return
		}
		if taken := b[:len(b)-r.Left()]; !view.May(got) || !slices.Equal(written(got), taken) {
			t.Fatalf("Get of %x: %v", b, got)
		}
	})
}

// R3: what is handed in stays as it is, the room behind it too, and what is answered is new.
func TestMemory(t *testing.T) {
	members := []api.Proc{p(5, 2), p(6, 1), p(9, 9), p(8, 8)}
	starts := []uint64{4, 9, 77, 88}
	v := vw(good().Id, members[:2], starts[:2]...)
	w := vw(id(4, p(1, 1)), []api.Proc{p(6, 1), p(5, 2), p(6, 1)}, 1, 1, 1)
	view.May(v)
	view.May(w)
	view.Same(v, w)
	view.Start(w, p(6, 1))
	view.Place(w, p(6, 1))
	view.Put(code.NewWriter(), v)
	view.Put(code.NewWriter(), w)
	for _, l := range [][]api.Proc{view.Common(v, w), view.Common(w, v), view.Common(v, v), view.Common(w, w)} {
		for i := range l {
			l[i] = p(7, 7)
		}
	}
	if !slices.Equal(members, []api.Proc{p(5, 2), p(6, 1), p(9, 9), p(8, 8)}) || !slices.Equal(starts, []uint64{4, 9, 77, 88}) || !slices.Equal(w.Members, []api.Proc{p(6, 1), p(5, 2), p(6, 1)}) {
		t.Errorf("changed: %v, %v, %v", members, starts, w)
	}
	b := []byte(goodBytes)
	for _, answer := range []func() api.View{
		func() api.View { return view.First(p(5, 2)) },
		func() api.View { return view.Get(code.NewReader(b)) },
	} {
		one, other := answer(), answer()
		one.Members[0], one.Starts[0] = p(7, 7), 7
		if alike(one, other) || !alike(other, answer()) {
			t.Errorf("not new memory: %v", other)
		}
	}
	if string(b) != goodBytes {
		t.Errorf("changed: %x", b)
	}
}
