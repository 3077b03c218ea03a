package proc_test

import (
	"math"
	"math/rand/v2"
	"slices"
	"testing"

	"caucus/api"
	"caucus/code"
	"caucus/proc"
)

// p is the life node.inc.
func p(node int, inc uint64) api.Proc { return api.Proc{Node: node, Inc: inc} }

// nodes and incs are those at which something changes, and some beside them.
var (
	nodes = []int{math.MinInt, -256, -1, 0, 1, 2, api.MaxNodes - 1, api.MaxNodes, api.MaxNodes + 1, 255, 256, 257, 266, math.MaxInt}
	incs  = []uint64{0, 1, 2, 127, 128, 300, 1<<32 - 1, 1 << 32, 1<<63 - 1, 1 << 63, math.MaxUint64}
)

// all are the lives of nodes and incs.
func all() []api.Proc {
	var l []api.Proc
	for _, n := range nodes {
		for _, i := range incs {
			l = append(l, p(n, i))
		}
	}
	return l
}

// some are random ones out of a few, so that there are doubles; others of them may not be.
func some(d *rand.Rand) []api.Proc {
	var l []api.Proc
	for range d.IntN(9) {
		l = append(l, p(d.IntN(13)-1, uint64(d.IntN(4))))
	}
	return l
}

// ahead tells, as the document does, whether a stands ahead of b.
func ahead(a, b api.Proc) bool {
	if a.Node == b.Node {
		return a.Inc < b.Inc
	}
	return a.Node < b.Node
}

// lawful tells whether l has just the lives that are wanted, in their order, each once.
func lawful(l []api.Proc, wanted func(api.Proc) bool, of ...[]api.Proc) bool {
	for i := 1; i < len(l); i++ {
		if !ahead(l[i-1], l[i]) {
			return false
		}
	}
	for _, q := range slices.Concat(of...) {
		if wanted(q) != slices.Contains(l, q) {
			return false
		}
	}
	for _, q := range l {
		if !slices.ContainsFunc(of, func(o []api.Proc) bool { return slices.Contains(o, q) }) {
			return false
		}
	}
	return true
}

// runs calls f with random lists.
func runs(f func(d *rand.Rand, a, b, c []api.Proc)) {
	d := rand.New(rand.NewPCG(3, 1))
	for range 2000 {
		f(d, some(d), some(d), some(d))
	}
}

// P3.1
func TestMay(t *testing.T) {
	for _, q := range all() {
		if want := 1 <= q.Node && q.Node <= 10 && q.Inc > 0; proc.May(q) != want {
			t.Errorf("May(%v): %v", q, !want)
		}
	}
}

// P3.1
func TestCompare(t *testing.T) {
	for _, a := range all() {
		for _, b := range all() {
			want := 0
			if ahead(a, b) {
				want = -1
			} else if ahead(b, a) {
				want = 1
			}
			if got := proc.Compare(a, b); got != want {
				t.Fatalf("Compare(%v, %v): %d", a, b, got)
			}
		}
	}
}

// P3.2
func TestSortedExample(t *testing.T) {
	if l := proc.Sorted(p(2, 1), p(1, 7), p(2, 1), p(1, 3)); !slices.Equal(l, []api.Proc{p(1, 3), p(1, 7), p(2, 1)}) {
		t.Error(l)
	}
	if l := proc.Sorted(); len(l) != 0 {
		t.Error(l)
	}
}

// P3.2
func TestSorted(t *testing.T) {
	runs(func(d *rand.Rand, a, _, _ []api.Proc) {
		if l := proc.Sorted(a...); !lawful(l, func(api.Proc) bool { return true }, a) {
			t.Fatalf("Sorted(%v): %v", a, l)
		}
	})
	l := all()
	rand.New(rand.NewPCG(3, 2)).Shuffle(len(l), func(i, j int) { l[i], l[j] = l[j], l[i] })
	if got := proc.Sorted(l...); !slices.Equal(got, all()) {
		t.Errorf("Sorted of all: %v", got)
	}
}

// P3.2
func TestSet(t *testing.T) {
	for _, c := range []struct {
		l    []api.Proc
		want bool
	}{
		{nil, true},
		{[]api.Proc{}, true},
		{[]api.Proc{p(1, 3), p(2, 1)}, true},
		{[]api.Proc{p(1, 3), p(1, 4), p(10, math.MaxUint64)}, true},
		{[]api.Proc{p(2, 1), p(1, 3)}, false},
		{[]api.Proc{p(1, 4), p(1, 3)}, false},
		{[]api.Proc{p(1, 3), p(1, 3)}, false},
		{[]api.Proc{p(1, 1), p(3, 1), p(2, 1)}, false},
		{[]api.Proc{p(1, 1), p(3, 1), p(3, 1)}, false},
		{[]api.Proc{p(0, 1)}, false},
		{[]api.Proc{p(-1, 1), p(1, 1)}, false},
		{[]api.Proc{p(1, 0)}, false},
		{[]api.Proc{p(1, 1), p(11, 1)}, false},
		{[]api.Proc{p(1, 1), p(2, 0), p(3, 1)}, false},
	} {
		if proc.Set(c.l...) != c.want {
			t.Errorf("Set(%v): %v", c.l, !c.want)
		}
	}
	for _, q := range all() {
		if proc.Set(q) != proc.May(q) {
			t.Errorf("Set(%v): %v", q, proc.Set(q))
		}
	}
}

// P3.2
func TestHas(t *testing.T) {
	runs(func(d *rand.Rand, a, _, _ []api.Proc) {
		for n := -1; n < 13; n++ {
			for i := range uint64(5) {
				want := false
				for _, q := range a {
					want = want || q.Node == n && q.Inc == i
				}
				if proc.Has(a, p(n, i)) != want {
					t.Fatalf("Has(%v, %d.%d): %v", a, n, i, !want)
				}
			}
		}
	})
	if proc.Has(nil, api.Proc{}) {
		t.Error("nothing has the zero life")
	}
}

// P3.2
func TestSame(t *testing.T) {
	runs(func(d *rand.Rand, a, b, _ []api.Proc) {
		double := slices.Concat(a, a)
		d.Shuffle(len(double), func(i, j int) { double[i], double[j] = double[j], double[i] })
		if !proc.Same(a, double) || !proc.Same(double, a) {
			t.Fatalf("not Same: %v, %v", a, double)
		}
		want := true
		for _, q := range slices.Concat(a, b) {
			want = want && slices.Contains(a, q) && slices.Contains(b, q)
		}
		if proc.Same(a, b) != want {
			t.Fatalf("Same(%v, %v): %v", a, b, !want)
		}
	})
	if !proc.Same(nil, []api.Proc{}) || proc.Same(nil, []api.Proc{{}}) || proc.Same([]api.Proc{{}}, nil) {
		t.Error("of no lives")
	}
}

// P3.3
func TestUnionMeetMinusExamples(t *testing.T) {
	if l := proc.Union([]api.Proc{p(1, 1)}, []api.Proc{p(3, 1), p(2, 1)}, nil); !slices.Equal(l, []api.Proc{p(1, 1), p(2, 1), p(3, 1)}) {
		t.Errorf("Union: %v", l)
	}
	a, b := []api.Proc{p(1, 1), p(2, 1)}, []api.Proc{p(2, 1), p(3, 1)}
	if l := proc.Meet(a, b); !slices.Equal(l, []api.Proc{p(2, 1)}) {
		t.Errorf("Meet: %v", l)
	}
	if l := proc.Minus(a, b); !slices.Equal(l, []api.Proc{p(1, 1)}) {
		t.Errorf("Minus: %v", l)
	}
	if len(proc.Union()) != 0 || len(proc.Union(nil, nil)) != 0 || len(proc.Meet(nil, a)) != 0 || len(proc.Meet(a, nil)) != 0 || len(proc.Minus(nil, a)) != 0 {
		t.Error("of no lives")
	}
}

// P3.3
func TestUnionMeetMinus(t *testing.T) {
	runs(func(d *rand.Rand, a, b, c []api.Proc) {
		if l := proc.Union(a, b, c); !lawful(l, func(api.Proc) bool { return true }, a, b, c) {
			t.Fatalf("Union(%v, %v, %v): %v", a, b, c, l)
		}
		if l := proc.Meet(a, b); !lawful(l, func(q api.Proc) bool { return slices.Contains(b, q) }, a) {
			t.Fatalf("Meet(%v, %v): %v", a, b, l)
		}
		if l := proc.Minus(a, b); !lawful(l, func(q api.Proc) bool { return !slices.Contains(b, q) }, a) {
			t.Fatalf("Minus(%v, %v): %v", a, b, l)
		}
	})
}

// P3.4
func TestNodes(t *testing.T) {
	if l := proc.Nodes(p(2, 1), p(2, 5), p(1, 9)); !slices.Equal(l, []int{1, 2}) {
		t.Error(l)
	}
	if l := proc.Nodes(); len(l) != 0 {
		t.Error(l)
	}
	l := all()
	slices.Reverse(l)
	if got := proc.Nodes(l...); !slices.Equal(got, nodes) {
		t.Errorf("of all: %v", got)
	}
	runs(func(d *rand.Rand, a, _, _ []api.Proc) {
		var want []int
		for n := -1; n < 13; n++ {
			if slices.ContainsFunc(a, func(q api.Proc) bool { return q.Node == n }) {
				want = append(want, n)
			}
		}
		if l := proc.Nodes(a...); !slices.Equal(l, want) {
			t.Fatalf("Nodes(%v): %v", a, l)
		}
	})
}

// written are the bytes that Put writes.
func written(l ...api.Proc) []byte {
	w := code.NewWriter()
	proc.Put(w, l...)
	return w.Bytes()
}

// P3.5
func TestPut(t *testing.T) {
	for _, c := range []struct {
		want string
		l    []api.Proc
	}{
		{"\x03\xac\x02", []api.Proc{p(3, 300)}},
		{"", nil},
		{"\x0a\x01\x01\x7f\x01\x80\x01", []api.Proc{p(10, 1), p(1, 127), p(1, 128)}},
		{"\x00\x00", []api.Proc{p(0, 0)}},
		{"\xff\x02", []api.Proc{p(-1, 2)}},
		{"\x0a\x02", []api.Proc{p(266, 2)}},
		{"\x01\xff\xff\xff\xff\xff\xff\xff\xff\xff\x01", []api.Proc{p(1, math.MaxUint64)}},
	} {
		if b := written(c.l...); string(b) != c.want {
			t.Errorf("Put(%v): %x", c.l, b)
		}
	}
	w := code.NewWriter()
	w.U8(9)
	proc.Put(w, p(1, 2))
	proc.Put(w, p(3, 4))
	if b := w.Bytes(); string(b) != "\x09\x01\x02\x03\x04" {
		t.Errorf("behind one another: %x", b)
	}
	proc.Put(nil, p(1, 2))
}

// P3.5, P3.6
func TestGet(t *testing.T) {
	for _, q := range all() {
		r := code.NewReader(append(written(q), 7))
		want := p(int(uint8(q.Node)), q.Inc)
		if !proc.May(want) {
			if got := proc.Get(r); got != (api.Proc{}) || r.Err() != api.ErrForm {
				t.Errorf("Get of %v: %v, %v", q, got, r.Err())
			}
			continue
		}
		if got := proc.Get(r); got != want || r.Err() != api.OK || r.Left() != 1 || r.U8() != 7 {
			t.Errorf("Get of %v: %v, %v", q, got, r.Err())
		}
	}
}

// P3.5
func TestGetFaults(t *testing.T) {
	for _, s := range []string{"", "\x03", "\x03\xac", "\x03\x80\x00", "\x00\x01", "\x0b\x01", "\x01\x00", "\x01\xff\xff\xff\xff\xff\xff\xff\xff\xff\x02"} {
		r := code.NewReader([]byte(s))
		if got := proc.Get(r); got != (api.Proc{}) || r.Err() != api.ErrForm {
			t.Errorf("Get of %x: %v, %v", s, got, r.Err())
		}
	}
	r := code.NewReader([]byte{3, 1})
	r.Fail()
	if got := proc.Get(r); got != (api.Proc{}) || r.Left() != 2 {
		t.Errorf("behind a fault: %v, %d left", got, r.Left())
	}
	if got := proc.Get(nil); got != (api.Proc{}) {
		t.Errorf("of nil: %v", got)
	}
}

// set is how a set stands in bytes.
func set(l ...api.Proc) []byte { return append([]byte{byte(len(l))}, written(l...)...) }

// P3.5, P3.6
func TestGetSet(t *testing.T) {
	runs(func(d *rand.Rand, a, _, _ []api.Proc) {
		a = slices.DeleteFunc(a, func(q api.Proc) bool { return q.Node < 0 })
		if d.IntN(2) == 0 {
			a = slices.DeleteFunc(proc.Sorted(a...), func(q api.Proc) bool { return !proc.May(q) })
		}
		most := d.IntN(9)
		r := code.NewReader(append(set(a...), 7))
		got := proc.GetSet(r, most)
		if len(a) > most || !proc.Set(a...) {
			if len(got) != 0 || r.Err() != api.ErrForm {
				t.Fatalf("GetSet of %v, most %d: %v, %v", a, most, got, r.Err())
			}
		} else if !slices.Equal(got, a) || r.Err() != api.OK || r.U8() != 7 || r.End() != api.OK {
			t.Fatalf("GetSet of %v, most %d: %v, %v", a, most, got, r.Err())
		}
	})
}

// P3.5
func TestGetSetEdges(t *testing.T) {
	two := set(p(1, 3), p(2, 1))
	var many []api.Proc
	for i := range 255 {
		many = append(many, p(4, uint64(i+1)))
	}
	for _, c := range []struct {
		name string
		b    []byte
		most int
		want []api.Proc
		err  api.Errno
	}{
		{"of none", set(), 0, nil, api.OK},
		{"of none, less than none", set(), -1, nil, api.ErrForm},
		{"just as many", two, 2, []api.Proc{p(1, 3), p(2, 1)}, api.OK},
		{"one too many", two, 1, nil, api.ErrForm},
		{"less than none", two, math.MinInt, nil, api.ErrForm},
		{"as many as a byte tells", set(many...), math.MaxInt, many, api.OK},
		{"bytes that are missing", two[:4], 9, nil, api.ErrForm},
		{"none of them there", two[:1], 9, nil, api.ErrForm},
		{"no bytes", nil, 9, nil, api.ErrForm},
		{"not rising", set(p(2, 1), p(1, 3)), 9, nil, api.ErrForm},
		{"a double", set(p(2, 1), p(2, 1)), 9, nil, api.ErrForm},
		{"one that may not be", set(p(2, 1), p(3, 0)), 9, nil, api.ErrForm},
		{"another one", set(p(2, 1), p(11, 1)), 9, nil, api.ErrForm},
		{"one of node 0", set(p(0, 1)), 9, nil, api.ErrForm},
	} {
		r := code.NewReader(c.b)
		if got := proc.GetSet(r, c.most); !slices.Equal(got, c.want) || r.Err() != c.err {
			t.Errorf("%s: %v, %v", c.name, got, r.Err())
		}
	}
	r := code.NewReader(two)
	r.Fail()
	if got := proc.GetSet(r, 9); len(got) != 0 || r.Left() != len(two) {
		t.Errorf("behind a fault: %v, %d left", got, r.Left())
	}
	if got := proc.GetSet(nil, 9); len(got) != 0 {
		t.Errorf("of nil: %v", got)
	}
}

// P3.6
func TestLaws(t *testing.T) {
	runs(func(d *rand.Rand, a, b, c []api.Proc) {
		same := func(law string, x, y []api.Proc) {
			if !slices.Equal(x, y) {
				t.Fatalf("%s of %v, %v, %v: %v, %v", law, a, b, c, x, y)
			}
		}
		same("Union either way", proc.Union(a, b), proc.Union(b, a))
		same("Union in steps", proc.Union(a, b, c), proc.Union(a, proc.Union(b, c)))
		same("Meet either way", proc.Meet(a, b), proc.Meet(b, a))
		same("Meet in steps", proc.Meet(a, proc.Meet(b, c)), proc.Meet(proc.Meet(a, b), c))
		same("with itself", proc.Union(a, a), proc.Meet(a, a))
		same("less itself", proc.Minus(a, a), nil)
		same("what is parted is whole", proc.Union(proc.Minus(a, b), proc.Meet(a, b)), proc.Sorted(a...))
		same("what is parted is apart", proc.Meet(proc.Minus(a, b), b), nil)
		same("Meet over Union", proc.Meet(a, proc.Union(b, c)), proc.Union(proc.Meet(a, b), proc.Meet(a, c)))
		same("Minus over Union", proc.Minus(a, proc.Union(b, c)), proc.Meet(proc.Minus(a, b), proc.Minus(a, c)))
	})
}

// R3: what is handed in stays as it is, the room behind it too, and what is answered is new.
func TestMemory(t *testing.T) {
	room := []api.Proc{p(1, 1), p(2, 1), p(9, 9), p(8, 8)}
	a, b := room[:2], []api.Proc{p(2, 1), p(1, 1), p(2, 1)}
	lists := func() [][]api.Proc {
		return [][]api.Proc{proc.Sorted(a...), proc.Sorted(b...), proc.Union(a), proc.Union(a, b), proc.Meet(a, b), proc.Meet(b, a), proc.Minus(a, nil), proc.Minus(b, nil)}
	}
	proc.Set(b...)
	proc.Has(b, p(1, 1))
	proc.Same(b, a)
	proc.Nodes(b...)
	proc.Put(code.NewWriter(), b...)
	for _, l := range lists() {
		for i := range l {
			l[i] = p(7, 7)
		}
	}
	if !slices.Equal(room, []api.Proc{p(1, 1), p(2, 1), p(9, 9), p(8, 8)}) || !slices.Equal(b, []api.Proc{p(2, 1), p(1, 1), p(2, 1)}) {
		t.Errorf("changed: %v, %v", room, b)
	}
}
