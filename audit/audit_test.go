package audit

import (
	"math"
	"reflect"
	"slices"
	"testing"

	"helmsman/api"
)

// ring is a new one.
func ring(t *testing.T, size int) *Ring {
	t.Helper()
	r, e := New(size)
	if e != api.OK {
		t.Fatalf("new(%d): %v", size, e)
	}
	return r
}

// record is the n-th one: no two have anything alike, but that each second is by the same goroutine.
func record(n int) api.Record {
	u := uint64(n)
	return api.Record{
		Seq:  u,
		Time: u * 10,
		G:    api.Ref{Index: n % 2, Gen: 3},
		P:    n + 100,
		Call: api.Call{Kind: api.SysSpawn, Args: [api.Args]uint64{u + 1, u + 2, u + 3, u + 4, math.MaxUint64 - u}},
		Code: api.Errno(n % 18),
	}
}

// records are those from one number up to another one.
func records(from, to int) []api.Record {
	var l []api.Record
	for n := from; n <= to; n++ {
		l = append(l, record(n))
	}
	return l
}

func put(r *Ring, x api.Record) uint64 { return r.Put(x.Time, x.G, x.P, x.Call, x.Code) }

// with is a ring into which so many were put.
func with(t *testing.T, size, n int) *Ring {
	t.Helper()
	r := ring(t, size)
	for i := range n {
		if seq := put(r, record(i+1)); seq != uint64(i+1) {
			t.Errorf("the number of put %d: %d", i+1, seq)
		}
	}
	return r
}

// are asks for a list.
func are(t *testing.T, what string, l []api.Record, want ...api.Record) {
	t.Helper()
	if !slices.Equal(l, want) {
		t.Errorf("%s: %+v; want %+v", what, l, want)
	}
}

// is asks for what is found under a number.
func is(t *testing.T, r *Ring, seq uint64, want api.Record, there bool) {
	t.Helper()
	if x, is := r.Of(seq); x != want || is != there {
		t.Errorf("of %d: %+v, %v; want %+v, %v", seq, x, is, want, there)
	}
}

// counts asks for all that is told in numbers.
func counts(t *testing.T, r *Ring, seq, lost uint64, n, size int) {
	t.Helper()
	if r.Seq() != seq || r.Lost() != lost || r.Len() != n || r.Size() != size {
		t.Errorf("seq, lost, len, size: %d, %d, %d, %d; want %d, %d, %d, %d", r.Seq(), r.Lost(), r.Len(), r.Size(), seq, lost, n, size)
	}
}

// none are those in which nothing is, nor can be.
func none() []*Ring { return []*Ring{nil, {}} }

// P17.1, P17.2, P17.3: the chapter's own example.
func TestExample(t *testing.T) {
	r := with(t, 2, 3)
	are(t, "all", r.All(), record(2), record(3))
	counts(t, r, 3, 1, 2, 2)
}

// P17.1: the edges that may be, and those that may not; a new one has no records.
func TestNew(t *testing.T) {
	for size, want := range map[int]api.Errno{
		math.MinInt: api.ErrArg, -1: api.ErrArg, 0: api.ErrArg, 1: api.OK, 2: api.OK, 255: api.OK, 256: api.OK, 257: api.ErrArg, math.MaxInt: api.ErrArg,
	} {
		r, e := New(size)
		if e != want || (r != nil) != (want == api.OK) {
			t.Errorf("new(%d): %v, %v; want %v", size, r, e, want)
		}
		if e != api.OK {
			continue
		}
		are(t, "all of a new one", r.All())
		is(t, r, 0, api.Record{}, false)
		is(t, r, 1, api.Record{}, false)
		counts(t, r, 0, 0, 0, size)
	}
}

// P17.1, P17.3: of no ring, and of a zero one, nothing is put, nothing is there, and nothing is lost.
func TestNone(t *testing.T) {
	for _, r := range none() {
		if seq := put(r, record(1)); seq != 0 {
			t.Errorf("put: %d", seq)
		}
		are(t, "all", r.All())
		are(t, "last", r.Last(1))
		are(t, "by", r.By(record(1).G))
		are(t, "by nobody", r.By(api.Ref{}))
		is(t, r, 0, api.Record{}, false)
		is(t, r, 1, api.Record{}, false)
		counts(t, r, 0, 0, 0, 0)
		if c := r.Copy(); c != nil {
			t.Errorf("copy: %v", c)
		}
	}
}

// P17.1, P17.2: a record has all that was put, whatever that is.
func TestPutWhatever(t *testing.T) {
	r := ring(t, 3)
	wild := api.Record{Seq: 1, Time: math.MaxUint64, G: api.Ref{Index: math.MinInt, Gen: math.MaxUint64}, P: math.MinInt, Call: api.Call{Kind: -1}, Code: -1}
	for _, x := range []api.Record{wild, {Seq: 2}} {
		if seq := put(r, x); seq != x.Seq {
			t.Errorf("put: %d; want %d", seq, x.Seq)
		}
		is(t, r, x.Seq, x, true)
	}
	are(t, "all", r.All(), wild, api.Record{Seq: 2})
	are(t, "by", r.By(wild.G), wild)
	are(t, "by nobody", r.By(api.Ref{}), api.Record{Seq: 2})
}

// P17.1 to P17.4: of each small size, and the greatest, with each number of records: just the last ones are there, and all tell of these.
func TestAllSizes(t *testing.T) {
	for _, size := range []int{1, 2, 3, 4, 5, api.MaxAudit - 1, api.MaxAudit} {
		for _, n := range []int{0, 1, 2, 3, 4, 5, 6, 7, 8, 9, 10, 11, api.MaxAudit - 1, api.MaxAudit, api.MaxAudit + 1, 3*api.MaxAudit + 1} {
			r := with(t, size, n)
			lost := max(0, n-size)
			are(t, "all", r.All(), records(lost+1, n)...)
			counts(t, r, uint64(n), uint64(lost), n-lost, size)
			for seq := range n + 2 {
				want, there := api.Record{}, seq > lost && seq <= n
				if there {
					want = record(seq)
				}
				is(t, r, uint64(seq), want, there)
			}
			is(t, r, math.MaxUint64, api.Record{}, false)
		}
	}
}

// P17.2: the last so many: all, if there are fewer; of below 1 none.
func TestLast(t *testing.T) {
	for _, n := range []int{0, 1, 3, 4, 5, 9} {
		r := with(t, 4, n)
		lost := max(0, n-4)
		for _, last := range []int{1, 2, 3, 4, 5, 6, 100, math.MaxInt32, math.MaxInt} {
			are(t, "last", r.Last(last), records(max(lost, n-last)+1, n)...)
		}
		for _, last := range []int{0, -1, -4, math.MinInt} {
			are(t, "last of below 1", r.Last(last))
		}
	}
}

// P17.2: those of one goroutine: of its place, and of its generation.
func TestBy(t *testing.T) {
	r := with(t, 4, 7)
	are(t, "by the one", r.By(api.Ref{Index: 0, Gen: 3}), record(4), record(6))
	are(t, "by the other", r.By(api.Ref{Index: 1, Gen: 3}), record(5), record(7))
	for _, g := range []api.Ref{{}, {Index: 0, Gen: 2}, {Index: 0, Gen: 4}, {Index: 1}, {Index: 2, Gen: 3}, {Index: -1, Gen: 3}} {
		are(t, "by nobody of these", r.By(g))
	}
}

// P17.2: nothing that is told shares memory with what stays.
func TestToldApart(t *testing.T) {
	r := with(t, 3, 4)
	for _, told := range []func() []api.Record{r.All, func() []api.Record { return r.Last(3) }} {
		l := told()
		for i := range l {
			l[i] = api.Record{Seq: 77}
		}
		are(t, "all behind a change of what was told", r.All(), records(2, 4)...)
	}
	l := r.By(record(2).G)
	l[0] = api.Record{}
	are(t, "all behind a change of those by one", r.All(), records(2, 4)...)
}

// P17.2, P17.3: what only asks changes nothing.
func TestAskingKeeps(t *testing.T) {
	for _, n := range []int{0, 2, 5} {
		r := with(t, 3, n)
		was := r.Copy()
		r.All()
		r.Last(2)
		r.Of(1)
		r.By(record(1).G)
		r.Same(was)
		counts(t, r, r.Seq(), r.Lost(), r.Len(), 3)
		if !reflect.DeepEqual(r, was) {
			t.Error("it changed something")
		}
	}
}

// P17.3: a copy has the same, and goes on apart, also that of one that is full.
func TestCopy(t *testing.T) {
	for _, n := range []int{0, 1, 2, 3, 7} {
		r := with(t, 3, n)
		c, d := r.Copy(), r.Copy()
		if !r.Same(c) || !c.Same(r) {
			t.Errorf("%d: a copy is not the same", n)
		}
		for i := n + 1; i < n+6; i++ {
			if seq := put(c, record(i)); seq != uint64(i) {
				t.Errorf("put of a copy: %d; want %d", seq, i)
			}
			are(t, "all of a copy", c.All(), records(max(0, i-3)+1, i)...)
			are(t, "all of what was copied", r.All(), records(max(0, n-3)+1, n)...)
		}
		put(r, api.Record{P: 5})
		are(t, "all of a second copy", d.All(), records(max(0, n-3)+1, n)...)
		counts(t, d, uint64(n), uint64(max(0, n-3)), min(n, 3), 3)
	}
}

// P17.3: the same are those of one size, with the same records, of whom as many are lost.
func TestSame(t *testing.T) {
	same := func(what string, a, b *Ring, want bool) {
		t.Helper()
		if a.Same(b) != want || b.Same(a) != want {
			t.Errorf("%s: %v, %v; want %v", what, a.Same(b), b.Same(a), want)
		}
	}
	r := with(t, 3, 5)
	same("itself", r, r, true)
	same("another one", r, with(t, 3, 5), true)
	same("without records", ring(t, 3), ring(t, 3), true)
	same("another size, without records", ring(t, 3), ring(t, 4), false)
	same("another size, the same records", with(t, 3, 2), with(t, 4, 2), false)
	same("another size, the same records, as many lost", with(t, 3, 3), with(t, 4, 3), false)
	same("one record fewer", r, with(t, 3, 4), false)
	same("one record more", with(t, 3, 1), with(t, 3, 2), false)
	same("none against one", ring(t, 3), with(t, 3, 1), false)
	for _, other := range []func(x *api.Record){
		func(x *api.Record) { x.Time++ },
		func(x *api.Record) { x.G.Index++ },
		func(x *api.Record) { x.G.Gen++ },
		func(x *api.Record) { x.P++ },
		func(x *api.Record) { x.Call.Kind++ },
		func(x *api.Record) { x.Call.Args[4]++ },
		func(x *api.Record) { x.Code++ },
	} {
		for i := 1; i <= 5; i++ {
			o := ring(t, 3)
			for n := 1; n <= 5; n++ {
				x := record(n)
				if n == i {
					other(&x)
				}
				put(o, x)
			}
			same("another record", r, o, i < 3)
		}
	}
	for _, a := range none() {
		for _, b := range none() {
			same("two that are none", a, b, true)
		}
		same("none against an empty one", a, ring(t, 1), false)
		same("none against one", a, r, false)
	}
}
