package cat_test

import (
	"slices"
	"testing"

	"calque/cat"
)

// dice are numbers that look as if they were thrown, always the same ones.
type dice struct{ n uint64 }

func (d *dice) word() uint64 {
	d.n = d.n*6364136223846793005 + 1442695040888963407
	x := d.n ^ d.n>>29
	return x*0x9E3779B97F4A7C15 ^ x>>31
}

func (d *dice) below(n int) int { return int(d.word() >> 33 % uint64(n)) }

// odds is true once in n times.
func (d *dice) odds(n int) bool { return d.below(n) == 0 }

// event is any event of some threads and locations; plain is how seldom it is marked.
func (d *dice) event(threads, places, plain int) cat.Event {
	e := cat.Event{T: d.below(threads), Kind: 1 + d.below(2), At: uint64(8 * d.below(places)), W: 8}
	if d.odds(5) {
		e.Kind = 3 + d.below(2)
	}
	e.Acq, e.Q, e.Rel, e.Ex = d.odds(plain), d.odds(plain), d.odds(plain), d.odds(2)
	e.F = d.below(5)
	return e
}

// exec is an execution that is well-formed, of n events.
func (d *dice) exec(n int) cat.Exec {
	threads, places, plain := 1+d.below(4), 1+d.below(3), 2+d.below(4)
	e := cat.Exec{}
	for range n {
		e.L = append(e.L, d.event(threads, places, plain))
	}
	writes := map[uint64][]int{}
	for k, v := range e.L {
		if v.Kind == cat.Write {
			writes[v.At] = append(writes[v.At], k)
			e.Co = slices.Insert(e.Co, len(e.Co)-min(len(e.Co), d.below(4)/2), k)
		}
	}
	for k, v := range e.L {
		from := -1
		if l := writes[v.At]; v.Kind == cat.Read && len(l) > 0 && !d.odds(4) {
			from = l[d.below(len(l))]
			if from > k && d.odds(2) {
				from = -1
			}
		}
		e.Rf = append(e.Rf, from)
	}
	for n > 0 && d.odds(3) {
		i, j := d.below(n), d.below(n)
		if i > j && !d.odds(5) {
			i, j = j, i
		}
		e.Extra = append(e.Extra, [2]int{i, j})
	}
	return e
}

// relation is pairs of events.
type relation [][]bool

// related is the relation of all pairs for which something holds.
func related(n int, holds func(i, j int) bool) relation {
	r := make(relation, n)
	for i := range n {
		r[i] = make([]bool, n)
		for j := range n {
			r[i][j] = holds(i, j)
		}
	}
	return r
}

// cyclic reports whether a relation leads from some event to itself.
func (r relation) cyclic() bool {
	way := related(len(r), func(i, j int) bool { return r[i][j] })
	for k := range way {
		for i := range way {
			for j := range way {
				way[i][j] = way[i][j] || way[i][k] && way[k][j]
			}
		}
	}
	for i := range way {
		if way[i][i] {
			return true
		}
	}
	return false
}

// reading is a second reading of the chapter.
type reading struct{ cat.Exec }

func (x reading) is(i, kind int) bool { return x.L[i].Kind == kind }

// located reports whether two events are accesses at one location.
func (x reading) located(i, j int) bool {
	return x.L[i].Kind <= 2 && x.L[j].Kind <= 2 && x.L[i].At == x.L[j].At && x.L[i].W == x.L[j].W
}

func (x reading) rf(i, j int) bool { return x.is(i, cat.Write) && x.is(j, cat.Read) && x.Rf[j] == i }

// co reports whether i is before j in what Co leaves of one location.
func (x reading) co(i, j int) bool {
	if !x.is(i, cat.Write) || !x.is(j, cat.Write) || !x.located(i, j) {
		return false
	}
	return slices.Index(x.Co, i) < slices.Index(x.Co, j)
}

func (x reading) fr(i, j int) bool {
	if !x.is(i, cat.Read) || !x.is(j, cat.Write) || !x.located(i, j) {
		return false
	}
	return x.Rf[i] < 0 || x.co(x.Rf[i], j)
}

// rmw reports whether two events are an exclusive pair.
func (x reading) rmw(i, j int) bool {
	exclusive := func(k int) bool {
		return x.L[k].Ex && x.L[k].Kind <= 2 && x.L[k].T == x.L[j].T
	}
	if i >= j || !x.is(i, cat.Read) || !x.is(j, cat.Write) || !exclusive(i) || !exclusive(j) || !x.located(i, j) {
		return false
	}
	for k := i + 1; k < j; k++ {
		if exclusive(k) {
			return false
		}
	}
	return true
}

// fenced reports whether an event of some sort is between two others of its thread.
func (x reading) fenced(i, j int, sort func(e cat.Event) bool) bool {
	for k := i + 1; k < j; k++ {
		if x.L[k].T == x.L[i].T && sort(x.L[k]) {
			return true
		}
	}
	return false
}

func (x reading) ahead(i, j int) bool {
	if slices.Contains(x.Extra, [2]int{i, j}) {
		return true
	}
	a, b := x.L[i], x.L[j]
	if a.Kind == cat.Fence || b.Kind == cat.Fence {
		return false
	}
	if a.T != b.T {
		return x.rf(i, j) || x.co(i, j) || x.fr(i, j)
	}
	if i >= j {
		return false
	}
	of := func(f int) func(e cat.Event) bool {
		return func(e cat.Event) bool {
			return e.Kind == cat.Fence && e.F == f || f == cat.Full && e.Kind == cat.Sync
		}
	}
	pairs := false
	for k := range x.L {
		pairs = pairs || x.rmw(k, i)
	}
	r, w := cat.Read, cat.Write
	return a.Kind == cat.Sync || b.Kind == cat.Sync ||
		x.fenced(i, j, of(cat.Full)) ||
		a.Kind == r && x.fenced(i, j, of(cat.Loads)) ||
		a.Kind == w && b.Kind == w && x.fenced(i, j, of(cat.Stores)) ||
		a.Kind == r && a.Acq || a.Kind == r && a.Q ||
		b.Kind == w && b.Rel ||
		a.Kind == w && a.Rel && b.Kind == r && b.Acq ||
		x.rmw(i, j) ||
		pairs && b.Kind == r && (b.Acq || b.Q) && x.rf(i, j)
}

func (x reading) internal() bool {
	return !related(len(x.L), func(i, j int) bool {
		return x.located(i, j) && x.L[i].T == x.L[j].T && i < j || x.rf(i, j) || x.co(i, j) || x.fr(i, j)
	}).cyclic()
}

func (x reading) atomic() bool {
	for i := range x.L {
		for j := range x.L {
			for k := range x.L {
				if x.rmw(i, j) && x.L[k].T != x.L[i].T && x.fr(i, k) && x.co(k, j) {
					return false
				}
			}
		}
	}
	return true
}

// order lists the events, each time the least one of which all that are ahead are listed.
func (x reading) order() ([]int, bool) {
	r := related(len(x.L), x.ahead)
	if !x.internal() || !x.atomic() || r.cyclic() {
		return nil, false
	}
	var l []int
	for len(l) < len(r) {
		for j := range r {
			free := !slices.Contains(l, j)
			for i := range r {
				free = free && (!r[i][j] || slices.Contains(l, i))
			}
			if free {
				l = append(l, j)
				break
			}
		}
	}
	return l, true
}

// may is a second reading of what is well-formed, byte by byte.
func (x reading) may() bool {
	if len(x.L) > 400 || len(x.Rf) != len(x.L) {
		return false
	}
	place := map[uint64][2]uint64{} // of the access to which each byte belongs
	for _, e := range x.L {
		if !slices.Contains([]int{1, 2, 3, 4}, e.Kind) || e.T < 0 || e.T > 7 {
			return false
		}
		if e.Kind > 2 {
			continue
		}
		if !slices.Contains([]int{1, 2, 4, 8}, e.W) {
			return false
		}
		for k := range uint64(e.W) {
			p, is := place[e.At+k]
			if q := [2]uint64{e.At, uint64(e.W)}; is && p != q {
				return false
			} else {
				place[e.At+k] = q
			}
		}
	}
	var writes []int
	for k, e := range x.L {
		if e.Kind == cat.Write {
			writes = append(writes, k)
		}
	}
	for j, i := range x.Rf {
		if x.is(j, cat.Read) && i != -1 && (!slices.Contains(writes, i) || !x.located(i, j)) {
			return false
		}
	}
	for _, p := range x.Extra {
		if min(p[0], p[1]) < 0 || max(p[0], p[1]) >= len(x.L) {
			return false
		}
	}
	return slices.Equal(slices.Sorted(slices.Values(x.Co)), writes)
}

// Everything against the second reading, with thrown executions.
func TestThrown(t *testing.T) {
	d := &dice{}
	var internal, atomic, allowed, pairs int
	const n = 20000
	for range n {
		e := d.exec(d.below(9))
		x := reading{e}
		if !cat.May(e) || !x.may() {
			t.Fatalf("%+v is not well-formed", e)
		}
		if cat.Internal(e) != x.internal() || cat.Atomic(e) != x.atomic() {
			t.Fatalf("%+v: internal %t, atomic %t", e, x.internal(), x.atomic())
		}
		for i := range e.L {
			for j := range e.L {
				if cat.Ahead(e, i, j) != x.ahead(i, j) {
					t.Fatalf("%+v: ahead %d %d %t", e, i, j, x.ahead(i, j))
				}
				if x.rmw(i, j) {
					pairs++
				}
			}
		}
		l, ok := cat.Order(e)
		k, want := x.order()
		if ok != want || !slices.Equal(l, k) {
			t.Fatalf("%+v: %v, not %v", e, l, k)
		}
		if x.internal() {
			internal++
		}
		if !x.atomic() {
			atomic++
		}
		if ok {
			allowed++
		}
	}
	if min(internal, atomic, allowed, pairs, n-internal, internal-allowed) < n/200 {
		t.Error("too few of some sort", internal, atomic, allowed, pairs)
	}
}

// damage changes something of an execution.
func (d *dice) damage(e *cat.Exec) {
	n := len(e.L)
	switch i := d.below(n); d.below(11) {
	case 0:
		e.L[i].Kind = d.below(8) - 1
	case 1:
		e.L[i].T = d.below(12) - 2
	case 2:
		e.L[i].W = d.below(10)
	case 3:
		e.L[i].At += uint64(d.below(17)) - 8
	case 4:
		for k := range e.L {
			e.L[k].At += all - 9
		}
	case 5:
		for k := range e.L {
			e.L[k].W = 4
		}
	case 6:
		e.Rf[i] = d.below(n+4) - 2
	case 7:
		e.Rf = e.Rf[:i]
	case 8:
		e.Extra = append(e.Extra, [2]int{d.below(n+2) - 1, d.below(n+2) - 1})
	case 9:
		e.Co = append(e.Co, d.below(n+2)-1)
	case 10:
		if len(e.Co) > 0 {
			e.Co[d.below(len(e.Co))] = d.below(n+2) - 1
		}
	}
}

// What is well-formed, against the second reading, with executions of which something was changed.
func TestDamaged(t *testing.T) {
	d, formed := &dice{}, 0
	for range 20000 {
		e := d.exec(1 + d.below(6))
		for range 1 + d.below(2) {
			if len(e.Rf) == len(e.L) {
				d.damage(&e)
			}
		}
		want := reading{e}.may()
		if cat.May(e) != want {
			t.Fatalf("%+v: %t", e, want)
		}
		if want {
			formed++
			l, ok := cat.Order(e)
			if k, want := (reading{e}).order(); ok != want || !slices.Equal(l, k) {
				t.Fatalf("%+v: %v, not %v", e, l, k)
			}
			continue
		}
		nothing(t, "what is damaged", e)
	}
	if formed < 2000 || formed > 18000 {
		t.Error(formed)
	}
}

// P28.3: executions in which everything happens in the order of the list are allowed.
func TestInLine(t *testing.T) {
	d := &dice{}
	pairs := 0
	for range 3000 {
		threads, places := 1+d.below(8), 1+d.below(4)
		e := cat.Exec{}
		last := map[uint64]int{}
		alone := map[int]bool{} // whose next exclusive Write is of no pair
		add := func(v cat.Event) {
			from := -1
			if k, ok := last[v.At]; ok && v.Kind == cat.Read {
				from = k
			}
			if v.Kind == cat.Write {
				last[v.At] = len(e.L)
				e.Co = append(e.Co, len(e.L))
			}
			e.L, e.Rf = append(e.L, v), append(e.Rf, from)
			if v.Ex && v.Kind <= 2 {
				alone[v.T] = v.Kind == cat.Write
			}
		}
		for range d.below(40) {
			v := d.event(threads, places, 2)
			if v.Kind == cat.Write && v.Ex && !alone[v.T] { // a Read right before it
				u := v
				u.Kind = cat.Read
				add(u)
				pairs++
			}
			add(v)
		}
		for k := d.below(6); k > 0 && len(e.L) > 1; k-- {
			i := d.below(len(e.L) - 1)
			e.Extra = append(e.Extra, [2]int{i, i + 1 + d.below(len(e.L)-1-i)})
		}
		l, ok := cat.Order(e)
		if !ok || !slices.IsSorted(l) || len(l) != len(e.L) {
			t.Fatalf("%+v: %v", e, l)
		}
	}
	if pairs < 1000 {
		t.Error(pairs)
	}
}

// without is an execution without one of its Fences.
func without(e cat.Exec, k int) cat.Exec {
	e = copied(e)
	e.L, e.Rf = slices.Delete(e.L, k, k+1), slices.Delete(e.Rf, k, k+1)
	less := func(i int) int {
		if i > k {
			return i - 1
		}
		return i
	}
	for j := range e.Rf {
		e.Rf[j] = less(e.Rf[j])
	}
	for j := range e.Co {
		e.Co[j] = less(e.Co[j])
	}
	e.Extra = slices.DeleteFunc(e.Extra, func(p [2]int) bool { return p[0] == k || p[1] == k })
	for j, p := range e.Extra {
		e.Extra[j] = [2]int{less(p[0]), less(p[1])}
	}
	return e
}

// P28.4: with fewer fences no less is allowed.
func TestFewerFences(t *testing.T) {
	d, tried, more := &dice{}, 0, 0
	for range 20000 {
		e := d.exec(4 + d.below(6))
		_, before := cat.Order(e)
		for k, v := range e.L {
			if v.Kind != cat.Fence {
				continue
			}
			_, ok := cat.Order(without(e, k))
			if before && !ok {
				t.Fatalf("%+v without %d", e, k)
			}
			if before {
				tried++
			} else if ok {
				more++
			}
		}
	}
	if tried < 1000 || more < 10 {
		t.Error(tried, more)
	}
}
