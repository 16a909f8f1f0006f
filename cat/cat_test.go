package cat_test

import (
	"math"
	"slices"
	"testing"

	"calque/cat"
)

const (
	all = math.MaxUint64
	x   = 64 // locations
	y   = 128
	z   = 192
)

// r is a Read of thread t; its letters are a for Acq, q for Q, e for Ex.
func r(t int, at uint64, letters string) cat.Event {
	e := cat.Event{T: t, Kind: cat.Read, At: at, W: 8}
	mark(&e, letters)
	return e
}

// w is a Write of thread t; its letters are l for Rel, e for Ex.
func w(t int, at uint64, letters string) cat.Event {
	e := cat.Event{T: t, Kind: cat.Write, At: at, W: 8}
	mark(&e, letters)
	return e
}

func mark(e *cat.Event, letters string) {
	for _, c := range letters {
		switch c {
		case 'a':
			e.Acq = true
		case 'q':
			e.Q = true
		case 'l':
			e.Rel = true
		case 'e':
			e.Ex = true
		}
	}
}

// f is a Fence of thread t, s a Sync.
func f(t, kind int) cat.Event { return cat.Event{T: t, Kind: cat.Fence, F: kind} }
func s(t int) cat.Event       { return cat.Event{T: t, Kind: cat.Sync} }

// exec is an execution in which all Reads are from none, and Writes are in the order of the list, but for what is given as pairs: a Read and its Write.
func exec(l []cat.Event, from ...[2]int) cat.Exec {
	e := cat.Exec{L: l}
	for k, v := range l {
		e.Rf = append(e.Rf, -1)
		if v.Kind == cat.Write {
			e.Co = append(e.Co, k)
		}
	}
	for _, p := range from {
		e.Rf[p[0]] = p[1]
	}
	return e
}

// copied is an execution that shares nothing with another one.
func copied(e cat.Exec) cat.Exec {
	return cat.Exec{L: slices.Clone(e.L), Rf: slices.Clone(e.Rf), Co: slices.Clone(e.Co), Extra: slices.Clone(e.Extra)}
}

// Example 1.
func TestExample(t *testing.T) {
	e := exec([]cat.Event{w(0, x, "l"), r(0, y, "q"), w(1, y, "l"), r(1, x, "q")})
	if l, ok := cat.Order(e); !ok || !slices.Equal(l, []int{1, 2, 3, 0}) {
		t.Error(l, ok)
	}
	e = exec([]cat.Event{w(0, x, "l"), w(0, y, "l"), r(1, y, "q"), r(1, x, "q")}, [2]int{2, 1})
	if l, ok := cat.Order(e); ok || len(l) != 0 {
		t.Error(l, ok)
	}
}

// nothing asks that an execution is not well-formed.
func nothing(t *testing.T, what string, e cat.Exec) {
	t.Helper()
	l, ok := cat.Order(e)
	if cat.May(e) || cat.Internal(e) || cat.Atomic(e) || ok || len(l) != 0 {
		t.Error(what, "is well-formed")
	}
	for i := range min(len(e.L), 10) {
		for j := range min(len(e.L), 10) {
			if cat.Ahead(e, i, j) {
				t.Error(what, "has order")
			}
		}
	}
}

// P28.1: what is well-formed, clause by clause.
func TestMay(t *testing.T) {
	at := func(e cat.Event, at uint64, w int) cat.Event {
		e.At, e.W = at, w
		return e
	}
	base := exec([]cat.Event{w(0, x, "l"), r(1, x, "q"), w(2, y, ""), r(7, y, ""), f(0, 1), s(3), w(0, x, "")}, [2]int{1, 0}, [2]int{3, 2})
	base.Extra = [][2]int{{0, 1}, {5, 5}}
	for _, c := range []struct {
		what string
		ok   bool
		f    func(e *cat.Exec)
	}{
		{"as it is", true, func(e *cat.Exec) {}},
		{"no event", true, func(e *cat.Exec) { *e = cat.Exec{} }},
		{"lists of nothing", true, func(e *cat.Exec) { *e = cat.Exec{L: []cat.Event{}, Rf: []int{}, Co: []int{}, Extra: [][2]int{}} }},
		{"kind 0", false, func(e *cat.Exec) { e.L[4].Kind = 0 }},
		{"kind 5", false, func(e *cat.Exec) { e.L[4].Kind = 5 }},
		{"kind -1", false, func(e *cat.Exec) { e.L[4].Kind = math.MinInt }},
		{"thread -1", false, func(e *cat.Exec) { e.L[5].T = -1 }},
		{"thread 8", false, func(e *cat.Exec) { e.L[5].T = 8 }},
		{"thread 7", true, func(e *cat.Exec) { e.L[5].T = 7 }},
		{"a fence of any kind", true, func(e *cat.Exec) { e.L[4].F = math.MaxInt }},
		{"a fence of no kind", true, func(e *cat.Exec) { e.L[4].F = -1 }},
		{"a fence with another width", true, func(e *cat.Exec) { e.L[4].W, e.L[4].At = 5, x }},
		{"a syscall with another width", true, func(e *cat.Exec) { e.L[5].W, e.L[5].At = -1, x+4 }},
		{"flags of other kinds", true, func(e *cat.Exec) {
			for k := range e.L {
				mark(&e.L[k], "aqle")
				e.L[k].F = 1
			}
		}},
		{"width 0", false, func(e *cat.Exec) { e.L[2].W, e.L[3].W = 0, 0 }},
		{"width 3", false, func(e *cat.Exec) { e.L[2].W, e.L[3].W = 3, 3 }},
		{"width 16", false, func(e *cat.Exec) { e.L[2].W, e.L[3].W = 16, 16 }},
		{"width -8", false, func(e *cat.Exec) { e.L[2].W, e.L[3].W = -8, -8 }},
		{"width 1", true, func(e *cat.Exec) { e.L[2].W, e.L[3].W = 1, 1 }},
		{"another width", false, func(e *cat.Exec) { e.L[3].W, e.Rf[3] = 4, -1 }},
		{"the upper half", false, func(e *cat.Exec) { e.L[3], e.Rf[3] = at(e.L[3], y+4, 4), -1 }},
		{"one byte", false, func(e *cat.Exec) { e.L[3], e.Rf[3] = at(e.L[3], y+7, 8), -1 }},
		{"one byte ahead", false, func(e *cat.Exec) { e.L[3], e.Rf[3] = at(e.L[3], y-7, 8), -1 }},
		{"behind", true, func(e *cat.Exec) { e.L[3], e.Rf[3] = at(e.L[3], y+8, 8), -1 }},
		{"ahead", true, func(e *cat.Exec) { e.L[3], e.Rf[3] = at(e.L[3], y-8, 8), -1 }},
		{"around the last address", false, func(e *cat.Exec) { e.L[2], e.L[3], e.Rf[3] = at(e.L[2], all, 2), at(e.L[3], 0, 1), -1 }},
		{"up to the last address", true, func(e *cat.Exec) { e.L[2], e.L[3], e.Rf[3] = at(e.L[2], all-1, 2), at(e.L[3], 0, 1), -1 }},
		{"from another location", false, func(e *cat.Exec) { e.Rf[3] = 0 }},
		{"from a Read", false, func(e *cat.Exec) { e.Rf[3] = 3 }},
		{"from a Fence", false, func(e *cat.Exec) { e.Rf[3] = 4 }},
		{"from below", false, func(e *cat.Exec) { e.Rf[3] = -2 }},
		{"from beyond", false, func(e *cat.Exec) { e.Rf[3] = 7 }},
		{"from far below", false, func(e *cat.Exec) { e.Rf[3] = math.MinInt }},
		{"from far beyond", false, func(e *cat.Exec) { e.Rf[3] = math.MaxInt }},
		{"from none", true, func(e *cat.Exec) { e.Rf[3] = -1 }},
		{"from a later one", true, func(e *cat.Exec) { e.Rf[1] = 6 }},
		{"what a Write is said to read", true, func(e *cat.Exec) { e.Rf[0], e.Rf[4] = 77, -5 }},
		{"too few Rf", false, func(e *cat.Exec) { e.Rf = e.Rf[:6] }},
		{"no Rf", false, func(e *cat.Exec) { e.Rf = nil }},
		{"too many Rf", false, func(e *cat.Exec) { e.Rf = append(e.Rf, -1) }},
		{"another order", true, func(e *cat.Exec) { slices.Reverse(e.Co) }},
		{"a Write not in Co", false, func(e *cat.Exec) { e.Co = e.Co[:2] }},
		{"no Co", false, func(e *cat.Exec) { e.Co = nil }},
		{"a Write twice", false, func(e *cat.Exec) { e.Co = append(e.Co, 6) }},
		{"a Write for another one", false, func(e *cat.Exec) { e.Co[2] = e.Co[0] }},
		{"a Read in Co", false, func(e *cat.Exec) { e.Co = append(e.Co, 1) }},
		{"a Read for a Write", false, func(e *cat.Exec) { e.Co[2] = 1 }},
		{"none in Co", false, func(e *cat.Exec) { e.Co[2] = -1 }},
		{"beyond in Co", false, func(e *cat.Exec) { e.Co[2] = math.MaxInt }},
		{"Extra from beyond", false, func(e *cat.Exec) { e.Extra[1] = [2]int{7, 0} }},
		{"Extra to beyond", false, func(e *cat.Exec) { e.Extra[1] = [2]int{0, 7} }},
		{"Extra from below", false, func(e *cat.Exec) { e.Extra[1] = [2]int{-1, 0} }},
		{"Extra to below", false, func(e *cat.Exec) { e.Extra[1] = [2]int{0, -1} }},
		{"Extra back, and twice", true, func(e *cat.Exec) { e.Extra = append(e.Extra, [2]int{6, 0}, [2]int{6, 0}) }},
	} {
		e := copied(base)
		c.f(&e)
		kept := copied(e)
		if cat.May(e) != c.ok {
			t.Error(c.what)
		}
		if !c.ok {
			nothing(t, c.what, e)
		}
		if cat.Order(e); !slices.Equal(e.L, kept.L) || !slices.Equal(e.Rf, kept.Rf) || !slices.Equal(e.Co, kept.Co) || !slices.Equal(e.Extra, kept.Extra) {
			t.Error(c.what, "is changed")
		}
	}
}

// P28.1: at most 400 events. P28.2: those that nothing orders come as they are.
func TestMany(t *testing.T) {
	for _, n := range []int{0, 1, 399, 400, 401, 5000} {
		var l []cat.Event
		for k := range n {
			l = append(l, []cat.Event{w(k%8, uint64(8*k), ""), r(k%8, uint64(8*k), "")}[k%2])
		}
		e := exec(l)
		if n > 400 {
			nothing(t, "too many", e)
			continue
		}
		order, ok := cat.Order(e)
		if !cat.May(e) || !cat.Internal(e) || !cat.Atomic(e) || !ok || len(order) != n || !slices.IsSorted(order) {
			t.Error(n, ok, order)
		}
	}
	// A chain of 400 against the order of the list.
	l, back := make([]cat.Event, 400), []int{}
	for k := range l {
		l[k] = s(k % 8)
	}
	e := exec(l)
	if order, ok := cat.Order(e); !ok || !slices.IsSorted(order) {
		t.Error(order, ok)
	}
	for k := range l {
		l[k] = w(0, uint64(8*k), "")
		back = append(back, 399-k)
	}
	e = exec(l)
	for k := range 399 {
		e.Extra = append(e.Extra, [2]int{k + 1, k})
	}
	if order, ok := cat.Order(e); !ok || !slices.Equal(order, back) {
		t.Error(order, ok)
	}
}

// P28.1: one location by itself.
func TestInternal(t *testing.T) {
	back := func(e cat.Exec) cat.Exec {
		slices.Reverse(e.Co)
		return e
	}
	for _, c := range []struct {
		what string
		ok   bool
		e    cat.Exec
	}{
		{"nothing", true, exec(nil)},
		{"two Writes", true, exec([]cat.Event{w(0, x, ""), w(0, x, "")})},
		{"two Writes, the first one last", false, back(exec([]cat.Event{w(0, x, ""), w(0, x, "")}))},
		{"two Writes of two threads", true, back(exec([]cat.Event{w(0, x, ""), w(1, x, "")}))},
		{"two Writes elsewhere", true, back(exec([]cat.Event{w(0, x, ""), w(0, y, "")}))},
		{"a Write read", true, exec([]cat.Event{w(0, x, ""), r(0, x, "")}, [2]int{1, 0})},
		{"a Write not read", false, exec([]cat.Event{w(0, x, ""), r(0, x, "")})},
		{"a Write of another thread not read", true, exec([]cat.Event{w(1, x, ""), r(0, x, "")})},
		{"a Write read before", false, exec([]cat.Event{r(0, x, ""), w(0, x, "")}, [2]int{0, 1})},
		{"a Write of another thread read before", true, exec([]cat.Event{r(0, x, ""), w(1, x, "")}, [2]int{0, 1})},
		{"a Write after it is read", false, exec([]cat.Event{r(0, x, ""), w(0, x, ""), w(1, x, "")}, [2]int{0, 2})},
		{"a Write after an earlier one is read", true, back(exec([]cat.Event{r(0, x, ""), w(0, x, ""), w(1, x, "")}, [2]int{0, 2}))},
		{"an older one read", false, exec([]cat.Event{w(1, x, ""), w(0, x, ""), r(0, x, "")}, [2]int{2, 0})},
		{"a newer one read", true, back(exec([]cat.Event{w(1, x, ""), w(0, x, ""), r(0, x, "")}, [2]int{2, 0}))},
		{"two Reads", true, exec([]cat.Event{w(1, x, ""), r(0, x, ""), r(0, x, "")}, [2]int{2, 0})},
		{"two Reads, the newer one first", false, exec([]cat.Event{w(1, x, ""), r(0, x, ""), r(0, x, "")}, [2]int{1, 0})},
		{"two Reads of two threads", true, exec([]cat.Event{w(1, x, ""), r(0, x, ""), r(2, x, "")}, [2]int{1, 0})},
		{"two Reads elsewhere", true, exec([]cat.Event{w(1, x, ""), r(0, x, ""), r(0, y, "")}, [2]int{1, 0})},
		{"two Reads of two Writes", false, exec([]cat.Event{w(1, x, ""), w(2, x, ""), r(0, x, ""), r(0, x, "")}, [2]int{2, 1}, [2]int{3, 0})},
		// Ahead does not count, nor do fences.
		{"a flag", true, exec([]cat.Event{w(0, x, "l"), w(0, y, "l"), r(1, y, "a"), r(1, x, "a")}, [2]int{2, 1})},
		{"Extra", true, cat.Exec{L: []cat.Event{s(0), s(1)}, Rf: []int{-1, -1}, Extra: [][2]int{{0, 1}, {1, 0}}}},
	} {
		if cat.Internal(c.e) != c.ok || !cat.May(c.e) || !cat.Atomic(c.e) {
			t.Error(c.what)
		}
		if _, ok := cat.Order(c.e); !c.ok && ok {
			t.Error(c.what, "is allowed")
		}
	}
}

// P28.1: exclusive pairs, and what breaks them.
func TestAtomic(t *testing.T) {
	pair := func(between ...cat.Event) cat.Exec {
		l := slices.Concat([]cat.Event{r(0, x, "e")}, between, []cat.Event{w(0, x, "e")})
		return exec(l)
	}
	for _, c := range []struct {
		what string
		ok   bool
		e    cat.Exec
	}{
		{"a pair", true, pair()},
		{"another thread", false, pair(w(1, x, ""))},
		{"another location", true, pair(w(1, y, ""))},
		{"an exclusive Write of another thread", false, pair(w(1, x, "e"))},
		{"a Read between", true, pair(r(1, x, ""), r(1, x, "e"))},
		{"its own Write", true, pair(w(0, x, ""))},
		{"its own exclusive Write: no pair", true, pair(w(0, x, "e"), w(1, x, ""))},
		{"its own exclusive Write elsewhere: no pair", true, pair(w(0, y, "e"), w(1, x, ""))},
		{"its own exclusive Read elsewhere: no pair", true, pair(r(0, y, "e"), w(1, x, ""))},
		{"its own Read between", false, pair(r(0, x, "a"), w(1, x, ""))},
		{"its own Fence, marked as one that is exclusive", false, pair(cat.Event{T: 0, Kind: cat.Fence, Ex: true}, cat.Event{T: 0, Kind: cat.Sync, Ex: true}, w(1, x, ""))},
		{"a Read that is not exclusive", true, exec([]cat.Event{r(0, x, "a"), w(1, x, ""), w(0, x, "e")})},
		{"a Write that is not exclusive", true, exec([]cat.Event{r(0, x, "e"), w(1, x, ""), w(0, x, "l")})},
		{"the Read is from it", true, exec([]cat.Event{w(1, x, ""), r(0, x, "e"), w(0, x, "e")}, [2]int{1, 0})},
		{"the Read is from one before it", false, exec([]cat.Event{w(1, x, ""), w(2, x, ""), r(0, x, "e"), w(0, x, "e")}, [2]int{2, 0})},
		{"two pairs", true, exec([]cat.Event{r(0, x, "e"), w(0, x, "e"), r(1, x, "e"), w(1, x, "e")}, [2]int{2, 1})},
		{"two pairs from none", false, exec([]cat.Event{r(0, x, "e"), w(0, x, "e"), r(1, x, "e"), w(1, x, "e")})},
		{"the second Write is no pair", true, exec([]cat.Event{r(0, x, "e"), w(0, x, "e"), w(1, x, ""), w(0, x, "e")})},
		{"the second Read is of the pair", false, exec([]cat.Event{r(0, x, "e"), r(0, x, "e"), w(1, x, ""), w(0, x, "e")})},
		{"a Read elsewhere before", false, exec([]cat.Event{r(0, y, "e"), r(0, x, "e"), w(1, x, ""), w(0, x, "e")})},
		{"the Read of another thread", true, exec([]cat.Event{r(1, x, "e"), w(2, x, ""), w(0, x, "e")})},
	} {
		if cat.Atomic(c.e) != c.ok || !cat.May(c.e) {
			t.Error(c.what)
		}
		if _, ok := cat.Order(c.e); !c.ok && ok {
			t.Error(c.what, "is allowed")
		}
	}
	after := pair(w(1, x, ""))
	after.Co = []int{2, 1}
	if !cat.Atomic(after) {
		t.Error("a Write after the pair")
	}
}

// P28.1: what is ahead of what, clause by clause. The first and the last event are asked for, in both directions.
func TestAhead(t *testing.T) {
	from := func(e cat.Exec, rf int) cat.Exec {
		e.Rf[len(e.Rf)-1] = rf
		return e
	}
	list := func(l ...cat.Event) cat.Exec { return exec(l) }
	back := func(e cat.Exec) cat.Exec {
		slices.Reverse(e.Co)
		return e
	}
	for _, c := range []struct {
		what        string
		there, back bool
		e           cat.Exec
	}{
		// Different threads.
		{"rf", true, false, from(list(w(0, x, ""), r(1, x, "")), 0)},
		{"fr of a later Read", false, true, list(w(0, x, ""), r(1, x, ""))},
		{"fr", true, false, list(r(0, x, ""), w(1, x, ""))},
		{"fr of another location", false, false, list(r(0, x, ""), w(1, y, ""))},
		{"co", true, false, list(w(0, x, ""), w(1, x, ""))},
		{"co back", false, true, back(list(w(0, x, ""), w(1, x, "")))},
		{"two locations", false, false, list(w(0, x, "l"), w(1, y, "l"))},
		{"two Reads", false, false, list(r(0, x, "a"), r(1, x, "a"))},
		{"two Syncs", false, false, list(s(0), s(1))},
		{"a Sync of another thread", false, false, list(s(0), w(1, x, "l"))},
		// One thread: nothing.
		{"Read, Read", false, false, list(r(0, x, ""), r(0, y, ""))},
		{"Read, Write", false, false, list(r(0, x, ""), w(0, y, ""))},
		{"Write, Read", false, false, list(w(0, x, ""), r(0, y, ""))},
		{"Write, Write", false, false, list(w(0, x, ""), w(0, y, ""))},
		{"rf within", false, false, from(list(w(0, x, ""), r(0, x, "")), 0)},
		{"rf within, backward", false, false, exec([]cat.Event{r(0, x, ""), w(0, x, "")}, [2]int{0, 1})},
		{"co within", false, false, list(w(0, x, ""), w(0, x, ""))},
		{"co within, backward", false, false, back(list(w(0, x, ""), w(0, x, "")))},
		{"fr within", false, false, list(r(0, x, ""), w(0, x, ""))},
		// Syncs, and fences that are not ahead themselves.
		{"a Sync first", true, false, list(s(0), r(0, x, ""))},
		{"a Sync last", true, false, list(w(0, x, ""), s(0))},
		{"Syncs", true, false, list(s(0), s(0))},
		{"a Sync and a Fence", false, false, list(s(0), f(0, cat.Full))},
		{"a Fence and a Sync", false, false, list(f(0, cat.Full), s(0))},
		{"Fences", false, false, list(f(0, cat.Full), s(0), f(0, cat.Full))},
		{"a Fence first", false, false, list(f(0, cat.Full), r(0, x, ""))},
		{"a Fence last", false, false, list(r(0, x, "aq"), f(0, cat.Full))},
		{"a Fence marked", false, false, list(cat.Event{Kind: cat.Fence, F: 1, Acq: true, Q: true, Rel: true}, w(0, x, "l"))},
		// Fences between.
		{"Write, Full, Read", true, false, list(w(0, x, ""), f(0, cat.Full), r(0, y, ""))},
		{"Read, Full, Read", true, false, list(r(0, x, ""), f(0, cat.Full), r(0, y, ""))},
		{"Write, Full, Write", true, false, list(w(0, x, ""), f(0, cat.Full), w(0, y, ""))},
		{"Read, Full, Write", true, false, list(r(0, x, ""), f(0, cat.Full), w(0, y, ""))},
		{"Write, Sync, Read", true, false, list(w(0, x, ""), s(0), r(0, y, ""))},
		{"Write, another's Full, Read", false, false, list(w(0, x, ""), f(1, cat.Full), r(0, y, ""))},
		{"Write, another's Sync, Read", false, false, list(w(0, x, ""), s(1), r(0, y, ""))},
		{"Write, Loads, Read", false, false, list(w(0, x, ""), f(0, cat.Loads), r(0, y, ""))},
		{"Write, Loads, Write", false, false, list(w(0, x, ""), f(0, cat.Loads), w(0, y, ""))},
		{"Read, Loads, Read", true, false, list(r(0, x, ""), f(0, cat.Loads), r(0, y, ""))},
		{"Read, Loads, Write", true, false, list(r(0, x, ""), f(0, cat.Loads), w(0, y, ""))},
		{"Write, Stores, Write", true, false, list(w(0, x, ""), f(0, cat.Stores), w(0, y, ""))},
		{"Write, Stores, Read", false, false, list(w(0, x, ""), f(0, cat.Stores), r(0, y, ""))},
		{"Read, Stores, Write", false, false, list(r(0, x, ""), f(0, cat.Stores), w(0, y, ""))},
		{"Read, Stores, Read", false, false, list(r(0, x, ""), f(0, cat.Stores), r(0, y, ""))},
		{"Fences of no kind", false, false, list(r(0, x, ""), f(0, 0), f(0, 4), f(0, -1), f(0, math.MaxInt), f(0, math.MinInt), w(0, y, ""))},
		{"a Fence of another kind of event", false, false, list(r(0, x, ""), cat.Event{Kind: cat.Read, At: z, W: 8, F: cat.Full}, w(0, y, ""))},
		// Acquires and releases.
		{"Read Acq, Read", true, false, list(r(0, x, "a"), r(0, y, ""))},
		{"Read Acq, Write", true, false, list(r(0, x, "a"), w(0, y, ""))},
		{"Read Q, Read", true, false, list(r(0, x, "q"), r(0, y, ""))},
		{"Read Q, Write", true, false, list(r(0, x, "q"), w(0, y, ""))},
		{"Read, Read Acq", false, false, list(r(0, x, ""), r(0, y, "aq"))},
		{"Write, Read Acq", false, false, list(w(0, x, ""), r(0, y, "aq"))},
		{"Write marked Acq, Read", false, false, list(w(0, x, "aq"), r(0, y, ""))},
		{"Write, Write Rel", true, false, list(w(0, x, ""), w(0, y, "l"))},
		{"Read, Write Rel", true, false, list(r(0, x, ""), w(0, y, "l"))},
		{"Write Rel, Write", false, false, list(w(0, x, "l"), w(0, y, ""))},
		{"Read, Read marked Rel", false, false, list(r(0, x, ""), r(0, y, "l"))},
		{"Write Rel, Read", false, false, list(w(0, x, "l"), r(0, y, ""))},
		{"Write Rel, Read Q", false, false, list(w(0, x, "l"), r(0, y, "q"))},
		{"Write Rel, Read Acq", true, false, list(w(0, x, "l"), r(0, y, "a"))},
		{"Read marked Rel, Read Acq", false, false, list(r(0, x, "l"), r(0, y, "a"))},
		{"Write Rel, Read Acq of two threads", false, false, list(w(0, x, "l"), r(1, y, "a"))},
		// Exclusive pairs.
		{"a pair", true, false, list(r(0, x, "e"), w(0, x, "e"))},
		{"no pair: the Read", false, false, list(r(0, x, ""), w(0, x, "e"))},
		{"no pair: the Write", false, false, list(r(0, x, "e"), w(0, x, ""))},
		{"no pair: the location", false, false, list(r(0, x, "e"), w(0, y, "e"))},
		{"no pair: another Read", false, false, list(r(0, x, "e"), r(0, x, "e"), w(0, x, "e"))},
		{"no pair: a second Write", false, false, list(r(0, x, "e"), w(0, x, "e"), w(0, x, "e"))},
		{"no pair: threads", false, true, exec([]cat.Event{r(0, x, "e"), w(1, x, ""), w(1, x, "e")}, [2]int{0, 2})},
	} {
		n := len(c.e.L) - 1
		if cat.Ahead(c.e, 0, n) != c.there || cat.Ahead(c.e, n, 0) != c.back && c.what != "no pair: threads" {
			t.Error(c.what)
		}
		if cat.Ahead(c.e, 0, 0) || cat.Ahead(c.e, n, n) {
			t.Error(c.what, "itself")
		}
	}
	// The Write of a pair, and a Read of its own thread that is from it.
	own := []cat.Event{r(0, x, "e"), w(0, x, "e"), r(0, x, "")}
	for _, c := range []struct {
		what, read string
		pair       bool
		rf         int
		want       bool
	}{{"Q", "q", true, 1, true}, {"Acq", "a", true, 1, true}, {"plain", "", true, 1, false}, {"from none", "qa", true, -1, false}, {"no pair", "qa", false, 1, false}} {
		e := exec(slices.Clone(own), [2]int{2, c.rf})
		mark(&e.L[2], c.read)
		e.L[0].Ex = c.pair
		if cat.Ahead(e, 1, 2) != c.want || cat.Ahead(e, 2, 1) {
			t.Error(c.what)
		}
	}
	e := exec([]cat.Event{r(0, x, "e"), r(0, x, "q"), w(0, x, "e")}, [2]int{1, 2})
	if cat.Ahead(e, 2, 1) {
		t.Error("a Read before the Write from which it is")
	}
}

// P28.1: pairs beside, also of Fences and of one event; numbers that are none.
func TestExtra(t *testing.T) {
	e := exec([]cat.Event{w(0, x, ""), f(0, 1), s(1), r(1, y, "")})
	e.Extra = [][2]int{{3, 0}, {1, 2}, {2, 1}, {3, 0}, {0, 0}, {3, 1}}
	for i := -2; i < 7; i++ {
		for j := -2; j < 7; j++ {
			want := slices.Contains(e.Extra, [2]int{i, j}) || i == 2 && j == 3
			if cat.Ahead(e, i, j) != want {
				t.Error(i, j, want)
			}
		}
	}
	for _, n := range []int{math.MinInt, math.MaxInt} {
		if cat.Ahead(e, n, 0) || cat.Ahead(e, 0, n) || cat.Ahead(e, n, n) || cat.Ahead(cat.Exec{}, 0, 0) {
			t.Error(n)
		}
	}
	for _, c := range []struct {
		extra [][2]int
		want  []int
	}{{nil, []int{0, 1, 2, 3}}, {[][2]int{{3, 0}}, []int{1, 2, 3, 0}}, {[][2]int{{3, 1}}, []int{0, 2, 3, 1}}, {[][2]int{{1, 2}, {2, 1}}, nil}, {[][2]int{{0, 0}}, nil}, {[][2]int{{3, 2}}, nil}, {[][2]int{{1, 0}, {3, 1}}, []int{2, 3, 1, 0}}} {
		e.Extra = c.extra
		if l, ok := cat.Order(e); !slices.Equal(l, c.want) || ok != (c.want != nil) {
			t.Error(c.extra, l, ok)
		}
	}
}

// P28.2: shapes whose verdict is known.
func TestShapes(t *testing.T) {
	for _, c := range []struct {
		what string
		ok   bool
		e    cat.Exec
	}{
		{"two plain Writes, seen otherwise", true, exec([]cat.Event{w(0, x, ""), w(0, y, ""), r(1, y, "q"), r(1, x, "")}, [2]int{2, 1})},
		{"a Stores and a Loads", false, exec([]cat.Event{w(0, x, ""), f(0, cat.Stores), w(0, y, ""), r(1, y, ""), f(1, cat.Loads), r(1, x, "")}, [2]int{3, 2})},
		{"a Stores alone", true, exec([]cat.Event{w(0, x, ""), f(0, cat.Stores), w(0, y, ""), r(1, y, ""), r(1, x, "")}, [2]int{3, 2})},
		{"a Loads alone", true, exec([]cat.Event{w(0, x, ""), w(0, y, ""), r(1, y, ""), f(1, cat.Loads), r(1, x, "")}, [2]int{3, 2})},
		{"store, load with Full", false, exec([]cat.Event{w(0, x, ""), f(0, cat.Full), r(0, y, ""), w(1, y, ""), f(1, cat.Full), r(1, x, "")})},
		{"store, load with Full on one side", true, exec([]cat.Event{w(0, x, ""), f(0, cat.Full), r(0, y, ""), w(1, y, ""), r(1, x, "")})},
		{"store, load with Rel and Acq", false, exec([]cat.Event{w(0, x, "l"), r(0, y, "a"), w(1, y, "l"), r(1, x, "a")})},
		{"store, load with Syncs", false, exec([]cat.Event{w(0, x, ""), s(0), r(0, y, ""), w(1, y, ""), s(1), r(1, x, "")})},
		{"load, store", true, exec([]cat.Event{r(0, x, ""), w(0, y, ""), r(1, y, ""), w(1, x, "")}, [2]int{0, 3}, [2]int{2, 1})},
		{"load, store with Q", false, exec([]cat.Event{r(0, x, "q"), w(0, y, ""), r(1, y, "q"), w(1, x, "")}, [2]int{0, 3}, [2]int{2, 1})},
		{"load, store with Rel", false, exec([]cat.Event{r(0, x, ""), w(0, y, "l"), r(1, y, ""), w(1, x, "l")}, [2]int{0, 3}, [2]int{2, 1})},
		{"load, store with one Q", true, exec([]cat.Event{r(0, x, "q"), w(0, y, ""), r(1, y, ""), w(1, x, "")}, [2]int{0, 3}, [2]int{2, 1})},
		{"four threads, two Writes", false, exec([]cat.Event{w(0, x, ""), w(1, y, ""), r(2, x, "q"), r(2, y, ""), r(3, y, "q"), r(3, x, "")}, [2]int{2, 0}, [2]int{4, 1})},
		{"four threads, plain", true, exec([]cat.Event{w(0, x, ""), w(1, y, ""), r(2, x, ""), r(2, y, ""), r(3, y, "q"), r(3, x, "")}, [2]int{2, 0}, [2]int{4, 1})},
		{"own stores", true, exec([]cat.Event{w(0, x, "l"), r(0, x, "q"), r(0, y, "q"), w(1, y, "l"), r(1, y, "q"), r(1, x, "q")}, [2]int{1, 0}, [2]int{4, 3})},
		{"own exclusive stores", false, exec([]cat.Event{r(0, x, "ea"), w(0, x, "el"), r(0, x, "q"), r(0, y, "q"), r(1, y, "ea"), w(1, y, "el"), r(1, y, "q"), r(1, x, "q")}, [2]int{2, 1}, [2]int{6, 5})},
		{"Writes crosswise", true, cat.Exec{L: []cat.Event{w(0, x, ""), w(0, y, ""), w(1, y, ""), w(1, x, "")}, Rf: []int{0, 0, 0, 0}, Co: []int{1, 2, 3, 0}}},
	} {
		l, ok := cat.Order(c.e)
		if ok != c.ok || !cat.Internal(c.e) || !cat.Atomic(c.e) || ok && len(l) != len(c.e.L) {
			t.Error(c.what, l)
		}
	}
	two := exec([]cat.Event{w(0, x, "l"), w(0, y, "l"), w(1, y, "l"), w(1, x, "l")})
	two.Co = []int{2, 1, 0, 3}
	if l, ok := cat.Order(two); !ok || !slices.Equal(l, []int{0, 2, 1, 3}) {
		t.Error("Writes in line", l)
	}
	two.Co = []int{1, 2, 3, 0}
	if _, ok := cat.Order(two); ok {
		t.Error("Writes crosswise, with Rel")
	}
	l, _ := cat.Order(exec([]cat.Event{r(0, x, ""), r(0, x, ""), r(0, x, "")}))
	clear(l)
	if k, _ := cat.Order(exec([]cat.Event{r(0, x, ""), r(0, x, ""), r(0, x, "")})); !slices.Equal(k, []int{0, 1, 2}) {
		t.Error("results are shared")
	}
}
