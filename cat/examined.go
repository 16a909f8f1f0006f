package cat

import "slices"

// examined is an execution that may be one, with what is asked of it again and again.
type examined struct {
	Exec
	rank   map[int]int // the place of each Write in Co
	paired []int       // of the Write of an exclusive pair the Read, of other events none
	fences []counts    // ahead of each event in its thread
	beside [][]int     // what each event is ahead of by Extra, rising
}

const none = -1

// counts are how many fences of each kind there are. Among the Full ones are Syncs.
type counts [Stores + 1]int

// examine prepares an execution that may be one.
func examine(x Exec) *examined {
	y := &examined{Exec: x, rank: map[int]int{}, beside: make([][]int, len(x.L))}
	for k, i := range x.Co {
		y.rank[i] = k
	}
	for _, p := range x.Extra {
		y.beside[p[0]] = append(y.beside[p[0]], p[1])
	}
	for _, l := range y.beside {
		slices.Sort(l)
	}
	y.pair()
	y.count()
	return y
}

// pair finds the exclusive pairs.
func (x *examined) pair() {
	last := slices.Repeat([]int{none}, mostThreads) // the last exclusive access of each thread
	for j := range x.L {
		e := &x.L[j]
		i := none
		if e.Ex && e.access() {
			if k := last[e.T]; e.Kind == Write && k != none && x.L[k].Kind == Read && x.L[k].with(e) {
				i = k
			}
			last[e.T] = j
		}
		x.paired = append(x.paired, i)
	}
}

// count counts fences.
func (x *examined) count() {
	var now [mostThreads]counts
	for _, e := range x.L {
		x.fences = append(x.fences, now[e.T])
		switch {
		case e.Kind == Sync:
			now[e.T][Full]++
		case e.Kind == Fence && e.F >= Full && e.F <= Stores:
			now[e.T][e.F]++
		}
	}
}

// reads reports whether event j reads from event i.
func (x *examined) reads(i, j int) bool {
	return x.L[j].Kind == Read && x.Rf[j] == i
}

// later reports whether events are Writes at one location, j later than i in Co.
func (x *examined) later(i, j int) bool {
	return x.writes(i) && x.writes(j) && x.L[i].with(&x.L[j]) && x.rank[i] < x.rank[j]
}

// misses reports whether event i is a Read, and event j a Write that is later than the one from which i reads.
func (x *examined) misses(i, j int) bool {
	if x.L[i].Kind != Read || !x.writes(j) || !x.L[i].with(&x.L[j]) {
		return false
	}
	from := x.Rf[i]
	return from == initial || x.rank[from] < x.rank[j]
}

// seen reports whether event i comes before event j for all who access their location.
func (x *examined) seen(i, j int) bool {
	return x.reads(i, j) || x.later(i, j) || x.misses(i, j)
}

// inside reports whether event i comes before event j at one location.
func (x *examined) inside(i, j int) bool {
	a, b := &x.L[i], &x.L[j]
	return a.with(b) && (a.T == b.T && i < j || x.seen(i, j))
}

// consistent reports whether the accesses at each location, for themselves, may be.
func (x *examined) consistent() bool {
	_, ok := sorted(len(x.L), x.inside)
	return ok
}

// atomic reports whether no exclusive pair is broken.
func (x *examined) atomic() bool {
	for j, i := range x.paired {
		if i == none {
			continue
		}
		for k := range x.L {
			if x.L[k].T != x.L[j].T && x.misses(i, k) && x.later(k, j) {
				return false
			}
		}
	}
	return true
}

// ahead reports whether event i is directly ahead of event j.
func (x *examined) ahead(i, j int) bool {
	if _, is := slices.BinarySearch(x.beside[i], j); is {
		return true
	}
	a, b := &x.L[i], &x.L[j]
	switch {
	case a.Kind == Fence || b.Kind == Fence:
		return false
	case a.T != b.T:
		return x.seen(i, j)
	}
	return i < j && x.kept(i, j)
}

// kept reports whether two events of one thread, neither of which is a Fence, stay in their order.
func (x *examined) kept(i, j int) bool {
	a, b := &x.L[i], &x.L[j]
	switch {
	case a.Kind == Sync || b.Kind == Sync || x.between(Full, i, j):
		return true
	case b.Kind == Write && (b.Rel || x.paired[j] == i):
		return true
	case a.Kind == Read:
		return a.Acq || a.Q || x.between(Loads, i, j)
	case b.Kind == Write:
		return x.between(Stores, i, j)
	}
	return a.Rel && b.Acq || x.paired[i] != none && (b.Acq || b.Q) && x.reads(i, j)
}

// between reports whether a fence of a kind is between two events of one thread that are no fences.
func (x *examined) between(f, i, j int) bool {
	return x.fences[i][f] < x.fences[j][f]
}

// sorted returns the numbers below n, each behind all that are ahead of it, the least one first wherever several may be next; or false, if there is a cycle.
func sorted(n int, ahead func(i, j int) bool) ([]int, bool) {
	const listed = -1
	missing := make([]int, n) // how many of those ahead of each number are not in the list
	for i := range n {
		for j := range n {
			if ahead(i, j) {
				missing[j]++
			}
		}
	}
	list := make([]int, 0, n)
	for range n {
		next := slices.Index(missing, 0)
		if next < 0 {
			return nil, false
		}
		list = append(list, next)
		missing[next] = listed
		for j := range n {
			if missing[j] > 0 && ahead(next, j) {
				missing[j]--
			}
		}
	}
	return list, true
}
