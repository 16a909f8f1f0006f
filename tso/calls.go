package tso

import (
	"math"

	"calque/api"
	"calque/xsem"
)

// What a thread asks for by a syscall.
const (
	read  = 0
	write = 1
	start = 2
	ask   = 3
	exit  = 60
)

const (
	denied  = math.MaxUint64 // what a syscall that may not be returns
	endUnit = 256            // what ask counts an End as
)

// call does what a thread asks for, and returns how that ends the thread, if it does.
func (x *Machine) call(t int) int {
	h := x.threads[t]
	r := &h.Reg
	switch r[api.RAX] {
	case read:
		r[api.RAX] = x.next(t + h.Reads)
		h.Reads++
	case write:
		h.Trace = append(h.Trace, r[api.RDI])
		r[api.RAX] = 0
	case start:
		r[api.RAX] = x.start(r[api.RDI], r[api.RSI])
	case ask:
		r[api.RAX] = denied
		if o, ok := x.other(t, r[api.RDI]); ok {
			r[api.RAX] = o.Code + endUnit*uint64(o.End)
		}
	case exit:
		h.Code = r[api.RDI]
		return api.Exits
	default:
		return api.FaultSys
	}
	return api.Runs
}

// next returns an input. They come again from the first one on.
func (x *Machine) next(k int) uint64 {
	if len(x.input) == 0 {
		return 0
	}
	return x.input[k%len(x.input)]
}

// start starts a thread at an address, with a stack, and returns its number.
func (x *Machine) start(at, stack uint64) uint64 {
	if len(x.threads) >= api.MaxThread || stack >= uint64(len(x.stacks)) || x.taken(int(stack)) {
		return denied
	}
	t, k := len(x.threads), int(stack)
	x.threads = append(x.threads, &Thread{Cpu: *xsem.New(at, x.stacks[k].Top()), Stack: k})
	x.memory.Own(t, x.ahead+k)
	return uint64(t)
}

// taken reports whether a thread was started with a stack, though it may have ended.
func (x *Machine) taken(stack int) bool {
	for _, h := range x.threads {
		if h.Stack == stack {
			return true
		}
	}
	return false
}

// other returns the thread of a number, if it is not the one that asks.
func (x *Machine) other(t int, number uint64) (*Thread, bool) {
	if number >= uint64(len(x.threads)) || number == uint64(t) {
		return nil, false
	}
	return x.find(int(number))
}
