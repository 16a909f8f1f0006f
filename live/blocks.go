package live

import (
	"slices"

	"calque/cfg"
	"calque/lift"
	"calque/xinst"
)

// block is one of a graph, and what it makes of the flags.
type block struct {
	cfg.Block
	reads, puts Set      // of all its codes: what they read ahead of all that they put, and what they put
	end         Set      // what matters at its end, whatever comes there
	next        []uint64 // the addresses of blocks: what matters at their beginnings matters at its end too
}

// blockOf returns a block with what it makes of the flags. An instruction that is not valid has code that is not valid either.
func blockOf(b cfg.Block) block {
	x := block{Block: b}
	places := b.Places()
	for k, i := range slices.Backward(b.Code) {
		c, _ := lift.Lift(i, places[k])
		x.reads = before(c, x.reads)
		x.puts |= Puts(c)
	}
	x.end, x.next = leave(b)
	return x
}

// leave returns the flags that matter at the end of a block in any case, and the blocks that may follow, as far as they tell the rest.
func leave(b cfg.Block) (Set, []uint64) {
	if len(b.Code) == 0 {
		return 0, b.To
	}
	i := b.Code[len(b.Code)-1]
	switch i.Op {
	case xinst.Ud:
		return 0, nil
	case xinst.Ret:
		return All, nil
	case xinst.Jmp, xinst.Call:
		if i.A.Kind != xinst.None {
			return All, nil
		}
	}
	if i.Op != xinst.Call {
		return 0, b.To
	}
	// What is behind a call is reached by a Ret, ahead of which all flags matter.
	to, _ := i.Target(b.End() - uint64(i.Len))
	return 0, slices.DeleteFunc(slices.Clone(b.To), func(at uint64) bool { return at != to })
}

// search finds the flags that matter in a graph.
type search struct {
	blocks []block
	in     []Set            // what matters at the beginning of each block, as far as it was found
	at     map[uint64]Set   // the same, by the addresses of blocks
	from   map[uint64][]int // the blocks that may lead to an address
}

// Blocks returns the flags that matter at the beginning of each block.
func Blocks(g cfg.Graph) []Set {
	s := &search{in: make([]Set, len(g.Blocks)), at: map[uint64]Set{}, from: map[uint64][]int{}}
	var work []int
	for k, b := range g.Blocks {
		s.blocks = append(s.blocks, blockOf(b))
		for _, to := range s.blocks[k].next {
			s.from[to] = append(s.from[to], k)
		}
		work = append(work, k)
	}
	for len(work) != 0 {
		k := work[len(work)-1]
		work = append(work[:len(work)-1], s.look(k)...)
	}
	return s.in
}

// look looks at a block, and returns the blocks that have to be looked at again because of what was found.
func (s *search) look(k int) []int {
	b := s.blocks[k]
	live := b.end
	for _, to := range b.next {
		live |= s.at[to]
	}
	s.in[k] = b.reads | live&^b.puts
	if s.at[b.At]|s.in[k] == s.at[b.At] {
		return nil
	}
	s.at[b.At] |= s.in[k]
	return s.from[b.At]
}

// Out returns the flags that matter at the end of a block, of those that matter at the beginnings of all blocks.
func Out(g cfg.Graph, in []Set, k int) Set {
	if k < 0 || k >= len(g.Blocks) || len(in) != len(g.Blocks) {
		return All
	}
	live, next := leave(g.Blocks[k])
	for n, b := range g.Blocks {
		if slices.Contains(next, b.At) {
			live |= in[n]
		}
	}
	return live & All
}
