package mean

import (
	"iter"
	"math/bits"
)

// places is a set of numbers from 0 on, of places or of units: a bit each, 64 a word. One that was answered is never written into again, so that sets may be shared.
type places []uint64

// nowhere is the empty set, with room for so many.
func nowhere(count int) places {
	return make(places, (count+63)/64)
}

// which are those numbers below a bound of which a question is answered yes.
func which(count int, ask func(i int) bool) places {
	s := nowhere(count)
	for i := range count {
		if ask(i) {
			s[i/64] |= 1 << (i % 64)
		}
	}
	return s
}

// has says whether a number, one of those for which there is room, is in a set.
func (s places) has(i int) bool {
	return s[i/64]>>(i%64)&1 == 1
}

// none says whether a set is empty.
func (s places) none() bool {
	for _, word := range s {
		if word != 0 {
			return false
		}
	}
	return true
}

// each goes through a set, rising.
func (s places) each() iter.Seq[int] {
	return func(yield func(int) bool) {
		for i, word := range s {
			for ; word != 0; word &= word - 1 { // without its lowest one
				if !yield(i*64 + bits.TrailingZeros64(word)) {
					return
				}
			}
		}
	}
}

// or is what is in either of two sets that have the same room.
func (s places) or(t places) places {
	return s.with(t, func(a, b uint64) uint64 { return a | b })
}

// and is what is in both.
func (s places) and(t places) places {
	return s.with(t, func(a, b uint64) uint64 { return a & b })
}

// less is what is in the first one alone.
func (s places) less(t places) places {
	return s.with(t, func(a, b uint64) uint64 { return a &^ b })
}

// with is a set made of two, word by word.
func (s places) with(t places, word func(a, b uint64) uint64) places {
	out := nowhere(len(s) * 64)
	for i := range s {
		out[i] = word(s[i], t[i])
	}
	return out
}

// up are the numbers that are greater by one.
func (s places) up() places {
	out := nowhere(len(s) * 64)
	carry := uint64(0)
	for i, word := range s {
		out[i] = word<<1 | carry
		carry = word >> 63
	}
	return out
}

// down are the numbers that are less by one; 0 is left out.
func (s places) down() places {
	out := nowhere(len(s) * 64)
	carry := uint64(0)
	for i := len(s) - 1; i >= 0; i-- {
		out[i] = s[i]>>1 | carry
		carry = s[i] << 63
	}
	return out
}
