package spans

import (
	"math/bits"

	"ropewalk/api"
)

const (
	wordBits = 64
	// ringBits is as many as there are distances from 0 to MaxAhead: no two TSNs that are above cum at once share a bit, and those of cum and of cum + 1 are free.
	ringBits = api.MaxAhead + 1
)

// marks are numbers, a bit of a ring for each, and how many they are. A ring that is held as a value is no other set's.
type marks struct {
	ring  [ringBits / wordBits]uint64
	count int
}

// place is where a number's mark stands: the word, and the bit of it.
func place(n uint32) (word int, bit int) {
	p := int(n % ringBits)
	return p / wordBits, p % wordBits
}

func (m *marks) marked(n uint32) bool {
	word, bit := place(n)
	return m.ring[word]>>bit&1 == 1
}

// put marks a number that is not marked.
func (m *marks) put(n uint32) {
	word, bit := place(n)
	m.ring[word] |= 1 << bit
	m.count++
}

// take takes away the mark of a number that has one.
func (m *marks) take(n uint32) {
	word, bit := place(n)
	m.ring[word] &^= 1 << bit
	m.count--
}

// stretch is how many numbers, from one on, are alike: marked, or not marked. It goes by words, as far as round the ring.
func (m *marks) stretch(from uint32, marked bool) int {
	length := 0
	for length < ringBits {
		word, bit := place(from + uint32(length))
		rest := m.ring[word]
		if marked {
			rest = ^rest
		}
		if rest >>= bit; rest != 0 {
			return length + bits.TrailingZeros64(rest)
		}
		length += wordBits - bit
	}
	return length
}
