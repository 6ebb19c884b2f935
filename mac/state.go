package mac

import (
	"math/bits"

	"ropewalk/api"
)

const (
	wordRounds = 2
	lastRounds = 4
)

// numbers are the four that a round mixes.
type numbers struct{ a, b, c, d uint64 }

func (n *numbers) round() {
	n.a += n.b
	n.b = bits.RotateLeft64(n.b, 13) ^ n.a
	n.a = bits.RotateLeft64(n.a, 32)
	n.c += n.d
	n.d = bits.RotateLeft64(n.d, 16) ^ n.c
	n.a += n.d
	n.d = bits.RotateLeft64(n.d, 21) ^ n.a
	n.c += n.b
	n.b = bits.RotateLeft64(n.b, 17) ^ n.c
	n.c = bits.RotateLeft64(n.c, 32)
}

// state is that of a seal whose bytes are still coming.
type state struct {
	numbers
	word  uint64 // of the bytes behind the last whole eight
	count uint64 // of all bytes
}

// begin is the state ahead of the first byte.
func begin(key api.Key) state {
	k, l := number(key[:wordBytes]), number(key[wordBytes:])
	return state{numbers: numbers{
		a: k ^ 0x736f6d6570736575,
		b: l ^ 0x646f72616e646f6d,
		c: k ^ 0x6c7967656e657261,
		d: l ^ 0x7465646279746573,
	}}
}

// write takes further bytes. They are counted through all calls: a row is sealed alike however it comes.
func (s *state) write(row []byte) {
	for _, octet := range row {
		s.word |= uint64(octet) << (8 * (s.count % wordBytes))
		s.count++
		if s.count%wordBytes == 0 {
			s.mix(s.word)
			s.word = 0
		}
	}
}

func (s *state) mix(m uint64) {
	s.d ^= m
	for range wordRounds {
		s.round()
	}
	s.a ^= m
}

// seal ends a state, which takes no more bytes then.
func (s *state) seal() uint64 {
	// The shift leaves of the count what it is modulo 256, and fewer than eight bytes leave the highest one free for it.
	s.mix(s.word | s.count<<56)
	s.c ^= 255
	for range lastRounds {
		s.round()
	}
	return s.a ^ s.b ^ s.c ^ s.d
}
