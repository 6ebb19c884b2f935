package net

import (
	"slices"

	"ropewalk/api"
)

// packet is one that is on its way. Its bytes are a string, which nobody can change: a copy of it may share them.
type packet struct {
	api.Flight
	bytes string
}

// row is an end's path: what is on its way there, and what became of the rest.
type row struct {
	api.Traffic
	flying []packet
}

// spot is the packet that is meant, the i-th one of a row; for Spoil alone also which bits of which byte.
type spot struct {
	end, path, i int
	at           int
	bits         byte
}

func (r *row) full() bool { return len(r.flying) >= api.MaxFlying }

func (r *row) has(i int) bool { return i >= 0 && i < len(r.flying) }

// count tells the packet that somebody sent from the one that nobody did.
func (r *row) count(forged bool) {
	if forged {
		r.Forged++
	} else {
		r.Sent++
	}
}

func (r *row) flights() []api.Flight {
	told := make([]api.Flight, len(r.flying))
	for i, p := range r.flying {
		told[i] = p.Flight
	}
	return told
}

func (r *row) take(i int) packet {
	p := r.flying[i]
	r.flying = slices.Delete(r.flying, i, i+1)
	return p
}

// lose loses all that is on its way.
func (r *row) lose() {
	r.Lost += len(r.flying)
	r.flying = nil
}

// What may be done with an i-th packet that is there; each answers the packet that it is about.

func (r *row) deliver(s spot) (packet, api.Errno) {
	r.Delivered++
	return r.take(s.i), api.OK
}

func (r *row) drop(s spot) (packet, api.Errno) {
	r.Lost++
	return r.take(s.i), api.OK
}

// double counts a copy as sent, whoever put the packet there, and leaves it to the network to put it on its way with a number.
func (r *row) double(s spot) (packet, api.Errno) {
	if r.full() {
		return packet{}, api.ErrMany
	}
	r.Sent++
	return r.flying[s.i], api.OK
}

func (r *row) spoil(s spot) (packet, api.Errno) {
	p := &r.flying[s.i]
	if s.at < 0 || s.at >= len(p.bytes) {
		return packet{}, api.ErrByte
	}
	b := []byte(p.bytes)
	b[s.at] ^= s.bits
	p.bytes = string(b)
	return *p, api.OK
}
