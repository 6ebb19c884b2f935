package packet

import (
	"ropewalk/api"
	"ropewalk/chunk"
	"ropewalk/crc"
)

// left is the bytes that are still to be read.
type left []byte

func (l left) size() int { return len(l) }

// two and four take off the number of so many bytes, which must be there.
func (l *left) two() uint16 {
	b := *l
	*l = b[2:]
	return uint16(b[0])<<8 | uint16(b[1])
}

func (l *left) four() uint32 {
	high := uint32(l.two())
	return high<<16 | uint32(l.two())
}

// reader reads a packet.
type reader struct{ left }

// fault is what keeps bytes from being a packet, and where.
type fault struct {
	errno api.Errno
	place int
}

// caught is the packet that is read, or the first fault, which is thrown from wherever it is found.
func caught(read func() api.Packet) (p api.Packet, place int, e api.Errno) {
	defer func() {
		if thrown := recover(); thrown != nil {
			// Faults alone are thrown: another panic would be a mistake, and is not hidden.
			first := thrown.(fault)
			place, e = first.place, first.errno
		}
	}()
	return read(), 0, api.OK
}

// packet reads all of it.
func (r *reader) packet() api.Packet {
	p := r.head()
	need(r.size() > 0, api.ErrEmpty)
	p.Chunks = r.chunks()
	need(together(p.Chunks...), api.ErrBundle)
	return p
}

// head reads what stands ahead of the chunks.
func (r *reader) head() api.Packet {
	need(r.size() <= api.MaxPacket, api.ErrLong)
	e := crc.Check(r.left)
	need(e == api.OK, e)
	p := api.Packet{From: r.two(), To: r.two(), Tag: r.four()}
	r.four() // the sum, which is right
	need(hasPorts(p), api.ErrPort)
	return p
}

// chunks reads all that is left, which begins behind the head.
func (r *reader) chunks() []api.Chunk {
	list, at, e := chunk.All(r.left)
	if e != api.OK {
		panic(fault{errno: e, place: api.PacketHead + at})
	}
	return list
}

// need throws a fault that has no place, unless what must hold does.
func need(holds bool, e api.Errno) {
	if !holds {
		panic(fault{errno: e})
	}
}
