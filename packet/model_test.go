package packet

import (
	"encoding/binary"
	"fmt"
	"hash/crc32"
	"slices"

	"ropewalk/api"
	"ropewalk/chunk"
)

// The chapter's words once more, by other means: what the package is held against.

var alones = []api.ChunkKind{1, 2, 14}

var castagnoli = crc32.MakeTable(crc32.Castagnoli)

// sealed is bytes, of 12 at least, with their right sum: its smallest byte first, of the bytes with none in its place.
func sealed(b []byte) []byte {
	b = slices.Clone(b)
	copy(b[8:12], make([]byte, 4))
	binary.LittleEndian.PutUint32(b[8:], crc32.Checksum(b, castagnoli))
	return b
}

// framed is a head, with anything behind it, and its right sum.
func framed(from, to uint16, tag uint32, behind ...byte) []byte {
	b := binary.BigEndian.AppendUint16(nil, from)
	b = binary.BigEndian.AppendUint16(b, to)
	b = binary.BigEndian.AppendUint32(b, tag)
	b = append(b, 0, 0, 0, 0)
	return sealed(append(b, behind...))
}

// chunkBytes are those of chunks that may be.
func chunkBytes(l ...api.Chunk) []byte {
	var all []byte
	for _, c := range l {
		b, e := chunk.Encode(c)
		if e != 0 {
			panic(e)
		}
		all = append(all, b...)
	}
	return all
}

// bytesOf are those of a packet that may be.
func bytesOf(p api.Packet) []byte { return framed(p.From, p.To, p.Tag, chunkBytes(p.Chunks...)...) }

// crowded tells of chunks whether one that stands alone does not.
func crowded(l []api.Chunk) bool {
	for _, c := range l {
		if slices.Contains(alones, c.Kind) && len(l) > 1 {
			return true
		}
	}
	return false
}

// whyNot is Check's number.
func whyNot(p api.Packet) api.Errno {
	if p.From == 0 || p.To == 0 {
		return 72
	}
	if len(p.Chunks) == 0 {
		return 73
	}
	if crowded(p.Chunks) {
		return 74
	}
	n := 12
	for _, c := range p.Chunks {
		if e := chunk.Check(c); e != 0 {
			return e
		}
		n += len(chunkBytes(c))
	}
	if n > 65536 {
		return 2
	}
	return 0
}

// headOf is what Head answers.
func headOf(b []byte) (api.Packet, api.Errno) {
	if len(b) > 65536 {
		return api.Packet{}, 2
	}
	if len(b) < 12 {
		return api.Packet{}, 20
	}
	if !slices.Equal(b, sealed(b)) {
		return api.Packet{}, 21
	}
	p := api.Packet{From: binary.BigEndian.Uint16(b), To: binary.BigEndian.Uint16(b[2:]), Tag: binary.BigEndian.Uint32(b[4:])}
	if p.From == 0 || p.To == 0 {
		return api.Packet{}, 72
	}
	return p, 0
}

// packetOf is what Decode answers.
func packetOf(b []byte) (api.Packet, int, api.Errno) {
	p, e := headOf(b)
	if e != 0 {
		return api.Packet{}, 0, e
	}
	if len(b) == 12 {
		return api.Packet{}, 0, 73
	}
	for at := 12; at < len(b); {
		c, n, e := chunk.Decode(b[at:])
		if e != 0 {
			return api.Packet{}, at, e
		}
		p.Chunks = append(p.Chunks, c)
		at += n
	}
	if crowded(p.Chunks) {
		return api.Packet{}, 0, 74
	}
	return p, 0, 0
}

// fits tells whether chunks may be a packet of so many bytes.
func fits(mtu int, l []api.Chunk) bool { return !crowded(l) && 12+len(chunkBytes(l...)) <= mtu }

// rowsOf is what Bundle answers.
func rowsOf(mtu int, l []api.Chunk) ([][]api.Chunk, api.Errno) {
	if mtu < 100 || mtu > 1500 {
		return nil, 1
	}
	for _, c := range l {
		if e := chunk.Check(c); e != 0 {
			return nil, e
		}
	}
	for _, c := range l {
		if !fits(mtu, []api.Chunk{c}) {
			return nil, 2
		}
	}
	var all [][]api.Chunk
	for len(l) > 0 {
		n := 1
		for n < len(l) && fits(mtu, l[:n+1]) {
			n++
		}
		all = append(all, slices.Clone(l[:n]))
		l = l[n:]
	}
	return all, 0
}

// shown is all of something that is told, by which it is held against another: nil and empty lists are shown alike.
func shown(x any) string { return fmt.Sprintf("%v", x) }

// copied shares nothing with the packet.
func copied(p api.Packet) api.Packet {
	p.Chunks = copies(p.Chunks)
	return p
}

func copies(l []api.Chunk) []api.Chunk {
	var all []api.Chunk
	for _, c := range l {
		c.Gaps, c.NR, c.Dups, c.Body = slices.Clone(c.Gaps), slices.Clone(c.NR), slices.Clone(c.Dups), slices.Clone(c.Body)
		c.Params = slices.Clone(c.Params)
		for i := range c.Params {
			c.Params[i].Body = slices.Clone(c.Params[i].Body)
		}
		all = append(all, c)
	}
	return all
}
