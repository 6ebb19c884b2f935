package packet

import (
	"slices"

	"ropewalk/api"
	"ropewalk/chunk"
)

// rows are chunks of which each may be and fits, each in the row ahead, if it may.
func rows(mtu int, l []api.Chunk) [][]api.Chunk {
	var list [][]api.Chunk
	room := 0 // of the last row, and while there is none: no chunk is so small
	for _, c := range l {
		size := chunk.Size(c)
		last := len(list) - 1
		// A row of several chunks has none that stands alone: its first one speaks for all.
		if size <= room && together(list[last][0], c) {
			list[last] = append(list[last], copyOf(c))
			room -= size
		} else {
			list = append(list, []api.Chunk{copyOf(c)})
			room = mtu - api.PacketHead - size
		}
	}
	return list
}

// copyOf is a chunk that shares no memory with the one handed in.
func copyOf(c api.Chunk) api.Chunk {
	c.Gaps = slices.Clone(c.Gaps)
	c.NR = slices.Clone(c.NR)
	c.Dups = slices.Clone(c.Dups)
	c.Body = slices.Clone(c.Body)
	c.Params = slices.Clone(c.Params)
	for i, p := range c.Params {
		c.Params[i].Body = slices.Clone(p.Body)
	}
	return c
}
