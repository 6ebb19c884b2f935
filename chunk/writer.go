package chunk

import (
	"ropewalk/api"
	"ropewalk/param"
)

// appendChunk writes a chunk that may be.
func appendChunk(b []byte, c api.Chunk) []byte {
	// The length does not count the bytes 0 behind the value.
	length := api.ChunkHead + valueBytes(c)
	b = append(b, byte(c.Kind), c.Flags)
	b = appendTwos(b, uint16(length))
	b = appendNumbers(b, c)
	b = appendLists(b, c)
	return append(b, make([]byte, filled(length)-length)...)
}

// appendNumbers writes what stands ahead of the lists.
func appendNumbers(b []byte, c api.Chunk) []byte {
	switch c.Kind {
	case api.KData:
		b = appendFours(b, c.TSN)
		b = appendTwos(b, c.Stream, c.SSN)
		b = appendFours(b, c.Proto)
	case api.KInit, api.KInitAck:
		b = appendFours(b, c.Tag, c.Window)
		b = appendTwos(b, c.Out, c.In)
		b = appendFours(b, c.TSN)
	case api.KSack:
		b = appendFours(b, c.TSN, c.Window)
		b = appendTwos(b, uint16(len(c.Gaps)), uint16(len(c.Dups)))
	case api.KNrSack:
		b = appendFours(b, c.TSN, c.Window)
		b = appendTwos(b, uint16(len(c.Gaps)), uint16(len(c.NR)), uint16(len(c.Dups)), 0)
	case api.KShutdown:
		b = appendFours(b, c.TSN)
	}
	return b
}

// appendLists writes all lists: those that the kind has not are empty, and the others stand in this order.
func appendLists(b []byte, c api.Chunk) []byte {
	b = appendGaps(b, c.Gaps)
	b = appendGaps(b, c.NR)
	b = appendFours(b, c.Dups...)
	params, _ := param.Encode(c.Params...)
	b = append(b, params...)
	return append(b, c.Body...)
}

func appendGaps(b []byte, l []api.Gap) []byte {
	for _, g := range l {
		b = appendTwos(b, g.Start, g.End)
	}
	return b
}

// appendTwos writes numbers of two bytes, the greatest byte first.
func appendTwos(b []byte, numbers ...uint16) []byte {
	for _, x := range numbers {
		b = append(b, byte(x>>8), byte(x))
	}
	return b
}

// appendFours writes numbers of four bytes, the greatest byte first.
func appendFours(b []byte, numbers ...uint32) []byte {
	for _, x := range numbers {
		b = append(b, byte(x>>24), byte(x>>16), byte(x>>8), byte(x))
	}
	return b
}
