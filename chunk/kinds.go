package chunk

import (
	"ropewalk/api"
	"ropewalk/param"
)

const (
	allFlags  = 255
	unit      = 4 // every chunk begins at a multiple of it
	itemBytes = 4 // of a gap, and of a duplicate
)

// counting is the flags that count.
func counting(k api.ChunkKind) uint8 {
	switch k {
	case api.KData:
		return api.FlagEnd | api.FlagBegin | api.FlagUnorder
	case api.KAbort, api.KShutDone:
		return api.FlagTagless
	case api.KInit, api.KInitAck, api.KSack, api.KNrSack, api.KHeartbeat, api.KHeartAck, api.KError,
		api.KShutdown, api.KShutAck, api.KCookieEcho, api.KCookieAck:
		return 0
	}
	// What the flags of an unknown kind mean is not known either: none of them may be lost.
	return allFlags
}

// beside is what a chunk has besides the fields and the flags of its kind.
func beside(c api.Chunk) api.Chunk {
	c.Flags &^= counting(c.Kind)
	switch c.Kind {
	case api.KNrSack:
		c.NR = nil
		fallthrough
	case api.KSack:
		c.Window, c.Gaps, c.Dups = 0, nil, nil
		fallthrough
	case api.KShutdown:
		c.TSN = 0
	case api.KShutAck, api.KCookieAck, api.KShutDone:
	case api.KInit, api.KInitAck:
		c.Tag, c.Window, c.Out, c.In, c.TSN = 0, 0, 0, 0, 0
		fallthrough
	case api.KHeartbeat, api.KHeartAck, api.KAbort, api.KError:
		c.Params = nil
	case api.KData:
		c.TSN, c.Stream, c.SSN, c.Proto = 0, 0, 0, 0
		fallthrough
	default:
		c.Body = nil
	}
	return c
}

// numberBytes is how many bytes a value has ahead of its lists: its numbers and counts.
func numberBytes(k api.ChunkKind) int {
	switch k {
	case api.KInit, api.KInitAck, api.KNrSack:
		return 16
	case api.KData, api.KSack:
		return 12
	case api.KShutdown:
		return 4
	}
	return 0
}

// valueBytes is how long the value is; lists that are not of its kind are empty.
func valueBytes(c api.Chunk) int {
	items := len(c.Gaps) + len(c.NR) + len(c.Dups)
	return numberBytes(c.Kind) + itemBytes*items + param.Size(c.Params...) + len(c.Body)
}

// wholeBytes is how many bytes a chunk has that may be.
func wholeBytes(c api.Chunk) int { return filled(api.ChunkHead + valueBytes(c)) }

// filled is the next number that unit divides.
func filled(n int) int { return (n + unit - 1) / unit * unit }

func isBeat(k api.ChunkKind) bool { return k == api.KHeartbeat || k == api.KHeartAck }

// isOneBeat tells whether these are the parameters of a heartbeat.
func isOneBeat(l []api.Param) bool { return len(l) == 1 && l[0].Type == api.PHeartbeat }

// paramsRefusal is why parameters have no bytes.
func paramsRefusal(l []api.Param) api.Errno {
	// A list that is taken, and has parameters, has a size: its bytes need not be made to know that.
	if param.Size(l...) > 0 {
		return api.OK
	}
	_, e := param.Encode(l...)
	return e
}
