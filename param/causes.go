package param

import "ropewalk/api"

// Stale is the cause of a cookie that is so many microseconds too old.
func Stale(by uint32) api.Param {
	return api.Param{Type: api.CauseStale, Body: fourBytes(by)}
}

// Stream is the cause of a stream that there is not.
func Stream(id uint16) api.Param {
	// The stream's number is ahead, in the greater half: the other two bytes are reserved.
	return api.Param{Type: api.CauseStream, Body: fourBytes(uint32(id) << 16)}
}

// NoData is the cause of a DATA chunk without data.
func NoData(tsn uint32) api.Param {
	return api.Param{Type: api.CauseNoData, Body: fourBytes(tsn)}
}

// User is the cause of an abort by the user.
func User(why string) (api.Param, api.Errno) {
	if len(why) > api.MaxBody {
		return api.Param{}, api.ErrLong
	}
	return api.Param{Type: api.CauseUser, Body: []byte(why)}, api.OK
}

// fourBytes are those of a number, the greatest first.
func fourBytes(x uint32) []byte {
	return []byte{byte(x >> 24), byte(x >> 16), byte(x >> 8), byte(x)}
}
