package frag

import "ropewalk/api"

// fault is what keeps pieces from being messages, and the number that is told with it.
type fault struct {
	errno  api.Errno
	number int
}

// caught does what is handed in up to its end, or up to the first fault, which is thrown from wherever it is found.
func caught(do func()) (number int, e api.Errno) {
	defer func() {
		if thrown := recover(); thrown != nil {
			// Faults alone are thrown: another panic would be a mistake, and is not hidden.
			first := thrown.(fault)
			number, e = first.number, first.errno
		}
	}()
	do()
	return 0, api.OK
}

// need throws a fault, unless what must hold does.
func need(holds bool, e api.Errno, number int) {
	if !holds {
		panic(fault{errno: e, number: number})
	}
}

// whole is the one message that all pieces are. Its length is asked last: a piece at fault is told ahead of it, wherever it stands.
func whole(l []api.Piece) []byte {
	last := len(l) - 1
	for i, p := range l {
		need(fits(p, i == 0), api.ErrPiece, i)
		need(!p.End || i == last, api.ErrPiece, i)
	}
	need(last >= 0 && l[last].End, api.ErrPiece, len(l))
	need(size(l) <= api.MaxMessage, api.ErrLong, 0)
	return gathered(l)
}

// several are the messages that stand one behind the other, and how many pieces are left.
func several(l []api.Piece) ([][]byte, int) {
	var list [][]byte
	first, room := 0, api.MaxMessage // the place where the message begins, and what it may still have
	for i, p := range l {
		need(fits(p, i == first), api.ErrPiece, i)
		need(len(p.Data) <= room, api.ErrLong, i)
		room -= len(p.Data)
		if p.End {
			list = append(list, gathered(l[first:i+1]))
			first, room = i+1, api.MaxMessage
		}
	}
	return list, len(l) - first
}

// fits: the piece may stand here, where a message begins or goes on.
func fits(p api.Piece, begins bool) bool { return len(p.Data) > 0 && p.Begin == begins }

func size(l []api.Piece) int {
	n := 0
	for _, p := range l {
		n += len(p.Data)
	}
	return n
}

// gathered is all data, one behind the other, in memory of its own.
func gathered(l []api.Piece) []byte {
	b := make([]byte, 0, size(l))
	for _, p := range l {
		b = append(b, p.Data...)
	}
	return b
}
