package net

import "ropewalk/api"

// lane is a path: both ends' rows, by the ends' numbers.
type lane struct {
	rows [2]row
	down bool
}

func (l *lane) cut() {
	for end := range l.rows {
		l.rows[end].lose()
	}
	l.down = true
}

func (n *Net) unmade() bool { return n == nil || n.lanes == nil }

// lane is the path of a number.
func (n *Net) lane(path int) (*lane, api.Errno) {
	switch {
	case n.unmade():
		return nil, api.ErrNil
	case path < 0 || path >= len(n.lanes):
		return nil, api.ErrPath
	}
	return &n.lanes[path], api.OK
}

// row is the row of an end on a path.
func (n *Net) row(end, path int) (*row, api.Errno) {
	l, e := n.lane(path)
	switch {
	case e != api.OK:
		return nil, e
	case end < 0 || end >= len(l.rows):
		return nil, api.ErrPath
	}
	return &l.rows[end], api.OK
}

// treat looks for an i-th packet, and does something with it if it is there.
func (n *Net) treat(s spot, do func(*row, spot) (packet, api.Errno)) (packet, api.Errno) {
	r, e := n.row(s.end, s.path)
	switch {
	case e != api.OK:
		return packet{}, e
	case !r.has(s.i):
		return packet{}, api.ErrFlight
	}
	return do(r, s)
}

// launch puts a new packet on its way, if it may be; its number.
func (n *Net) launch(end, path int, b []byte, f api.Flight) (int, api.Errno) {
	r, e := n.row(end, path)
	switch {
	case e != api.OK:
		return 0, e
	case f.Sent < 0 || f.Sent > api.MaxTime:
		return 0, api.ErrArg
	case len(b) > api.MaxPacket:
		return 0, api.ErrLong
	case r.full():
		return 0, api.ErrMany
	}
	r.count(f.Forged)
	f.Len = len(b)
	return n.put(end, path, packet{Flight: f, bytes: string(b)}), api.OK
}

// put lays a packet behind all others of a row that is there and has room, or loses it at once where the path is down; its number.
func (n *Net) put(end, path int, p packet) int {
	p.ID = n.next
	n.next++
	l := &n.lanes[path]
	r := &l.rows[end]
	if l.down {
		r.Lost++
	} else {
		r.flying = append(r.flying, p)
	}
	return p.ID
}
