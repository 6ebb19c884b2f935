package chunk

import (
	"bytes"

	"ropewalk/api"
	"ropewalk/param"
)

// left is the bytes that are still to be read.
type left []byte

func (l left) empty() bool { return len(l) == 0 }

// has tells whether there are so many.
func (l left) has(n int) bool { return n <= len(l) }

// cut takes off so many, which must be there.
func (l *left) cut(n int) left {
	ahead := (*l)[:n]
	*l = (*l)[n:]
	return ahead
}

// skip leaves out so many, or all, if there are fewer.
func (l *left) skip(n int) { l.cut(min(n, len(*l))) }

// one, two and four take off the number of so many bytes.
func (l *left) one() uint8 { return l.cut(1)[0] }

func (l *left) two() uint16 {
	b := l.cut(2)
	return uint16(b[0])<<8 | uint16(b[1])
}

func (l *left) four() uint32 {
	high := uint32(l.two())
	return high<<16 | uint32(l.two())
}

// reader reads a chunk, or what is left of its value.
type reader struct{ left }

// chunk is the one that begins here, or the first fault, which is thrown from wherever it is found.
func (r *reader) chunk() (c api.Chunk, e api.Errno) {
	defer func() {
		if fault := recover(); fault != nil {
			// Faults alone are thrown: another panic would be a mistake, and is not hidden.
			e = fault.(api.Errno)
		}
	}()
	need(r.has(api.ChunkHead), api.ErrCut)
	c.Kind = api.ChunkKind(r.one())
	c.Flags = r.one() & counting(c.Kind)
	n := int(r.two()) - api.ChunkHead
	need(n >= 0 && r.has(n), api.ErrCut)
	value := reader{left: r.cut(n)}
	value.fill(&c)
	// Behind the last chunk some of the bytes between may be missing.
	r.skip(filled(n) - n)
	return c, api.OK
}

// fill reads a value: all of it, and nothing else, is the chunk's.
func (r *reader) fill(c *api.Chunk) {
	need(r.has(numberBytes(c.Kind)), api.ErrField)
	switch c.Kind {
	case api.KSack, api.KNrSack:
		r.report(c)
	case api.KShutdown:
		c.TSN = r.four()
	case api.KShutAck, api.KCookieAck, api.KShutDone:
	case api.KInit, api.KInitAck:
		c.Tag = r.four()
		c.Window = r.four()
		c.Out = r.two()
		c.In = r.two()
		c.TSN = r.four()
		fallthrough
	case api.KHeartbeat, api.KHeartAck, api.KAbort, api.KError:
		c.Params = r.params()
		need(!isBeat(c.Kind) || isOneBeat(c.Params), api.ErrField)
	case api.KData:
		c.TSN = r.four()
		c.Stream = r.two()
		c.SSN = r.two()
		c.Proto = r.four()
		need(!r.empty(), api.ErrNoData)
		fallthrough
	default:
		c.Body = r.rest()
	}
	need(r.empty(), api.ErrField)
}

// report reads a SACK's value, or an NR-SACK's.
func (r *reader) report(c *api.Chunk) {
	c.TSN = r.four()
	c.Window = r.four()
	gaps, nr, dups := r.counts(c.Kind)
	need(max(gaps, nr, dups) <= api.MaxGaps, api.ErrMany)
	need(r.has(itemBytes*(gaps+nr+dups)), api.ErrField)
	c.Gaps = r.gaps(gaps)
	c.NR = r.gaps(nr)
	c.Dups = r.fours(dups)
}

// counts are how many Gaps, NR and Dups a report has.
func (r *reader) counts(k api.ChunkKind) (gaps, nr, dups int) {
	gaps = int(r.two())
	if k == api.KNrSack {
		nr = int(r.two())
	}
	dups = int(r.two())
	if k == api.KNrSack {
		r.skip(2) // the two bytes 0: nobody has given them a meaning
	}
	return gaps, nr, dups
}

func (r *reader) gaps(n int) []api.Gap {
	var l []api.Gap
	for range n {
		start := r.two()
		l = append(l, api.Gap{Start: start, End: r.two()})
	}
	return l
}

func (r *reader) fours(n int) []uint32 {
	var l []uint32
	for range n {
		l = append(l, r.four())
	}
	return l
}

// params reads all that is left.
func (r *reader) params() []api.Param {
	list, _, e := param.Decode(r.cut(len(r.left)))
	need(e == api.OK, e)
	return list
}

// rest reads all that is left.
func (r *reader) rest() []byte { return bytes.Clone(r.cut(len(r.left))) }

// need throws a fault, unless what must hold does.
func need(holds bool, fault api.Errno) {
	if !holds {
		panic(fault)
	}
}
