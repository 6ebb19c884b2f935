package couple

import "ropewalk/api"

const (
	// mostMTU is more than a path of layer 12 has: here a packet is as great as any may be.
	mostMTU = api.MaxPacket
	// lowPackets is how many packets all thresholds together are worth behind a loss, at the least.
	lowPackets = 4
)

// pool is the windows of all paths and what they grow by: what is asked of one path, and of a report, leans on it.
type pool struct {
	flows []api.Flow
	mtu   int
}

func (p pool) check() api.Errno {
	if !within(1, len(p.flows), api.MaxPaths) || !within(1, p.mtu, mostMTU) {
		return api.ErrFlow
	}
	for _, f := range p.flows {
		if !within(1, f.Cwnd, api.MaxWindow) || !within(1, f.Thr, api.MaxWindow) {
			return api.ErrFlow
		}
	}
	return api.OK
}

func (p pool) windows() int {
	n := 0
	for _, f := range p.flows {
		n += f.Cwnd
	}
	return n
}

func (p pool) thresholds() int {
	n := 0
	for _, f := range p.flows {
		n += f.Thr
	}
	return n
}

// member is one path of them, and how many bytes it is asked about.
type member struct {
	pool
	i     int
	bytes int
}

// ask answers what is reckoned of a path, where nothing is amiss.
func ask(m member, how func(member) int) (int, api.Errno) {
	no := m.check()
	switch {
	case no != api.OK:
		return 0, no
	case !within(0, m.i, len(m.flows)-1):
		return 0, api.ErrRange
	case !within(0, m.bytes, api.MaxWindow):
		return 0, api.ErrArg
	}
	return how(m), api.OK
}

// of is the path's share of a number. No product is cut: both are 2^30 at most.
func (m member) of(n int) int { return n * m.flows[m.i].Thr / m.thresholds() }

func (m member) share() int { return m.of(m.bytes) }

func (m member) slow() int { return m.of(min(m.bytes, m.mtu)) }

func (m member) avoid() int { return m.of(m.mtu) }

// still is by how much a window grows that does not.
func (m member) still() int { return 0 }

func (m member) cut() int {
	return max(m.flows[m.i].Cwnd-m.windows()/2, m.of(lowPackets*m.mtu), m.mtu)
}

// growth is how the path grows by the bytes that were acknowledged. By none it does not, whichever it is: a share of 0 is 0, and no window is.
func (m member) growth() func(member) int {
	f := m.flows[m.i]
	switch {
	case f.Cwnd <= f.Thr:
		return member.slow
	case m.bytes >= f.Cwnd:
		return member.avoid
	}
	return member.still
}

// report is what was acknowledged of each path, and what no window grows above.
type report struct {
	pool
	acked []int
	most  int
}

// whole: there is a number for each path, and all may be.
func (r report) whole() bool {
	if len(r.acked) != len(r.flows) || !within(1, r.most, api.MaxWindow) {
		return false
	}
	for _, n := range r.acked {
		if !within(0, n, api.MaxWindow) {
			return false
		}
	}
	return true
}

// window is what one path's is behind the report; one that lies above the most already stays.
func (r report) window(i int) int {
	m := member{r.pool, i, r.acked[i]}
	was := r.flows[i].Cwnd
	return max(was, min(was+m.growth()(m), r.most))
}

func within(low, n, high int) bool { return low <= n && n <= high }
