package cwnd

import "ropewalk/api"

// lowPackets is how many packets a window has when it begins, and what no threshold lies below.
const lowPackets = 4

// window is one that is asked and changed.
type window struct{ api.Window }

// gain is a window and how many bytes it is told of. Its check is that of the window, ahead of that of the bytes.
type gain struct {
	window
	bytes int
}

// change answers what is made of a window; where the window or the bytes may not be, nothing is.
func change(w api.Window, n int, how func(*gain)) (api.Window, api.Errno) {
	g := gain{window{w}, n}
	no := g.check()
	switch {
	case no != api.OK:
		return api.Window{}, no
	case !rise(0, g.bytes, api.MaxWindow):
		return api.Window{}, api.ErrRange
	}
	how(&g)
	return g.Window, api.OK
}

func (w window) check() api.Errno {
	if !w.bounded() || !rise(w.MTU, w.Cwnd, w.Cap) || !rise(w.low(), w.Ssthresh, api.MaxWindow) || !rise(0, w.Partial, w.Cwnd) {
		return api.ErrWindow
	}
	return api.OK
}

// bounded: what all other parts are held against may be. The MTU is asked first: four of one that may not be need not be a number.
func (w window) bounded() bool {
	return rise(api.LeastMTU, w.MTU, api.MostMTU) && rise(w.low(), w.Cap, api.MaxWindow)
}

func (w window) low() int { return lowPackets * w.MTU }

func (w window) slow() bool { return w.Cwnd <= w.Ssthresh }

// half is what is left of the window, but not below what it began with.
func (w window) half(most ...int) int { return keep(w.Cwnd/2, w.low(), most...) }

func (w *window) widen(n int) { w.Cwnd = keep(w.Cwnd+n, w.MTU, w.Cap) }

// shrink is behind a loss: half is the threshold, whatever the window is then.
func (w *window) shrink(n int) {
	w.Ssthresh = w.half()
	w.Cwnd = keep(n, w.MTU, w.Cap)
	w.Partial = 0
}

// decay leaves the threshold: nothing was lost.
func (w *window) decay() {
	w.Cwnd = w.half(w.Cwnd)
	w.Partial = 0
}

func (g *gain) acknowledge(full bool) {
	switch {
	case !g.slow():
		g.save(full)
	case full:
		g.widen(min(g.bytes, g.MTU))
	}
}

// save grows the window by one packet for a whole window of bytes, however many more came; what it keeps of them is one window at most.
func (g *gain) save(full bool) {
	whole := g.Cwnd
	g.Partial += g.bytes
	if full && g.Partial >= whole {
		g.Partial -= whole
		g.widen(g.MTU)
	}
	g.Partial = keep(g.Partial, 0, g.Cwnd)
}

// rise: each number is at least the one ahead of it.
func rise(list ...int) bool {
	for i := 1; i < len(list); i++ {
		if list[i] < list[i-1] {
			return false
		}
	}
	return true
}

// keep is n, but not below the least, and that not above any of the most.
func keep(n, least int, most ...int) int {
	n = max(n, least)
	for _, m := range most {
		n = min(n, m)
	}
	return n
}
