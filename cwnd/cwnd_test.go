package cwnd

import (
	"math"
	"math/rand"
	"testing"

	"ropewalk/api"
)

// usual is the window of which others are made here.
func usual() api.Window {
	return api.Window{Cwnd: 20000, Ssthresh: 8000, Partial: 300, MTU: 1000, Cap: 100000}
}

// goodWindows may be, at their edges.
func goodWindows() []api.Window {
	list := []api.Window{usual()}
	for _, mtu := range []int{100, 101, 999, 1000, 1499, 1500} {
		for _, most := range []int{4 * mtu, 4*mtu + 1, 9 * mtu, maxWindow - 1, maxWindow} {
			for _, cwnd := range cwnds(mtu, most) {
				for _, threshold := range []int{4 * mtu, 4*mtu + 1, cwnd - 1, cwnd, cwnd + 1, maxWindow - 1, maxWindow} {
					for _, partial := range []int{0, 1, cwnd - 1, cwnd} {
						if threshold >= 4*mtu && threshold <= maxWindow {
							list = append(list, api.Window{Cwnd: cwnd, Ssthresh: threshold, Partial: partial, MTU: mtu, Cap: most})
						}
					}
				}
			}
		}
	}
	return list
}

// cwnds are the windows' sizes that are tried, all that may be.
func cwnds(mtu, most int) []int {
	var list []int
	for _, n := range []int{mtu, mtu + 1, 4*mtu - 1, 4 * mtu, 4*mtu + 1, 8*mtu - 1, 8 * mtu, 8*mtu + 1, most - mtu - 1, most - mtu, most - mtu + 1, most - 1, most} {
		if n >= mtu && n <= most {
			list = append(list, n)
		}
	}
	return list
}

// badWindows may not be: each part broken alone, or with others.
func badWindows() []api.Window {
	list := []api.Window{
		{},
		{Cwnd: 1000, Ssthresh: 4000, MTU: 1000},
		{Cwnd: 400, Ssthresh: 400, MTU: 99, Cap: 400},
		{Cwnd: 6004, Ssthresh: 6004, MTU: 1501, Cap: 6004},
		{Cwnd: 4000, Ssthresh: 4000, MTU: 1000, Cap: 3999},
		{Cwnd: 3999, Ssthresh: 4000, MTU: 1000, Cap: 3999},
		{Cwnd: 4000, Ssthresh: 4000, MTU: 1000, Cap: maxWindow + 1},
		{Cwnd: 999, Ssthresh: 4000, MTU: 1000, Cap: 4000},
		{Cwnd: 4001, Ssthresh: 4000, MTU: 1000, Cap: 4000},
		{Cwnd: 4000, Ssthresh: 3999, MTU: 1000, Cap: 4000},
		{Cwnd: 4000, Ssthresh: maxWindow + 1, MTU: 1000, Cap: 4000},
		{Cwnd: 4000, Ssthresh: 4000, Partial: -1, MTU: 1000, Cap: 4000},
		{Cwnd: 4000, Ssthresh: 4000, Partial: 4001, MTU: 1000, Cap: 8000},
		{Cwnd: maxWindow + 1, Ssthresh: maxWindow, MTU: 1000, Cap: maxWindow},
		{Cwnd: maxWindow + 1, Ssthresh: maxWindow, MTU: 1000, Cap: maxWindow + 1},
		{Cwnd: -3, Ssthresh: -12, MTU: -3, Cap: -12},
		{Cwnd: 0, Ssthresh: 0, MTU: 0, Cap: 0, Partial: 0},
		{Cwnd: 1 << 62, Ssthresh: 4000, MTU: 1 << 62, Cap: 1 << 62}, // four times that is 0, cut
		{Cwnd: 1<<62 + 250, Ssthresh: 4000, MTU: 1<<62 + 250, Cap: 1<<62 + 250},
	}
	for _, n := range []int{math.MinInt, math.MaxInt} {
		for mask := 1; mask < 32; mask++ {
			w := usual()
			for i, place := range []*int{&w.Cwnd, &w.Ssthresh, &w.Partial, &w.MTU, &w.Cap} {
				if mask>>i&1 == 1 {
					*place = n
				}
			}
			list = append(list, w)
		}
	}
	return list
}

// bytesOf are what Ack and Grow are tried with, good and bad ones.
func bytesOf(w api.Window) []int {
	return []int{math.MinInt, -maxWindow, -1, 0, 1, w.MTU - 1, w.MTU, w.MTU + 1, w.Cwnd - w.Partial - 1, w.Cwnd - w.Partial, w.Cwnd - w.Partial + 1, w.Cwnd - 1, w.Cwnd, w.Cwnd + 1, 2*w.Cwnd - w.Partial - 1, 2*w.Cwnd - w.Partial, 2*w.Cwnd - w.Partial + 1, w.Cap - w.Cwnd - 1, w.Cap - w.Cwnd, w.Cap - w.Cwnd + 1, maxWindow - 1, maxWindow, maxWindow + 1, 1 << 32, math.MaxInt}
}

func goodBytes(n int) bool { return 0 <= n && n <= 1073741824 }

// tells holds a window that was told without an error against one.
func tells(t *testing.T, told api.Window, e api.Errno, want api.Window) {
	t.Helper()
	if told != want || e != 0 {
		t.Errorf("%+v, %d, want %+v", told, e, want)
	}
}

// refuses holds that an error is told, and the zero window.
func refuses(t *testing.T, told api.Window, e, want api.Errno) {
	t.Helper()
	if told != (api.Window{}) || e != want {
		t.Errorf("%+v, %d, want the zero window, %d", told, e, want)
	}
}

func TestNumbersOfErrorsAndLimits(t *testing.T) {
	if api.OK != 0 || api.ErrArg != 1 || api.ErrRange != 5 || api.ErrWindow != 120 || api.LeastMTU != leastMTU || api.MostMTU != mostMTU || api.MaxWindow != maxWindow || maxWindow != 1<<30 {
		t.Error("another number")
	}
}

func TestExample(t *testing.T) {
	w, e := Open(1000, 100000, 8000)
	tells(t, w, e, api.Window{Cwnd: 4000, Ssthresh: 8000, MTU: 1000, Cap: 100000})
	w, e = Ack(w, 1000, true, true)
	tells(t, w, e, api.Window{Cwnd: 5000, Ssthresh: 8000, MTU: 1000, Cap: 100000})
	w, e = Fast(api.Window{Cwnd: 20000, Ssthresh: 8000, MTU: 1000, Cap: 100000})
	tells(t, w, e, api.Window{Cwnd: 10000, Ssthresh: 10000, MTU: 1000, Cap: 100000})
	w, e = Timeout(api.Window{Cwnd: 20000, Ssthresh: 8000, MTU: 1000, Cap: 100000})
	tells(t, w, e, api.Window{Cwnd: 1000, Ssthresh: 10000, MTU: 1000, Cap: 100000})
}

// Check

func TestCheckOfOnePart(t *testing.T) {
	for _, c := range []struct {
		w    api.Window
		want api.Errno
	}{
		{api.Window{Cwnd: 400, Ssthresh: 400, MTU: 99, Cap: 400}, 120},
		{api.Window{Cwnd: 400, Ssthresh: 400, MTU: 100, Cap: 400}, 0},
		{api.Window{Cwnd: 6004, Ssthresh: 6004, MTU: 1500, Cap: 6004}, 0},
		{api.Window{Cwnd: 6004, Ssthresh: 6004, MTU: 1501, Cap: 6004}, 120},
		{api.Window{Cwnd: 1000, Ssthresh: 4000, MTU: 1000, Cap: 3999}, 120},
		{api.Window{Cwnd: 1000, Ssthresh: 4000, MTU: 1000, Cap: 4000}, 0},
		{api.Window{Cwnd: 1000, Ssthresh: 4000, MTU: 1000, Cap: 4001}, 0},
		{api.Window{Cwnd: 1000, Ssthresh: 4000, MTU: 1000, Cap: maxWindow}, 0},
		{api.Window{Cwnd: 1000, Ssthresh: 4000, MTU: 1000, Cap: maxWindow + 1}, 120},
		{api.Window{Cwnd: 999, Ssthresh: 4000, MTU: 1000, Cap: 5000}, 120},
		{api.Window{Cwnd: 1000, Ssthresh: 4000, MTU: 1000, Cap: 5000}, 0},
		{api.Window{Cwnd: 4999, Ssthresh: 4000, MTU: 1000, Cap: 5000}, 0},
		{api.Window{Cwnd: 5000, Ssthresh: 4000, MTU: 1000, Cap: 5000}, 0},
		{api.Window{Cwnd: 5001, Ssthresh: 4000, MTU: 1000, Cap: 5000}, 120},
		{api.Window{Cwnd: 1000, Ssthresh: 3999, MTU: 1000, Cap: 5000}, 120},
		{api.Window{Cwnd: 1000, Ssthresh: 5001, MTU: 1000, Cap: 5000}, 0}, // it may lie above Cap
		{api.Window{Cwnd: 1000, Ssthresh: maxWindow, MTU: 1000, Cap: 5000}, 0},
		{api.Window{Cwnd: 1000, Ssthresh: maxWindow + 1, MTU: 1000, Cap: 5000}, 120},
		{api.Window{Cwnd: 2000, Ssthresh: 4000, Partial: -1, MTU: 1000, Cap: 5000}, 120},
		{api.Window{Cwnd: 2000, Ssthresh: 4000, Partial: 0, MTU: 1000, Cap: 5000}, 0},
		{api.Window{Cwnd: 2000, Ssthresh: 4000, Partial: 2000, MTU: 1000, Cap: 5000}, 0},
		{api.Window{Cwnd: 2000, Ssthresh: 4000, Partial: 2001, MTU: 1000, Cap: 5000}, 120},
	} {
		if e := check(t, c.w); e != c.want {
			t.Errorf("Check(%+v) = %d, want %d", c.w, e, c.want)
		}
	}
}

func TestCheckOfGoodAndBadWindows(t *testing.T) {
	for _, w := range goodWindows() {
		if e := check(t, w); e != 0 {
			t.Errorf("Check(%+v) = %d", w, e)
		}
	}
	for _, w := range badWindows() {
		if e := check(t, w); e != 120 {
			t.Errorf("Check(%+v) = %d", w, e)
		}
	}
}

func TestCheckOfAllPartsAtEdges(t *testing.T) {
	for _, mtu := range []int{math.MinInt, -1, 0, 99, 100, 1500, 1501, 1 << 62, math.MaxInt} {
		for _, most := range []int{math.MinInt, -1, 0, 4*mtu - 1, 4 * mtu, 4*mtu + 1, maxWindow, maxWindow + 1, math.MaxInt} {
			for _, cwnd := range []int{math.MinInt, -1, 0, mtu - 1, mtu, most - 1, most, most + 1, math.MaxInt} {
				for _, threshold := range []int{math.MinInt, -1, 0, 4*mtu - 1, 4 * mtu, maxWindow, maxWindow + 1, math.MaxInt} {
					for _, partial := range []int{math.MinInt, -1, 0, cwnd, cwnd + 1, math.MaxInt} {
						check(t, api.Window{Cwnd: cwnd, Ssthresh: threshold, Partial: partial, MTU: mtu, Cap: most})
					}
				}
			}
		}
	}
}

func TestBadWindowsAreRefused(t *testing.T) {
	for _, w := range badWindows() {
		for _, n := range []int{math.MinInt, -1, 0, 1, 1000, maxWindow, maxWindow + 1, math.MaxInt} {
			for _, flags := range [][2]bool{{false, false}, {false, true}, {true, false}, {true, true}} {
				told, e := ack(t, w, n, flags[0], flags[1])
				refuses(t, told, e, 120)
			}
			told, e := grow(t, w, n)
			refuses(t, told, e, 120)
			if got := space(t, w, n); got != 0 {
				t.Errorf("Space(%+v, %d) = %d", w, n, got)
			}
		}
		told, e := fast(t, w)
		refuses(t, told, e, 120)
		told, e = timeout(t, w)
		refuses(t, told, e, 120)
		told, e = idle(t, w)
		refuses(t, told, e, 120)
	}
}

func TestBadBytesAreRefused(t *testing.T) {
	for _, w := range []api.Window{usual(), {Cwnd: 4000, Ssthresh: 8000, MTU: 1000, Cap: 9000}, {Cwnd: maxWindow, Ssthresh: 4000, Partial: maxWindow, MTU: 1000, Cap: maxWindow}} {
		for _, n := range []int{math.MinInt, -maxWindow, -1, maxWindow + 1, 1 << 32, math.MaxInt} {
			for _, flags := range [][2]bool{{false, false}, {false, true}, {true, false}, {true, true}} {
				told, e := ack(t, w, n, flags[0], flags[1])
				refuses(t, told, e, 5)
			}
			told, e := grow(t, w, n)
			refuses(t, told, e, 5)
		}
		for _, n := range []int{0, maxWindow} {
			if _, e := ack(t, w, n, true, true); e != 0 {
				t.Errorf("Ack(%+v, %d) = %d", w, n, e)
			}
			if _, e := grow(t, w, n); e != 0 {
				t.Errorf("Grow(%+v, %d) = %d", w, n, e)
			}
		}
	}
}

// P12.1

func TestOpen(t *testing.T) {
	for _, c := range []struct {
		mtu, most, peer int
		want            api.Window
	}{
		{100, 400, 8000, api.Window{Cwnd: 400, Ssthresh: 8000, MTU: 100, Cap: 400}},
		{100, 401, 8000, api.Window{Cwnd: 400, Ssthresh: 8000, MTU: 100, Cap: 401}},
		{1500, 6000, 8000, api.Window{Cwnd: 6000, Ssthresh: 8000, MTU: 1500, Cap: 6000}},
		{1500, maxWindow, maxWindow, api.Window{Cwnd: 6000, Ssthresh: maxWindow, MTU: 1500, Cap: maxWindow}},
		{1000, 9000, math.MinInt, api.Window{Cwnd: 4000, Ssthresh: 4000, MTU: 1000, Cap: 9000}},
		{1000, 9000, -1, api.Window{Cwnd: 4000, Ssthresh: 4000, MTU: 1000, Cap: 9000}},
		{1000, 9000, 0, api.Window{Cwnd: 4000, Ssthresh: 4000, MTU: 1000, Cap: 9000}},
		{1000, 9000, 3999, api.Window{Cwnd: 4000, Ssthresh: 4000, MTU: 1000, Cap: 9000}},
		{1000, 9000, 4000, api.Window{Cwnd: 4000, Ssthresh: 4000, MTU: 1000, Cap: 9000}},
		{1000, 9000, 4001, api.Window{Cwnd: 4000, Ssthresh: 4001, MTU: 1000, Cap: 9000}},
		{1000, 9000, 9001, api.Window{Cwnd: 4000, Ssthresh: 9001, MTU: 1000, Cap: 9000}}, // Cap does not hold it
		{1000, 9000, maxWindow - 1, api.Window{Cwnd: 4000, Ssthresh: maxWindow - 1, MTU: 1000, Cap: 9000}},
		{1000, 9000, maxWindow, api.Window{Cwnd: 4000, Ssthresh: maxWindow, MTU: 1000, Cap: 9000}},
		{1000, 9000, maxWindow + 1, api.Window{Cwnd: 4000, Ssthresh: maxWindow, MTU: 1000, Cap: 9000}},
		{1000, 9000, 1 << 32, api.Window{Cwnd: 4000, Ssthresh: maxWindow, MTU: 1000, Cap: 9000}},
		{1000, 9000, math.MaxInt, api.Window{Cwnd: 4000, Ssthresh: maxWindow, MTU: 1000, Cap: 9000}},
	} {
		told, e := open(t, c.mtu, c.most, c.peer)
		tells(t, told, e, c.want)
	}
}

func TestOpenRefuses(t *testing.T) {
	for _, c := range []struct{ mtu, most int }{
		{99, 400}, {99, 396}, {1501, 6004}, {1501, maxWindow}, {0, 4000}, {-1, 4000}, {math.MinInt, 4000}, {math.MaxInt, 4000}, {1 << 62, 4000},
		{1000, 3999}, {100, 399}, {1500, 5999}, {1000, 0}, {1000, -1}, {1000, math.MinInt}, {1000, maxWindow + 1}, {1000, math.MaxInt},
		{99, 395}, {1501, 6003}, {0, 0}, {-1, -4}, {math.MinInt, math.MinInt}, {math.MaxInt, math.MaxInt}, {math.MinInt, math.MaxInt}, {math.MaxInt, math.MinInt},
	} {
		for _, peer := range []int{math.MinInt, -1, 0, 8000, maxWindow, maxWindow + 1, math.MaxInt} {
			told, e := open(t, c.mtu, c.most, peer)
			refuses(t, told, e, 1)
		}
	}
}

func TestOpenAtAllEdges(t *testing.T) {
	for _, mtu := range []int{math.MinInt, -1, 0, 99, 100, 101, 1000, 1499, 1500, 1501, 1 << 62, math.MaxInt} {
		for _, most := range []int{math.MinInt, -1, 0, 4*mtu - 1, 4 * mtu, 4*mtu + 1, maxWindow - 1, maxWindow, maxWindow + 1, math.MaxInt} {
			for _, peer := range []int{math.MinInt, -1, 0, 4*mtu - 1, 4 * mtu, 4*mtu + 1, most, maxWindow - 1, maxWindow, maxWindow + 1, math.MaxInt} {
				open(t, mtu, most, peer)
			}
		}
	}
}

// P12.2

func TestAckNotMoved(t *testing.T) {
	for _, w := range goodWindows() {
		for _, n := range bytesOf(w) {
			for _, full := range []bool{false, true} {
				told, e := ack(t, w, n, full, false)
				if goodBytes(n) {
					tells(t, told, e, w)
				} else {
					refuses(t, told, e, 5)
				}
			}
		}
	}
}

func TestAckMoved(t *testing.T) {
	for _, w := range goodWindows() {
		for _, n := range bytesOf(w) {
			for _, full := range []bool{false, true} {
				told, e := ack(t, w, n, full, true)
				if !goodBytes(n) {
					refuses(t, told, e, 5)
				}
				if told.Partial > told.Cwnd || e == 0 && (told.Ssthresh != w.Ssthresh || told.MTU != w.MTU || told.Cap != w.Cap) {
					t.Errorf("Ack(%+v, %d, %v, true) = %+v", w, n, full, told)
				}
			}
		}
	}
}

// ackCase is an acknowledgement that has moved, of a window of an MTU of 1000 and a Cap of 9000.
type ackCase struct {
	cwnd, threshold, partial, n int
	full                        bool
	want, wantPartial           int
}

func holdAcks(t *testing.T, list []ackCase) {
	t.Helper()
	for _, c := range list {
		w := api.Window{Cwnd: c.cwnd, Ssthresh: c.threshold, Partial: c.partial, MTU: 1000, Cap: 9000}
		told, e := ack(t, w, c.n, c.full, true)
		w.Cwnd, w.Partial = c.want, c.wantPartial // and nothing else
		tells(t, told, e, w)
	}
}

func TestAckInSlowStart(t *testing.T) {
	holdAcks(t, []ackCase{
		{4000, 6000, 0, 0, true, 4000, 0},
		{4000, 6000, 0, 1, true, 4001, 0},
		{4000, 6000, 0, 999, true, 4999, 0},
		{4000, 6000, 0, 1000, true, 5000, 0},
		{4000, 6000, 0, 1001, true, 5000, 0},
		{4000, 6000, 0, maxWindow, true, 5000, 0},
		{4000, 6000, 0, 1000, false, 4000, 0},
		{4000, 6000, 0, maxWindow, false, 4000, 0},
		{5999, 6000, 0, 1000, true, 6999, 0}, // past the threshold
		{6000, 6000, 0, 1000, true, 7000, 0}, // still in slow start
		{6000, 6000, 0, 6000, true, 7000, 0},
		{6000, 6000, 0, 6000, false, 6000, 0},
		{6000, 6000, 17, 500, true, 6500, 17},
		{6000, 6000, 6000, 500, true, 6500, 6000},
		{6000, 6000, 6000, 500, false, 6000, 6000},
		{1000, 4000, 1000, 1000, true, 2000, 1000},
		{7999, 9000, 0, 1000, true, 8999, 0},
		{8000, 9000, 0, 1000, true, 9000, 0},
		{8001, 9000, 0, 1000, true, 9000, 0},
		{8999, 9000, 5, 2, true, 9000, 5},
		{9000, 9000, 5, 1000, true, 9000, 5},
		{9000, maxWindow, 9000, 1000, true, 9000, 9000},
	})
}

func TestAckAboveSlowStart(t *testing.T) {
	holdAcks(t, []ackCase{
		{6001, 6000, 0, 1000, true, 6001, 1000}, // one above
		{6001, 6000, 0, 1000, false, 6001, 1000},
		{6001, 6000, 0, 6000, true, 6001, 6000},
		{6001, 6000, 0, 6001, true, 7001, 0},
		{6001, 6000, 0, 6002, true, 7001, 1},
		{6001, 6000, 0, 6000, false, 6001, 6000},
		{6001, 6000, 0, 6001, false, 6001, 6001},
		{6001, 6000, 0, 6002, false, 6001, 6001},
		{6001, 6000, 6000, 0, true, 6001, 6000},
		{6001, 6000, 6000, 1, true, 7001, 0},
		{6001, 6000, 6000, 2, true, 7001, 1},
		{6001, 6000, 6000, 1, false, 6001, 6001},
		{6001, 6000, 6001, 0, true, 7001, 0},
		{6001, 6000, 6001, 0, false, 6001, 6001},
		{6001, 6000, 6001, 6001, true, 7001, 6001},
		{6001, 6000, 0, 12002, true, 7001, 6001}, // twice the window: one packet more
		{6001, 6000, 0, 12003, true, 7001, 6002},
		{6001, 6000, 0, 13001, true, 7001, 7000},
		{6001, 6000, 0, 13002, true, 7001, 7001},
		{6001, 6000, 0, 13003, true, 7001, 7001},
		{6001, 6000, 0, maxWindow, true, 7001, 7001},
		{6001, 6000, 6001, maxWindow, false, 6001, 6001},
		{7999, 6000, 0, 7999, true, 8999, 0},
		{8000, 6000, 0, 8000, true, 9000, 0},
		{8001, 6000, 0, 8001, true, 9000, 0},
		{8999, 6000, 8000, 1000, true, 9000, 1},
		{9000, 6000, 0, 8999, true, 9000, 8999},
		{9000, 6000, 0, 9000, true, 9000, 0},
		{9000, 6000, 9000, 9000, true, 9000, 9000},
		{9000, 6000, 9000, 9001, true, 9000, 9000},
		{9000, 6000, 9000, 0, true, 9000, 0},
		{9000, 6000, 9000, 1, false, 9000, 9000},
	})
}

// P12.3

func TestGrow(t *testing.T) {
	for _, c := range []struct{ cwnd, n, want int }{
		{4000, 0, 4000}, {4000, 1, 4001}, {4000, 999, 4999}, {4000, 1000, 5000}, {4000, 1001, 5001}, {1000, 1, 1001},
		{4000, 4999, 8999}, {4000, 5000, 9000}, {4000, 5001, 9000}, {8999, 1, 9000}, {8999, 2, 9000}, {9000, 0, 9000}, {9000, 1, 9000}, {4000, maxWindow, 9000}, {9000, maxWindow, 9000},
	} {
		for _, threshold := range []int{4000, 8000, maxWindow} { // slow start plays no part
			for _, partial := range []int{0, 1000} {
				w := api.Window{Cwnd: c.cwnd, Ssthresh: threshold, Partial: partial, MTU: 1000, Cap: 9000}
				told, e := grow(t, w, c.n)
				w.Cwnd = c.want // and nothing else
				tells(t, told, e, w)
			}
		}
	}
	w := api.Window{Cwnd: maxWindow - 1, Ssthresh: 4000, Partial: 7, MTU: 1000, Cap: maxWindow}
	for _, c := range []struct{ n, want int }{{0, maxWindow - 1}, {1, maxWindow}, {2, maxWindow}, {maxWindow, maxWindow}} {
		told, e := grow(t, w, c.n)
		tells(t, told, e, api.Window{Cwnd: c.want, Ssthresh: 4000, Partial: 7, MTU: 1000, Cap: maxWindow})
	}
}

func TestGrowAtAllEdges(t *testing.T) {
	for _, w := range goodWindows() {
		for _, n := range bytesOf(w) {
			told, e := grow(t, w, n)
			if !goodBytes(n) {
				refuses(t, told, e, 5)
			}
		}
	}
}

// P12.4

func TestLosses(t *testing.T) {
	for _, c := range []struct{ most, cwnd, threshold, fast, idle int }{ // the threshold that Fast and Timeout tell, and the windows of Fast and Idle
		{100000, 1000, 4000, 4000, 1000},
		{100000, 1001, 4000, 4000, 1001},
		{100000, 3999, 4000, 4000, 3999},
		{100000, 4000, 4000, 4000, 4000},
		{100000, 4001, 4000, 4000, 4000},
		{100000, 7999, 4000, 4000, 4000},
		{100000, 8000, 4000, 4000, 4000},
		{100000, 8001, 4000, 4000, 4000},
		{100000, 8002, 4001, 4001, 4001},
		{100000, 8003, 4001, 4001, 4001},
		{100000, 20000, 10000, 10000, 10000},
		{100000, 20001, 10000, 10000, 10000},
		{100000, 99999, 49999, 49999, 49999},
		{100000, 100000, 50000, 50000, 50000},
		{4000, 1000, 4000, 4000, 1000},
		{4000, 3999, 4000, 4000, 3999},
		{4000, 4000, 4000, 4000, 4000},
		{4001, 4001, 4000, 4000, 4000},
		{8000, 8000, 4000, 4000, 4000},
		{maxWindow, maxWindow, maxWindow / 2, maxWindow / 2, maxWindow / 2},
		{maxWindow, maxWindow - 1, maxWindow/2 - 1, maxWindow/2 - 1, maxWindow/2 - 1},
	} {
		for _, was := range []int{4000, 12345, maxWindow} { // the threshold that was plays no part
			for _, partial := range []int{0, 1, c.cwnd} {
				w := api.Window{Cwnd: c.cwnd, Ssthresh: was, Partial: partial, MTU: 1000, Cap: c.most}
				told, e := fast(t, w)
				tells(t, told, e, api.Window{Cwnd: c.fast, Ssthresh: c.threshold, MTU: 1000, Cap: c.most})
				told, e = timeout(t, w)
				tells(t, told, e, api.Window{Cwnd: 1000, Ssthresh: c.threshold, MTU: 1000, Cap: c.most})
				told, e = idle(t, w)
				tells(t, told, e, api.Window{Cwnd: c.idle, Ssthresh: was, MTU: 1000, Cap: c.most})
			}
		}
	}
}

func TestLossesAtAllEdges(t *testing.T) {
	for _, w := range goodWindows() {
		for _, call := range []func(*testing.T, api.Window) (api.Window, api.Errno){fast, timeout, idle} {
			told, e := call(t, w)
			if e != 0 || told.Partial != 0 {
				t.Errorf("of %+v: %+v, %d", w, told, e)
			}
		}
	}
}

// P12.5

func TestSpace(t *testing.T) {
	for _, c := range []struct{ out, want int }{{math.MinInt, 0}, {-maxWindow, 0}, {-1, 0}, {0, 20000}, {1, 19999}, {19999, 1}, {20000, 0}, {20001, 0}, {100000, 0}, {maxWindow, 0}, {maxWindow + 1, 0}, {1 << 32, 0}, {math.MaxInt, 0}} {
		if n := space(t, usual(), c.out); n != c.want {
			t.Errorf("Space with %d = %d, want %d", c.out, n, c.want)
		}
	}
	for _, w := range goodWindows() {
		for _, out := range []int{math.MinInt, -1, 0, w.Partial, w.Cwnd - 1, w.Cwnd, w.Cwnd + 1, w.Cap, math.MaxInt} {
			space(t, w, out)
		}
		if space(t, w, 0) != w.Cwnd || space(t, w, w.Cwnd-1) != 1 || space(t, w, w.Cwnd) != 0 || space(t, w, -1) != 0 {
			t.Errorf("Space of %+v", w)
		}
	}
}

// P12.6 and P12.7: what each call tells is given to Check, and held against the window that was.

func TestMixedRuns(t *testing.T) {
	for seed := range int64(200) {
		r := rand.New(rand.NewSource(seed))
		w, e := open(t, some(r, leastMTU, mostMTU), 6000+some(r, 0, 1<<r.Intn(30)), r.Intn(1<<r.Intn(30)+1))
		if seed%2 == 1 {
			w, e = someWindow(r), 0
		}
		for range 300 {
			if e != 0 || check(t, w) != 0 {
				t.Fatalf("seed %d: %+v, %d", seed, w, e)
			}
			space(t, w, some(r, 0, w.Cwnd+1))
			w, e = step(t, r, w)
		}
	}
}

// step is what comes to a window next: mostly an acknowledgement, or nothing would ever grow.
func step(t *testing.T, r *rand.Rand, w api.Window) (api.Window, api.Errno) {
	t.Helper()
	n := someBytes(r, w)
	switch r.Intn(40) {
	case 0:
		return fast(t, w)
	case 1:
		return timeout(t, w)
	case 2:
		return idle(t, w)
	case 3, 4:
		return grow(t, w, n)
	case 5:
		if told, e := ack(t, w, -1-n, true, true); e != 5 || told != (api.Window{}) {
			t.Fatalf("Ack of %d: %+v, %d", -1-n, told, e)
		}
	}
	return ack(t, w, n, r.Intn(4) > 0, r.Intn(4) > 0)
}

func TestManyWindows(t *testing.T) {
	r := rand.New(rand.NewSource(1))
	for range 20000 {
		w := someWindow(r)
		if e := check(t, w); e != 0 {
			t.Fatalf("Check(%+v) = %d", w, e)
		}
		n := someBytes(r, w)
		ack(t, w, n, r.Intn(2) == 0, true)
		grow(t, w, n)
		fast(t, w)
		timeout(t, w)
		idle(t, w)
		space(t, w, n)
	}
}

func TestByOnePacket(t *testing.T) {
	for _, w := range goodWindows() {
		for _, n := range []int{0, 1, w.MTU, w.Cwnd, 2 * min(w.Cwnd, maxWindow/2), maxWindow} {
			told, e := Ack(w, n, true, true)
			if e != 0 || told.Cwnd < w.Cwnd || told.Cwnd-w.Cwnd > w.MTU {
				t.Errorf("Ack(%+v, %d) = %+v, %d", w, n, told, e)
			}
		}
		if told, e := Fast(w); e != 0 || w.Cwnd >= 4*w.MTU && told.Cwnd > w.Cwnd {
			t.Errorf("Fast(%+v) = %+v, %d", w, told, e)
		}
		if told, e := Timeout(w); e != 0 || told.Cwnd > w.Cwnd {
			t.Errorf("Timeout(%+v) = %+v, %d", w, told, e)
		}
		if told, e := Idle(w); e != 0 || told.Cwnd > w.Cwnd {
			t.Errorf("Idle(%+v) = %+v, %d", w, told, e)
		}
	}
}

// P12.8

// flight acknowledges a full window in pieces of a packet, the last one what is left.
func flight(t *testing.T, w api.Window) api.Window {
	t.Helper()
	for out := w.Cwnd; out > 0; out -= w.MTU {
		told, e := ack(t, w, min(out, w.MTU), true, true)
		if e != 0 {
			t.Fatalf("Ack of %+v = %d", w, e)
		}
		w = told
	}
	return w
}

func TestDoubling(t *testing.T) {
	for _, mtu := range []int{100, 1000, 1500} {
		w, e := Open(mtu, maxWindow, maxWindow)
		if e != 0 {
			t.Fatal(e)
		}
		for want := 8 * mtu; want < 1000*mtu; want *= 2 {
			w = flight(t, w)
			tells(t, w, 0, api.Window{Cwnd: want, Ssthresh: maxWindow, MTU: mtu, Cap: maxWindow})
		}
	}
	for _, cwnd := range []int{1000, 1001, 1999, 2500, 4001, 50000} { // from any size on, up to the threshold and to Cap
		w := flight(t, api.Window{Cwnd: cwnd, Ssthresh: max(4000, 2*cwnd), Partial: 9, MTU: 1000, Cap: max(4000, 2*cwnd)})
		if w.Cwnd != 2*cwnd || w.Partial != 9 {
			t.Errorf("from %d: %+v", cwnd, w)
		}
	}
	for _, c := range []struct{ threshold, most, want int }{{5000, 9000, 6000}, {6000, 9000, 7000}, {8000, 7000, 7000}} { // slow start ends, or Cap is reached
		w := flight(t, api.Window{Cwnd: 4000, Ssthresh: c.threshold, MTU: 1000, Cap: c.most})
		if w.Cwnd != c.want {
			t.Errorf("threshold %d, Cap %d: %+v", c.threshold, c.most, w)
		}
	}
}
