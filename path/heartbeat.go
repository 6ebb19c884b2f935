package path

// heartbeat is a path's last one. Its number is kept when it is over, for the next one's.
type heartbeat struct {
	number uint32
	open   bool
	begun  int // 0 when it is over
}

func (h *heartbeat) begin(now int) uint32 {
	h.number++
	h.open, h.begun = true, now
	return h.number
}

// answered: may an answer with that number end it at that time?
func (h *heartbeat) answered(number uint32, now int) bool {
	return h.open && h.number == number && h.begun <= now
}

// end tells when it began.
func (h *heartbeat) end() int {
	begun := h.begun
	h.open, h.begun = false, 0
	return begun
}
