package split

// What stands for the height of a place that has not come to be, and of one
// that has come to be with two different heights.
const (
	unknown = -1
	clash   = -2
)

// heights tells for each place of code how many moneys are held there.
type heights struct {
	of []int
}

// newHeights answers heights of which only the first place has come to be.
func newHeights(places int) *heights {
	h := &heights{}
	for i := 0; i < places; i++ {
		h.of = append(h.of, unknown)
	}
	h.lead(0, 0)
	return h
}

// lead makes a place come to be with a height.
func (h *heights) lead(place, height int) {
	if h.of[place] == unknown {
		h.of[place] = height
	} else if h.of[place] != height {
		h.of[place] = clash
	}
}

// checkHeld answers the error ErrHeld of P6. No instruction leads back, so a
// place's height is settled once all places ahead of it have been looked at.
func checkHeld(steps []step) (Errno, int) {
	h := newHeights(len(steps) + 1)
	for at := 0; at < len(steps); at++ {
		if h.of[at] == unknown {
			continue
		}
		behind := h.of[at] + growth(steps[at].kind)
		if h.of[at] == clash || behind < 0 || behind > maxHeld {
			return ErrHeld, at
		}
		h.leadOn(at, steps[at], behind)
	}
	if h.of[len(steps)] != 0 {
		return ErrHeld, len(steps)
	}
	return OK, 0
}

// growth answers how many more moneys are held behind an instruction.
func growth(kind byte) int {
	switch kind {
	case 'H':
		return 1
	case 'E':
		return -1
	}
	return 0
}

// leadOn makes the places that an instruction leads to come to be.
func (h *heights) leadOn(at int, s step, height int) {
	if s.kind != 'J' {
		h.lead(at+1, height)
	}
	if s.kind == 'J' || s.kind == 'I' {
		h.lead(at+1+s.leave, height)
	}
}
