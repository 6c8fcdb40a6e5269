package broken

import (
	"bulla/api"
	"bulla/metro"
)

// Free returns the free items.
func Free(k *metro.Book, p api.Puzzle) ([]int, api.Errno) {
	s, e := newStudy(k, p)
	if e != api.OK {
		return nil, e
	}
	var free []int
	for cell := range s.Cells {
		if s.isFree(cell) {
			free = append(free, cell)
		}
	}
	return free, api.OK
}

// Domain returns the numbers from which a cell is chosen.
func Domain(k *metro.Book, p api.Puzzle, cell int) ([]int, api.Errno) {
	s, e := newStudy(k, p)
	switch {
	case e != api.OK:
		return nil, e
	case !s.isCell(cell):
		return nil, api.ErrRange
	case s.isFree(cell):
		return s.domain(cell)
	case s.isDamaged(cell):
		return nil, api.ErrNone
	}
	return []int{s.values[cell]}, api.OK
}

// domain returns the domain of a free item, or ErrLimit if it is too large.
func (s *study) domain(cell int) ([]int, api.Errno) {
	var domain []int
	for n := range s.traces[cell].upTo(s.room(cell)) {
		if len(domain) == api.MaxFound {
			return nil, api.ErrLimit
		}
		domain = append(domain, n)
	}
	return domain, api.OK
}

// room returns the smallest of MaxNum and the rooms of an item.
func (s *study) room(cell int) int {
	room := api.MaxNum
	for _, i := range s.partOf[cell] {
		r := s.Rules[i]
		if s.isDamaged(r.Total) {
			continue
		}
		left := s.values[r.Total]
		for _, part := range r.Parts {
			if part != cell {
				left -= max(1, s.values[part]) // at least 1 for a damaged part
			}
		}
		room = min(room, left)
	}
	return room
}

// Choices returns the number of choices.
func Choices(k *metro.Book, p api.Puzzle) (int, api.Errno) {
	s, e := newStudy(k, p)
	if e != api.OK {
		return 0, e
	}
	_, choices, e := s.domains()
	return choices, e
}

// domains returns the domain of each free item (nothing for other cells) and the number of choices, or ErrLimit if the puzzle is too open.
func (s *study) domains() (domains [][]int, choices int, e api.Errno) {
	domains, choices = make([][]int, len(s.Cells)), 1
	for cell := range s.Cells {
		if !s.isFree(cell) {
			continue
		}
		if domains[cell], e = s.domain(cell); e != api.OK {
			return nil, 0, e
		}
		// What is too many remains so, unless a domain is empty.
		choices = min(choices*len(domains[cell]), api.MaxChoice+1)
	}
	if choices > api.MaxChoice {
		return nil, 0, api.ErrLimit
	}
	return domains, choices, api.OK
}
