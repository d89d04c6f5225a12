package cell

import "fasti/api"

// shared is a list of a copy that is still in the memory of the original.
type shared struct {
	list  *[]api.Cell
	depth int
	above *api.Cell // a cell of the original that the list is in
}

// copyOf returns the cells in memory of their own. It does not call itself,
// since nothing limits the depth of invalid cells; and it stops copying if a list
// is in itself, since its cells have no end.
func copyOf(l []api.Cell) []api.Cell {
	out := l
	work := []shared{{list: &out}}
	for len(work) > 0 {
		last := len(work) - 1
		next := work[last]
		inside, endless := next.separate()
		if endless {
			return out
		}
		work = append(work[:last], inside...)
	}
	return out
}

// separate moves the list into memory of its own, and returns the lists in it.
// It reports whether the list is in itself: since a way down remembers its cells
// at the depths 1, 2, 4 and so on, it meets one of them again if it has no end.
func (s shared) separate() (inside []shared, endless bool) {
	original := *s.list
	own := append([]api.Cell(nil), original...)
	*s.list = own
	for i := range own {
		if &original[i] == s.above {
			return nil, true
		}
		if len(own[i].L) == 0 {
			own[i].L = nil // its spare capacity may be the original's
			continue
		}
		deeper := shared{&own[i].L, s.depth + 1, s.above}
		if isPowerOfTwo(deeper.depth) {
			deeper.above = &original[i]
		}
		inside = append(inside, deeper)
	}
	return inside, false
}

func isPowerOfTwo(n int) bool {
	return n&(n-1) == 0
}
