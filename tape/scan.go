package tape

import (
	"iter"

	"fasti/api"
	"fasti/drum"
)

// Scan returns the records of a drum, the number of sectors that they occupy, and
// the epoch of the drum.
func Scan(d *drum.Drum) ([]string, int, int, api.Errno) {
	var r reader
	for text, e := range sectors(d) {
		if e != api.OK {
			return nil, 0, 0, e
		}
		r.visit(text)
	}
	return r.records, r.occupied, r.greatest, api.OK
}

// sectors visits the contents of all sectors, or the error of the drum alone. It
// reads until there are no more: a nil drum is not told by its size, but by Read.
func sectors(d *drum.Drum) iter.Seq2[string, api.Errno] {
	return func(yield func(string, api.Errno) bool) {
		for i := 0; ; i++ {
			text, e := d.Read(i)
			if e == api.ErrNone || !yield(text, e) || e != api.OK {
				return
			}
		}
	}
}

// reader finds the records and the epoch among the sectors that it visits.
type reader struct {
	records  []string
	occupied int
	greatest int // epoch of a valid sector

	visited int
	ended   bool   // no further record is complete
	life    int    // of the sector before
	parts   int    // of a record that is not complete yet
	data    []byte // of these parts
}

func (r *reader) visit(text string) {
	r.visited++
	s, valid := parse(text)
	r.greatest = max(r.greatest, s.life)
	r.ended = r.ended || !valid || !r.expects(s)
	if !r.ended {
		r.take(s)
	}
}

// expects reports whether the sector continues the records. Only at the first
// part of a record may the epoch grow.
func (r *reader) expects(s sector) bool {
	if s.record != len(r.records)+1 || s.number != r.parts {
		return false
	}
	return s.life == r.life || s.life > r.life && s.number == 0
}

func (r *reader) take(s sector) {
	r.life = s.life
	r.parts++
	r.data = append(r.data, s.data...)
	if s.last {
		r.records = append(r.records, string(r.data))
		r.occupied = r.visited
		r.parts, r.data = 0, nil
	}
}
