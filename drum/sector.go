package drum

const sectorSize = 64

// sector is the contents of a sector. As an array it is copied with the struct it
// is in, so that no two drums share it.
type sector [sectorSize]byte

// sectorOf takes a string of sectorSize bytes.
func sectorOf(s string) sector {
	var out sector
	copy(out[:], s)
	return out
}

func (s sector) text() string {
	return string(s[:])
}

// pendingWrite is the contents that a sector shows, and may lose.
type pendingWrite struct {
	index int // of the sector
	sector
}
