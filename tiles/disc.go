package tiles

// disc counts what some tiles have.
type disc struct {
	world
	corners      map[[2]string]bool // told apart by the first tile around them and the mirror opposite to them
	edges, tiles int
}

// newDisc returns the disc of the rings 0 to n.
func newDisc(w world, n int) *disc {
	d := &disc{world: w, corners: map[[2]string]bool{}}
	for ring := range w.rings(n) {
		for _, tile := range ring {
			d.add(tile)
		}
	}
	return d
}

// add counts a tile.
func (d *disc) add(tile string) {
	d.tiles++
	for mirror := range len(letters) {
		if len(d.times(tile, letter(mirror))) > len(tile) { // a side is counted at the one of its tiles that is nearer to the first tile
			d.edges++
		}
		if c := d.corner(mirror); c.order != 0 {
			d.corners[[2]string{c.first(tile), letter(mirror)}] = true
		}
	}
}
