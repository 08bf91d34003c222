package poly

import "horocycle/api"

// walk is a walk around the border of a polygon, with the polygon on the left.
type walk struct {
	*Polygon
	met map[spot]bool // the corners of tiles to which it has come
}

// bordered returns the polygon of a region, or throws ErrApart if it is none.
func bordered(r *region) *Polygon {
	r.sort()
	w := walk{&Polygon{region: r}, map[spot]bool{}}
	w.around()
	return w.Polygon
}

// around goes over as many sides as the border has.
// If they are more than one way around, it comes again to the corner at which it has begun.
func (w *walk) around() {
	sides := w.openSides()
	side := sides[0]
	for range sides {
		w.pass(side)
		side = w.next(side)
	}
}

// pass goes over a side, and throws ErrApart if the border has already come to the corner at which it begins.
func (w *walk) pass(side api.Edge) {
	here := w.spot(side.Tile, side.Mirror, begin(side))
	if w.met[here] {
		panic(api.ErrApart)
	}
	w.met[here] = true
	w.border = append(w.border, side)
	if angle := w.angle(side); angle != straight() {
		w.corners = append(w.corners, api.Corner{Angle: api.Frac(angle), Edge: side})
	}
}

// next returns the next side behind a side on the border.
func (w *walk) next(side api.Edge) api.Edge {
	for next := range w.turn(side.Tile, end(side), side.Mirror) {
		if w.open(next) {
			return next
		}
	}
	return side
}

// angle returns the angle at the corner at which a side on the border begins, in parts of pi.
func (w *walk) angle(side api.Edge) frac {
	tiles := 0
	for last := range w.turn(side.Tile, begin(side), side.Mirror) {
		tiles++
		if w.open(last) {
			break
		}
	}
	return part(w.order(side.Mirror, begin(side))).times(tiles)
}

// end returns the mirror that a side meets where it ends.
func end(side api.Edge) int {
	return (side.Mirror + 1 + len(side.Tile)%2) % 3 // odd tiles are turned over
}

// begin returns the mirror that a side meets where it begins.
func begin(side api.Edge) int {
	return opposite(side.Mirror, end(side))
}
