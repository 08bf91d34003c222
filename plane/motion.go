package plane

import (
	"iter"
	"slices"

	"horocycle/api"
	"horocycle/field"
)

// motion moves heights.
type motion func(x heights) heights

// forward yields the letters of a word from the first one on.
func forward(word string) iter.Seq[int] {
	return func(yield func(mirror int) bool) {
		for i := range len(word) {
			if !yield(int(word[i])) {
				return
			}
		}
	}
}

// backward yields the letters of a word from the last one on.
func backward(word string) iter.Seq[int] {
	return func(yield func(mirror int) bool) {
		for i := range len(word) {
			if !yield(int(word[len(word)-1-i])) {
				return
			}
		}
	}
}

// reflections returns the motion that reflects at one mirror after the other.
func (t *triangle) reflections(mirrors iter.Seq[int]) motion {
	return func(x heights) heights {
		for mirror := range mirrors {
			x = t.reflect(mirror, x)
		}
		return x
	}
}

// motion returns the motion of a word.
func (t *triangle) motion(word string) motion {
	return t.reflections(backward(word))
}

// inverse returns the motion that turns the motion of a word back.
func (t *triangle) inverse(word string) motion {
	return t.reflections(forward(word))
}

// folded is where a fold ends.
type folded struct {
	tile  string
	first heights
}

// fold reflects heights at the first mirror above which they are negative, until there is none.
func (t *triangle) fold(x heights) folded {
	var tile []byte
	for {
		mirror := slices.IndexFunc(x[:], negative)
		if mirror < 0 {
			return folded{string(tile), x}
		}
		if len(tile) == api.MaxFold {
			panic(api.ErrFull)
		}
		tile = append(tile, byte(mirror))
		x = t.reflect(mirror, x)
	}
}

func negative(x field.Elem) bool {
	return x.Sign() < 0
}

// trace returns the trace of a motion.
func (t *triangle) trace(move motion) field.Elem {
	sum := t.field.Int(0)
	for i := range 3 {
		moved := move(t.unit(i))
		sum = sure(sum.Add(moved[i]))
	}
	return sum
}

// kind returns the kind and the trace of the motion of a word.
func (t *triangle) kind(word string) (int, field.Elem) {
	move := t.motion(word)
	side, still := 1, t.field.Int(3)
	if len(word)%2 == 1 {
		side, still = -1, t.field.Int(1)
	}
	// The middle lies within the first tile, so that a motion that leaves it where it is is rest.
	middle, away := t.whole(1, 1, 1), 1
	if t.same(move(middle), middle) {
		away = 0
	}
	trace := t.trace(move)
	return kinds()[[3]int{side, compare(trace, still), away}], trace
}

// kinds returns the kinds of motions by three signs: 1 for words with an even number of letters, otherwise -1;
// that of the trace, less that of rest or of a mirror; and 1 if the middle is moved.
func kinds() map[[3]int]int {
	return map[[3]int]int{
		{1, 0, 0}:  api.Rest,
		{-1, 0, 1}: api.Mirror,
		{1, -1, 1}: api.Turn,
		{1, 0, 1}:  api.Limit,
		{1, 1, 1}:  api.Shift,
		{-1, 1, 1}: api.Glide,
	}
}

// shift returns 2 cosh l for the length l by which the motion of a word shifts, and throws ErrArg if it is neither Shift nor Glide.
func (t *triangle) shift(word string) field.Elem {
	switch kind, trace := t.kind(word); kind {
	case api.Shift:
		return sure(trace.Sub(t.field.Int(1)))
	case api.Glide:
		return sure(trace.Add(t.field.Int(1)))
	}
	panic(api.ErrArg)
}
