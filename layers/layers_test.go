// Package layers_test checks what all layers have in common: their signatures, their imports and the limits.
package layers_test

import (
	"testing"

	"horocycle/api"
	"horocycle/class"
	"horocycle/corner"
	"horocycle/cover"
	"horocycle/desk"
	"horocycle/draw"
	"horocycle/field"
	"horocycle/orbit"
	"horocycle/pair"
	"horocycle/plane"
	"horocycle/poly"
	"horocycle/proof"
	"horocycle/tiles"
	"horocycle/walk"
	"horocycle/words"
)

type (
	orders  = api.Orders
	errno   = api.Errno
	pairs   = [][2]api.Edge
	heights = [3]field.Elem
)

// The signatures of the document; what differs from them does not compile.
var (
	_ func(int) (*field.Field, errno)                                                          = field.New
	_ func(*field.Field) int                                                                   = (*field.Field).Level
	_ func(*field.Field) int                                                                   = (*field.Field).Degree
	_ func(*field.Field, int64) field.Elem                                                     = (*field.Field).Int
	_ func(*field.Field, int) field.Elem                                                       = (*field.Field).Cos
	_ func(*field.Field, string) (field.Elem, errno)                                           = (*field.Field).Read
	_ func(field.Elem, field.Elem) (field.Elem, errno)                                         = field.Elem.Add
	_ func(field.Elem, field.Elem) (field.Elem, errno)                                         = field.Elem.Sub
	_ func(field.Elem, field.Elem) (field.Elem, errno)                                         = field.Elem.Mul
	_ func(field.Elem, field.Elem) (field.Elem, errno)                                         = field.Elem.Div
	_ func(field.Elem) int                                                                     = field.Elem.Sign
	_ func(field.Elem, field.Elem) (int, errno)                                                = field.Elem.Cmp
	_ func(field.Elem) (int64, errno)                                                          = field.Elem.Floor
	_ func(field.Elem) string                                                                  = field.Elem.Text
	_ func(orders) (*plane.World, errno)                                                       = plane.New
	_ func(*plane.World) *field.Field                                                          = (*plane.World).Field
	_ func(*plane.World) orders                                                                = (*plane.World).Orders
	_ func(*plane.World, heights) (plane.Point, errno)                                         = (*plane.World).Point
	_ func(plane.Point) heights                                                                = plane.Point.Heights
	_ func(*plane.World, plane.Point, plane.Point) (bool, errno)                               = (*plane.World).Same
	_ func(*plane.World, string, plane.Point) (plane.Point, errno)                             = (*plane.World).Move
	_ func(*plane.World, api.Edge, plane.Point) (int, errno)                                   = (*plane.World).Side
	_ func(*plane.World, plane.Point) (string, plane.Point, errno)                             = (*plane.World).Fold
	_ func(*plane.World, plane.Point, plane.Point, plane.Point, plane.Point) (int, errno)      = (*plane.World).CmpDist
	_ func(*plane.World, int) (plane.Point, errno)                                             = (*plane.World).Corner
	_ func(*plane.World) (plane.Point, errno)                                                  = (*plane.World).Middle
	_ func(*plane.World, string) (field.Elem, errno)                                           = (*plane.World).Trace
	_ func(*plane.World, string) (int, errno)                                                  = (*plane.World).Kind
	_ func(*plane.World, string, string) (int, errno)                                          = (*plane.World).CmpShift
	_ func(orders, string) (string, errno)                                                     = words.Normal
	_ func(orders, string, string) (bool, errno)                                               = words.Same
	_ func(orders, string, string) (string, errno)                                             = words.Times
	_ func(orders, string) (string, errno)                                                     = words.Inverse
	_ func(orders, string) (int, errno)                                                        = words.Order
	_ func(orders, int) ([]string, errno)                                                      = tiles.Ring
	_ func(orders, int) (uint64, errno)                                                        = tiles.Count
	_ func(orders) ([]int, []int, errno)                                                       = tiles.Series
	_ func(orders, string, string) (int, errno)                                                = tiles.Far
	_ func(orders, string, int) (string, errno)                                                = tiles.First
	_ func(orders, string, int) ([]string, errno)                                              = tiles.Around
	_ func(orders, int) (int, int, int, errno)                                                 = tiles.Cells
	_ func(orders, []string) (*poly.Polygon, errno)                                            = poly.New
	_ func(orders, []string) (*poly.Polygon, errno)                                            = poly.Hull
	_ func(*poly.Polygon) orders                                                               = (*poly.Polygon).Orders
	_ func(*poly.Polygon) []string                                                             = (*poly.Polygon).Tiles
	_ func(*poly.Polygon, string) bool                                                         = (*poly.Polygon).Has
	_ func(*poly.Polygon) []api.Edge                                                           = (*poly.Polygon).Border
	_ func(*poly.Polygon) []api.Corner                                                         = (*poly.Polygon).Corners
	_ func(*poly.Polygon) api.Frac                                                             = (*poly.Polygon).Area
	_ func(*poly.Polygon) bool                                                                 = (*poly.Polygon).Convex
	_ func(*poly.Polygon, pairs) (*pair.Group, errno)                                          = pair.New
	_ func(*poly.Polygon, pairs) ([]api.Cycle, []int, errno)                                   = pair.Check
	_ func(*pair.Group) []string                                                               = (*pair.Group).Generators
	_ func(*pair.Group) [][]int                                                                = (*pair.Group).Relations
	_ func(*pair.Group, string) (bool, errno)                                                  = (*pair.Group).Has
	_ func(*pair.Group, string) ([]int, string, errno)                                         = (*pair.Group).Part
	_ func(*pair.Group) api.Frac                                                               = (*pair.Group).Euler
	_ func(*pair.Group) (bool, bool)                                                           = (*pair.Group).Kind
	_ func(orders) (*walk.Map, errno)                                                          = walk.New
	_ func([]byte) (*walk.Map, errno)                                                          = walk.Load
	_ func(*walk.Map, api.Edge, bool) errno                                                    = (*walk.Map).Wall
	_ func(*walk.Map, string, string) errno                                                    = (*walk.Map).Put
	_ func(*walk.Map, string, string) (string, int, errno)                                     = (*walk.Map).Go
	_ func(*walk.Map, string, string) (string, errno)                                          = (*walk.Map).Way
	_ func(*walk.Map, string) (string, string, errno)                                          = (*walk.Map).Near
	_ func(*walk.Map) []byte                                                                   = (*walk.Map).Image
	_ func(*plane.World, draw.Frame) ([]string, errno)                                         = draw.Tiles
	_ func(*plane.World, draw.Frame) ([]bool, errno)                                           = draw.Lines
	_ func(*plane.World, draw.Frame, string) ([]string, errno)                                 = draw.Picture
	_ func(string) []string                                                                    = desk.Run
	_ func(orders, string, string, []api.WordStep) errno                                       = proof.Steps
	_ func(orders, []string, pairs, []api.Cycle) errno                                         = proof.Fits
	_ func(orders, []string, pairs, []int) (string, string, errno)                             = proof.Overlap
	_ func(*poly.Polygon, pairs) (api.Surface, errno)                                          = orbit.Of
	_ func(api.Surface) (api.Frac, errno)                                                      = orbit.Euler
	_ func(api.Surface) (string, errno)                                                        = orbit.Text
	_ func(string) (api.Surface, errno)                                                        = orbit.Read
	_ func(bool, int) (orders, []string, pairs, errno)                                         = orbit.Model
	_ func(orders, api.Action) errno                                                           = cover.Check
	_ func(orders, api.Action, int, string) (int, errno)                                       = cover.Lead
	_ func(orders, api.Action, int, string) (bool, errno)                                      = cover.Has
	_ func(orders, api.Action, int) (api.Action, errno)                                        = cover.Canonical
	_ func(orders, api.Action, api.Action) ([]int, errno)                                      = cover.Same
	_ func(orders, api.Action) (bool, errno)                                                   = cover.Normal
	_ func(orders, api.Action, int) ([]string, pairs, errno)                                   = cover.Tiles
	_ func(orders, []string, pairs) (api.Action, errno)                                        = cover.FromList
	_ func(orders, int) ([]api.Action, errno)                                                  = cover.List
	_ func(orders, int) (int, errno)                                                           = cover.Subgroups
	_ func(orders, api.Action) (api.Frac, errno)                                               = cover.Euler
	_ func(orders, string) (string, errno)                                                     = class.Least
	_ func(orders, string, string) (bool, string, errno)                                       = class.Conj
	_ func(orders, string) ([]string, errno)                                                   = class.Meets
	_ func(orders, string, string) (bool, errno)                                               = class.Met
	_ func(orders, int) ([]string, errno)                                                      = class.Closed
	_ func(*plane.World, corner.Figure, heights) (int, errno)                                  = corner.Inside
	_ func(*plane.World, corner.Figure, []corner.Pair, []int, heights) (heights, errno)        = corner.Moved
	_ func(*plane.World, corner.Figure, []corner.Pair, []int) (bool, errno)                    = corner.Rest
	_ func(*plane.World, corner.Figure, []corner.Pair) ([]corner.Cycle, corner.Overlap, errno) = corner.Check

	_ = draw.Frame{At: heights{}, Right: heights{}, Down: heights{}, Width: 0, Height: 0}
	_ = corner.Figure{Corners: []heights{}}
	_ = corner.Pair{From: 0, To: 0, Turned: false}
	_ = corner.Cycle{Corners: []int{}, Sides: []int{}, Rounds: 0}
	_ = corner.Overlap{Row: []int{}, At: heights{}}
)

// The limits, kinds and errors are those of the document.
func TestLimits(t *testing.T) {
	for _, c := range []struct{ got, want int }{
		{api.MaxLevel, 60}, {api.MaxOrder, 12}, {api.MaxText, 4000}, {api.MaxDigits, 1000}, {api.MaxHeight, 60}, {api.MaxWord, 60},
		{api.MaxTiles, 200}, {api.MaxRing, 14}, {api.MaxCount, 1000}, {api.MaxFold, 2000}, {api.MaxWalls, 100}, {api.MaxSide, 40},
		{api.MaxWay, 10}, {api.MaxLines, 60}, {api.MaxBy, 1000}, {api.MaxClosed, 6}, {api.MaxFigure, 8}, {api.MaxCoef, 3},
		{api.MaxAround, 30}, {api.MaxMoves, 4}, {api.MaxPoints, 200}, {api.MaxIndex, 5}, {api.MaxGenus, 1000}, {api.MaxModels, 12},
		{api.MaxSteps, 2000}, {api.MaxRow, 200}, {api.Rest, 0}, {api.StepOut, 1}, {api.StepIn, 2}, {api.StepTurn, 3},
		{int(api.OK), 0}, {int(api.ErrArg), 1}, {int(api.ErrForm), 2}, {int(api.ErrFull), 4}, {int(api.ErrField), 5}, {int(api.ErrApart), 7}, {int(api.ErrProof), 20}, {int(api.ErrAction), 30},
	} {
		if c.got != c.want {
			t.Errorf("%d, want %d", c.got, c.want)
		}
	}
}
