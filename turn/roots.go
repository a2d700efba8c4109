package turn

import (
	"tiller/api"
)

// Roots remembers points that were asked for.
type Roots struct {
	points map[parts]api.Pair
}

// NewRoots remembers none.
func NewRoots() *Roots { return &Roots{} }

// At is a point.
func (r *Roots) At(k, n int) (api.Pair, error) {
	p, err := partsOf(k, n)
	if r == nil || err != nil {
		return api.Pair{}, api.ErrArg
	}
	point, known := r.points[p]
	if !known {
		point = p.point()
		r.remember(p, point)
	}
	return point, nil
}

// remember makes the map at the first point, so that a Roots that NewRoots did not answer is one that remembers none, too.
func (r *Roots) remember(p parts, point api.Pair) {
	if r.points == nil {
		r.points = map[parts]api.Pair{}
	}
	r.points[p] = point
}

// Len is how many points are remembered.
func (r *Roots) Len() int {
	if r == nil {
		return 0
	}
	return len(r.points)
}
