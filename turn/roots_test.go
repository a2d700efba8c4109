package turn_test

import (
	"testing"

	"tiller/aid"
	"tiller/api"
	"tiller/turn"
)

// at asks for a point that may be, and holds it against Root, and how many points are remembered then.
func at(t *testing.T, r *turn.Roots, k, n, length int) {
	t.Helper()
	got, err := r.At(k, n)
	want, _ := turn.Root(k, n)
	if err != nil || got != want {
		t.Fatalf("At(%d, %d): %x, %v, not %x", k, n, got, err, want)
	}
	if r.Len() != length {
		t.Fatalf("Len behind At(%d, %d): %d, not %d", k, n, r.Len(), length)
	}
}

// TU2: one point is remembered once, by whichever k it is asked for.
func TestRemembered(t *testing.T) {
	r := turn.NewRoots()
	if r.Len() != 0 {
		t.Errorf("Len at first: %d", r.Len())
	}
	for _, n := range []int{7, 12, turn.MaxParts} {
		r = turn.NewRoots()
		for length, k := range []int{0, n / 3, n / 2, n - 1} {
			for _, same := range []int{k, k, k + n, k - n, k + 5*n, k - 1<<30*n, k} {
				at(t, r, same, n, length+1)
			}
		}
	}
}

// TU2: the least and the greatest int are told by what is left of them, too.
func TestRememberedFar(t *testing.T) {
	for _, n := range []int{1, 2, 3, 7, 1000, turn.MaxParts} {
		for _, k := range anyParts() {
			r := turn.NewRoots()
			at(t, r, k, n, 1)
			at(t, r, rest(k, n), n, 1)
			at(t, r, rest(k, n)+n, n, 1)
			at(t, r, rest(k, n)-n, n, 1)
		}
	}
}

// TU2: points of other n that are the same of the circle, and those that are the same but for their sides, are remembered each.
func TestOtherTurns(t *testing.T) {
	r := turn.NewRoots()
	for i, c := range [][2]int{{0, 1}, {0, 2}, {0, 3}, {1, 2}, {2, 4}, {4, 8}, {1, 4}, {2, 8}, {3, 12}, {3, 4}, {1, 8}, {7, 8}, {2, 16}} {
		at(t, r, c[0], c[1], i+1)
	}
	length := r.Len()
	for _, c := range [][2]int{{2, 16}, {0, 1}, {5, 1}, {-1, 2}, {3, 2}, {12, 8}, {-1, 8}, {-1, 4}} {
		at(t, r, c[0], c[1], length)
	}
}

// TU2: what is an error is not remembered, and changes nothing.
func TestErrorsAreNotRemembered(t *testing.T) {
	r := turn.NewRoots()
	for length, k := range []int{1, 2, 3} {
		for _, n := range noTurns() {
			for _, none := range anyParts() {
				if p, err := r.At(none, n); p != (api.Pair{}) || aid.Errno(err) != int(api.ErrArg) || r.Len() != length {
					t.Fatalf("At(%d, %d): %x, %v, Len %d", none, n, p, err, r.Len())
				}
			}
		}
		at(t, r, k, 5, length+1)
	}
}

// TU2.
func TestNil(t *testing.T) {
	var r *turn.Roots
	for _, n := range append(noTurns(), 1, 4, 12, turn.MaxParts) {
		for _, k := range anyParts() {
			if p, err := r.At(k, n); p != (api.Pair{}) || aid.Errno(err) != int(api.ErrArg) {
				t.Errorf("At(%d, %d) of nil: %x, %v", k, n, p, err)
			}
		}
	}
	if r.Len() != 0 {
		t.Errorf("Len of nil: %d", r.Len())
	}
}

// TU2: two do not share what they remember.
func TestTwo(t *testing.T) {
	first, second := turn.NewRoots(), turn.NewRoots()
	at(t, first, 1, 6, 1)
	at(t, first, 2, 6, 2)
	if second.Len() != 0 {
		t.Errorf("Len of the second: %d", second.Len())
	}
	at(t, second, 1, 6, 1)
	at(t, second, 3, 6, 2)
	at(t, second, 4, 6, 3)
	at(t, first, 3, 6, 3)
	if turn.NewRoots().Len() != 0 {
		t.Error("a new one remembers points")
	}
}

// TU2: many points, asked for twice, in another order the second time.
func TestMany(t *testing.T) {
	r := turn.NewRoots()
	const n = 997
	for k := range n {
		at(t, r, k*5, n, k+1)
	}
	for k := range n {
		at(t, r, -k, n, n)
	}
}

// TU2: what is answered can be changed without what is remembered changing.
func TestPointIsACopy(t *testing.T) {
	r := turn.NewRoots()
	p, _ := r.At(1, 6)
	p.Re, p.Im = api.NaN, api.Inf
	at(t, r, 1, 6, 1)
}
