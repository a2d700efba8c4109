// Package aid helps the tests of all layers; no layer calls it.
package aid

import (
	"errors"
	"math"

	"tiller/api"
)

// Modes are those that there are.
func Modes() []api.Mode { return []api.Mode{api.Even, api.Away, api.Zero, api.Up, api.Down} }

// NoModes are some that there are not: next to the others, and such as are others in fewer bits.
func NoModes() []api.Mode {
	return []api.Mode{math.MinInt, -256, -2, -1, 5, 6, 7, 8, 256, 260, 1 << 32, 1<<32 + 4, math.MaxInt}
}

// AllModes are both.
func AllModes() []api.Mode { return append(Modes(), NoModes()...) }

// Errno is the number of an error, 0 of none, -1 of one that has none.
func Errno(err error) int {
	if err == nil {
		return 0
	}
	var n api.Errno
	if !errors.As(err, &n) {
		return -1
	}
	return int(n)
}

// Mixer makes the same odd numbers in every run.
type Mixer uint64

// Word is the next number.
func (m *Mixer) Word() uint64 {
	*m += 0x9e3779b97f4a7c15
	z := uint64(*m)
	z = (z ^ z>>30) * 0xbf58476d1ce4e5b9
	z = (z ^ z>>27) * 0x94d049bb133111eb
	return z ^ z>>31
}

// Below is a number from 0 to n - 1; n is above 0.
func (m *Mixer) Below(n int) int { return int(m.Word() % uint64(n)) }

// Mode is any mode, or one that is none.
func (m *Mixer) Mode() api.Mode {
	all := AllModes()
	return all[m.Below(len(all))]
}

// Fraction is one of a pattern; many have long rows of equal bits.
func (m *Mixer) Fraction() uint64 {
	f := m.Word()
	switch m.Below(4) {
	case 0:
		f &= math.MaxUint64 << uint(m.Below(65))
	case 1:
		f |= math.MaxUint64 >> uint(m.Below(65))
	}
	return f >> 12
}
