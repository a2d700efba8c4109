package fix_test

import (
	"math"
	"math/big"

	"tiller/aid"
	"tiller/fix"
	"tiller/wide"
)

const full = math.MaxUint64

var (
	one  = power(248)
	half = power(247)
	most = wide.W{full, full, full, full}
)

// power is 2^n, made without the calls of the layers.
func power(n int) wide.W {
	var w wide.W
	w[n/64] = 1 << uint(n%64)
	return w
}

// below is 2^n - 1, made without the calls of the layers.
func below(n int) wide.W {
	var w wide.W
	for i := range n {
		w[i/64] |= 1 << uint(i%64)
	}
	return w
}

func toBig(w wide.W) *big.Int {
	b := new(big.Int)
	for i := len(w) - 1; i >= 0; i-- {
		b.Lsh(b, 64)
		b.Or(b, new(big.Int).SetUint64(w[i]))
	}
	return b
}

// fromBig is b modulo 2^256.
func fromBig(b *big.Int) wide.W {
	word := new(big.Int).SetUint64(full)
	rest := new(big.Int).Set(b)
	var w wide.W
	for i := range w {
		w[i] = new(big.Int).And(rest, word).Uint64()
		rest.Rsh(rest, 64)
	}
	return w
}

// bigPower is 2^n.
func bigPower(n uint) *big.Int { return new(big.Int).Lsh(big.NewInt(1), n) }

// next is w and by, of whatever sign, modulo 2^256.
func next(w wide.W, by int64) wide.W { return fromBig(new(big.Int).Add(toBig(w), big.NewInt(by))) }

// mixer makes odd numbers, and fractions by them.
type mixer struct{ aid.Mixer }

// word is a number of any length: all lengths are as likely.
func (m *mixer) word() uint64 { return m.Word() >> uint(m.Below(65)) }

// any is a fraction of any length below 2^n, in last bits.
func (m *mixer) any(n int) wide.W {
	w := wide.W{m.Word(), m.Word(), m.Word(), m.Word()}
	mask := below(m.Below(n + 1))
	for i := range w {
		w[i] &= mask[i]
	}
	return w
}

// angle is one that is 1 at most, as often near 1 as near 0.
func (m *mixer) angle() wide.W {
	x := m.any(fix.Bits)
	if m.Below(2) == 0 {
		return x
	}
	return fromBig(new(big.Int).Sub(toBig(one), toBig(x)))
}

// angles are those at the edges, of all lengths, and odd ones.
func angles() []wide.W {
	all := []wide.W{{}, one, next(one, -1), next(one, -2), half, next(half, -1), next(half, 1)}
	for n := range fix.Bits {
		all = append(all, power(n), below(n+1), fromBig(new(big.Int).Sub(toBig(one), toBig(power(n)))))
	}
	m := mixer{71}
	for range 2000 {
		all = append(all, m.angle())
	}
	return all
}
