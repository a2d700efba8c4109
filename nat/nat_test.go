package nat_test

import (
	"math"
	"math/big"
	"slices"
	"testing"

	"tiller/aid"
	"tiller/api"
	"tiller/nat"
)

// NT1, Of: as few words as there must be.
func TestOf(t *testing.T) {
	for _, c := range []struct {
		n    uint64
		want nat.N
	}{
		{0, nil},
		{1, nat.N{1}},
		{full, nat.N{full}},
		{1 << 32, nat.N{0, 1}},
		{1<<32 + 7, nat.N{7, 1}},
		{math.MaxUint64, nat.N{full, full}},
		{0x123456789abcdef0, nat.N{0x9abcdef0, 0x12345678}},
	} {
		if got := nat.Of(c.n); !slices.Equal(got, c.want) {
			t.Errorf("Of(%d): %v; want %v", c.n, got, c.want)
		}
	}
}

// NT1, Check: what is a number, and what is none.
func TestCheck(t *testing.T) {
	for name, a := range map[string]nat.N{
		"nil":                              nil,
		"nothing at all":                   {},
		"a word":                           {1},
		"a full word":                      {full},
		"noughts below a word":             {0, 0, 1},
		"as many as may be":                most(),
		"as many as may be, noughts":       power(262143),
		"as many as may be, the last is 1": power(262112),
	} {
		if err := nat.Check(a); err != nil {
			t.Errorf("%s: %v", name, err)
		}
	}
	for name, a := range noNumbers() {
		if err := nat.Check(a); aid.Errno(err) != 1 {
			t.Errorf("%s: %v", name, err)
		}
	}
}

// All calls: words that are no number are ErrArg, at either side, ahead of all other errors; of Len they have 0 bits.
func TestNoNumbers(t *testing.T) {
	others := []nat.N{nil, {1}, {5, 6, 7}, most()}
	for name, wrong := range noNumbers() {
		if got := nat.Len(wrong); got != 0 {
			t.Errorf("%s: Len %d", name, got)
		}
		if text, err := nat.Decimal(wrong); text != "" || aid.Errno(err) != 1 {
			t.Errorf("%s: Decimal %q, %v", name, text, err)
		}
		for _, n := range []int{-1, 0, 1, 262144, math.MaxInt} {
			got, err := nat.Shl(wrong, n)
			wantError(t, name+": Shl", got, err, api.ErrArg)
		}
		for _, other := range append(others, wrong) {
			for _, pair := range [][2]nat.N{{wrong, other}, {other, wrong}} {
				refused(t, name, pair[0], pair[1])
			}
		}
	}
}

func refused(t *testing.T, name string, a, b nat.N) {
	t.Helper()
	if order, err := nat.Cmp(a, b); order != 0 || aid.Errno(err) != 1 {
		t.Errorf("%s: Cmp %d, %v", name, order, err)
	}
	got, err := nat.Add(a, b)
	wantError(t, name+": Add", got, err, api.ErrArg)
	got, err = nat.Sub(a, b)
	wantError(t, name+": Sub", got, err, api.ErrArg)
	got, err = nat.Mul(a, b)
	wantError(t, name+": Mul", got, err, api.ErrArg)
	got, rest, err := nat.DivMod(a, b)
	wantError(t, name+": DivMod", got, err, api.ErrArg)
	wantError(t, name+": DivMod, the rest", rest, err, api.ErrArg)
}

// NT1, Cmp.
func TestCmp(t *testing.T) {
	rising := []nat.N{nil, {1}, {2}, {1 << 31}, {full}, {0, 1}, {1, 1}, {full, 1}, {0, 2}, {full, full}, {0, 0, 1},
		power(262143), append(words(8191, 0), 1<<31+1), append(nat.N{0}, words(8191, full)...), most()}
	for i, a := range rising {
		for j, b := range rising {
			want := 0
			if i < j {
				want = -1
			} else if i > j {
				want = 1
			}
			if got, err := nat.Cmp(a, slices.Clone(b)); got != want || err != nil {
				t.Errorf("Cmp(%s, %s): %d, %v; want %d", brief(a), brief(b), got, err, want)
			}
		}
	}
	eachPair(t, func(a, b nat.N) bool {
		got, err := nat.Cmp(a, b)
		return err == nil && got == toBig(a).Cmp(toBig(b))
	})
}

// NT1, Add: words that carry all the way, up to the last one that may be and beyond it.
func TestAdd(t *testing.T) {
	for _, c := range []struct{ a, b, want nat.N }{
		{nil, nil, nil},
		{nil, nat.N{5}, nat.N{5}},
		{nat.N{5}, nil, nat.N{5}},
		{nat.N{full}, nat.N{1}, nat.N{0, 1}},
		{nat.N{1}, nat.N{full, full}, nat.N{0, 0, 1}},
		{nat.N{full, full}, nat.N{full, full}, nat.N{full - 1, full, 1}},
		{nat.N{1, 2, 3}, nat.N{full, 7}, nat.N{0, 10, 3}},
		{words(8191, full), nat.N{1}, power(262112)},
		{power(262143), words(8191, full), append(words(8191, full), 1<<31)},
		{most(), nil, most()},
		{append(nat.N{full - 1}, words(8191, full)...), nat.N{1}, most()},
	} {
		got, err := nat.Add(c.a, c.b)
		wantNumber(t, "Add", got, err, c.want)
	}
	for _, c := range [][2]nat.N{{most(), {1}}, {{1}, most()}, {power(262143), power(262143)}, {most(), most()}} {
		got, err := nat.Add(c[0], c[1])
		wantError(t, "Add", got, err, api.ErrLong)
	}
	eachPair(t, func(a, b nat.N) bool {
		got, err := nat.Add(a, b)
		return holds(got, err, new(big.Int).Add(toBig(a), toBig(b)))
	})
}

// holds tells whether an answer is the number that was worked out, or says that it is too long.
func holds(got nat.N, err error, want *big.Int) bool {
	if want.BitLen() > 262144 {
		return len(got) == 0 && aid.Errno(err) == 2
	}
	return err == nil && slices.Equal(got, fromBig(want))
}

// NT1, Sub: borrowed all the way; below 0 is ErrRange.
func TestSub(t *testing.T) {
	for _, c := range []struct{ a, b, want nat.N }{
		{nil, nil, nil},
		{nat.N{5}, nil, nat.N{5}},
		{nat.N{5}, nat.N{5}, nil},
		{nat.N{0, 1}, nat.N{1}, nat.N{full}},
		{nat.N{0, 0, 1}, nat.N{1}, nat.N{full, full}},
		{nat.N{0, 0, 1}, nat.N{full, full}, nat.N{1}},
		{nat.N{7, 5, 3}, nat.N{7, 5, 3}, nil},
		{nat.N{8, 5, 3}, nat.N{7, 5, 3}, nat.N{1}},
		{nat.N{7, 6, 3}, nat.N{8, 5, 3}, nat.N{full}},
		{power(262143), nat.N{1}, append(words(8191, full), 1<<31-1)},
		{most(), most(), nil},
	} {
		got, err := nat.Sub(c.a, c.b)
		wantNumber(t, "Sub", got, err, c.want)
	}
	for _, c := range [][2]nat.N{{nil, {1}}, {{4}, {5}}, {{full}, {0, 1}}, {{6, 5, 3}, {7, 5, 3}}, {{full, full, 2}, {0, 0, 3}}, {nil, most()}, {power(262143), most()}} {
		got, err := nat.Sub(c[0], c[1])
		wantError(t, "Sub", got, err, api.ErrRange)
	}
	eachPair(t, func(a, b nat.N) bool {
		got, err := nat.Sub(a, b)
		if toBig(a).Cmp(toBig(b)) < 0 {
			return len(got) == 0 && aid.Errno(err) == 4
		}
		return err == nil && slices.Equal(got, fromBig(new(big.Int).Sub(toBig(a), toBig(b))))
	})
}

// NT1, Mul: just as many words as may be, and one more.
func TestMul(t *testing.T) {
	square := append(append(nat.N{1}, words(4095, 0)...), append(nat.N{full - 1}, words(4095, full)...)...)
	for _, c := range []struct{ a, b, want nat.N }{
		{nil, nil, nil},
		{nil, nat.N{5}, nil},
		{nat.N{5}, nil, nil},
		{most(), nil, nil},
		{nil, most(), nil},
		{nat.N{1}, nat.N{5, 6}, nat.N{5, 6}},
		{nat.N{full}, nat.N{full}, nat.N{1, full - 1}},
		{nat.N{1 << 16}, nat.N{1 << 16}, nat.N{0, 1}},
		{nat.N{full, full}, nat.N{full}, nat.N{1, full, full - 1}},
		{nat.N{full, full}, nat.N{full, full}, nat.N{1, 0, full - 1, full}},
		{most(), nat.N{1}, most()},
		{words(4096, full), words(4096, full), square},
		{power(262142), nat.N{2}, power(262143)},
		{power(131071), power(131072), power(262143)},
	} {
		got, err := nat.Mul(c.a, c.b)
		wantNumber(t, "Mul", got, err, c.want)
	}
	for _, c := range [][2]nat.N{{most(), {2}}, {{2}, power(262143)}, {power(131072), power(131072)}, {most(), {0, 1}}, {most(), most()}, {words(4097, full), words(4096, full)}} {
		got, err := nat.Mul(c[0], c[1])
		wantError(t, "Mul", got, err, api.ErrLong)
	}
	eachPair(t, func(a, b nat.N) bool {
		got, err := nat.Mul(a, b)
		return holds(got, err, new(big.Int).Mul(toBig(a), toBig(b)))
	})
}
