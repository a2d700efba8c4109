package nat_test

import (
	"math"
	"reflect"
	"slices"
	"strconv"
	"testing"

	"tiller/nat"
)

// answer is what a call tells: lists, and other things as they are.
type answer struct {
	lists []nat.N
	rest  []any
}

// calls are all calls that take numbers, with two of them and a count.
func calls() map[string]func(a, b nat.N, n int) answer {
	two := func(f func(a, b nat.N) (nat.N, error)) func(a, b nat.N, n int) answer {
		return func(a, b nat.N, _ int) answer {
			got, err := f(a, b)
			return answer{[]nat.N{got}, []any{err}}
		}
	}
	return map[string]func(a, b nat.N, n int) answer{
		"Of":    func(_, _ nat.N, n int) answer { return answer{[]nat.N{nat.Of(uint64(n))}, nil} },
		"Check": func(a, _ nat.N, _ int) answer { return answer{nil, []any{nat.Check(a)}} },
		"Cmp": func(a, b nat.N, _ int) answer {
			order, err := nat.Cmp(a, b)
			return answer{nil, []any{order, err}}
		},
		"Add": two(nat.Add),
		"Sub": two(nat.Sub),
		"Mul": two(nat.Mul),
		"DivMod": func(a, b nat.N, _ int) answer {
			quotient, rest, err := nat.DivMod(a, b)
			return answer{[]nat.N{quotient, rest}, []any{err}}
		},
		"Pow": func(a, _ nat.N, n int) answer {
			got, err := nat.Pow(uint32(len(a)), n)
			return answer{[]nat.N{got}, []any{err}}
		},
		"Shl": func(a, _ nat.N, n int) answer {
			got, err := nat.Shl(a, n)
			return answer{[]nat.N{got}, []any{err}}
		},
		"Len": func(a, _ nat.N, _ int) answer { return answer{nil, []any{nat.Len(a)}} },
		"Decimal": func(a, _ nat.N, _ int) answer {
			text, err := nat.Decimal(a)
			return answer{nil, []any{text, err}}
		},
		"Parse": func(_, _ nat.N, n int) answer {
			got, err := nat.Parse(strconv.Itoa(n))
			return answer{[]nat.N{got}, []any{err}}
		},
	}
}

// roomy is a number with spare room behind it.
func roomy(a nat.N) nat.N {
	b := append(slices.Grow(nat.N{}, len(a)+9), a...)
	for i := range b[len(b):cap(b)] {
		b[len(b):cap(b)][i] = 77
	}
	return b
}

func whole(a nat.N) nat.N { return a[:cap(a)] }

// scribble writes over all of a list, spare room too.
func scribble(a nat.N) {
	for i := range whole(a) {
		whole(a)[i] ^= 0xdeadbeef
	}
}

// P7: every call ends, answers the same again, leaves its arguments, spare room too, and answers new memory.
func TestTotalAndAlone(t *testing.T) {
	all := []nat.N{nil, {}, {1}, {2}, {10}, {full}, {0, 1}, {5, 6, 7}, {full, full}, {full, full, full, full}, words(40, full), {0}, {1, 0}, {0, 0, 0}}
	for name, call := range calls() {
		for _, a := range all {
			for _, b := range all {
				for _, n := range []int{math.MinInt, -1, 0, 1, 31, 32, 65, 1000, 1_000_001, math.MaxInt} {
					checkAlone(t, name, call, a, b, n)
				}
			}
		}
	}
}

func checkAlone(t *testing.T, name string, call func(a, b nat.N, n int) answer, a, b nat.N, n int) {
	t.Helper()
	x, y := roomy(a), roomy(b)
	wantX, wantY := slices.Clone(whole(x)), slices.Clone(whole(y))
	first, again := call(x, y, n), call(x, y, n)
	if !same(first, again) {
		t.Fatalf("%s(%v, %v, %d): %v, then %v", name, a, b, n, first, again)
	}
	for i, list := range first.lists {
		scribble(list)
		first.lists[i] = nil
		if !same(answer{first.lists[i+1:], nil}, answer{again.lists[i+1:], nil}) {
			t.Fatalf("%s(%v, %v, %d): two lists share memory", name, a, b, n)
		}
	}
	if !slices.Equal(whole(x), wantX) || !slices.Equal(whole(y), wantY) {
		t.Fatalf("%s(%v, %v, %d): an argument is changed, or shared", name, a, b, n)
	}
	if third := call(x, y, n); !same(third, again) {
		t.Fatalf("%s(%v, %v, %d): %v, and later %v", name, a, b, n, again, third)
	}
}

func same(a, b answer) bool {
	return slices.EqualFunc(a.lists, b.lists, func(x, y nat.N) bool { return slices.Equal(x, y) }) && reflect.DeepEqual(a.rest, b.rest)
}

// P7: one number as both arguments.
func TestTheSameTwice(t *testing.T) {
	a := nat.N{7, 8, 9}
	if got, err := nat.Sub(a, a); len(got) != 0 || err != nil {
		t.Errorf("Sub: %v, %v", got, err)
	}
	if quotient, rest, err := nat.DivMod(a, a); !slices.Equal(quotient, nat.N{1}) || len(rest) != 0 || err != nil {
		t.Errorf("DivMod: %v, %v, %v", quotient, rest, err)
	}
	got, err := nat.Mul(a, a)
	wantNumber(t, "Mul", got, err, nat.N{49, 112, 190, 144, 81})
	got, err = nat.Add(a, a)
	wantNumber(t, "Add", got, err, nat.N{14, 16, 18})
	if !slices.Equal(a, nat.N{7, 8, 9}) {
		t.Errorf("changed: %v", a)
	}
}
