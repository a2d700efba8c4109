package plan_test

import (
	"math"
	"regexp"
	"slices"
	"strconv"
	"strings"
	"testing"

	"tiller/aid"
	"tiller/api"
	"tiller/plan"
)

const (
	greatest  = 16_777_216 // the greatest length of a transform
	farthest  = 67_108_864 // the greatest of a padded one
	lastPrime = 16_777_213 // the greatest below the greatest length
)

// lengths are those of little transforms, in the order of PL1.
func lengths() []int { return []int{4, 2, 3, 5, 7, 11, 13} }

// byParts is a plan part by part.
func byParts(n int, lengths ...int) plan.Plan { return plan.Plan{N: n, Radix: lengths} }

// padded is a plan without a radix.
func padded(n, pad int) plan.Plan { return plan.Plan{N: n, Pad: pad} }

// same tells whether plans are the same, a list of none being any.
func same(p, q plan.Plan) bool {
	return p.N == q.N && p.Pad == q.Pad && slices.Equal(p.Radix, q.Radix)
}

// powers is how often a number may be parted by another one, and what is left.
func powers(n, by int) (often, left int) {
	for n%by == 0 {
		often, n = often+1, n/by
	}
	return often, n
}

// lengthsOf are the radices of PL1: its 2s are counted first, and two by two are 4s.
func lengthsOf(n int) (all []int, left int) {
	twos, n := powers(n, 2)
	all = append(slices.Repeat([]int{4}, twos/2), slices.Repeat([]int{2}, twos%2)...)
	for _, r := range []int{3, 5, 7, 11, 13} {
		often, left := powers(n, r)
		all, n = append(all, slices.Repeat([]int{r}, often)...), left
	}
	return all, n
}

// padOf is the least power of two that is at least 2 n - 1.
func padOf(n int) int { return 1 << uint(math.Ceil(math.Log2(float64(2*n-1)))) }

// made is the plan of PL1.
func made(n int) plan.Plan {
	all, left := lengthsOf(n)
	if left > 1 {
		return padded(n, padOf(n))
	}
	return byParts(n, all...)
}

// mayBe tells whether a plan may be, by the machine's own numbers, which hold products of any length.
func mayBe(p plan.Plan) bool {
	if p.N < 1 || p.N > greatest {
		return false
	}
	if p.Pad != 0 {
		for k := range 27 {
			if p.Pad == 1<<k && p.Pad > 2*p.N-2 {
				return len(p.Radix) == 0
			}
		}
		return false
	}
	product := 1.0
	for _, r := range p.Radix {
		if !slices.Contains(lengths(), r) {
			return false
		}
		product *= float64(r)
	}
	return product == float64(p.N)
}

// boundOf is the bound of PL2 of a plan that may be.
func boundOf(p plan.Plan) int {
	if p.Pad != 0 {
		all, _ := lengthsOf(p.Pad)
		s := int(math.Ceil(math.Sqrt(float64(p.N))))
		return 2*s*(4*boundOf(byParts(p.Pad, all...))+12) + 4
	}
	b := 0
	for _, r := range p.Radix {
		switch r {
		case 2:
			b += 8
		case 4:
			b += 12
		default:
			b += r*r + 8*r
		}
	}
	return b
}

// stepsOf are the steps of PL2 of a plan that may be.
func stepsOf(p plan.Plan) int {
	if p.Pad != 0 {
		all, _ := lengthsOf(p.Pad)
		return 2 * stepsOf(byParts(p.Pad, all...))
	}
	steps := 0
	for _, r := range p.Radix {
		steps += p.N / r
	}
	return steps
}

// textOf is the text of PL3 of a plan that may be.
func textOf(p plan.Plan) string {
	text := strconv.Itoa(p.N)
	switch {
	case p.Pad != 0:
		return text + "~" + strconv.Itoa(p.Pad)
	case len(p.Radix) == 0:
		return text + "=1"
	}
	mark := "="
	for _, r := range p.Radix {
		text, mark = text+mark+strconv.Itoa(r), "x"
	}
	return text
}

// The forms of texts; numbers have 9 digits at most, so that the machine's hold them.
var (
	partsForm  = regexp.MustCompile(`^([1-9][0-9]{0,8})=(1|(?:[23457]|11|13)(?:x(?:[23457]|11|13))*)\z`)
	paddedForm = regexp.MustCompile(`^([1-9][0-9]{0,8})~([1-9][0-9]{0,8})\z`)
)

// planOf is the plan of a text, if it has one.
func planOf(text string) (plan.Plan, bool) {
	p := plan.Plan{}
	if m := partsForm.FindStringSubmatch(text); m != nil {
		p.N, _ = strconv.Atoi(m[1])
		if m[2] != "1" {
			for _, part := range strings.Split(m[2], "x") {
				r, _ := strconv.Atoi(part)
				p.Radix = append(p.Radix, r)
			}
		}
	}
	if m := paddedForm.FindStringSubmatch(text); m != nil {
		p.N, _ = strconv.Atoi(m[1])
		p.Pad, _ = strconv.Atoi(m[2])
	}
	return p, mayBe(p)
}

// wantPlan fails, if calls with a plan that may be answer something else than its rules say.
func wantPlan(t *testing.T, p plan.Plan, bound, steps int, text string) {
	t.Helper()
	if err := plan.Check(p); err != nil {
		t.Errorf("Check(%v): %v", p, err)
	}
	if has, err := plan.Bound(p); has != bound || err != nil {
		t.Errorf("Bound(%v): %d, %v; want %d", p, has, err, bound)
	}
	if has, err := plan.Steps(p); has != steps || err != nil {
		t.Errorf("Steps(%v): %d, %v; want %d", p, has, err, steps)
	}
	if has, err := plan.Text(p); has != text || err != nil {
		t.Errorf("Text(%v): %q, %v; want %q", p, has, err, text)
	}
	if has, err := plan.Parse(text); !same(has, p) || err != nil {
		t.Errorf("Parse(%q): %v, %v; want %v", text, has, err, p)
	}
}

// wantNone fails, if calls with a plan that may not be answer anything but ErrPlan.
func wantNone(t *testing.T, p plan.Plan) {
	t.Helper()
	if err := plan.Check(p); aid.Errno(err) != int(api.ErrPlan) {
		t.Errorf("Check(%v): %v", p, err)
	}
	if has, err := plan.Bound(p); has != 0 || aid.Errno(err) != int(api.ErrPlan) {
		t.Errorf("Bound(%v): %d, %v", p, has, err)
	}
	if has, err := plan.Steps(p); has != 0 || aid.Errno(err) != int(api.ErrPlan) {
		t.Errorf("Steps(%v): %d, %v", p, has, err)
	}
	if has, err := plan.Text(p); has != "" || aid.Errno(err) != int(api.ErrPlan) {
		t.Errorf("Text(%v): %q, %v", p, has, err)
	}
}

// wantAny fails, if calls with a plan answer something else than the rules say of it, whether it may be or not.
func wantAny(t *testing.T, p plan.Plan) {
	t.Helper()
	if mayBe(p) {
		wantPlan(t, p, boundOf(p), stepsOf(p), textOf(p))
		return
	}
	wantNone(t, p)
}

// wantNoText fails, if a text is any plan's.
func wantNoText(t *testing.T, text string) {
	t.Helper()
	if p, err := plan.Parse(text); !empty(p) || aid.Errno(err) != int(api.ErrForm) {
		t.Errorf("Parse(%.60q) of %d bytes: %v, %v", text, len(text), p, err)
	}
}

// empty tells whether all of a plan is zero, as it is beside an error.
func empty(p plan.Plan) bool { return p.N == 0 && p.Radix == nil && p.Pad == 0 }

// mixer makes odd numbers, and plans by them.
type mixer struct{ aid.Mixer }

// product is of a plan's radices, in any order.
func (m *mixer) product() plan.Plan {
	p, most := plan.Plan{N: 1}, 1<<uint(m.Below(25))
	for {
		r := lengths()[m.Below(len(lengths()))]
		if p.N*r > most {
			return p
		}
		p.N, p.Radix = p.N*r, append(p.Radix, r)
	}
}

// plan is any that may be.
func (m *mixer) plan() plan.Plan {
	if m.Below(2) == 0 {
		return m.product()
	}
	n := 1 + m.Below(1<<uint(m.Below(25)))
	pad := padOf(n)
	for pad < farthest && m.Below(2) == 0 {
		pad *= 2
	}
	return padded(n, pad)
}
