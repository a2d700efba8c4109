package plan_test

import (
	"slices"
	"testing"

	"tiller/aid"
	"tiller/plan"
)

// answers are those of all calls with a plan and with a text.
type answers struct {
	made, parsed plan.Plan
	bound, steps int
	text         string
	errors       [6]int
}

func ask(p plan.Plan, text string) answers {
	var a answers
	var errs [6]error
	a.made, errs[0] = plan.Make(p.N)
	errs[1] = plan.Check(p)
	a.bound, errs[2] = plan.Bound(p)
	a.steps, errs[3] = plan.Steps(p)
	a.text, errs[4] = plan.Text(p)
	a.parsed, errs[5] = plan.Parse(text)
	for k, err := range errs {
		a.errors[k] = aid.Errno(err)
	}
	return a
}

func alike(a, b answers) bool {
	return same(a.made, b.made) && same(a.parsed, b.parsed) && a.bound == b.bound && a.steps == b.steps && a.text == b.text && a.errors == b.errors
}

// P7: every call ends, and answers the same again, whatever was asked between, of any numbers and any text; what was handed in, spare room too, is left as it was.
func TestTotalAndAlone(t *testing.T) {
	m := mixer{11}
	for range 20_000 {
		p := m.plan()
		text := textOf(p)
		switch m.Below(4) {
		case 0:
			p.N, p.Pad = int(m.Word()>>uint(m.Below(64))), int(m.Word()>>uint(m.Below(64)))
			text = string([]byte{byte(m.Word()), byte(m.Word())}) + text
		case 1:
			p.Radix = append(p.Radix, int(m.Word()>>uint(m.Below(64))))
		}
		p.Radix = slices.Concat(p.Radix, []int{7, -1, 9})
		room := p.Radix
		p.Radix = room[:len(room)-3]
		was := slices.Clone(room)
		first := ask(p, text)
		other := m.plan()
		ask(other, textOf(other))
		if again := ask(p, text); !alike(first, again) {
			t.Fatalf("%v, %q: %v, then %v", p, text, first, again)
		}
		if !slices.Equal(room, was) {
			t.Fatalf("a plan's radices %v are %v", was, room)
		}
	}
}

// P7: radices that are answered are new memory, spare room too.
func TestNewMemory(t *testing.T) {
	for _, n := range []int{2, 3, 4, 12, 13, 64, 1000, 60_060, greatest} {
		text := textOf(made(n))
		for _, get := range []func() plan.Plan{
			func() plan.Plan { p, _ := plan.Make(n); return p },
			func() plan.Plan { p, _ := plan.Parse(text); return p },
		} {
			p := get()
			room := p.Radix[:cap(p.Radix)]
			for k := range room {
				room[k] = -1
			}
			if again := get(); !same(again, made(n)) {
				t.Errorf("%d: %v, when what was answered ahead was written over", n, again)
			}
			if bound, err := plan.Bound(made(n)); bound != boundOf(made(n)) || err != nil {
				t.Errorf("Bound of %d: %d, %v", n, bound, err)
			}
		}
	}
}
