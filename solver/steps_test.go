package solver_test

import (
	"math/rand"
	"reflect"
	"testing"

	"whetstone/api"
	"whetstone/solver"
)

// What was told by a certificate or a model, just that is told with any more steps; with fewer ones it is not known, at some
// place; and the same each time (R4).

func TestMoreStepsTellTheSame(t *testing.T) {
	t.Parallel()
	few := 0
	for i := range 200 {
		g := chance{rand.New(rand.NewSource(int64(i)))}
		o := g.asked(g.Intn(8), i%3 > 0)
		if i%5 == 0 {
			o = ask(g.dense(5), g.dense(5), g.dense(5), g.dense(5), g.dense(5), g.dense(5))
		}
		var first api.Found
		for steps := 1; steps <= most; steps += 1 + steps/2 {
			f, e := solver.Solve(datas(), o, steps)
			if e != api.OK {
				t.Fatal(e)
			}
			w := what(t, datas(), o, f)
			if w != "unknown" && len(first.Proof) == 0 && !first.Met {
				first = f
			}
			if (len(first.Proof) > 0 || first.Met) && !reflect.DeepEqual(f, first) {
				t.Fatalf("%d steps: %+v is not %+v\n%s", steps, f, first, show(o))
			}
			if w == "unknown" {
				few++
			}
		}
	}
	if few < 200 {
		t.Error(few)
	}
}

// Of one number of steps after the other.
func TestEachNumberOfSteps(t *testing.T) {
	t.Parallel()
	for i := range 6 {
		g := chance{rand.New(rand.NewSource(int64(i)))}
		o := g.asked(9, true)
		last, _ := solver.Solve(datas(), o, most)
		isKnown := false
		for steps := 1; steps < 400; steps++ {
			f, _ := solver.Solve(datas(), o, steps)
			if isKnown = isKnown || len(f.Proof) > 0 || f.Met; isKnown && !reflect.DeepEqual(f, last) {
				t.Fatal(steps, show(o))
			}
		}
	}
}

func TestOneThingIsAnsweredAlikeEachTime(t *testing.T) {
	t.Parallel()
	for i := range 80 {
		g := chance{rand.New(rand.NewSource(int64(i)))}
		o := g.asked(9, true)
		if i%3 == 0 {
			o = ask(g.dense(9), g.dense(9), g.dense(9), g.dense(9), g.dense(9))
		}
		first, _ := solver.Solve(datas(), o, most)
		for range 4 {
			if f, _ := solver.Solve(datas(), o, most); !reflect.DeepEqual(f, first) {
				t.Fatalf("%+v is not %+v\n%s", f, first, show(o))
			}
		}
	}
}
