package simplex

import (
	"slices"

	"whetstone/api"
	"whetstone/num"
	"whetstone/ratio"
)

// denial is how many times each row comes in an equation that can't be.
func (t *tableau) denial(e *equation) []api.Ratio {
	told := make([]api.Ratio, t.rows)
	for row := range told {
		told[row] = ratio.Whole(e.times(t.ofSlack(row)))
	}
	return told
}

// point is what the keys are where all columns are 0 for which no equation is solved. What a done one says hangs on those
// behind it.
func (t *tableau) point() []api.Ratio {
	values := make([]api.Ratio, t.many())
	for column := range values {
		values[column] = ratio.Whole(api.Int{})
	}
	for _, e := range t.open {
		values[e.solved] = e.value(values)
	}
	for _, e := range slices.Backward(t.done) {
		values[e.solved] = e.value(values)
	}
	return values[:len(t.keys)]
}

// value is what the column is that e is solved for, which has 0 as yet, where the others have their values. These are put
// over one Den: to bring sums into lowest terms one by one would take longer.
func (e *equation) value(values []api.Ratio) api.Ratio {
	den := num.Of(1)
	for _, p := range e.parts {
		own := values[p.column].Den
		missing, _, _ := num.DivMod(own, num.Gcd(den, own))
		den = product(den, missing)
	}
	sum := product(e.number, den)
	for _, p := range e.parts {
		share, _, _ := num.DivMod(den, values[p.column].Den)
		sum = num.Add(sum, num.Mul(p.times, values[p.column].Num, share))
	}
	told, _ := ratio.Of(num.Neg(sum), product(e.times(e.solved), den))
	return told
}
