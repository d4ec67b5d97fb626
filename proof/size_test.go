package proof_test

import (
	"math/rand"
	"runtime/debug"
	"slices"
	"testing"

	"whetstone/api"
	"whetstone/proof"
)

// P9.2

func TestSize(t *testing.T) {
	end := falsehood(0)
	for i, c := range []struct {
		want int
		l    []api.Proof
	}{
		{0, nil}, {0, []api.Proof{}}, {1, []api.Proof{end}}, {1, []api.Proof{{}}}, {1, []api.Proof{{Kind: 255, Kids: []api.Proof{}}}}, {2, []api.Proof{end, end}}, {2, []api.Proof{part(0, end)}},
		{3, []api.Proof{part(0, part(0, end))}}, {3, []api.Proof{cases(0, end, end)}}, {4, []api.Proof{cases(0, end, nothing(), end)}}, {7, []api.Proof{split(name("n"), 0, split(name("n"), 0, end, end), split(name("n"), 0, end, end))}},
		{10, []api.Proof{cases(0, end, end), nothing(), part(0, cases(0, end, part(1, end))), end}},
		// Steps count, and nothing else that they have.
		{1, []api.Proof{{Kind: api.ProofCut, At: places(1, 2, 3), Coefs: times("1", "2"), Terms: numbers(), Name: "tag"}}},
	} {
		if n := proof.Size(c.l...); n != c.want {
			t.Error(i, n, c.want)
		}
	}
}

func TestSizeIsOfAllNodes(t *testing.T) {
	r := rand.New(rand.NewSource(3))
	for range 500 {
		var l []api.Proof
		want := 0
		for range r.Intn(4) {
			p := someJunk(r, r.Intn(5))
			l, want = append(l, p), want+len(nodes(&p))
		}
		was := make([]api.Proof, len(l))
		for i := range l {
			was[i] = cloned(l[i])
		}
		if n := proof.Size(l...); n != want {
			t.Fatal(n, want)
		}
		if !slices.EqualFunc(l, was, sameProof) {
			t.Fatal("a certificate is changed")
		}
	}
}

func TestSizeOfWhatIsDeepOrWide(t *testing.T) {
	defer debug.SetMaxStack(debug.SetMaxStack(stack))
	const many = 500000
	p := nothing()
	for range many {
		p = part(0, p, nothing())
	}
	if n := proof.Size(p, p); n != 2*(2*many+1) {
		t.Error(n)
	}
	wide := make([]api.Proof, many)
	if n := proof.Size(wide...); n != many {
		t.Error(n)
	}
	if n := proof.Size(cases(0, wide...), part(0, cases(0, wide...))); n != 2*many+3 {
		t.Error(n)
	}
}
