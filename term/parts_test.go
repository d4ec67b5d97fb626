package term_test

import (
	"slices"
	"strconv"
	"testing"

	"whetstone/api"
	"whetstone/term"
)

// P4.1

func TestSizeIsHowManyPartsAllHave(t *testing.T) {
	x := name("x")
	for want, l := range map[int][]api.Term{
		0: nil, 1: {x}, 2: {x, x}, 3: {add(x, number(1))}, 4: {not(not(not(x)))}, 5: {add(x, number(1)), x, x}, 6: {{Kind: api.TermVar, Name: "x", Kids: []api.Term{x, and(x, x)}}, {}},
		100: {wide(100)}, 30000: {wide(20000), wide(10000)},
	} {
		if got := term.Size(l...); got != want {
			t.Error(got, want)
		}
	}
	sum, all := 0, someTerms(1, 300)
	for i, a := range all {
		if term.Size(a) != len(parts(a)) {
			t.Error(short(a))
		}
		sum += len(parts(a))
		if term.Size(all[:i+1]...) != sum {
			t.Error(i, sum)
		}
	}
}

func TestFreeAreTheNamesThatStandInATerm(t *testing.T) {
	x, y := name("x"), name("y")
	within := api.Term{Kind: api.TermVar, Name: "b", Kids: []api.Term{name("a"), app("f", name("c"))}}
	for i, c := range []struct {
		t    api.Term
		want []string
	}{
		{x, []string{"x"}}, {truth(), nil}, {add(y, x, y, x), []string{"x", "y"}}, {app("tag", x), []string{"x"}}, {kappa("K", y), []string{"y"}}, {within, []string{"a", "b", "c"}},
		{api.Term{Kind: api.TermNum, Name: "n"}, nil}, {api.Term{Kind: noKind, Name: "n", Kids: []api.Term{x}}, []string{"x"}}, {name(""), []string{""}},
		{and(name("b"), name("B"), name("é"), name("z"), name("aa"), name("a"), name("\xff"), name("")), []string{"", "B", "a", "aa", "b", "z", "é", "\xff"}},
	} {
		if got := term.Free(c.t); !slices.Equal(got, c.want) {
			t.Error(i, got)
		}
	}
	for _, a := range someTerms(2, 300) {
		var want []string
		for _, part := range parts(a) {
			if part.Kind == api.TermVar && !slices.Contains(want, part.Name) {
				want = append(want, part.Name)
			}
		}
		slices.Sort(want)
		if got := term.Free(a); !slices.Equal(got, want) {
			t.Error(short(a), got, want)
		}
	}
}

// function tells a Function as a text: from>to; none is no.
func function(datas []api.Data, f string) string {
	from, to, ok := term.Function(datas, f)
	if !ok {
		if from+to != "" {
			return "not zero"
		}
		return "no"
	}
	return from + ">" + to
}

func TestFunctionIsTagOrAField(t *testing.T) {
	for f, want := range map[string]string{
		"tag": ">int", "CONS.0": "list>int", "CONS.1": "list>list", "PAIR.0": "pair>list", "PAIR.1": "pair>bool", "PAIR.2": "pair>none", "PAIR.3": "pair>", "INT.0": "int>int", "BOOL.0": "bool>int",
		"MANY.0": "many>int", "MANY.9": "many>int", ".0": ">", ".1": ">int", "LATE.0": "list>list",
		// The first data that has one of that name, and there the first one.
		"CONS.2": "no", "NIL.0": "no",
		// The name ahead of the last point.
		"A.1.0": "pair>pair", "A.1.1": "pair>list", "A.1.2": "no", "A.1": "no", "A.0": "no", "A..0": "no",
		"MANY.10": "no", "MANY.11": "no", "MANY.00": "no", "MANY.-1": "no", "MANY.+1": "no", "MANY.a": "no", "MANY.:": "no", "MANY./": "no", "MANY.١": "no", "MANY.": "no", "MANY": "no", "MANY0": "no", "MANY,0": "no", "MANY. 0": "no", "MANY.0 ": "no",
		"PAIR.4": "no", "CONS.3": "no", "CONS.9": "no", ".2": "no", "list.0": "no", "cons.0": "no", "CONS.0.0": "no", "tag.0": "no", "Tag": "no", "tag ": "no", "": "no", ".": "no", "0": "no", "..0": "no",
	} {
		if got := function(world(), f); got != want {
			t.Errorf("%q %s %s", f, got, want)
		}
	}
	if function(nil, "tag") != ">int" || function(nil, "CONS.0") != "no" || function(nil, ".0") != "no" {
		t.Error("without datas")
	}
	named := []api.Data{{Name: "d", Cons: []api.Con{{Name: "tag", Fields: []string{"bool"}}}}}
	if function(named, "tag") != ">int" || function(named, "tag.0") != "d>bool" {
		t.Error("a constructor named tag")
	}
}

func TestFunctionOfEachPlaceAndManyFields(t *testing.T) {
	for fields := range 13 {
		c := api.Con{Name: "C"}
		for i := range fields {
			c.Fields = append(c.Fields, "s"+strconv.Itoa(i))
		}
		datas := []api.Data{{Name: "d", Cons: []api.Con{{Name: "B"}, c}}}
		for i := range 13 {
			want := "no"
			if i < fields && i < 10 {
				want = "d>s" + strconv.Itoa(i)
			}
			if got := function(datas, "C."+strconv.Itoa(i)); got != want {
				t.Error(fields, i, got)
			}
		}
	}
}
