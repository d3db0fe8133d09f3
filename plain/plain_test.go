package plain

import (
	"testing"

	"curtain/plan"
)

func TestWrite(t *testing.T) {
	items := []plan.Item{
		{Name: "a", Marks: 5},
		{Name: "b"},
		{Name: "t", IsTable: true, Policy: 'S', Columns: []string{"a", "b"}, Drops: 6, Rules: []plan.Rule{
			{Tests: []plan.Test{{Kind: plan.Any}, {Nots: 2, Kind: plan.IsNone}}, Number: -1},
			{Tests: []plan.Test{{Kind: plan.IsClash}, {Kind: plan.IsNumber, Low: -2}}},
			{Tests: []plan.Test{{Kind: plan.Between, Low: 3, High: -4}, {Nots: 1, Kind: plan.Below, Low: 5}}, Number: 6},
			{Tests: []plan.Test{{Kind: plan.Above, Low: 7}, {Kind: plan.Any}}, Number: 8},
		}},
		{Name: "u", IsTable: true, Policy: 'N', Columns: []string{"t"}},
	}
	const want = "in a/ac;\nin b;\ntable t S(a,b)\\bc{_,!!none=-1;clash,-2=0;3..-4,!<5=6;>7,_=8;}\ntable u N(t){}\n"
	if got := Write(items); got != want {
		t.Errorf("Write = %q, want %q", got, want)
	}
}
