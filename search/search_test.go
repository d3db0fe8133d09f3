package search

import (
	"slices"
	"testing"

	"curtain/api"
	"curtain/plan"
)

const least, greatest = -api.MaxValue, api.MaxValue

func tableOf(columns []string, rules ...[]plan.Test) plan.Item {
	table := plan.Item{Name: "t", IsTable: true, Policy: 'U', Columns: columns}
	for _, tests := range rules {
		table.Rules = append(table.Rules, plan.Rule{Tests: tests})
	}
	return table
}

func TestTurns(t *testing.T) {
	for _, c := range []struct {
		test plan.Test
		want []int
	}{
		{plan.Test{Kind: plan.Any}, nil},
		{plan.Test{Kind: plan.IsNone}, nil},
		{plan.Test{Kind: plan.IsClash}, nil},
		{plan.Test{Kind: plan.IsNumber, Low: 4}, []int{4, 5}},
		{plan.Test{Kind: plan.Between, Low: 4, High: 8}, []int{4, 9}},
		{plan.Test{Kind: plan.Below, Low: 4}, []int{4}},
		{plan.Test{Kind: plan.Above, Low: 4}, []int{5}},
		{plan.Test{Kind: plan.Above, Low: 4, Nots: 1}, []int{5}},
	} {
		if got := turns(c.test); !slices.Equal(got, c.want) {
			t.Errorf("turns(%v) = %v, want %v", c.test, got, c.want)
		}
	}
}

func TestCandidates(t *testing.T) {
	any := plan.Test{Kind: plan.Any}
	between := plan.Test{Kind: plan.Between, Low: 7, High: greatest}
	table := tableOf([]string{"x", "y", "x"},
		[]plan.Test{{Kind: plan.IsNumber, Low: 5}, {Kind: plan.Below, Low: -3}, {Kind: plan.Below, Low: 2}},
		[]plan.Test{between, any, {Kind: plan.Above, Low: 4}},
		[]plan.Test{{Kind: plan.Below, Low: least}, {Kind: plan.Above, Low: greatest}, any})
	for column, want := range map[string][]int{
		"x": {least, 2, 5, 6, 7},
		"y": {least, -3},
		"z": {least},
	} {
		if got := candidates(table, column); !slices.Equal(got, want) {
			t.Errorf("candidates(%s) = %v, want %v", column, got, want)
		}
	}
}

func TestChoicesOfAColumnThatStandsTwice(t *testing.T) {
	table := tableOf([]string{"x", "y", "x"}, []plan.Test{{Kind: plan.Below, Low: 1}, {Kind: plan.Below, Low: 2}, {Kind: plan.Below, Low: 3}})
	for _, c := range []struct{ first, want []int }{
		{nil, []int{least, 1, 3}},
		{[]int{3}, []int{least, 2}},
		{[]int{3, 2}, []int{3}},
	} {
		if got := choices(table, c.first); !slices.Equal(got, c.want) {
			t.Errorf("choices(%v) = %v, want %v", c.first, got, c.want)
		}
	}
}

func TestLeast(t *testing.T) {
	below, above := plan.Test{Kind: plan.Below, Low: 5}, plan.Test{Kind: plan.Above, Low: 2}
	table := tableOf([]string{"x", "y"}, []plan.Test{below, above}, []plan.Test{above, below}, []plan.Test{above, above})
	for met, want := range [][]int{{least, least}, {least, 3}, {3, 5}, {3, 3}, nil} {
		got := Least(table, func(count int) bool { return count == met })
		if !slices.Equal(got, want) {
			t.Errorf("of %d rules: %v, want %v", met, got, want)
		}
	}
}

func TestLeastOfNoRules(t *testing.T) {
	table := tableOf([]string{"x", "y", "z"})
	if got := Least(table, func(met int) bool { return met == 0 }); !slices.Equal(got, []int{least, least, least}) {
		t.Errorf("Least = %v", got)
	}
	if got := Least(table, func(met int) bool { return met > 0 }); got != nil {
		t.Errorf("Least = %v, want nil", got)
	}
}
