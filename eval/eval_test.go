package eval

import (
	"slices"
	"testing"

	"curtain/api"
	"curtain/plan"
)

func TestDecide(t *testing.T) {
	none, clash := api.Value{Kind: api.None}, api.Value{Kind: api.Clash}
	for _, c := range []struct {
		policy           byte
		empty, one, more api.Value
	}{
		{'U', none, number(-2), clash},
		{'F', none, number(-2), number(4)},
		{'S', number(0), number(-2), number(6)},
		{'N', number(0), number(1), number(3)},
		{'P', none, number(-2), number(7)},
	} {
		for i, numbers := range [][]int{nil, {-2}, {4, 7, -5}} {
			want := []api.Value{c.empty, c.one, c.more}[i]
			if got := decide(c.policy, numbers); got != want {
				t.Errorf("decide(%c, %v) = %v, want %v", c.policy, numbers, got, want)
			}
		}
	}
}

func TestMet(t *testing.T) {
	any, two := plan.Test{Kind: plan.Any}, plan.Test{Kind: plan.IsNumber, Low: 2}
	notTwo := two
	notTwo.Nots = 1
	rules := []plan.Rule{
		{Tests: []plan.Test{two, any}},
		{Tests: []plan.Test{any, two}},
		{Tests: []plan.Test{notTwo, two}},
		{Tests: []plan.Test{two, two}},
	}
	for _, c := range []struct {
		values []api.Value
		want   []int
	}{
		{[]api.Value{number(2), number(2)}, []int{0, 1, 3}},
		{[]api.Value{number(2), number(3)}, []int{0}},
		{[]api.Value{{Kind: api.None}, number(2)}, []int{1, 2}},
		{[]api.Value{{Kind: api.Clash}, {Kind: api.None}}, nil},
	} {
		if got := met(rules, c.values); !slices.Equal(got, c.want) {
			t.Errorf("met(%v) = %v, want %v", c.values, got, c.want)
		}
	}
}

func TestCountMet(t *testing.T) {
	rules := []plan.Rule{
		{Tests: []plan.Test{{Kind: plan.Below, Low: 4}, {Kind: plan.Any}}},
		{Tests: []plan.Test{{Kind: plan.Any}, {Kind: plan.Above, Low: 4}}},
		{Tests: []plan.Test{{Kind: plan.IsNone}, {Kind: plan.Any}}},
	}
	for want, numbers := range [][]int{{4, 4}, {4, 5}, {3, 5}} {
		if got := CountMet(rules, numbers); got != want {
			t.Errorf("CountMet(%v) = %d, want %d", numbers, got, want)
		}
	}
	if got := CountMet(nil, []int{0}); got != 0 {
		t.Errorf("CountMet of no rules = %d", got)
	}
}

// TestNumbersAlone: the N of None and Clash is 0, but they are no 0.
func TestNumbersAlone(t *testing.T) {
	for _, kind := range []plan.Kind{plan.IsNumber, plan.Between, plan.Below, plan.Above} {
		test := plan.Test{Kind: kind, Low: 0, High: 0}
		switch kind {
		case plan.Below:
			test.Low = 1
		case plan.Above:
			test.Low = -1
		}
		for _, value := range []api.Value{{Kind: api.None}, {Kind: api.Clash}} {
			if meets(value, test) {
				t.Errorf("%v meets %v", value, test)
			}
		}
		if !meets(number(0), test) {
			t.Errorf("0 does not meet %v", test)
		}
	}
}

func TestItems(t *testing.T) {
	rules := []plan.Rule{{Tests: []plan.Test{{Kind: plan.Above, Low: 1}}, Number: 8}, {Tests: []plan.Test{{Kind: plan.Any}}, Number: 9}}
	items := []plan.Item{
		{Name: "a"},
		{Name: "t", IsTable: true, Policy: 'F', Columns: []string{"a"}, Rules: rules},
		{Name: "b"},
	}
	got := Items(items, []int{5, 6})
	if len(got) != 3 || got[0].Value != number(5) || got[1].Value != number(8) || got[2].Value != number(6) {
		t.Errorf("Items = %v", got)
	}
	if !slices.Equal(got[1].Met, []int{0, 1}) || got[0].Met != nil {
		t.Errorf("Items = %v", got)
	}
	if tables := Tables(items, []int{5, 6}); !slices.Equal(tables, []api.Value{number(8)}) {
		t.Errorf("Tables = %v", tables)
	}
}
