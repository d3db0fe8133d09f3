package eval

import (
	"curtain/api"
	"curtain/plan"
)

// CountMet tells how many rules are met, where numbers are the columns' values.
func CountMet(rules []plan.Rule, numbers []int) int {
	values := make([]api.Value, len(numbers))
	for i, n := range numbers {
		values[i] = number(n)
	}
	return len(met(rules, values))
}

// met tells the places of the rules that are met, where values are those of the
// columns.
func met(rules []plan.Rule, values []api.Value) []int {
	var places []int
rules:
	for place, rule := range rules {
		for column, test := range rule.Tests {
			if !meets(values[column], test) {
				continue rules
			}
		}
		places = append(places, place)
	}
	return places
}

func meets(value api.Value, test plan.Test) bool {
	turned := test.Nots%2 == 1
	return meetsBare(value, test) != turned
}

func meetsBare(value api.Value, test plan.Test) bool {
	switch test.Kind {
	case plan.Any:
		return true
	case plan.IsNone:
		return value.Kind == api.None
	case plan.IsClash:
		return value.Kind == api.Clash
	}
	return value.Kind == api.Number && numberMeets(value.N, test)
}

func numberMeets(n int, test plan.Test) bool {
	switch test.Kind {
	case plan.IsNumber:
		return n == test.Low
	case plan.Between:
		return test.Low <= n && n <= test.High
	case plan.Below:
		return n < test.Low
	}
	return n > test.Low
}
