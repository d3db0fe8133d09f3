package plan

import (
	"testing"

	"curtain/api"
)

func table(name string, columns []string, rules ...Rule) Item {
	return Item{Name: name, IsTable: true, Policy: 'U', Columns: columns, Rules: rules}
}

func ruleOf(number int, tests ...Test) Rule {
	return Rule{Tests: tests, Number: number}
}

func TestCheck(t *testing.T) {
	a := Item{Name: "a"}
	one := []string{"a"}
	for i, c := range []struct {
		items  []Item
		number int
		errno  api.Errno
	}{
		{nil, 0, api.OK},
		{[]Item{a, table("t", []string{"a", "a", "a"})}, 0, api.OK},
		{[]Item{a, table("t", one, ruleOf(-api.MaxValue, Test{Kind: Between, Low: -api.MaxValue, High: api.MaxValue}))}, 0, api.OK},
		{[]Item{a, table("t", one, make([]Rule, api.MaxRules+1)...)}, 0, api.ErrLimit},
		{[]Item{a, table("t", []string{"a", "a", "a", "a"})}, 0, api.ErrLimit},
		{[]Item{a, table("t", one, ruleOf(api.MaxValue+1, Test{}))}, 0, api.ErrLimit},
		{[]Item{a, table("t", one, ruleOf(0, Test{Kind: Below, Low: -api.MaxValue - 1}))}, 0, api.ErrLimit},
		{[]Item{a, table("t", one, ruleOf(0, Test{Kind: Between, High: api.MaxValue + 1}))}, 0, api.ErrLimit},
		{make([]Item, api.MaxItems+1), 0, api.ErrLimit},
		{[]Item{a, a}, 2, api.ErrThere},
		{[]Item{table("t", one), a}, 1, api.ErrNone},
		{[]Item{a, table("t", one, ruleOf(0))}, 2, api.ErrWidth},
		{[]Item{a, table("t", one, ruleOf(0, Test{}), ruleOf(0, Test{}, Test{}))}, 2, api.ErrWidth},
	} {
		if number, errno := Check(c.items); number != c.number || errno != c.errno {
			t.Errorf("%d: Check = %d, %d, want %d, %d", i, number, errno, c.number, c.errno)
		}
	}
}

func TestReadsInputsAlone(t *testing.T) {
	items := []Item{{Name: "a"}, {Name: "b"}, table("t", []string{"a", "b", "a"}), table("u", []string{"t"}), table("v", []string{"a", "b", "t"})}
	for place, want := range []bool{false, false, true, false, false} {
		if got := ReadsInputsAlone(items, place); got != want {
			t.Errorf("ReadsInputsAlone(%s) = %v", items[place].Name, got)
		}
	}
}
