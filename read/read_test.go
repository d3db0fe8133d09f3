package read

import (
	"reflect"
	"testing"
	"unsafe"

	"curtain/plan"
)

func TestItems(t *testing.T) {
	const text = "in a/bc; table t P(a, a)\\ab { !!-07, 1..2 = -3; _, none = 4; clash, <5 = 6; >7, !_ = 8; }"
	want := []plan.Item{
		{Name: "a", Marks: 6},
		{Name: "t", IsTable: true, Policy: 'P', Columns: []string{"a", "a"}, Drops: 3, Rules: []plan.Rule{
			{Tests: []plan.Test{{Nots: 2, Kind: plan.IsNumber, Low: -7}, {Kind: plan.Between, Low: 1, High: 2}}, Number: -3},
			{Tests: []plan.Test{{Kind: plan.Any}, {Kind: plan.IsNone}}, Number: 4},
			{Tests: []plan.Test{{Kind: plan.IsClash}, {Kind: plan.Below, Low: 5}}, Number: 6},
			{Tests: []plan.Test{{Kind: plan.Above, Low: 7}, {Nots: 1, Kind: plan.Any}}, Number: 8},
		}},
	}
	if got := Items(text); !reflect.DeepEqual(got, want) {
		t.Errorf("Items(%q) = %v, want %v", text, got, want)
	}
}

// Bounds are not the reader's: a fault behind them must still be found.
func TestItemsBeyondBounds(t *testing.T) {
	items := Items("in a;in a;table t U(b,b,b,b,b){9999999=-9999999;}")
	if len(items) != 3 || len(items[2].Columns) != 5 || items[2].Rules[0].Number != -9999999 {
		t.Errorf("Items: %v", items)
	}
}

func TestItemsGivesUp(t *testing.T) {
	for text, at := range map[string]int{"in a": 4, "in a;table t U(a){!!x=1;}": 20, "?": 0} {
		func() {
			defer func() {
				if caught := recover(); caught != any(GiveUp{At: at}) {
					t.Errorf("Items(%q) panics with %v, want %d", text, caught, at)
				}
			}()
			Items(text)
		}()
	}
}

func TestNamesAreCopies(t *testing.T) {
	bytes := []byte("in abc;table t U(abc){}")
	items := Items(unsafe.String(&bytes[0], len(bytes)))
	for i := range bytes {
		bytes[i] = '?'
	}
	if items[0].Name != "abc" || items[1].Name != "t" || items[1].Columns[0] != "abc" {
		t.Errorf("the names hang on the text: %v", items)
	}
}
