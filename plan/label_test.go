package plan

import (
	"slices"
	"testing"

	"curtain/api"
)

func TestLabels(t *testing.T) {
	dropping := table("d", []string{"t", "c"})
	dropping.Drops = api.MarkB + api.MarkC
	items := []Item{{Name: "a", Marks: api.MarkA}, {Name: "b", Marks: api.MarkB}, {Name: "c", Marks: api.MarkC}, {Name: "o"},
		table("t", []string{"b", "a", "b"}), dropping, table("u", []string{"d", "c"}), table("v", []string{"o"})}
	if labels := Labels(items); !slices.Equal(labels, []int{1, 2, 4, 0, 3, 1, 5, 0}) {
		t.Errorf("Labels = %v", labels)
	}
}

func TestPlace(t *testing.T) {
	items := []Item{{Name: "a"}, {Name: "b"}}
	for name, want := range map[string]int{"a": 0, "b": 1, "c": -1, "": -1} {
		if place := Place(items, name); place != want {
			t.Errorf("Place(%q) = %d, want %d", name, place, want)
		}
	}
}

func TestIsSetOfMarks(t *testing.T) {
	for n := -2; n < 12; n++ {
		if got, want := IsSetOfMarks(n), n >= 0 && n <= 7; got != want {
			t.Errorf("IsSetOfMarks(%d) = %v", n, got)
		}
	}
}

func TestFits(t *testing.T) {
	items := []Item{{Name: "a"}, table("t", []string{"a"}), {Name: "b"}}
	for i, c := range []struct {
		values []int
		want   bool
	}{
		{[]int{1, 2}, true},
		{[]int{api.MaxValue, -api.MaxValue}, true},
		{[]int{api.MaxValue + 1, 0}, false},
		{[]int{0, -api.MaxValue - 1}, false},
		{nil, false}, {[]int{1}, false}, {[]int{1, 2, 3}, false},
	} {
		if got := Fits(items, c.values); got != c.want {
			t.Errorf("%d: Fits(%v) = %v", i, c.values, got)
		}
	}
}
