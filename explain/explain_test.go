package explain

import (
	"testing"

	"curtain/api"
	"curtain/plan"
)

func TestWrite(t *testing.T) {
	always := []plan.Rule{{Tests: []plan.Test{{Kind: plan.Any}}, Number: -8}, {Tests: []plan.Test{{Kind: plan.Any}}, Number: -7}}
	items := []plan.Item{
		{Name: "a", Marks: api.MarkA},
		{Name: "keeps", IsTable: true, Policy: 'F', Columns: []string{"a"}, Rules: always},
		{Name: "drops", IsTable: true, Policy: 'U', Columns: []string{"a"}, Drops: api.MarkA, Rules: always},
		{Name: "empty", IsTable: true, Policy: 'P', Columns: []string{"drops"}},
	}
	for clear, want := range []string{
		"a ?\nkeeps ?\ndrops clash\nempty none []\n",
		"a 4\nkeeps -8 [1 2]\ndrops clash\nempty none []\n",
		"a ?\nkeeps ?\ndrops clash\nempty none []\n",
	} {
		if got := Write(items, clear, []int{4}); got != want {
			t.Errorf("Write(%d) = %q, want %q", clear, got, want)
		}
	}
}
