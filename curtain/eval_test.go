package curtain_test

import (
	"slices"
	"strconv"
	"strings"
	"testing"

	"curtain/api"
	"curtain/curtain"
)

var (
	none  = api.Value{Kind: api.None}
	clash = api.Value{Kind: api.Clash}
)

func number(n int) api.Value {
	return api.Value{Kind: api.Number, N: n}
}

func wantEval(t *testing.T, p *curtain.Plan, values []int, want ...api.Value) {
	t.Helper()
	if got, errno := p.Eval(values); !slices.Equal(got, want) || errno != api.OK {
		t.Errorf("Eval(%v) = %v, %d, want %v", values, got, errno, want)
	}
}

// wantBadArg asks Explain too, as it refuses what Eval does.
func wantBadArg(t *testing.T, p *curtain.Plan, clear int, values []int) {
	t.Helper()
	if got, errno := p.Eval(values); len(got) != 0 || errno != api.ErrArg {
		t.Errorf("Eval(%v) = %v, %d, want ErrArg", values, got, errno)
	}
	if got, errno := p.Explain(clear, values); got != "" || errno != api.ErrArg {
		t.Errorf("Explain(%d, %v) = %q, %d, want ErrArg", clear, values, got, errno)
	}
}

func TestP7Example(t *testing.T) {
	p := mustNew(t, example)
	wantEval(t, p, []int{30, 1}, number(5), number(100))
	wantEval(t, p, []int{30, 0}, number(2), number(50))
	wantEval(t, p, []int{18, -1}, number(5), number(100))
	wantEval(t, p, []int{17, 1}, number(1), number(50))
}

func TestP7NoTables(t *testing.T) {
	wantEval(t, mustNew(t, ""), nil)
	wantEval(t, mustNew(t, ""), []int{})
	wantEval(t, mustNew(t, "in a;in b/c;"), []int{1, 2})
}

// TestP7Policies has one table for each way in which rules are met.
func TestP7Policies(t *testing.T) {
	for policy, want := range map[string][5]api.Value{
		"U": {none, number(-7), clash, clash, clash},
		"F": {none, number(-7), number(3), number(-9), number(4)},
		"S": {number(0), number(-7), number(11), number(-14), number(8)},
		"N": {number(0), number(1), number(2), number(2), number(2)},
		"P": {none, number(-7), number(8), number(-5), number(4)},
	} {
		p := mustNew(t, "in a;table t "+policy+"(a){1=-7;2=3;3=-9;2=8;3=-5;4=4;4=4;}")
		for a, value := range want {
			wantEval(t, p, []int{a}, value)
		}
		wantEval(t, p, []int{-1}, want[0])
		without := mustNew(t, "in a;table t "+policy+"(a){}")
		wantEval(t, without, []int{1}, want[0])
	}
}

func TestP7GreatSums(t *testing.T) {
	for _, sign := range []string{"", "-"} {
		p := mustNew(t, "in a;table t S(a){"+strings.Repeat("_="+sign+"1000000;", api.MaxRules)+"}table u F(t){>1000000=1;<-1000000=2;}")
		want := map[string][]api.Value{"": {number(8000000), number(1)}, "-": {number(-8000000), number(2)}}
		wantEval(t, p, []int{0}, want[sign]...)
	}
}

// TestP7Meets asks each test of numbers, of none and of clash, which a table
// makes of 8 and 9.
func TestP7Meets(t *testing.T) {
	const from = "in a;table v U(a){-1=-1;0=0;1=1;2=2;3=3;>8=9;>8=9;}table t N(v){"
	values := []int{-1, 0, 1, 2, 3, 8, 9}
	for test, want := range map[string]string{
		"_": "1111111", "!_": "0000000", "!!_": "1111111",
		"none": "0000010", "!none": "1111101", "!!none": "0000010",
		"clash": "0000001", "!clash": "1111110",
		"1": "0010000", "!1": "1101111", "!!1": "0010000", "!!!1": "1101111", "-1": "1000000", "0": "0100000", "-0": "0100000",
		"0..2": "0111000", "!0..2": "1000111", "2..2": "0001000", "2..0": "0000000", "!2..0": "1111111", "-1000000..1000000": "1111100",
		"<1": "1100000", "!<1": "0011111", "<-1000000": "0000000", "<1000000": "1111100",
		">1": "0001100", "!>1": "1110011", ">1000000": "0000000", ">-1000000": "1111100",
	} {
		p := mustNew(t, from+test+"=5;}")
		for i, value := range values {
			got, errno := p.Eval([]int{value})
			if errno != api.OK || len(got) != 2 || got[1] != number(int(want[i]-'0')) {
				t.Errorf("%s of %d: %v, %d, want %s", test, value, got, errno, want[i:i+1])
			}
		}
	}
}

func TestP7EachColumnMustMeet(t *testing.T) {
	p := mustNew(t, "in a;in b;in c;table t F(a,b,c){1,2,3=1;_,2,3=2;1,_,3=3;1,2,_=4;}")
	wantEval(t, p, []int{1, 2, 3}, number(1))
	wantEval(t, p, []int{0, 2, 3}, number(2))
	wantEval(t, p, []int{1, 0, 3}, number(3))
	wantEval(t, p, []int{1, 2, 0}, number(4))
	wantEval(t, p, []int{0, 0, 3}, none)
	wantEval(t, p, []int{3, 2, 1}, none)
}

// TestP7Order has inputs between tables, and columns in another order.
func TestP7Order(t *testing.T) {
	p := mustNew(t, "in z;table x S(z){>0=1;}in a;table b F(a,x,a){5,1,5=7;5,0,5=8;}table c U(z){}in y;table d F(y,b){9,8=3;9,7=4;}")
	wantEval(t, p, []int{0, 5, 9}, number(0), number(8), none, number(3))
	wantEval(t, p, []int{1, 5, 9}, number(1), number(7), none, number(4))
	wantEval(t, p, []int{1, 9, 5}, number(1), none, none, none)
}

func TestP7BadArgs(t *testing.T) {
	p := mustNew(t, "in a;table t S(a){_=1;}in b/a;")
	most := strconv.IntSize - 1
	for _, values := range [][]int{
		nil, {}, {1}, {1, 2, 3}, make([]int, 1<<16),
		{api.MaxValue + 1, 0}, {0, api.MaxValue + 1}, {-api.MaxValue - 1, 0}, {0, -api.MaxValue - 1},
		{-1 << most, 0}, {0, 1<<most - 1},
	} {
		wantBadArg(t, p, 7, values)
		wantBadArg(t, p, 0, values)
	}
	wantBadArg(t, mustNew(t, ""), 0, []int{0})
	wantEval(t, p, []int{api.MaxValue, -api.MaxValue}, number(1))
	wantEval(t, p, []int{-api.MaxValue, api.MaxValue}, number(1))
}

func TestP2ListsAreLeft(t *testing.T) {
	p := mustNew(t, example)
	room := []int{30, 1, 77, 78}
	values := room[:2]
	wantEval(t, p, values, number(5), number(100))
	wantExplain(t, p, 1, values, "age 30\nill 1\nrisk 5 [3]\nfee 100\n")
	wantBadArg(t, p, 1, room[:3])
	if !slices.Equal(room, []int{30, 1, 77, 78}) {
		t.Errorf("the list became %v", room)
	}
	first, _ := p.Eval(values)
	values[0], values[1] = 0, 0
	if !slices.Equal(first, []api.Value{number(5), number(100)}) {
		t.Errorf("the answer became %v with the list", first)
	}
	wantEval(t, p, []int{30, 1}, number(5), number(100))
}

func TestP2EvalAnswersNewMemory(t *testing.T) {
	p := mustNew(t, "in a;table t S(a){_=1;}table u S(t){_=2;}table v S(u){_=3;}")
	first, _ := p.Eval([]int{0})
	second, _ := p.Eval([]int{0})
	first = first[:cap(first)]
	for i := range first {
		first[i] = clash
	}
	if !slices.Equal(second, []api.Value{number(1), number(2), number(3)}) {
		t.Errorf("one answer became %v with the other", second)
	}
	second = second[:cap(second)]
	for i := range second {
		second[i] = none
	}
	if slices.Contains(first, none) {
		t.Errorf("one answer became %v with the other", first)
	}
	wantEval(t, p, []int{0}, number(1), number(2), number(3))
}

func TestP2PlanHangsOnTextAlone(t *testing.T) {
	p, other := mustNew(t, example), mustNew(t, "in age;table risk N(age){_=9;}")
	atOnce(func() {
		wantEval(t, p, []int{30, 1}, number(5), number(100))
		wantEval(t, p, []int{30, 0}, number(2), number(50))
		wantExplain(t, p, 0, []int{30, 1}, "age 30\nill ?\nrisk ?\nfee 100\n")
		wantExplain(t, p, 1, []int{30, 1}, "age 30\nill 1\nrisk 5 [3]\nfee 100\n")
		wantEval(t, other, []int{30}, number(1))
		wantBadArg(t, p, 0, []int{30})
		wantLabel(t, p, "risk", 1)
		wantLabel(t, other, "risk", 0)
	})
}
