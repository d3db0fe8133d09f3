package curtain_test

import (
	"math/rand"
	"slices"
	"strconv"
	"strings"
	"testing"

	"curtain/api"
	"curtain/curtain"
)

func wantExplain(t *testing.T, p *curtain.Plan, clear int, values []int, want string) {
	t.Helper()
	if got, errno := p.Explain(clear, values); got != want || errno != api.OK {
		t.Errorf("Explain(%d, %v) = %q, %d, want %q", clear, values, got, errno, want)
	}
}

func TestP8Example(t *testing.T) {
	p := mustNew(t, example)
	wantExplain(t, p, 0, []int{30, 1}, "age 30\nill ?\nrisk ?\nfee 100\n")
	wantExplain(t, p, 1, []int{30, 1}, "age 30\nill 1\nrisk 5 [3]\nfee 100\n")
	wantExplain(t, p, 6, []int{30, 1}, "age 30\nill ?\nrisk ?\nfee 100\n")
	wantExplain(t, p, 7, []int{30, 1}, "age 30\nill 1\nrisk 5 [3]\nfee 100\n")
}

func TestP8NoItems(t *testing.T) {
	for clear := range 8 {
		wantExplain(t, mustNew(t, ""), clear, nil, "")
	}
}

func TestP8Values(t *testing.T) {
	p := mustNew(t, "in a;table u U(a){<1=-4;>-1=0;5=1000000;}table s S(a){_=-1000000;5=0;_=-1000000;}table n F(u){clash=1;}")
	wantExplain(t, p, 0, []int{-1}, "a -1\nu -4 [1]\ns -2000000 [1 3]\nn none []\n")
	wantExplain(t, p, 0, []int{0}, "a 0\nu clash [1 2]\ns -2000000 [1 3]\nn 1 [1]\n")
	wantExplain(t, p, 0, []int{4}, "a 4\nu 0 [2]\ns -2000000 [1 3]\nn none []\n")
	wantExplain(t, p, 0, []int{5}, "a 5\nu clash [2 3]\ns -2000000 [1 2 3]\nn 1 [1]\n")
	wantExplain(t, p, 0, []int{-api.MaxValue}, "a -1000000\nu -4 [1]\ns -2000000 [1 3]\nn none []\n")
}

// TestP8RulesOfEachPolicy: that F and P give one rule's number does not change
// which rules are met.
func TestP8RulesOfEachPolicy(t *testing.T) {
	for policy, value := range map[string]string{"U": "clash", "F": "4", "S": "27", "N": "8", "P": "9"} {
		p := mustNew(t, "in a;table t "+policy+"(a){_=4;_=9;_=3;_=3;_=2;_=2;_=2;_=2;}")
		wantExplain(t, p, 0, []int{0}, "a 0\nt "+value+" [1 2 3 4 5 6 7 8]\n")
	}
}

func TestP8Hidden(t *testing.T) {
	p := mustNew(t, "in o;in a/a;in b/b;in c/c;in ac/ac;table ab S(a,b){_,_=6;}table no S(o){_=7;}")
	for clear, want := range []string{
		"o 1\na ?\nb ?\nc ?\nac ?\nab ?\n",
		"o 1\na 2\nb ?\nc ?\nac ?\nab ?\n",
		"o 1\na ?\nb 3\nc ?\nac ?\nab ?\n",
		"o 1\na 2\nb 3\nc ?\nac ?\nab 6 [1]\n",
		"o 1\na ?\nb ?\nc 4\nac ?\nab ?\n",
		"o 1\na 2\nb ?\nc 4\nac 5\nab ?\n",
		"o 1\na ?\nb 3\nc 4\nac ?\nab ?\n",
		"o 1\na 2\nb 3\nc 4\nac 5\nab 6 [1]\n",
	} {
		wantExplain(t, p, clear, []int{1, 2, 3, 4, 5}, want+"no 7 [1]\n")
	}
}

// TestP8Drops: a table that drops something tells no rules, whoever may know
// its columns and whether they have what it drops.
func TestP8Drops(t *testing.T) {
	p := mustNew(t, "in a/a;in b/b;table d F(a,b)\\a{1,_=1;}table e F(d){1=5;}table i F(b)\\a{_=8;}table n U(a)\\abc{}")
	for clear, want := range []string{
		"a ?\nb ?\nd ?\ne ?\ni ?\n",
		"a 1\nb ?\nd ?\ne ?\ni ?\n",
		"a ?\nb 2\nd 1\ne 5 [1]\ni 8\n",
		"a 1\nb 2\nd 1\ne 5 [1]\ni 8\n",
	} {
		wantExplain(t, p, clear, []int{1, 2}, want+"n none\n")
		wantExplain(t, p, clear+api.MarkC, []int{1, 2}, want+"n none\n")
	}
}

func TestP8BadArgs(t *testing.T) {
	p := mustNew(t, example)
	for _, clear := range []int{-1, 8, 9, 1 << 30, -1 << 30, -8, 1 << (strconv.IntSize - 2), -1 << (strconv.IntSize - 1)} {
		for _, values := range [][]int{{30, 1}, nil} {
			if got, errno := p.Explain(clear, values); got != "" || errno != api.ErrArg {
				t.Errorf("Explain(%d, %v) = %q, %d, want ErrArg", clear, values, got, errno)
			}
		}
	}
	wantBadArg(t, p, 0, []int{30})
	wantBadArg(t, p, 0, []int{30, 1, 1})
	wantBadArg(t, p, 0, []int{30, api.MaxValue + 1})
	wantBadArg(t, p, 7, []int{-api.MaxValue - 1, 1})
}

// drawn is a plan made by chance: the marks of its inputs, and which of its
// tables drop something, by their places among the tables.
type drawn struct {
	text  string
	marks []int
	names []string
	drops []int
}

func pick(r *rand.Rand, from ...string) string {
	return from[r.Intn(len(from))]
}

func drawTest(r *rand.Rand) string {
	n := strconv.Itoa(r.Intn(4))
	return pick(r, "", "", "!") + pick(r, "_", "none", "clash", n, n, "<"+n, ">"+n, n+"..3")
}

func drawRow(r *rand.Rand, count int, draw func(*rand.Rand) string) string {
	cells := make([]string, count)
	for i := range cells {
		cells[i] = draw(r)
	}
	return strings.Join(cells, ",")
}

func drawPlan(r *rand.Rand) drawn {
	var d drawn
	var all []string
	for i := range 2 + r.Intn(3) {
		name := "in" + string(rune('a'+i))
		marks := r.Intn(8)
		sign := [8]string{"", "/a", "/b", "/ab", "/c", "/ac", "/bc", "/abc"}[marks]
		d.text += "in " + name + sign + ";"
		d.marks = append(d.marks, marks)
		all = append(all, name)
	}
	for i := range 2 + r.Intn(4) {
		name := "t" + string(rune('a'+i))
		drops := pick(r, "", "", "\\a", "\\b", "\\ac", "\\abc")
		if drops != "" {
			d.drops = append(d.drops, i)
		}
		columns := 1 + r.Intn(api.MaxColumns)
		d.text += "table " + name + pick(r, "U", "F", "S", "N", "P") +
			"(" + drawRow(r, columns, func(r *rand.Rand) string { return pick(r, all...) }) + ")" + drops + "{"
		for range r.Intn(5) {
			d.text += drawRow(r, columns, drawTest) + "=" + strconv.Itoa(r.Intn(4)) + ";"
		}
		d.text += "}"
		d.names = append(d.names, name)
		all = append(all, name)
	}
	return d
}

// sameToReader tells whether a reader is told the same of both lists by the
// inputs and by the tables that drop something.
func (d drawn) sameToReader(t *testing.T, p *curtain.Plan, clear int, one, other []int) bool {
	for i, marks := range d.marks {
		if marks&^clear == 0 && one[i] != other[i] {
			return false
		}
	}
	oneTables, _ := p.Eval(one)
	otherTables, _ := p.Eval(other)
	for _, i := range d.drops {
		label, errno := p.Label(d.names[i])
		if errno != api.OK {
			t.Fatalf("Label(%q) = %d of %q", d.names[i], errno, d.text)
		}
		if label&^clear == 0 && oneTables[i] != otherTables[i] {
			return false
		}
	}
	return true
}

func drawValues(r *rand.Rand, count int) []int {
	values := make([]int, count)
	for i := range values {
		values[i] = r.Intn(4)
	}
	return values
}

// TestP10 changes what a reader may not know, and looks whether they are told
// something else.
func TestP10(t *testing.T) {
	r := rand.New(rand.NewSource(10))
	held := 0
	for range 2000 {
		d := drawPlan(r)
		p := mustNew(t, d.text)
		for range 20 {
			clear := r.Intn(8)
			one, other := drawValues(r, len(d.marks)), drawValues(r, len(d.marks))
			for i, marks := range d.marks {
				if marks&^clear == 0 {
					other[i] = one[i]
				}
			}
			if slices.Equal(one, other) || !d.sameToReader(t, p, clear, one, other) {
				continue
			}
			held++
			told, errno := p.Explain(clear, one)
			wantExplain(t, p, clear, other, told)
			if errno != api.OK {
				t.Errorf("Explain(%d, %v) = %d of %q", clear, one, errno, d.text)
			}
		}
	}
	if held < 10000 {
		t.Errorf("only %d cases were held against each other", held)
	}
}

// TestP10RulesWouldTell: both lists make the same value by other rules.
func TestP10RulesWouldTell(t *testing.T) {
	p := mustNew(t, "in a/a;table d F(a)\\a{0=5;1=5;}table s S(d,d){5,_=1;}")
	for _, a := range []int{0, 1} {
		for _, clear := range []int{0, 2, 4, 6} {
			wantExplain(t, p, clear, []int{a}, "a ?\nd 5\ns 1 [1]\n")
		}
	}
}
