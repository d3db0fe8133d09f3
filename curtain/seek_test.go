package curtain_test

import (
	"math/rand"
	"slices"
	"strconv"
	"strings"
	"testing"

	"curtain/api"
	"curtain/curtain"
)

const (
	least    = -api.MaxValue
	greatest = api.MaxValue
)

// wantSeek has nil for what is not to be found.
func wantSeek(t *testing.T, p *curtain.Plan, name string, gap, overlap []int) {
	t.Helper()
	wantFound(t, "Gap", p.Gap, name, gap)
	wantFound(t, "Overlap", p.Overlap, name, overlap)
}

func wantFound(t *testing.T, call string, seek func(string) ([]int, bool, api.Errno), name string, want []int) {
	t.Helper()
	got, found, errno := seek(name)
	if !slices.Equal(got, want) || (got == nil) != (want == nil) || found != (want != nil) || errno != api.OK {
		t.Errorf("%s(%q) = %v, %v, %d, want %v", call, name, got, found, errno, want)
	}
}

func wantNoSeek(t *testing.T, p *curtain.Plan, name string, want api.Errno) {
	t.Helper()
	if got, found, errno := p.Gap(name); len(got) != 0 || found || errno != want {
		t.Errorf("Gap(%.120q) = %v, %v, %d, want the error %d", name, got, found, errno, want)
	}
	if got, found, errno := p.Overlap(name); len(got) != 0 || found || errno != want {
		t.Errorf("Overlap(%.120q) = %v, %v, %d, want the error %d", name, got, found, errno, want)
	}
}

// wantRules asks of a table of the columns named, the inputs being x, y and z.
func wantRules(t *testing.T, columns, rules string, gap, overlap []int) {
	t.Helper()
	text := "in z;in x/a;in y;table t U(" + columns + "){" + rules + "}"
	t.Run(columns+"{"+rules+"}", func(t *testing.T) {
		t.Helper()
		wantSeek(t, mustNew(t, text), "t", gap, overlap)
	})
}

func TestP9Examples(t *testing.T) {
	p := mustNew(t, example)
	wantSeek(t, p, "risk", nil, nil)
	wantNoSeek(t, p, "fee", api.ErrKind)
	p = mustNew(t, "in x; in y; table t S(x,y){ <5,>0 = 1; 3..9,1..2 = 2; }")
	wantSeek(t, p, "t", []int{least, least}, []int{3, 1})
}

func TestP9NoRules(t *testing.T) {
	wantRules(t, "x", "", []int{least}, nil)
	wantRules(t, "x,y", "", []int{least, least}, nil)
	wantRules(t, "y,y,y", "", []int{least, least, least}, nil)
}

// TestP9Tests has each kind of test with the gap behind what meets it, and with
// an overlap at its first number.
func TestP9Tests(t *testing.T) {
	for _, c := range []struct {
		rules        string
		gap, overlap []int
	}{
		{"_=1;", nil, nil},
		{"_=1;_=1;", nil, []int{least}},
		{"<3=1;", []int{3}, nil}, {"<3=1;3=1;", []int{4}, nil}, {"<3=1;3=1;>3=1;", nil, nil}, {"<3=1;3=1;>2=1;", nil, []int{3}},
		{"<3=1;>3=1;", []int{3}, nil}, {"<3=1;>2=1;", nil, nil}, {"<4=1;>2=1;", nil, []int{3}}, {"<5=1;>2=1;", nil, []int{3}},
		{"<3=1;3..8=1;", []int{9}, nil}, {"<3=1;4..8=1;", []int{3}, nil}, {"<3=1;2..8=1;", []int{9}, []int{2}}, {"<3=1;3..8=1;>8=1;8=1;", nil, []int{8}},
		{"5=1;5=1;", []int{least}, []int{5}}, {"1..5=1;5..9=1;", []int{least}, []int{5}}, {"1..5=1;6..9=1;", []int{least}, nil},
		{"8..3=1;", []int{least}, nil}, {"_=1;8..3=1;", nil, nil}, {"<8=1;>3=1;8..3=1;", nil, []int{4}}, {"<4=1;>3=1;8..3=1;", nil, nil},
		{"<0=1;>-1=1;", nil, nil}, {"<-0=1;>0=1;", []int{0}, nil}, {"<-5=1;>-5=1;", []int{-5}, nil},
		{"<0=1;_=1;", nil, []int{least}}, {">0=1;_=1;", nil, []int{1}}, {"0=1;_=1;", nil, []int{0}}, {"0..9=1;_=1;", nil, []int{0}},
		{"<9=1;>20=1;", []int{9}, nil}, {"20..30=1;>25=1;<22=1;", nil, []int{20}}, {"9=1;2=1;7=1;_=1;", nil, []int{2}},
	} {
		wantRules(t, "x", c.rules, c.gap, c.overlap)
	}
}

func TestP9Nots(t *testing.T) {
	for _, c := range []struct {
		rules        string
		gap, overlap []int
	}{
		{"!_=1;", []int{least}, nil}, {"!!_=1;", nil, nil}, {"!_=1;_=1;", nil, nil}, {"!!!_=1;", []int{least}, nil},
		{"!5=1;", []int{5}, nil}, {"!!5=1;", []int{least}, nil}, {"!!!5=1;", []int{5}, nil}, {"!5=1;!!5=1;", nil, nil}, {"!5=1;!5=1;", []int{5}, []int{least}},
		{"!3..6=1;", []int{3}, nil}, {"!3..6=1;3..4=1;", []int{5}, nil}, {"!3..6=1;3..6=1;", nil, nil}, {"!3..6=1;3..7=1;", nil, []int{7}}, {"!6..3=1;", nil, nil},
		{"!<4=1;", []int{least}, nil}, {"<4=1;!<4=1;", nil, nil}, {"<5=1;!<4=1;", nil, []int{4}}, {"<3=1;!<4=1;", []int{3}, nil},
		{"!>4=1;", []int{5}, nil}, {"!>4=1;>4=1;", nil, nil}, {"!>4=1;>3=1;", nil, []int{4}}, {"!>4=1;>5=1;", []int{5}, nil},
		{"!5=1;5=1;!-1000000..4=1;", nil, []int{5}}, {strings.Repeat("!", 900) + "5=1;", []int{least}, nil}, {strings.Repeat("!", 901) + "5=1;", []int{5}, nil},
	} {
		wantRules(t, "x", c.rules, c.gap, c.overlap)
	}
}

// TestP9NoneAndClash: no input is one of them.
func TestP9NoneAndClash(t *testing.T) {
	wantRules(t, "x", "none=1;clash=1;", []int{least}, nil)
	wantRules(t, "x", "!none=1;", nil, nil)
	wantRules(t, "x", "!clash=1;", nil, nil)
	wantRules(t, "x", "!none=1;!clash=1;", nil, []int{least})
	wantRules(t, "x", "none=1;none=1;_=1;clash=1;", nil, nil)
	wantRules(t, "x", "!!none=1;<4=1;>4=1;", []int{4}, nil)
	wantRules(t, "x,y", "!none,7=1;_,!7=1;none,7=1;!clash,8=1;", nil, []int{least, 8})
}

func TestP9Ends(t *testing.T) {
	for _, c := range []struct {
		rules        string
		gap, overlap []int
	}{
		{">-1000000=1;", []int{least}, nil}, {">-1000000=1;-1000000=1;", nil, nil}, {"!-1000000=1;", []int{least}, nil},
		{"-1000000=1;", []int{least + 1}, nil}, {"<-1000000=1;", []int{least}, nil}, {"!<-1000000=1;", nil, nil}, {"<-999999=1;", []int{least + 1}, nil},
		{"-1000000..-1000000=1;_=1;", nil, []int{least}}, {">-1000000=1;_=1;", nil, []int{least + 1}},
		{"<1000000=1;", []int{greatest}, nil}, {"<1000000=1;1000000=1;", nil, nil}, {"!1000000=1;", []int{greatest}, nil}, {"<1000000=1;>999999=1;", nil, nil},
		{">1000000=1;", []int{least}, nil}, {"!>1000000=1;", nil, nil}, {"-1000000..999999=1;", []int{greatest}, nil}, {"-1000000..1000000=1;", nil, nil},
		{"1000000=1;_=1;", nil, []int{greatest}}, {">999999=1;_=1;", nil, []int{greatest}}, {">1000000=1;_=1;", nil, nil}, {"!-1000000..999999=1;_=1;", nil, []int{greatest}},
		{"1000000..-1000000=1;", []int{least}, nil}, {"1000000..-1000000=1;_=1;", nil, nil}, {"!-1000000..1000000=1;", []int{least}, nil},
	} {
		wantRules(t, "x", c.rules, c.gap, c.overlap)
	}
	wantRules(t, "x,y,z", "_,_,!1000000=1;_,!1000000,_=1;!1000000,_,_=1;", []int{greatest, greatest, greatest}, []int{least, least, least})
	wantRules(t, "x,y,z", "_,_,_=1;1000000,1000000,1000000=1;", nil, []int{greatest, greatest, greatest})
}

// TestP9LeastOfSeveral: the first column counts most, in the table's order and
// not in that of the inputs, even where a later one has a lesser number.
func TestP9LeastOfSeveral(t *testing.T) {
	wantRules(t, "x,y", "<3,_=1;3,!9=1;4,!2=1;>4,_=1;", []int{3, 9}, nil)
	wantRules(t, "y,x", "<3,_=1;3,!9=1;4,!2=1;>4,_=1;", []int{3, 9}, nil)
	wantRules(t, "x,y", "4,2=1;3,9=1;_,_=1;", nil, []int{3, 9})
	wantRules(t, "y,z", "_,_=1;7,1..5=1;7,-3=1;", nil, []int{7, -3})
	wantRules(t, "x,y,z", "1,2,4=1;1,3,3=1;2,1,1=1;_,_,_=1;", nil, []int{1, 2, 4})
	wantRules(t, "z,y,x", "<7,_,_=1;>7,_,_=1;7,<8,_=1;7,>8,_=1;7,8,<9=1;7,8,>9=1;", []int{7, 8, 9}, nil)
	wantRules(t, "x,y", "<3,>5=1;>2,_=1;<3,<6=1;", nil, nil)
	wantRules(t, "x,y", "<3,>5=1;>2,_=1;<3,<5=1;", []int{least, 5}, nil)
	wantRules(t, "x,y", "<3,>5=1;>1,_=1;<3,<6=1;", nil, []int{2, least})
}

func TestP9ColumnTwice(t *testing.T) {
	wantRules(t, "x,x", "<5,_=1;_,>5=1;", []int{5, 5}, nil)
	wantRules(t, "x,x", "<5,_=1;_,>4=1;", nil, nil)
	wantRules(t, "x,x", "<5,_=1;_,>3=1;", nil, []int{4, 4})
	wantRules(t, "x,x", "3,4=1;_,_=1;", nil, nil)
	wantRules(t, "x,x", "!3,!4=1;3,_=1;", []int{4, 4}, nil)
	wantRules(t, "x,x,x", "<2,_,_=1;_,>2,_=1;_,_,8..9=1;", []int{2, 2, 2}, []int{8, 8, 8})
	wantRules(t, "y,x,y", "<5,_,_=1;_,<3,>4=1;_,>1,8=1;", []int{5, 3, 5}, []int{8, 2, 8})
	wantRules(t, "x,x,y", "<4,_,_=1;_,>6,_=1;_,_,!7=1;", []int{4, 4, 7}, []int{least, least, least})
	wantRules(t, "x,y,y", "_,<4,_=1;_,_,>4=1;!6,4,4=1;", []int{6, 4, 4}, nil)
}

// octants has eight rules, of which each combination of three signs meets one.
func octants() []string {
	var rules []string
	for i := range 8 {
		tests := make([]string, 3)
		for column := range tests {
			tests[column] = [2]string{"<0", ">-1"}[i>>(2-column)&1]
		}
		rules = append(rules, strings.Join(tests, ",")+"=1;")
	}
	return rules
}

func corner(octant int) []int {
	ends := [2]int{least, 0}
	return []int{ends[octant>>2&1], ends[octant>>1&1], ends[octant&1]}
}

func TestP9EightRules(t *testing.T) {
	wantRules(t, "x,y,z", strings.Join(octants(), ""), nil, nil)
	for without := range 8 {
		wantRules(t, "x,y,z", strings.Join(slices.Delete(octants(), without, without+1), ""), corner(without), nil)
		for twice := range 8 {
			if twice == without {
				continue
			}
			rules := octants()
			rules[without] = rules[twice]
			wantRules(t, "x,y,z", strings.Join(rules, ""), corner(without), corner(twice))
		}
	}
}

// TestP9ManyNumbers has as many numbers as three columns and eight rules can
// name, and what is sought behind all of them, or nowhere.
func TestP9ManyNumbers(t *testing.T) {
	rules := ""
	for i := range 7 {
		n := strconv.Itoa(100 * i)
		rules += n + ".." + n + "," + n + ".." + n + "," + n + ".." + n + "=1;"
	}
	wantRules(t, "x,y,z", rules+"_,_,_=1;", nil, []int{0, 0, 0})
	wantRules(t, "x,y,z", rules+"901..902,901..902,901..902=1;", []int{least, least, least}, nil)
	wantRules(t, "x,y,z", rules+"600..600,600..601,599..600=1;", []int{least, least, least}, []int{600, 600, 600})
}

func TestP9EachPolicy(t *testing.T) {
	for _, policy := range []string{"U", "F", "S", "N", "P"} {
		p := mustNew(t, "in x;table t "+policy+"(x)\\a{<3=0;>3=0;>8=-4;}")
		wantSeek(t, p, "t", []int{3}, []int{9})
	}
}

// TestP9AmongOthers: only the table's own columns and rules count, whatever
// stands around it and whoever may know it.
func TestP9AmongOthers(t *testing.T) {
	p := mustNew(t, "in a/abc;table n S(a){}in b;table t U(b,a){2,3=1;2..4,3..3=2;}table u F(t){_=1;_=1;}table v P(a)\\abc{!6=1;!6=1;}")
	wantSeek(t, p, "n", []int{least}, nil)
	wantSeek(t, p, "t", []int{least, least}, []int{2, 3})
	wantNoSeek(t, p, "u", api.ErrKind)
	wantSeek(t, p, "v", []int{6}, []int{least})
}

func TestP9WrongNames(t *testing.T) {
	p := mustNew(t, example)
	for _, name := range []string{"", "x", "ris", "risks", "Risk", " risk", "risk ", "in", "table", "U", "\x00", strings.Repeat("a", 1<<16)} {
		wantNoSeek(t, p, name, api.ErrNone)
		wantNoSeek(t, mustNew(t, ""), name, api.ErrNone)
	}
	wantNoSeek(t, p, "age", api.ErrKind)
	wantNoSeek(t, p, "ill", api.ErrKind)
	nested := mustNew(t, "in a;table t U(a){}table u U(t){}table v U(a,a,t){}table w U(u,a){_,_=1;}")
	for _, name := range []string{"a", "u", "v", "w"} {
		wantNoSeek(t, nested, name, api.ErrKind)
	}
	wantSeek(t, nested, "t", []int{least}, nil)
}

// drawnNumbers are all that a test of drawNear names; triedNumbers are the least
// of all that meet the same of such tests, in order.
var (
	drawnNumbers = []string{"-1000000", "-2", "-1", "0", "1", "2", "1000000"}
	triedNumbers = []int{least, least + 1, -2, -1, 0, 1, 2, 3, greatest}
)

func drawNear(r *rand.Rand) string {
	n, m := pick(r, drawnNumbers...), pick(r, drawnNumbers...)
	return pick(r, "", "", "!", "!!") + pick(r, "_", "_", "none", "clash", n, "<"+n, ">"+n, n+".."+m, n+"..1000000")
}

// eachTried hands on all lists of tried numbers for columns, from the least on.
func eachTried(columns []string, first []int, use func(values []int)) {
	place := len(first)
	if place == len(columns) {
		use(first)
		return
	}
	numbers := triedNumbers
	if earlier := slices.Index(columns[:place], columns[place]); earlier >= 0 {
		numbers = first[earlier : earlier+1]
	}
	for _, n := range numbers {
		eachTried(columns, slices.Concat(first, []int{n}), use)
	}
}

// countMet asks Eval how many rules the one table of a plan has for these values
// of its columns: its policy is N, and the inputs are x, y and z.
func countMet(t *testing.T, p *curtain.Plan, columns []string, values []int) int {
	t.Helper()
	given := make([]int, 3)
	for i, column := range columns {
		given[column[0]-'x'] = values[i]
	}
	tables, errno := p.Eval(given)
	if errno != api.OK || len(tables) != 1 {
		t.Fatalf("Eval(%v) = %v, %d", given, tables, errno)
	}
	return tables[0].N
}

// tryAll tells the least gap and overlap, or nil.
func tryAll(t *testing.T, p *curtain.Plan, columns []string) (gap, overlap []int) {
	t.Helper()
	eachTried(columns, nil, func(values []int) {
		met := countMet(t, p, columns, values)
		if gap == nil && met == 0 {
			gap = values
		}
		if overlap == nil && met > 1 {
			overlap = values
		}
	})
	return gap, overlap
}

func TestP9Drawn(t *testing.T) {
	r := rand.New(rand.NewSource(9))
	gaps, overlaps := 0, 0
	const count = 1500
	for range count {
		columns := strings.Split(drawRow(r, 1+r.Intn(api.MaxColumns), func(r *rand.Rand) string { return pick(r, "x", "y", "z") }), ",")
		text := "in x;in y/b;in z;table t N(" + strings.Join(columns, ",") + "){"
		for range r.Intn(api.MaxRules + 1) {
			text += drawRow(r, len(columns), drawNear) + "=3;"
		}
		p := mustNew(t, text+"}")
		gap, overlap := tryAll(t, p, columns)
		wantSeek(t, p, "t", gap, overlap)
		if t.Failed() {
			t.Fatalf("of %s}", text)
		}
		if gap != nil {
			gaps++
		}
		if overlap != nil {
			overlaps++
		}
	}
	if gaps < count/10 || gaps > count*9/10 || overlaps < count/10 || overlaps > count*9/10 {
		t.Errorf("%d gaps and %d overlaps of %d: too much alike", gaps, overlaps, count)
	}
}

func TestP2SeekAnswersNewMemory(t *testing.T) {
	p := mustNew(t, "in x;in y;table t U(y,x,y){<5,_,_=1;_,<3,>4=1;_,>1,8=1;}")
	gap, overlap := []int{5, 3, 5}, []int{8, 2, 8}
	for name, seek := range map[string]func(string) ([]int, bool, api.Errno){"Gap": p.Gap, "Overlap": p.Overlap} {
		first, _, _ := seek("t")
		second, _, _ := seek("t")
		kept := slices.Clone(second)
		first = first[:cap(first)]
		for i := range first {
			first[i] = 77
		}
		if !slices.Equal(second, kept) {
			t.Errorf("%s: one answer became %v with the other", name, second)
		}
		second = second[:cap(second)]
		for i := range second {
			second[i] = 78
		}
		if slices.Contains(first, 78) {
			t.Errorf("%s: one answer became %v with the other", name, first)
		}
		wantSeek(t, p, "t", gap, overlap)
	}
}

func TestP2SeekHangsOnTextAlone(t *testing.T) {
	p, other := mustNew(t, "in x;table t U(x){<4=1;>4=1;>8=1;}"), mustNew(t, "in x;table t U(x){_=1;}")
	atOnce(func() {
		wantSeek(t, p, "t", []int{4}, []int{9})
		wantSeek(t, other, "t", nil, nil)
		wantNoSeek(t, p, "x", api.ErrKind)
		wantNoSeek(t, other, "y", api.ErrNone)
		wantEval(t, p, []int{9}, clash)
	})
}
