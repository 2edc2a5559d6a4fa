package ltl_test

import (
	"math"
	"math/rand"
	"slices"
	"testing"

	"olivette/api"
	"olivette/ltl"
)

// P6.2: values that are known.
func TestValueKnown(t *testing.T) {
	known := []struct {
		stem, loop []int
		formula    string
		want       bool
	}{
		{nil, []int{0}, "true", true},
		{nil, []int{0}, "false", false},
		{nil, []int{1}, "p0", true},
		{nil, []int{2}, "p1", true},
		{nil, []int{4}, "p2", true},
		{nil, []int{8}, "p3", true},
		{nil, []int{14}, "p0", false},
		{nil, []int{13}, "p1", false},
		{nil, []int{11}, "p2", false},
		{nil, []int{7}, "p3", false},
		{[]int{1}, []int{0}, "p0", true},
		{[]int{1}, []int{0}, "(next p0)", false},
		{nil, []int{1, 0}, "(next (next p0))", true}, // the loop comes again
		{nil, []int{1, 0}, "(next p0)", false},
		{nil, []int{1}, "(next p0)", true},
		{nil, []int{1, 0}, "(always (finally p0))", true},
		{nil, []int{1, 0}, "(finally (always p0))", false},
		{[]int{0}, []int{1}, "(finally (always p0))", true},
		{[]int{1, 1}, []int{2}, "(until p0 p1)", true},
		{[]int{1, 0}, []int{2}, "(until p0 p1)", false},
		{nil, []int{1}, "(until p0 p1)", false}, // p1 must come
		{nil, []int{2}, "(until p0 p1)", true},  // p0 need not be before now
		{nil, []int{2}, "(until false p1)", true},
		{nil, []int{2}, "(release p0 p1)", true}, // p0 need not come
		{[]int{2, 3}, []int{0}, "(release p0 p1)", true},
		{[]int{2, 1}, []int{0}, "(release p0 p1)", false}, // p1 is needed up to then, including it
		{[]int{2, 0}, []int{3}, "(release p0 p1)", false},
		{[]int{3}, []int{0}, "(release p0 p1)", true},
		{[]int{1, 1, 1}, []int{0}, "(always p0)", false},
		{[]int{0, 0, 0}, []int{0, 0, 1}, "(finally p0)", true},
		{[]int{2}, []int{0, 1}, "(until (finally p0) (always p1))", false},
		{[]int{0, 1}, []int{2, 3}, "(finally (and (not p0) (next (until p0 p1))))", true},
	}
	for _, c := range known {
		wantValue(t, c.stem, c.loop, c.formula, c.want)
		wantValue(t, c.stem, c.loop, "(not "+c.formula+")", !c.want)
	}
}

// P6.2: values are as the definition says, for all short lassos.
func TestValueShort(t *testing.T) {
	random := rand.New(rand.NewSource(5))
	for range 300 {
		p := randomFormula(random, 1+random.Intn(12), 2)
		allLassos(4, 3, func(stem, loop []int) {
			wantValue(t, stem, loop, p.text(), plainValue(stem, loop, p))
		})
	}
}

// P6.2: values are as the definition says, for many lassos; and the lists are not changed.
func TestValuePlain(t *testing.T) {
	random := rand.New(rand.NewSource(6))
	for range 20000 {
		p := randomFormula(random, 1+random.Intn(12), 4)
		stem, loop := randomMarks(random, random.Intn(8), 16), randomMarks(random, 1+random.Intn(8), 16)
		before, again := slices.Clone(stem), slices.Clone(loop)
		wantValue(t, stem, loop, p.text(), plainValue(before, again, p))
		if !slices.Equal(stem, before) || !slices.Equal(loop, again) {
			t.Fatalf("Value(%v, %v, %s) changes them", before, again, p.text())
		}
	}
}

// P6.2: the longest lassos that are allowed, and longer ones.
func TestValueLong(t *testing.T) {
	stem, loop := make([]int, api.MaxLasso), make([]int, api.MaxLasso)
	wantValue(t, stem, loop, "(finally p0)", false)
	loop[len(loop)-1] = 1
	wantValue(t, stem, loop, "(always (finally p0))", true)
	wantValue(t, stem, loop, "(until (not p0) p0)", true)
	wantValue(t, stem, loop, "(finally (and p0 (next p0)))", false)
	loop[0] = 1
	wantValue(t, stem, loop, "(finally (and p0 (next p0)))", true)
	wantValue(t, stem, loop, "(always (finally (always (finally (always (finally (and p0 (next p0))))))))", true)
	stem[0] = 2
	wantValue(t, stem, loop, "(and p1 (next (always (not p1))))", true)
	more := make([]int, api.MaxLasso+1)
	wantNoValue(t, more, loop, "true", api.ErrArg)
	wantNoValue(t, stem, more, "true", api.ErrArg)
	wantNoValue(t, make([]int, 1<<20), make([]int, 1<<20), "true", api.ErrArg)
}

// P6.2: what is no lasso of marks, and the order of the errors.
func TestValueErrors(t *testing.T) {
	for _, formula := range []string{"true", "", "(p0)"} {
		wantNoValue(t, nil, nil, formula, api.ErrArg)
		wantNoValue(t, []int{0}, nil, formula, api.ErrArg)
		wantNoValue(t, []int{0}, []int{}, formula, api.ErrArg)
		for _, mark := range []int{-1, 16, 17, math.MaxInt, math.MinInt} {
			wantNoValue(t, []int{0, mark}, []int{0}, formula, api.ErrArg)
			wantNoValue(t, []int{0}, []int{mark}, formula, api.ErrArg)
			wantNoValue(t, nil, []int{0, 0, mark}, formula, api.ErrArg)
		}
	}
	wantNoValue(t, []int{0}, []int{15}, "(p0)", api.ErrSyntax)
	wantValue(t, []int{0}, []int{15}, "(next (and (and p0 p1) (and p2 p3)))", true)
}

// formulas are texts that are formulas, with each one's usual text.
var formulas = map[string]string{
	"true":                      "true",
	"false":                     "false",
	"p0":                        "p0",
	"p3":                        "p3",
	"  p1 \n ":                  "p1",
	"\n\np2":                    "p2",
	"(next p0)":                 "(next p0)",
	" ( next\np0 ) ":            "(next p0)",
	"(until p0(not p1))":        "(until p0 (not p1))",
	"(and(not p0)(not p1))":     "(and (not p0) (not p1))",
	"(or(next p0)p1)":           "(or (next p0) p1)",
	"(release   p0\n \n  true)": "(release p0 true)",
	"(until p0 p1)\n":           "(until p0 p1)",
	"(always (finally p0))":     "(always (finally p0))",
	"(and p0 (and p0 (and p0 (and p0 (and p0 (next p0))))))":                          "(and p0 (and p0 (and p0 (and p0 (and p0 (next p0))))))",
	"(next (next (next (next (next (next (next (next (next (next (next p0)))))))))))": "(next (next (next (next (next (next (next (next (next (next (next p0)))))))))))",
}

// noFormulas are texts that are none.
func noFormulas() []string {
	list := []string{
		"", " ", "\n", "p", "p4", "p00", "p-1", "P0", "0", "1", "True", "TRUE", "truefalse",
		"(", ")", "()", "( )", "(p0)", "(true)", "((p0))", "(())", ")(", "p0)", "(p0", "p0(", "()p0", "p0()",
		"not", "and", "until", "not p0", "and p0 p1", "p0 and p1", "(p0 and p1)", "p0 p1", "p0\np1", "true p0",
		"(not)", "(not p0", "(not p0))", "((not p0))", "(not (p0))", "(not p0 p1)", "(not p0) p1", "p1 (not p0)", "(not p0)(not p0)",
		"(notp0)", "(not not p0)", "(not ())", "(not (", "(not )",
		"(next)", "(next p0 p1)", "(always)", "(always p0 p1)", "(finally)", "(finally p0 p1)",
		"(and)", "(and p0)", "(and p0 p1 p2)", "(or p0)", "(or p0 p1 p2)", "(until p0)", "(until p0 p1 p2)", "(release p0)", "(release p0 p1 p2)",
		"(and p0 and)", "(and and p0)", "(Not p0)", "(xor p0 p1)", "(p0 p1)", "(p0 p1 p2)", "(true p0)", "(eventually p0)", "(globally p0)",
		"p0\t", "\tp0", "(not\tp0)", "p0\r\n", "p0\x00", "(not p0)\v", "(not\u00a0p0)", "p0\xff", "\xff\xfe", "p\u0660", "[not p0]", "(and p0, p1)",
	}
	list = append(list,
		"(and p0 (and p0 (and p0 (and p0 (and p0 (and p0 p0))))))",                               // 13 words
		"(next (next (next (next (next (next (next (next (next (next (next (next p0))))))))))))", // 13 words
		"p0 p0 p0 p0 p0 p0 p0 p0 p0 p0 p0 p0 p0",
	)
	for _, part := range []string{"(", ")", "()", "(not ", "(and ", "p0 ", "p", " ", "(and p0 ", "(("} {
		text := ""
		for range 20 {
			text += part
		}
		list = append(list, text)
		for len(text) < 1<<21 {
			text += text
		}
		list = append(list, text, "(not "+text, text+"p0)")
	}
	return list
}

// P6.1 to P6.4: which texts are formulas.
func TestSyntax(t *testing.T) {
	for text, usual := range formulas {
		wantPush(t, text, usual)
		want := plainValue([]int{1, 2}, []int{0, 3}, plainRead(t, text))
		wantValue(t, []int{1, 2}, []int{0, 3}, text, want)
		holds(t, once(), text)
		if r, e := ltl.Same(text, "p0"); plainRead(t, text).words() < 12 && (e != api.OK || r.Holds != (usual == "p0")) {
			t.Errorf("Same(%q, p0) = %v, %d", text, r, e)
		}
	}
	for _, text := range noFormulas() {
		if p, e := ltl.Push(text); p != "" || e != api.ErrSyntax {
			t.Errorf("Push(%.100q) = %q, %d", text, p, e)
		}
		wantNoValue(t, nil, []int{0}, text, api.ErrSyntax)
		wantNoHolds(t, once(), text, api.ErrSyntax)
		wantCheck(t, once(), text, api.Result{Loop: []int{0}}, api.ErrSyntax)
		wantNoSame(t, text, "p0", api.ErrSyntax)
		wantNoSame(t, "p0", text, api.ErrSyntax)
	}
}
