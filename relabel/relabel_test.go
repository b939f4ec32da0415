package relabel_test

import (
	"fmt"
	"math/rand"
	"slices"
	"strconv"
	"strings"
	"sync"
	"testing"
	"unsafe"

	"gauger/api"
	"gauger/label"
	"gauger/relabel"
	"gauger/rule"
)

// Rule and Relabel are these types, by shorter names.
type (
	Rule    = rule.Rule
	Relabel = relabel.Relabel
)

// of returns labels of names and values, in turn.
func of(l ...string) api.Labels {
	var all api.Labels
	for i := 0; i < len(l); i += 2 {
		all = append(all, api.Label{Name: l[i], Value: l[i+1]})
	}
	return all
}

// many returns k labels with the value v, in order.
func many(k int) api.Labels {
	var all api.Labels
	for i := range k {
		all = append(all, api.Label{Name: fmt.Sprintf("k%03d", i), Value: "v"})
	}
	return all
}

// shown returns the beginning of how a value is printed.
func shown(v any) string { return fmt.Sprintf("%.600s", fmt.Sprintf("%+v", v)) }

// read returns the rules of texts.
func read(t *testing.T, texts ...string) []Rule {
	t.Helper()
	var all []Rule
	for _, s := range texts {
		r, e := rule.Read(s)
		if e != api.OK {
			t.Fatalf("%.100q is no text of a rule: %d", s, e)
		}
		all = append(all, r)
	}
	return all
}

// made returns the Relabel of rules.
func made(t *testing.T, l []Rule) *Relabel {
	t.Helper()
	x, i, e := relabel.New(l)
	if x == nil || i != -1 || e != api.OK {
		t.Fatalf("New of %s: %v %d %d", shown(l), x, i, e)
	}
	return x
}

// same tells whether lists of rules are equal.
func same(a, b []Rule) bool {
	return slices.EqualFunc(a, b, func(a, b Rule) bool {
		return a.Action == b.Action && slices.Equal(a.Sources, b.Sources) && a.Separator == b.Separator && a.Pattern == b.Pattern && a.Target == b.Target && a.Replacement == b.Replacement && a.Modulus == b.Modulus
	})
}

// sameSteps tells whether lists of labels are equal.
func sameSteps(a, b []api.Labels) bool {
	return slices.EqualFunc(a, b, func(a, b api.Labels) bool { return slices.Equal(a, b) })
}

// checked is what is wrong with a list of rules by the chapter.
func checked(l []Rule) (int, api.Errno) {
	if len(l) >= 21 {
		return -1, api.ErrMany
	}
	for i := range l {
		if e := rule.Check(l[i]); e != api.OK {
			return i, e
		}
	}
	return -1, api.OK
}

// An outcome is what a list of right rules makes of right labels: those after each rule that keeps them, and the first rule that does not.
type outcome struct {
	steps []api.Labels
	index int
	e     api.Errno
}

// outcomeOf is the outcome of a list by the chapter: that of all rules but the last one, and then of this one, if there are labels for it.
func outcomeOf(rules []Rule, l api.Labels) outcome {
	if len(rules) == 0 {
		return outcome{index: -1}
	}
	last := len(rules) - 1
	o := outcomeOf(rules[:last], l)
	if o.index >= 0 {
		return o
	}
	if last > 0 {
		l = o.steps[last-1]
	}
	next, kept, e := rule.Apply(rules[last], l)
	switch {
	case e != api.OK:
		return outcome{index: last, e: e}
	case !kept:
		return outcome{steps: o.steps, index: last}
	}
	return outcome{steps: append(o.steps, next), index: -1}
}

// applied is what Apply has to return with an outcome.
func (o outcome) applied(l api.Labels) api.Labels {
	switch {
	case o.index >= 0:
		return nil
	case len(o.steps) == 0:
		return l
	}
	return o.steps[len(o.steps)-1]
}

// checkList holds Check, New and Rules of a list against the chapter.
func checkList(t *testing.T, l []Rule) *Relabel {
	t.Helper()
	index, wrong := checked(l)
	if i, e := relabel.Check(l); i != index || e != wrong {
		t.Fatalf("Check of %s: %d %d, not %d %d", shown(l), i, e, index, wrong)
	}
	x, i, e := relabel.New(l)
	if (x == nil) != (wrong != api.OK) || i != index || e != wrong {
		t.Fatalf("New of %s: %t %d %d, not %d %d", shown(l), x != nil, i, e, index, wrong)
	}
	if rules := x.Rules(); x != nil && !same(rules, l) {
		t.Fatalf("the rules of %s are %s", shown(l), shown(rules))
	}
	return x
}

// checkOutcome holds Apply and Steps of a Relabel against an outcome.
func checkOutcome(t *testing.T, x *Relabel, l api.Labels, want outcome) {
	t.Helper()
	steps, i, e := x.Steps(l)
	if !sameSteps(steps, want.steps) || i != want.index || e != want.e {
		t.Fatalf("Steps of %s with %s: %s %d %d, not %s", shown(l), shown(x.Rules()), shown(steps), i, e, shown(want))
	}
	got, i, e := x.Apply(l)
	if !slices.Equal(got, want.applied(l)) || i != want.index || e != want.e {
		t.Fatalf("Apply of %s with %s: %s %d %d, not %s", shown(l), shown(x.Rules()), shown(got), i, e, shown(want))
	}
	for _, one := range append(steps, got) {
		if !label.Right(one) {
			t.Fatalf("%s comes of %s, and is not right", shown(one), shown(l))
		}
	}
}

// check holds all functions against the chapter, for right rules and right labels.
func check(t *testing.T, rules []Rule, l api.Labels) outcome {
	t.Helper()
	want := outcomeOf(rules, l)
	checkOutcome(t, checkList(t, rules), l, want)
	return want
}

func TestConstants(t *testing.T) {
	if relabel.MaxRules != 20 {
		t.Error(relabel.MaxRules)
	}
}

// P13.1 and P13.2: the examples of the chapter.
func TestExamples(t *testing.T) {
	rules := []Rule{
		{Action: rule.Replace, Sources: []string{"__address__"}, Pattern: "(.*):.*", Target: "host", Replacement: "$1"},
		{Action: rule.Drop, Sources: []string{"host"}, Pattern: "b.*"},
	}
	if !same(rules, read(t, "replace from=__address__ sep= match=(.*):.* to=host with=$1", "drop from=host sep= match=b.*")) {
		t.Error("texts of other rules")
	}
	x := checkList(t, rules)
	a, b := of("__address__", "a:1", "host", "a"), of("__address__", "b:1", "host", "b")
	checkOutcome(t, x, of("__address__", "a:1"), outcome{[]api.Labels{a, a}, -1, api.OK})
	checkOutcome(t, x, of("__address__", "b:1"), outcome{[]api.Labels{b}, 1, api.OK})
	wrong := []Rule{{Action: rule.LabelMap, Pattern: "("}}
	checkList(t, wrong)
	if i, e := relabel.Check(wrong); i != 0 || e != rule.ErrPattern {
		t.Error(i, e)
	}
}

// wrongRules are rules that are not right, one for each error of rule.Check, by this error.
func wrongRules() map[api.Errno]Rule {
	return map[api.Errno]Rule{
		rule.ErrAction:      {},
		rule.ErrUnused:      {Action: rule.LabelDrop, Target: "a"},
		api.ErrMany:         {Action: rule.Keep, Sources: slices.Repeat([]string{"a"}, 9)},
		rule.ErrSource:      {Action: rule.Keep, Sources: []string{"a-"}},
		rule.ErrSeparator:   {Action: rule.Keep, Separator: "\xff"},
		rule.ErrPattern:     {Action: rule.Keep, Pattern: "("},
		rule.ErrTarget:      {Action: rule.Lowercase, Target: "1"},
		rule.ErrReplacement: {Action: rule.LabelMap, Replacement: "\xff"},
		rule.ErrModulus:     {Action: rule.HashMod, Target: "a"},
	}
}

// someRules are right rules, one for each action.
func someRules(t *testing.T) []Rule {
	t.Helper()
	return read(t, "replace from=a sep= match=(.*) to=b with=$1$1", "keep from=a sep= match=.*", "drop from=a sep= match=none", "hashmod from=a,b sep=; to=h mod=8", "labelmap match=(a) with=${1}_", "labeldrop match=x", "labelkeep match=.*", "lowercase from=a sep= to=l", "uppercase from=a sep= to=u")
}

// P13.1 and R2: lists with a rule that is not right at each place, and others that are not right behind it.
func TestCheck(t *testing.T) {
	right := someRules(t)
	for e, wrong := range wrongRules() {
		for length := 1; length <= 20; length++ {
			for at := range length {
				var l []Rule
				for i := range length {
					l = append(l, right[(i+length)%len(right)])
				}
				checkList(t, l)
				l[at] = wrong
				checkList(t, l)
				if i, f := relabel.Check(l); i != at || f != e {
					t.Fatalf("%d with the error %d at %d of %d: %d", i, f, at, length, e)
				}
				for _, behind := range wrongRules() {
					l[length-1] = behind
					l[at] = wrong
					checkList(t, l)
				}
			}
		}
	}
}

// P13.1, R2 and Limits: 20 rules and more, whatever they are.
func TestTooManyRules(t *testing.T) {
	for _, x := range append(someRules(t), wrongRules()[rule.ErrAction], wrongRules()[rule.ErrModulus], wrongRules()[api.ErrMany]) {
		for _, k := range []int{0, 1, 19, 20, 21, 22, 40, 256, 257, 276, 100000} {
			l := slices.Repeat([]Rule{x}, k)
			checkList(t, l)
			if i, e := relabel.Check(l); (i == -1 && e == api.ErrMany) != (k > 20) {
				t.Errorf("%d of the rule %s: %d %d", k, shown(x), i, e)
			}
		}
	}
	l := slices.Repeat(read(t, "replace from=a sep= match=(.*) to=a with=${1}x"), 20)
	if o := check(t, l, of("a", "-")); o.index != -1 || len(o.steps) != 20 || !slices.Equal(o.applied(nil), of("a", "-"+strings.Repeat("x", 20))) {
		t.Error(shown(o))
	}
}

// P13.1: the rules of a Relabel are those that it was made of, in their order, also if one is there twice.
func TestRules(t *testing.T) {
	l := someRules(t)
	for range l {
		for k := range len(l) + 1 {
			for _, rules := range [][]Rule{l[:k], append(slices.Clone(l[:k]), l[:k]...)} {
				x := made(t, rules)
				for range 2 {
					if got := x.Rules(); !same(got, rules) {
						t.Fatalf("%s, not %s", shown(got), shown(rules))
					}
				}
			}
		}
		l = append(slices.Clone(l[1:]), l[0])
	}
}

// P13.2: what lists make of labels.
func TestApply(t *testing.T) {
	for _, x := range []struct {
		texts []string
		l     api.Labels
		index int
		steps []api.Labels
	}{
		{nil, nil, -1, nil},
		{nil, of("a", "1"), -1, nil},
		{[]string{"keep from=a sep= match=1"}, of("a", "1"), -1, []api.Labels{of("a", "1")}},
		{[]string{"keep from=a sep= match=1"}, of("a", "2"), 0, nil},
		{[]string{"keep from=a sep= match=1"}, nil, 0, nil},
		{[]string{"drop from=a sep= match=1"}, nil, -1, []api.Labels{nil}},
		{[]string{"labeldrop match=a"}, of("a", "1"), -1, []api.Labels{nil}},
		// A rule sees what the rules before it made, and nothing else.
		{[]string{"replace from=a sep= match=(.*) to=b with=$1$1", "replace from=b sep= match=(.*) to=c with=$1$1"}, of("a", "x"), -1, []api.Labels{of("a", "x", "b", "xx"), of("a", "x", "b", "xx", "c", "xxxx")}},
		{[]string{"replace from=b sep= match=(.*) to=c with=$1$1", "replace from=a sep= match=(.*) to=b with=$1$1"}, of("a", "x"), -1, []api.Labels{of("a", "x"), of("a", "x", "b", "xx")}},
		{[]string{"replace from=a sep= match=(.*) to=b with=$1", "labeldrop match=a", "replace from=a,b sep= match=(.*) to=c with=$1", "labelkeep match=c"}, of("a", "x", "d", "y"), -1, []api.Labels{of("a", "x", "b", "x", "d", "y"), of("b", "x", "d", "y"), of("b", "x", "c", "x", "d", "y"), of("c", "x")}},
		{[]string{"labeldrop match=.*", "keep from= sep= match=", "replace from= sep= match= to=a with=1"}, of("a", "x"), -1, []api.Labels{nil, nil, of("a", "1")}},
		{[]string{"labelmap match=(.) with=${1}${1}", "labelmap match=(..) with=${1}${1}"}, of("a", "x"), -1, []api.Labels{of("a", "x", "aa", "x"), of("a", "x", "aa", "x", "aaaa", "x")}},
		{[]string{"uppercase from=a sep= to=a", "lowercase from=a sep= to=b", "hashmod from=a sep= to=a mod=1"}, of("a", "xY"), -1, []api.Labels{of("a", "XY"), of("a", "XY", "b", "xy"), of("a", "0", "b", "xy")}},
		// The first rule that drops labels is told, and none behind it matters.
		{[]string{"keep from=a sep= match=1", "drop from=a sep= match=1"}, of("a", "1"), 1, []api.Labels{of("a", "1")}},
		{[]string{"drop from=a sep= match=1", "keep from=a sep= match=2"}, of("a", "1"), 0, nil},
		{[]string{"keep from=a sep= match=2", "keep from=a sep= match=", "replace from= sep= match= to=a with=1"}, of("a", "1"), 0, nil},
		{[]string{"replace from=a sep= match=1 to=b with=2", "drop from=b sep= match=2", "drop from=b sep= match=2"}, of("a", "1"), 1, []api.Labels{of("a", "1", "b", "2")}},
		{[]string{"drop from=b sep= match=2", "replace from=a sep= match=1 to=b with=2", "labeldrop match=a", "drop from=b sep= match=2", "labeldrop match=b"}, of("a", "1"), 3, []api.Labels{of("a", "1"), of("a", "1", "b", "2"), of("b", "2")}},
		{[]string{"labeldrop match=a", "keep from=a sep= match=1"}, of("a", "1"), 1, []api.Labels{nil}},
		{[]string{"labeldrop match=a", "drop from=a sep= match=1"}, of("a", "1"), -1, []api.Labels{nil, nil}},
	} {
		rules := read(t, x.texts...)
		checkOutcome(t, checkList(t, rules), x.l, outcome{x.steps, x.index, api.OK})
		check(t, rules, x.l)
	}
}

// P13.2: the first rule that fails is told with its error, there are no steps, and no rule behind it matters.
func TestFails(t *testing.T) {
	const (
		double = "replace from=a sep= match=(.*) to=a with=$1$1"
		joined = "lowercase from=a,a sep= to=b"
		more   = "replace from= sep= match= to=more with=1"
		less   = "labeldrop match=k000"
		drop   = "drop from= sep= match="
		keep   = "keep from= sep= match="
	)
	long := of("a", strings.Repeat("x", 600))
	for _, x := range []struct {
		texts []string
		l     api.Labels
		index int
		e     api.Errno
	}{
		{[]string{double}, long, 0, api.ErrLong},
		{[]string{joined}, long, 0, api.ErrLong},
		{[]string{more}, many(64), 0, api.ErrMany},
		{[]string{keep, keep, double, keep}, long, 2, api.ErrLong},
		{[]string{keep, keep, keep, more}, many(64), 3, api.ErrMany},
		{[]string{keep, double, drop}, long, 1, api.ErrLong},
		{[]string{keep, more, joined, double}, append(of("a", long[0].Value), many(63)...), 1, api.ErrMany},
		{[]string{joined, more, double}, append(of("a", long[0].Value), many(63)...), 0, api.ErrLong},
		{[]string{double, double, double, double}, of("a", strings.Repeat("x", 129)), 2, api.ErrLong},
		{[]string{double, joined}, of("a", strings.Repeat("x", 257)), 1, api.ErrLong},
		{[]string{joined, joined, joined, double, joined}, of("a", strings.Repeat("x", 512)), 4, api.ErrLong},
		{slices.Concat(slices.Repeat([]string{keep}, 19), []string{joined}), long, 19, api.ErrLong},
		// A rule that would fail, behind one that drops the labels, or takes away what it would fail with.
		{[]string{drop, double}, long, 0, api.OK},
		{[]string{keep, drop, more}, many(64), 1, api.OK},
		{[]string{less, more}, many(64), -1, api.OK},
		{[]string{"labeldrop match=a", joined, double}, long, -1, api.OK},
		{[]string{less, more, "labelmap match=more with=most", joined}, many(64), 2, api.ErrMany},
	} {
		if o := check(t, read(t, x.texts...), x.l); o.index != x.index || o.e != x.e {
			t.Errorf("%q of %s: %s, not %d %d", x.texts, shown(x.l), shown(o), x.index, x.e)
		}
	}
}

// R1 and Limits: the most rules, with patterns of more than 800 instructions, and the most labels, as long as they can be.
func TestLongest(t *testing.T) {
	var l api.Labels
	for i := range 64 {
		l = append(l, api.Label{Name: fmt.Sprintf("%s%02d", strings.Repeat("k", 126), i), Value: strings.Repeat("x", 1024)})
	}
	sources := strings.Repeat(l[0].Name+",", 7) + l[1].Name
	rules := read(t, slices.Repeat([]string{"drop from=" + sources + " sep=---------------- match=((x|-){1,130})*none", "labeldrop match=(k{1,200}|l){1,2}"}, 10)...)
	want := slices.Repeat([]api.Labels{l}, 20)
	checkOutcome(t, checkList(t, rules), l, outcome{want, -1, api.OK})
	rules[19] = read(t, "drop from="+sources+" sep=---------------- match=((x|-){1,130})*")[0]
	checkOutcome(t, checkList(t, rules), l, outcome{want[:19], 19, api.OK})
}

// wrongLabels are labels that are not right.
func wrongLabels() []api.Labels {
	return []api.Labels{of("a", ""), of("b", "1", "a", "1"), of("a", "1", "a", "2"), of("1", "1"), of("", "1"), of("a", "\xff"), of("a", strings.Repeat("x", 1025)), of("a-", "x"), of("a", "1", "b", "\x80"), many(65)}
}

// checkWrong holds Apply and Steps against an error that is of no rule.
func checkWrong(t *testing.T, x *Relabel, l api.Labels, wrong api.Errno) {
	t.Helper()
	if got, i, e := x.Apply(l); len(got) > 0 || i != -1 || e != wrong {
		t.Errorf("Apply of %s: %s %d %d, not %d", shown(l), shown(got), i, e, wrong)
	}
	if steps, i, e := x.Steps(l); len(steps) > 0 || i != -1 || e != wrong {
		t.Errorf("Steps of %s: %s %d %d, not %d", shown(l), shown(steps), i, e, wrong)
	}
}

// P13.2 and R7: labels that are not right, whatever the rules would do with them.
func TestWrongLabels(t *testing.T) {
	for _, texts := range [][]string{nil, {"keep from= sep= match="}, {"drop from= sep= match="}, {"keep from= sep= match=", "drop from= sep= match="}, {"labeldrop match=.*"}, {"labelkeep match="}, {"replace from= sep= match= to=a with=1"}, {"lowercase from=a,a sep= to=a"}, {"hashmod from= sep= to=more mod=3"}} {
		rules := read(t, texts...)
		x := made(t, rules)
		for _, l := range wrongLabels() {
			checkWrong(t, x, l, label.ErrLabels)
		}
		// They change nothing for those that are right.
		for _, l := range []api.Labels{nil, of("a", "1"), of("a", strings.Repeat("x", 1024)), many(64)} {
			checkOutcome(t, x, l, outcomeOf(rules, l))
		}
	}
}

// P13.2, R2 and R8: what is no Relabel.
func TestNone(t *testing.T) {
	for _, x := range []*Relabel{nil, {}, new(Relabel)} {
		for range 2 {
			if l := x.Rules(); len(l) > 0 {
				t.Errorf("the rules %s", shown(l))
			}
			for _, l := range append(wrongLabels(), nil, api.Labels{}, of("a", "1"), many(64)) {
				checkWrong(t, x, l, api.ErrNil)
			}
		}
	}
	// One without rules is one.
	for _, l := range [][]Rule{nil, {}} {
		checkOutcome(t, made(t, l), of("a", "1"), outcome{index: -1})
	}
}

// anyOf returns one of some things.
func anyOf[E any](r *rand.Rand, l []E) E { return l[r.Intn(len(l))] }

// anyRules returns at most k right rules.
func anyRules(t *testing.T, r *rand.Rand, k int) []Rule {
	t.Helper()
	names, values := []string{"a", "b", "ab", "x", "__a"}, []string{"a", "b", ".*", "(a|b)*", "[^b]*", "x?", "", ".{0,3}"}
	var texts []string
	for range r.Intn(k + 1) {
		from := " from=" + anyOf(r, names) + anyOf(r, []string{"", ",a", ",b,x"}) + " sep=" + anyOf(r, []string{"", "", "b", "%20"})
		to, match := " to="+anyOf(r, names), " match=("+anyOf(r, values)+")"
		switch r.Intn(12) {
		case 0:
			texts = append(texts, "keep"+from+" match="+anyOf(r, values)+".*")
		case 1:
			texts = append(texts, "drop"+from+match)
		case 2:
			texts = append(texts, "hashmod"+from+to+" mod="+anyOf(r, []string{"1", "3", "2147483648"}))
		case 3:
			texts = append(texts, "labelmap"+match+" with="+anyOf(r, []string{"$1", "b$1", "${1}_", "-", "$1$1$1"}))
		case 4:
			texts = append(texts, "labeldrop"+match)
		case 5:
			texts = append(texts, "labelkeep match=("+anyOf(r, values)+".?|a|x|__a)")
		case 6:
			texts = append(texts, "lowercase"+from+to)
		case 7:
			texts = append(texts, "uppercase"+from+to)
		case 8:
			texts = append(texts, "replace"+from+" match=(.*)"+to+" with="+strings.Repeat("$1", anyOf(r, []int{2, 20, 300})))
		default:
			texts = append(texts, "replace"+from+" match=.*("+anyOf(r, values)+")"+anyOf(r, []string{to, " to=$1", " to=_${1}"})+" with="+anyOf(r, []string{"$1", "$0", "a", "", "$1%20$1", "b$0"}))
		}
	}
	return read(t, texts...)
}

// anyLabels returns labels that are right.
func anyLabels(r *rand.Rand) api.Labels {
	var l api.Labels
	for _, name := range []string{"__a", "a", "ab", "b", "x"} {
		if r.Intn(3) > 0 {
			l = append(l, api.Label{Name: name, Value: strings.Repeat(anyOf(r, []string{"a", "b", "A", "é", "ab", "-"}), anyOf(r, []int{1, 1, 2, 3, 30}))})
		}
	}
	if r.Intn(4) == 0 {
		l = append(l[:len(l):len(l)], api.Label{Name: "z", Value: "1"})
	}
	return l
}

// P13.1 to P13.3: many lists and labels, against the chapter.
func TestAgainstDefinition(t *testing.T) {
	r := rand.New(rand.NewSource(131))
	kept, dropped, failed := 0, map[int]int{}, map[int]int{}
	for range 8000 {
		rules, l := anyRules(t, r, 8), anyLabels(r)
		switch o := check(t, rules, l); {
		case o.e != api.OK:
			failed[o.index]++
		case o.index >= 0:
			dropped[o.index]++
		default:
			kept++
		}
		checkConsequences(t, rules, l)
	}
	if kept < 2000 {
		t.Error("only", kept, "are kept")
	}
	for i := range 6 {
		if dropped[i] < 20 || failed[i] < 20 {
			t.Error("too few of one sort:", dropped, failed)
		}
	}
}

// checkConsequences holds lists of right rules against P13.3.
func checkConsequences(t *testing.T, rules []Rule, l api.Labels) {
	t.Helper()
	want, index, wrong := made(t, rules).Apply(l)
	for k := range len(rules) + 1 {
		first, rest := made(t, rules[:k]), made(t, rules[k:])
		got, i, e := first.Apply(l)
		if i == -1 && e == api.OK {
			if got, i, e = rest.Apply(got); i >= 0 {
				i += k
			}
		}
		if !slices.Equal(got, want) || i != index || e != wrong {
			t.Fatalf("%s of %s, with %d rules first: %s %d %d, not %s %d %d", shown(rules), shown(l), k, shown(got), i, e, shown(want), index, wrong)
		}
	}
	if index < 0 {
		return
	}
	for _, behind := range [][]Rule{nil, read(t, "drop from= sep= match="), read(t, "replace from= sep= match= to=a with=1", "keep from= sep= match=")} {
		x := made(t, append(slices.Clone(rules[:index+1]), behind...))
		if got, i, e := x.Apply(l); len(got) > 0 || i != index || e != wrong {
			t.Fatalf("%s of %s: %s %d %d, not %d %d", shown(x.Rules()), shown(l), shown(got), i, e, index, wrong)
		}
	}
}

// R3 and R4: rules and labels stay as they are, so does what lies behind their ends, and a Relabel answers the same again, whatever it was asked before.
func TestArgumentsStay(t *testing.T) {
	r := rand.New(rand.NewSource(132))
	for range 2000 {
		rules, l := append(anyRules(t, r, 6), Rule{Pattern: "("}), append(anyLabels(r), api.Label{Name: "behind", Value: "\xff"}, api.Label{Name: "1"})
		labels, texts := slices.Clone(l), shown(rules)
		short, right := l[:len(l)-2], rules[:len(rules)-1]
		x, want := checkList(t, right), outcomeOf(right, short)
		for range 2 {
			checkOutcome(t, x, short, want)
			for _, other := range []api.Labels{nil, of("a", ""), of("a", strings.Repeat("a", 1024))} {
				x.Apply(other)
				x.Steps(other)
			}
		}
		if !slices.Equal(l, labels) || shown(rules) != texts {
			t.Fatalf("%s and %s are not %s and %s any more", shown(l), shown(rules), shown(labels), texts)
		}
	}
}

// R3: nothing is kept of a list, and nothing is shared with a Relabel.
func TestRulesAreNotKept(t *testing.T) {
	text := []byte("ab;(.*)x$1")
	part := func(from, to int) string { return unsafe.String(&text[from], to-from) }
	names := []string{part(0, 1), part(1, 2)}
	rules := []Rule{{Action: rule.Replace, Sources: names, Separator: part(2, 3), Pattern: part(3, 7), Target: part(7, 8), Replacement: part(8, 10)}, {Action: rule.LabelDrop, Pattern: part(0, 1)}}
	want := read(t, "replace from=a,b sep=; match=(.*) to=x with=$1", "labeldrop match=a")
	x := checkList(t, rules)
	copy(text, "----------")
	names[0], names[1] = "c", "d"
	rules[0], rules[1] = Rule{}, Rule{Action: rule.LabelKeep}
	for range 2 {
		l := x.Rules()
		if !same(l, want) {
			t.Fatalf("the rules are %s", shown(l))
		}
		checkOutcome(t, x, of("a", "1", "b", "2"), outcome{[]api.Labels{of("a", "1", "b", "2", "x", "1;2"), of("b", "2", "x", "1;2")}, -1, api.OK})
		sources := l[0].Sources[:cap(l[0].Sources)]
		for i := range sources {
			sources[i] = "none"
		}
		l = l[:cap(l)]
		for i := range l {
			l[i] = Rule{}
		}
	}
}

// A memory knows which bytes of strings were met already.
type memory map[uintptr]bool

// take fails if a byte of some strings was met already.
func (m memory) take(t *testing.T, what string, l ...string) {
	t.Helper()
	for _, s := range l {
		for i := range len(s) {
			at := uintptr(unsafe.Pointer(unsafe.StringData(s))) + uintptr(i)
			if m[at] {
				t.Fatalf("%s: %q has memory of an argument, or of another result", what, s)
			}
			m[at] = true
		}
	}
}

// takeLabels fails if a byte of labels was met already.
func (m memory) takeLabels(t *testing.T, what string, l api.Labels) {
	t.Helper()
	for _, x := range l {
		m.take(t, what, x.Name, x.Value)
	}
}

// R3: strings of results have memory of their own.
func TestStringsAreNew(t *testing.T) {
	var hold []any
	m := memory{}
	l := of("aa", "first", "bb", "second", "cc", "third")
	m.takeLabels(t, "the labels", l)
	for _, rules := range [][]Rule{nil, read(t, "replace from=aa,bb sep=;; match=(.*) to=dd with=$1$1", "keep from=aa sep=-- match=first", "labelmap match=(aa) with=${1}_", "labeldrop match=none", "labelkeep match=.*")} {
		x := made(t, rules)
		for _, r := range rules {
			m.take(t, "a rule", append(r.Sources, r.Separator, r.Pattern, r.Target, r.Replacement)...)
		}
		for range 2 {
			again := x.Rules()
			for _, r := range again {
				m.take(t, "Rules", append(r.Sources, r.Separator, r.Pattern, r.Target, r.Replacement)...)
			}
			got, _, _ := x.Apply(l)
			m.takeLabels(t, "Apply", got)
			steps, _, _ := x.Steps(l)
			for _, one := range steps {
				m.takeLabels(t, "Steps", one)
			}
			if len(got) < 3 || len(steps) != len(rules) || len(again) != len(rules) {
				t.Error(shown(got), shown(steps), shown(again))
			}
			hold = append(hold, again, got, steps, x)
		}
		hold = append(hold, rules)
	}
	if len(hold) != 18 {
		t.Error(len(hold))
	}
}

// wipe writes over all labels that a list has room for.
func wipe(l api.Labels) {
	l = l[:cap(l)]
	for i := range l {
		l[i] = api.Label{Name: "z"}
	}
}

// R3: labels that no rule changes lie in new memory, and so do those of each step.
func TestLabelsAreNew(t *testing.T) {
	keeps := read(t, "keep from= sep= match=", "drop from= sep= match=a", "labelkeep match=.*", "labeldrop match=", "labelmap match= with=")
	for k := range len(keeps) + 1 {
		x := made(t, keeps[:k])
		l := of("a", "1", "b", "2")
		one, _, _ := x.Apply(l)
		wipe(one)
		steps, _, _ := x.Steps(l)
		for i, step := range steps {
			if !slices.Equal(step, of("a", "1", "b", "2")) {
				t.Errorf("the step %d of %d: %v", i, k, step)
			}
			wipe(step)
		}
		if len(steps) != k || !slices.Equal(l, of("a", "1", "b", "2")) {
			t.Errorf("%d: %v", len(steps), l)
		}
		checkOutcome(t, x, l, outcomeOf(keeps[:k], l))
	}
}

// R4: the same Relabel can be used by several goroutines at once.
func TestManyAtOnce(t *testing.T) {
	rules := read(t, "replace from=a,b sep=; match=(.*);(.*) to=c with=$2$1", "labelmap match=(.) with=${1}_", "drop from=a sep= match=.*5", "uppercase from=a,b sep= to=u", "labelkeep match=.|c_")
	x := made(t, rules)
	var all sync.WaitGroup
	for k := range 8 {
		all.Go(func() {
			l := of("a", strconv.Itoa(k), "b", "x")
			want := outcomeOf(rules, l)
			for range 200 {
				got, i, e := x.Apply(l)
				steps, j, f := x.Steps(l)
				if !slices.Equal(got, want.applied(l)) || !sameSteps(steps, want.steps) || i != want.index || j != want.index || e+f != api.OK || !same(x.Rules(), rules) {
					t.Errorf("%v: %v %d %d, %v %d %d, not %v", l, got, i, e, steps, j, f, want)
					return
				}
			}
		})
	}
	all.Wait()
}

// R5: lists that are nil are like empty ones.
func TestEmptyLists(t *testing.T) {
	for _, rules := range [][]Rule{nil, {}, read(t, "keep from= sep= match="), read(t, "drop from= sep= match="), {{Action: rule.Keep, Sources: []string{}}}} {
		for _, l := range []api.Labels{nil, {}} {
			check(t, rules, l)
		}
	}
}
