package label_test

import (
	"fmt"
	"math/rand"
	"regexp"
	"slices"
	"sort"
	"strings"
	"testing"
	"unicode/utf8"
	"unsafe"

	"gauger/api"
	"gauger/label"
)

// What the chapter says of names, of values and of labels, so that the tests do not depend on the package.
var (
	names   = regexp.MustCompile(`\A[a-zA-Z_][a-zA-Z0-9_]{0,127}\z`)
	metrics = regexp.MustCompile(`\A[a-zA-Z_:][a-zA-Z0-9_:]{0,127}\z`)
)

func rightValue(s string) bool { return utf8.ValidString(s) && len(s) <= 1024 }

// checked is what Check returns by the chapter.
func checked(l []api.Label) (int, api.Errno) {
	if len(l) > 64 {
		return -1, api.ErrMany
	}
	for i, x := range l {
		switch {
		case !names.MatchString(x.Name):
			return i, label.ErrName
		case !rightValue(x.Value):
			return i, label.ErrValue
		case x.Value == "", i > 0 && x.Name <= l[i-1].Name:
			return i, label.ErrOrder
		}
	}
	return -1, api.OK
}

func isRight(l []api.Label) bool {
	_, e := checked(l)
	return e == api.OK
}

// firstError is what is wrong with the first of some labels, in any order, that has a wrong name or value.
func firstError(l []api.Label) api.Errno {
	for _, x := range l {
		if !names.MatchString(x.Name) {
			return label.ErrName
		}
		if !rightValue(x.Value) {
			return label.ErrValue
		}
	}
	return api.OK
}

// has reports whether a name is there.
func has(l []api.Label, name string) bool {
	return slices.ContainsFunc(l, func(x api.Label) bool { return x.Name == name })
}

// ordered are labels in order, if they are not too many.
func ordered(l []api.Label) (api.Labels, api.Errno) {
	if len(l) > 64 {
		return nil, api.ErrMany
	}
	l = slices.Clone(l)
	sort.Slice(l, func(i, j int) bool { return l[i].Name < l[j].Name })
	return l, api.OK
}

// made is what Of returns by the chapter.
func made(l []api.Label) (api.Labels, api.Errno) {
	if e := firstError(l); e != api.OK {
		return nil, e
	}
	var left []api.Label
	for i, x := range l {
		if has(l[:i], x.Name) {
			return nil, label.ErrTwice
		}
		if x.Value != "" {
			left = append(left, x)
		}
	}
	return ordered(left)
}

// edited is what Set returns by the chapter: each edit takes the name away, and puts it behind all others.
func edited(l, edits []api.Label) (api.Labels, api.Errno) {
	if !isRight(l) {
		return nil, label.ErrLabels
	}
	if e := firstError(edits); e != api.OK {
		return nil, e
	}
	l = slices.Clone(l)
	for _, x := range edits {
		l = slices.DeleteFunc(l, func(y api.Label) bool { return y.Name == x.Name })
		if x.Value != "" {
			l = append(l, x)
		}
	}
	return ordered(l)
}

// merged is what Merge returns by the chapter.
func merged(a, b []api.Label) (api.Labels, api.Errno) {
	if !isRight(a) || !isRight(b) {
		return nil, label.ErrLabels
	}
	l := slices.Clone(a)
	for _, x := range b {
		if !has(a, x.Name) {
			l = append(l, x)
		}
	}
	return ordered(l)
}

// exported is what Export returns by the chapter.
func exported(target, sample []api.Label) (api.Labels, api.Errno) {
	if !isRight(target) || !isRight(sample) {
		return nil, label.ErrLabels
	}
	l := slices.Clone(target)
	for _, x := range sample {
		name := "exported_" + x.Name
		if !has(target, x.Name) {
			l = append(l, x)
		} else if names.MatchString(name) && !has(target, name) && !has(sample, name) {
			l = append(l, api.Label{Name: name, Value: x.Value})
		}
	}
	return ordered(l)
}

// some are the right labels of which a function says that they stay.
func some(l []api.Label, stays func(name string) bool) (api.Labels, api.Errno) {
	if !isRight(l) {
		return nil, label.ErrLabels
	}
	var left api.Labels
	for _, x := range l {
		if stays(x.Name) {
			left = append(left, x)
		}
	}
	return left, api.OK
}

// compared is what Compare returns by the chapter.
func compared(a, b []api.Label) int {
	for i := range min(len(a), len(b)) {
		if n := strings.Compare(a[i].Name, b[i].Name); n != 0 {
			return n
		}
		if n := strings.Compare(a[i].Value, b[i].Value); n != 0 {
			return n
		}
	}
	switch {
	case len(a) < len(b):
		return -1
	case len(a) > len(b):
		return 1
	}
	return 0
}

// of returns labels: names and values, in turn.
func of(l ...string) api.Labels {
	var out api.Labels
	for i := 0; i < len(l); i += 2 {
		out = append(out, api.Label{Name: l[i], Value: l[i+1]})
	}
	return out
}

// numbered returns n right labels with a prefix and a number; their names have size bytes.
func numbered(prefix string, n, size int) api.Labels {
	var l api.Labels
	for i := range n {
		digits := fmt.Sprintf("%04d", i)
		l = append(l, api.Label{Name: prefix + strings.Repeat("_", size-len(prefix)-4) + digits, Value: digits})
	}
	return l
}

// wrongLabels are labels that are not right, for each reason.
func wrongLabels() []api.Labels {
	return []api.Labels{
		of("", "1"), of("1", "1"), of("a", "1", "b-", "1"), of("a:b", "1"), of(strings.Repeat("n", 129), "1"),
		of("a", "\xff"), of("a", "1", "b", "\xed\xa0\x80"), of("a", strings.Repeat("v", 1025)),
		of("a", ""), of("a", "1", "b", ""), of("b", "1", "a", "1"), of("a", "1", "a", "1"), of("a", "1", "c", "1", "b", "1"),
		numbered("n", 65, 5), make(api.Labels, 65), make(api.Labels, 1),
	}
}

var (
	someNames  = []string{"a", "b", "B", "_", "a1", "ab", "job", "exported_a", "exported_b", "exported_exported_a", strings.Repeat("n", 119), strings.Repeat("n", 120), strings.Repeat("n", 128)}
	wrongNames = []string{"", "1", "a-b", "é", "a:b", "\xff", "a\n", strings.Repeat("n", 129)}
	someValues = []string{"1", "1", "2", "é", "\x00", " ", strings.Repeat("v", 1024)}
	wrongVals  = []string{"\xff", "\xe2\x82", strings.Repeat("v", 1025)}
)

// pick returns one of some strings.
func pick(r *rand.Rand, l []string) string { return l[r.Intn(len(l))] }

// anyLabels returns labels in any order, with names that are there twice and values that are empty; some are wrong.
func anyLabels(r *rand.Rand) []api.Label {
	wrong := r.Intn(3) == 0
	var l []api.Label
	for range r.Intn(7) {
		x := api.Label{Name: pick(r, someNames), Value: pick(r, someValues)}
		switch k := r.Intn(12); {
		case k < 2:
			x.Value = ""
		case wrong && k == 2:
			x.Name = pick(r, wrongNames)
		case wrong && k == 3:
			x.Value = pick(r, wrongVals)
		}
		l = append(l, x)
	}
	return l
}

// rightLabels returns right labels.
func rightLabels(r *rand.Rand) api.Labels {
	var l api.Labels
	for _, name := range someNames {
		if r.Intn(3) == 0 {
			l = append(l, api.Label{Name: name, Value: pick(r, someValues)})
		}
	}
	l, _ = ordered(l)
	return l
}

// nearlyRight returns labels that are right, mostly.
func nearlyRight(r *rand.Rand) api.Labels {
	if r.Intn(6) == 0 {
		return anyLabels(r)
	}
	return rightLabels(r)
}

// same fails unless labels and an error are those that are wanted, and the labels are none with an error.
func same(t *testing.T, what any, got api.Labels, e api.Errno, want api.Labels, wantError api.Errno) {
	t.Helper()
	if !slices.Equal(got, want) || e != wantError || e != api.OK && len(got) != 0 {
		t.Fatalf("%v: %q %d, not %q %d", what, got, e, want, wantError)
	}
}

// The limits and the numbers of errors, as the chapter gives them.
func TestConstants(t *testing.T) {
	if label.MaxName != 128 || label.MaxValue != 1024 || label.MaxLabels != 64 || label.Exported != "exported_" {
		t.Error(label.MaxName, label.MaxValue, label.MaxLabels, label.Exported)
	}
	if l := []api.Errno{label.ErrName, label.ErrValue, label.ErrOrder, label.ErrTwice, label.ErrLabels}; !slices.Equal(l, []api.Errno{40, 41, 42, 43, 44}) {
		t.Error(l)
	}
}

// P4.1: all strings of up to two bytes, and each byte in the middle of others.
func TestBytesOfNames(t *testing.T) {
	try := func(s string) {
		if label.Name(s) != names.MatchString(s) || label.Metric(s) != metrics.MatchString(s) {
			t.Fatalf("%q: %t %t", s, label.Name(s), label.Metric(s))
		}
	}
	try("")
	for a := range 256 {
		first := string([]byte{byte(a)})
		try(first)
		try("job" + first + "job")
		try(strings.Repeat("j", 127) + first)
		try(first + strings.Repeat("j", 127))
		for b := range 256 {
			try(first + string([]byte{byte(b)}))
		}
	}
}

// P4.1: the examples of the chapter, and lengths.
func TestNames(t *testing.T) {
	for _, c := range []struct {
		s            string
		name, metric bool
	}{
		{"job", true, true}, {"__name__", true, true}, {"a1", true, true}, {"_", true, true}, {"1a", false, false}, {"a-b", false, false},
		{"a:b", false, true}, {":", false, true}, {":1", false, true}, {"a:", false, true}, {"1:", false, false}, {"é", false, false},
		{"", false, false}, {"a ", false, false}, {" a", false, false}, {"a\n", false, false}, {"a\x00", false, false}, {"\xff", false, false},
	} {
		if label.Name(c.s) != c.name || label.Metric(c.s) != c.metric {
			t.Errorf("%q: %t %t", c.s, label.Name(c.s), label.Metric(c.s))
		}
	}
	for n := range 300 {
		right := n >= 1 && n <= 128
		if s := strings.Repeat("a", n); label.Name(s) != right || label.Metric(s) != right {
			t.Error(n)
		}
		if s := strings.Repeat(":", n); label.Name(s) || label.Metric(s) != right {
			t.Error(n)
		}
	}
	for _, s := range []string{strings.Repeat("a", 1<<20), strings.Repeat("a", 128) + "\xff", strings.Repeat("a", 127) + "-"} {
		if label.Name(s) || label.Metric(s) {
			t.Errorf("%.200q", s)
		}
	}
}

// P4.1: values are valid UTF-8 of at most 1024 bytes, not code points.
func TestValues(t *testing.T) {
	euros := strings.Repeat("€", 341)
	for i, c := range []struct {
		s    string
		want bool
	}{
		{"", true}, {"\x00", true}, {"a b", true}, {"é", true}, {"\U0010ffff", true}, {"\ufffd", true}, {"\xff", false}, {"a\xff", false},
		{"\xe2\x82", false}, {"\xc0\x80", false}, {"\xed\xa0\x80", false}, {"\xf4\x90\x80\x80", false}, {euros, true}, {euros + "a", true},
		{euros + "é", false}, {"a" + euros, true}, {euros + "\xe2", false}, {strings.Repeat("a", 1023) + "\xff", false}, {strings.Repeat("a", 1<<20), false},
	} {
		if got := label.Value(c.s); got != c.want {
			t.Error(i, got)
		}
	}
	for n := range 2100 {
		if label.Value(strings.Repeat("a", n)) != (n <= 1024) || label.Value(strings.Repeat("é", n)) != (n <= 512) {
			t.Error(n)
		}
	}
	for a := range 256 {
		for b := range 256 {
			if s := string([]byte{byte(a), byte(b)}); label.Value(s) != utf8.ValidString(s) {
				t.Errorf("%q", s)
			}
		}
	}
}

// P4.2: each reason, at the first label that has one; the reasons of one label in their order.
func TestCheck(t *testing.T) {
	long := strings.Repeat("n", 129)
	for i, c := range []struct {
		l  api.Labels
		at int
		e  api.Errno
	}{
		{nil, -1, api.OK}, {of("a", "1"), -1, api.OK}, {of("A", "1", "B", "1", "_", "1", "a", "1", "a0", "1", "aa", "1", "b", "1"), -1, api.OK},
		{of("", "1"), 0, label.ErrName}, {of("a", "1", "1", "1"), 1, label.ErrName}, {of("a:b", "1"), 0, label.ErrName}, {of(long, "1"), 0, label.ErrName},
		{of("a", "\xff"), 0, label.ErrValue}, {of("a", "1", "b", strings.Repeat("v", 1025)), 1, label.ErrValue},
		{of("a", ""), 0, label.ErrOrder}, {of("a", "1", "b", "", "c", ""), 1, label.ErrOrder},
		{of("b", "1", "a", "1"), 1, label.ErrOrder}, {of("a", "1", "a", "1"), 1, label.ErrOrder}, {of("a", "1", "a", "2"), 1, label.ErrOrder},
		{of("a", "1", "A", "1"), 1, label.ErrOrder}, {of("aa", "1", "a", "1"), 1, label.ErrOrder}, {of("a", "1", "c", "1", "b", "1"), 2, label.ErrOrder},
		{of("1", "\xff"), 0, label.ErrName}, {of("1", ""), 0, label.ErrName}, {of("b", "1", "-", "1"), 1, label.ErrName},
		{of("b", "1", "a", "\xff"), 1, label.ErrValue}, {of("a", "", "-", "1"), 0, label.ErrOrder}, {of("a", "\xff", "-", "1"), 0, label.ErrValue},
		{of("b", "1", "a", "1", "-", "\xff"), 1, label.ErrOrder},
		{numbered("n", 64, 128), -1, api.OK}, {numbered("n", 65, 5), -1, api.ErrMany}, {make(api.Labels, 64), 0, label.ErrName}, {make(api.Labels, 65), -1, api.ErrMany},
		{append(numbered("n", 63, 5), of("n", "1")...), 63, label.ErrOrder}, {append(of("", ""), numbered("n", 64, 5)...), -1, api.ErrMany},
	} {
		if at, e := label.Check(c.l); at != c.at || e != c.e || label.Right(c.l) != (c.e == api.OK) {
			t.Error(i, at, e, label.Right(c.l))
		}
	}
}

// P4.2: many labels, right and wrong ones, against the definition.
func TestCheckAgainstDefinition(t *testing.T) {
	r := rand.New(rand.NewSource(42))
	right := 0
	for range 20000 {
		l := nearlyRight(r)
		at, e := label.Check(l)
		if wantAt, want := checked(l); at != wantAt || e != want || label.Right(l) != (want == api.OK) {
			t.Fatalf("%q: %d %d, not %d %d", l, at, e, wantAt, want)
		}
		if e == api.OK {
			right++
		}
	}
	if right < 5000 || right > 19000 {
		t.Error("too few labels of one sort: right of 20000 are", right)
	}
}

// P4.3: labels in any order, errors in theirs.
func TestOf(t *testing.T) {
	many := numbered("n", 64, 5)
	for i, c := range []struct {
		l    []api.Label
		want api.Labels
		e    api.Errno
	}{
		{nil, nil, api.OK}, {of("job", "x", "a", "1", "b", ""), of("a", "1", "job", "x"), api.OK}, {of("a", ""), nil, api.OK},
		{of("b", "1", "_", "2", "B", "3", "a", "4", "aa", "5", "a0", "6"), of("B", "3", "_", "2", "a", "4", "a0", "6", "aa", "5", "b", "1"), api.OK},
		{of("a", "1", "a", ""), nil, label.ErrTwice}, {of("a", "", "a", "1"), nil, label.ErrTwice}, {of("a", "", "a", ""), nil, label.ErrTwice},
		{of("a", "1", "b", "1", "a", "1"), nil, label.ErrTwice}, {of("1", "1"), nil, label.ErrName}, {of("1", ""), nil, label.ErrName}, {of("", ""), nil, label.ErrName},
		{of("a", "\xff"), nil, label.ErrValue}, {of("1", "\xff"), nil, label.ErrName}, {of("a", "\xff", "1", "1"), nil, label.ErrValue},
		{of("1", "1", "a", "\xff"), nil, label.ErrName}, {of("a", "1", "a", "1", "b", "\xff"), nil, label.ErrValue}, {of("a", "1", "a", "1", "-", "1"), nil, label.ErrName},
		{many, many, api.OK}, {append(of("m", ""), many...), many, api.OK}, {append(of("m", "1"), many...), nil, api.ErrMany},
		{append(slices.Clone(many), many[0]), nil, label.ErrTwice}, {append(numbered("n", 70, 5), of("-", "")...), nil, label.ErrName},
		{append(numbered("n", 70, 5), of("a", "\xff")...), nil, label.ErrValue}, {append(numbered("n", 70, 5), of("n0069", "")...), nil, label.ErrTwice},
	} {
		got, e := label.Of(c.l)
		same(t, i, got, e, c.want, c.e)
	}
	// Empty ones are not counted, however many there are.
	empty := numbered("e", 3000, 5)
	for i := range empty {
		empty[i].Value = ""
	}
	got, e := label.Of(append(empty, many...))
	same(t, "empty", got, e, many, api.OK)
}

// P4.3: many labels against the definition.
func TestOfAgainstDefinition(t *testing.T) {
	r := rand.New(rand.NewSource(43))
	for range 20000 {
		l := anyLabels(r)
		got, e := label.Of(l)
		want, wantError := made(l)
		same(t, l, got, e, want, wantError)
	}
}

// P4.4: the first label counts, of right labels and of others.
func TestGet(t *testing.T) {
	for i, c := range []struct {
		l          api.Labels
		name, want string
	}{
		{of("a", "1", "job", "x"), "a", "1"}, {of("a", "1", "job", "x"), "job", "x"}, {of("a", "1"), "b", ""}, {of("a", "1"), "", ""}, {of("a", "1"), "A", ""},
		{of("ab", "1"), "a", ""}, {of("a", "1"), "ab", ""}, {nil, "a", ""}, {nil, "", ""}, {of("b", "1", "b", "2"), "b", "1"}, {of("b", "", "b", "2"), "b", ""},
		{of("z", "1", "a", "2"), "a", "2"}, {of("", "1"), "", "1"}, {of("\xff", "\xfe"), "\xff", "\xfe"}, {append(make(api.Labels, 100), of("a", "1")...), "a", "1"},
	} {
		if got := label.Get(c.l, c.name); got != c.want {
			t.Errorf("%d: %q", i, got)
		}
	}
}

// P4.4: edits, one after the other, and errors.
func TestSet(t *testing.T) {
	l := of("a", "1", "job", "x")
	for i, c := range []struct {
		edits []api.Label
		want  api.Labels
		e     api.Errno
	}{
		{nil, l, api.OK}, {of("a", "", "c", "2"), of("c", "2", "job", "x"), api.OK}, {of("a", "2"), of("a", "2", "job", "x"), api.OK},
		{of("z", "", "Z", "0"), of("Z", "0", "a", "1", "job", "x"), api.OK}, {of("a", "2", "a", "3"), of("a", "3", "job", "x"), api.OK},
		{of("a", "", "a", "5"), of("a", "5", "job", "x"), api.OK}, {of("a", "5", "a", ""), of("job", "x"), api.OK}, {of("b", "5", "b", ""), l, api.OK},
		{of("a", "", "job", ""), nil, api.OK}, {of("-", ""), nil, label.ErrName}, {of("a", "\xff"), nil, label.ErrValue}, {of("-", "\xff"), nil, label.ErrName},
		{of("b", "1", "-", "1", "c", "\xff"), nil, label.ErrName}, {of("b", "\xff", "-", "1"), nil, label.ErrValue}, {of("a", "1", "", ""), nil, label.ErrName},
		{of("a:b", "1"), nil, label.ErrName},
	} {
		got, e := label.Set(l, c.edits...)
		same(t, i, got, e, c.want, c.e)
	}
}

// P4.4: what there is at the end is counted, and behind all other errors.
func TestSetMany(t *testing.T) {
	many := numbered("n", 64, 5)
	for i, c := range []struct {
		l     api.Labels
		edits []api.Label
		e     api.Errno
	}{
		{many, nil, api.OK}, {many, of("n0000", "7"), api.OK}, {many, of("z", "1"), api.ErrMany}, {many, of("z", "1", "n0000", ""), api.OK}, {many, of("z", "1", "z", ""), api.OK},
		{many, of("n0000", "", "y", "1", "z", "1"), api.ErrMany}, {many, of("z", "1", "-", "1"), label.ErrName}, {many, of("z", "1", "a", "\xff"), label.ErrValue},
		{nil, many, api.OK}, {nil, numbered("n", 65, 5), api.ErrMany}, {nil, append(numbered("n", 65, 5), of("n0003", "")...), api.OK},
		{numbered("n", 65, 5), of("n0000", ""), label.ErrLabels}, {of("b", "1", "a", "1"), of("-", "\xff"), label.ErrLabels},
	} {
		want, wantError := edited(c.l, c.edits)
		if wantError != c.e {
			t.Fatal("the definition:", i, wantError)
		}
		got, e := label.Set(c.l, c.edits...)
		same(t, i, got, e, want, c.e)
	}
}

// P4.4: many edits against the definition.
func TestSetAgainstDefinition(t *testing.T) {
	r := rand.New(rand.NewSource(44))
	for range 20000 {
		l, edits := nearlyRight(r), anyLabels(r)
		got, e := label.Set(l, edits...)
		want, wantError := edited(l, edits)
		same(t, []any{l, edits}, got, e, want, wantError)
	}
}

// P4.5: of a name that is in both the value of the first; how many there are together.
func TestMerge(t *testing.T) {
	many := numbered("n", 64, 5)
	for i, c := range []struct {
		a, b api.Labels
		want api.Labels
		e    api.Errno
	}{
		{of("a", "1"), of("a", "2", "b", "3"), of("a", "1", "b", "3"), api.OK}, {of("a", "2", "b", "3"), of("a", "1"), of("a", "2", "b", "3"), api.OK},
		{of("b", "1"), of("A", "2", "c", "3"), of("A", "2", "b", "1", "c", "3"), api.OK}, {nil, nil, nil, api.OK}, {of("a", "1"), nil, of("a", "1"), api.OK}, {nil, of("a", "1"), of("a", "1"), api.OK},
		{many, many, many, api.OK}, {many[:40], many[30:], many, api.OK}, {many, of("z", "1"), nil, api.ErrMany}, {of("z", "1"), many, nil, api.ErrMany},
		{many, of("n0007", "other"), many, api.OK}, {many, of("b", "1", "a", "1"), nil, label.ErrLabels}, {numbered("n", 65, 5), of("z", "1"), nil, label.ErrLabels},
	} {
		got, e := label.Merge(c.a, c.b)
		same(t, i, got, e, c.want, c.e)
	}
	r := rand.New(rand.NewSource(45))
	for range 20000 {
		a, b := nearlyRight(r), nearlyRight(r)
		got, e := label.Merge(a, b)
		want, wantError := merged(a, b)
		same(t, []any{a, b}, got, e, want, wantError)
	}
}

// P4.5: names and prefixes may be anything.
func TestParts(t *testing.T) {
	l := of("B", "0", "__meta_x", "1", "__name__", "up", "a", "2", "ab", "3", "job", "x")
	lists := [][]string{nil, {""}, {"a"}, {"b", "a", "a"}, {"none", "\xff", "1", "", "job"}, {"A", "b"}, {"a", "B", "__name__", "__meta_x", "ab", "job"}, {strings.Repeat("n", 5000), "a"}}
	for _, list := range lists {
		got, e := label.Keep(l, list...)
		want, wantError := some(l, func(name string) bool { return slices.Contains(list, name) })
		same(t, list, got, e, want, wantError)
		got, e = label.Drop(l, list...)
		want, wantError = some(l, func(name string) bool { return !slices.Contains(list, name) })
		same(t, list, got, e, want, wantError)
	}
	for _, c := range []struct {
		prefix string
		want   api.Labels
	}{
		{"", nil}, {"_", append(of("B", "0"), l[3:]...)}, {"__", append(of("B", "0"), l[3:]...)}, {"__meta_", append(of("B", "0"), l[2:]...)},
		{"a", of("B", "0", "__meta_x", "1", "__name__", "up", "job", "x")}, {"ab", append(slices.Clone(l[:4]), l[5])}, {"abc", l}, {"b", l}, {"B", l[1:]}, {"\xff", l}, {"ob", l},
		{"job", l[:5]}, {strings.Repeat("n", 5000), l},
	} {
		got, e := label.Without(l, c.prefix)
		same(t, c.prefix, got, e, c.want, api.OK)
	}
	got, e := label.Drop(of("a", "1", "b", "2"), "b")
	same(t, "drop", got, e, of("a", "1"), api.OK)
}

// P4.5: many labels, names and prefixes against the definition.
func TestPartsAgainstDefinition(t *testing.T) {
	r := rand.New(rand.NewSource(46))
	for range 10000 {
		l := nearlyRight(r)
		var list []string
		for range r.Intn(6) {
			list = append(list, pick(r, append(wrongNames, someNames...)))
		}
		prefix := pick(r, append(wrongNames, someNames...))
		prefix = prefix[:r.Intn(len(prefix)+1)]
		kept, e := label.Keep(l, list...)
		want, wantError := some(l, func(name string) bool { return slices.Contains(list, name) })
		same(t, []any{l, list}, kept, e, want, wantError)
		dropped, e := label.Drop(l, list...)
		want, wantError = some(l, func(name string) bool { return !slices.Contains(list, name) })
		same(t, []any{l, list}, dropped, e, want, wantError)
		without, e := label.Without(l, prefix)
		want, wantError = some(l, func(name string) bool { return !strings.HasPrefix(name, prefix) })
		same(t, []any{l, prefix}, without, e, want, wantError)
	}
}

// P4.6: new names that are taken, by either, or too long; labels with the same value too get one.
func TestExport(t *testing.T) {
	n119, n120 := strings.Repeat("n", 119), strings.Repeat("n", 120)
	for i, c := range []struct{ target, sample, want api.Labels }{
		{nil, nil, nil}, {nil, of("a", "1"), of("a", "1")}, {of("a", "1"), nil, of("a", "1")}, {of("b", "1"), of("a", "1", "c", "2"), of("a", "1", "b", "1", "c", "2")},
		{of("job", "t"), of("job", "s", "x", "1"), of("exported_job", "s", "job", "t", "x", "1")},
		{of("job", "t"), of("job", "t"), of("exported_job", "t", "job", "t")},
		{of("job", "t"), of("exported_job", "u", "job", "s", "x", "1"), of("exported_job", "u", "job", "t", "x", "1")},
		{of("exported_job", "v", "job", "t"), of("job", "s"), of("exported_job", "v", "job", "t")},
		{of("exported_job", "v", "job", "t"), of("exported_job", "u", "job", "s"), of("exported_exported_job", "u", "exported_job", "v", "job", "t")},
		{of("exported_job", "v", "job", "t"), of("exported_exported_job", "w", "exported_job", "u", "job", "s"), of("exported_exported_job", "w", "exported_job", "v", "job", "t")},
		{of("exported_job", "v"), of("exported_job", "u", "job", "s"), of("exported_exported_job", "u", "exported_job", "v", "job", "s")},
		{of(n119, "1"), of(n119, "2"), of("exported_"+n119, "2", n119, "1")}, {of(n120, "1"), of(n120, "2"), of(n120, "1")},
	} {
		got, e := label.Export(c.target, c.sample)
		same(t, i, got, e, c.want, api.OK)
	}
}

// P4.6: how many there are together, with the new ones; labels that are not right are so first.
func TestExportMany(t *testing.T) {
	many, long := numbered("n", 64, 5), numbered("n", 64, 128)
	for i, c := range []struct {
		target, sample api.Labels
		n              int
		e              api.Errno
	}{
		{many, nil, 64, api.OK}, {nil, many, 64, api.OK}, {many[:32], many[:32], 64, api.OK}, {many[:32], many[:33], 0, api.ErrMany}, {many[:33], many[:32], 0, api.ErrMany},
		{many, many[:1], 0, api.ErrMany}, {many[:1], many, 0, api.ErrMany}, {many[:63], many[:1], 64, api.OK}, {many, of("z", "1"), 0, api.ErrMany}, {long, long, 64, api.OK},
		{long, of("z", "1"), 0, api.ErrMany}, {append(of("exported_n0000", "1"), many[:63]...), many[:1], 64, api.OK},
		{numbered("n", 65, 5), many, 0, label.ErrLabels}, {many, numbered("n", 65, 5), 0, label.ErrLabels}, {many, of("z", ""), 0, label.ErrLabels},
	} {
		got, e := label.Export(c.target, c.sample)
		want, wantError := exported(c.target, c.sample)
		same(t, i, got, e, want, wantError)
		if len(got) != c.n || e != c.e {
			t.Error(i, len(got), e)
		}
	}
}

// P4.6: many labels against the definition.
func TestExportAgainstDefinition(t *testing.T) {
	r := rand.New(rand.NewSource(47))
	for range 20000 {
		target, sample := nearlyRight(r), nearlyRight(r)
		got, e := label.Export(target, sample)
		want, wantError := exported(target, sample)
		same(t, []any{target, sample}, got, e, want, wantError)
	}
}

// P4.7: names go before values, and labels are not put in order first.
func TestCompare(t *testing.T) {
	for i, c := range []struct {
		a, b api.Labels
		want int
	}{
		{nil, nil, 0}, {nil, of("a", "1"), -1}, {nil, of("", ""), -1}, {of("a", "1"), of("a", "1"), 0}, {of("a", "1"), of("a", "1", "b", "2"), -1},
		{of("a", "2"), of("a", "1", "b", "2"), 1}, {of("a", "2"), of("b", "1"), -1}, {of("a", "b1"), of("ab", "1"), -1}, {of("a", "1"), of("a", "10"), -1},
		{of("a", "9"), of("a", "10"), 1}, {of("B", "1"), of("a", "1"), -1}, {of("a", "é"), of("a", "z"), 1}, {of("a", "\xff"), of("a", "é"), 1}, {of("a", ""), of("a", "\x00"), -1},
		{of("b", "1", "a", "1"), of("a", "1", "b", "1"), 1}, {of("a", "1", "a", "1"), of("a", "1", "a", "2"), -1}, {of("a", "1", "b", "2", "c", "3"), of("a", "1", "b", "2"), 1},
		{make(api.Labels, 100), make(api.Labels, 101), -1},
	} {
		if got := label.Compare(c.a, c.b); got != c.want || label.Compare(c.b, c.a) != -c.want {
			t.Error(i, got, label.Compare(c.b, c.a))
		}
	}
}

// P4.7: many labels, right and wrong ones, against the definition; what is sorted by it is in order, each with each.
func TestCompareAgainstDefinition(t *testing.T) {
	r := rand.New(rand.NewSource(48))
	l := []api.Labels{nil}
	for range 300 {
		l = append(l, nearlyRight(r), anyLabels(r))
	}
	for _, a := range l {
		for _, b := range l {
			if got := label.Compare(a, b); got != compared(a, b) || (got == 0) != slices.Equal(a, b) {
				t.Fatalf("%q %q: %d", a, b, got)
			}
		}
	}
	slices.SortFunc(l, label.Compare)
	for i, a := range l {
		for _, b := range l[i:] {
			if label.Compare(a, b) > 0 {
				t.Fatalf("%q before %q", a, b)
			}
		}
	}
}

// P4.8: what is returned is right, whatever it is made of.
func TestResultsAreRight(t *testing.T) {
	r := rand.New(rand.NewSource(49))
	for range 10000 {
		l, a, b := anyLabels(r), nearlyRight(r), nearlyRight(r)
		results := []func() (api.Labels, api.Errno){
			func() (api.Labels, api.Errno) { return label.Of(l) },
			func() (api.Labels, api.Errno) { return label.Set(a, l...) },
			func() (api.Labels, api.Errno) { return label.Merge(a, b) },
			func() (api.Labels, api.Errno) { return label.Export(a, b) },
			func() (api.Labels, api.Errno) { return label.Keep(a, pick(r, someNames)) },
			func() (api.Labels, api.Errno) { return label.Drop(a, pick(r, someNames)) },
			func() (api.Labels, api.Errno) { return label.Without(a, "a") },
		}
		for i, result := range results {
			got, e := result()
			if at, f := label.Check(got); at != -1 || f != api.OK || !isRight(got) || e != api.OK && len(got) != 0 {
				t.Fatalf("%d: %q %q %q: %q %d", i, l, a, b, got, e)
			}
		}
	}
}

// P4.8: the order of labels does not matter to Of.
func TestOrderDoesNotMatter(t *testing.T) {
	r := rand.New(rand.NewSource(50))
	for range 5000 {
		l := rightLabels(r)
		shuffled := append(slices.Clone(l), of("empty", "", "none", "")...)
		r.Shuffle(len(shuffled), func(i, j int) { shuffled[i], shuffled[j] = shuffled[j], shuffled[i] })
		got, e := label.Of(shuffled)
		same(t, shuffled, got, e, l, api.OK)
	}
}

// P4.8: what is set is got, all other names keep their values, and setting a name again forgets what it was before.
func TestSetIsGot(t *testing.T) {
	r := rand.New(rand.NewSource(51))
	for range 5000 {
		l, name := rightLabels(r), pick(r, someNames)
		first, second := api.Label{Name: name, Value: pick(r, someValues)}, api.Label{Name: name, Value: pick(r, append(someValues, ""))}
		once, e := label.Set(l, first)
		again, f := label.Set(once, second)
		only, g := label.Set(l, second)
		if e != api.OK || f != api.OK || g != api.OK || label.Get(once, name) != first.Value || label.Get(again, name) != second.Value || !slices.Equal(again, only) {
			t.Fatalf("%q %q %q: %q %q %q", l, first, second, once, again, only)
		}
		for _, other := range someNames {
			if other != name && label.Get(once, other) != label.Get(l, other) {
				t.Fatalf("%q %q: %q", l, first, once)
			}
		}
	}
}

// P4.8: merging is setting; what is kept and what is dropped are all labels together.
func TestPartsAreAll(t *testing.T) {
	r := rand.New(rand.NewSource(52))
	for range 5000 {
		a, b := rightLabels(r), rightLabels(r)
		got, e := label.Merge(a, b)
		want, f := label.Set(b, a...)
		same(t, []any{a, b}, got, e, want, f)
		list := []string{pick(r, someNames), pick(r, wrongNames), pick(r, someNames)}
		kept, e := label.Keep(a, list...)
		dropped, f := label.Drop(a, list...)
		all, g := label.Merge(kept, dropped)
		if !slices.Equal(all, a) || len(kept)+len(dropped) != len(a) || e != api.OK || f != api.OK || g != api.OK {
			t.Fatalf("%q %q: %q and %q", a, list, kept, dropped)
		}
	}
}

// R2 and R7: labels that are not right are so first, whatever else there is, in each place.
func TestWrongLabels(t *testing.T) {
	right, edits := of("a", "1", "b", "2"), of("-", "\xff")
	for _, l := range wrongLabels() {
		results := []func() (api.Labels, api.Errno){
			func() (api.Labels, api.Errno) { return label.Set(l) },
			func() (api.Labels, api.Errno) { return label.Set(l, edits...) },
			func() (api.Labels, api.Errno) { return label.Merge(l, nil) },
			func() (api.Labels, api.Errno) { return label.Merge(nil, l) },
			func() (api.Labels, api.Errno) { return label.Merge(l, right) },
			func() (api.Labels, api.Errno) { return label.Merge(numbered("m", 64, 5), l) },
			func() (api.Labels, api.Errno) { return label.Export(l, nil) },
			func() (api.Labels, api.Errno) { return label.Export(nil, l) },
			func() (api.Labels, api.Errno) { return label.Export(right, l) },
			func() (api.Labels, api.Errno) { return label.Export(l, numbered("m", 64, 5)) },
			func() (api.Labels, api.Errno) { return label.Keep(l) },
			func() (api.Labels, api.Errno) { return label.Keep(l, "a") },
			func() (api.Labels, api.Errno) { return label.Drop(l) },
			func() (api.Labels, api.Errno) { return label.Drop(l, "a") },
			func() (api.Labels, api.Errno) { return label.Without(l, "") },
			func() (api.Labels, api.Errno) { return label.Without(l, "x") },
		}
		for i, result := range results {
			got, e := result()
			same(t, []any{i, l}, got, e, nil, label.ErrLabels)
		}
		if label.Right(l) {
			t.Errorf("%q", l)
		}
	}
}

// wholes are calls that return all of the labels first, second and third, or a beginning of them.
func wholes(l api.Labels) []func() (api.Labels, api.Errno) {
	return []func() (api.Labels, api.Errno){
		func() (api.Labels, api.Errno) { return label.Of(l) },
		func() (api.Labels, api.Errno) { return label.Set(l) },
		func() (api.Labels, api.Errno) { return label.Set(nil, l...) },
		func() (api.Labels, api.Errno) { return label.Set(l, l...) },
		func() (api.Labels, api.Errno) { return label.Merge(l, nil) },
		func() (api.Labels, api.Errno) { return label.Merge(nil, l) },
		func() (api.Labels, api.Errno) { return label.Merge(l, l) },
		func() (api.Labels, api.Errno) { return label.Export(l, nil) },
		func() (api.Labels, api.Errno) { return label.Export(nil, l) },
		func() (api.Labels, api.Errno) { return label.Export(l, l) },
		func() (api.Labels, api.Errno) { return label.Keep(l, "first", "second", "third") },
		func() (api.Labels, api.Errno) { return label.Keep(l, "first", "second") },
		func() (api.Labels, api.Errno) { return label.Drop(l) },
		func() (api.Labels, api.Errno) { return label.Drop(l, "third") },
		func() (api.Labels, api.Errno) { return label.Without(l, "none") },
		func() (api.Labels, api.Errno) { return label.Without(l, "th") },
	}
}

// R3: arguments, and what they have room for, stay as they were, also when results are changed and appended to; no result has memory of another one.
func TestNothingShared(t *testing.T) {
	all := of("first", "one", "second", "two", "third", "three", "fourth", "four", "fifth", "five")
	before, l := slices.Clone(all), all[:3]
	for i, call := range wholes(l) {
		one, e := call()
		other, f := call()
		want := slices.Clone(other)
		for j := range one {
			one[j] = api.Label{Name: "changed", Value: "changed"}
		}
		for range 3 {
			one = append(one, api.Label{Name: "appended"})
		}
		if len(want) == 0 || e != api.OK || f != api.OK || !slices.Equal(other, want) || !slices.Equal(all, before) {
			t.Fatalf("%d: %q %d %q %d, of %q", i, one, e, other, f, all)
		}
	}
	list := []string{"first", "second", "third", "fourth"}
	label.Keep(l, list[:2]...)
	label.Drop(l, list[:2]...)
	shuffled := of("third", "3", "first", "1", "empty", "", "second", "2", "zero", "0")
	label.Of(shuffled[:4])
	label.Set(l, shuffled[:4]...)
	label.Check(shuffled[:4])
	label.Get(shuffled[:4], "first")
	label.Compare(shuffled[:4], all[:2])
	if !slices.Equal(list, []string{"first", "second", "third", "fourth"}) || !slices.Equal(all, before) || !slices.Equal(shuffled, of("third", "3", "first", "1", "empty", "", "second", "2", "zero", "0")) {
		t.Error(list, all, shuffled)
	}
}

// R3: strings of results have memory of their own, so that a label does not hold the text that it was cut out of.
func TestStringsAreNew(t *testing.T) {
	l := of("first", "one", "second", "two", "third", "three")
	known := map[*byte]bool{}
	for _, x := range l {
		known[unsafe.StringData(x.Name)], known[unsafe.StringData(x.Value)] = true, true
	}
	for i, call := range wholes(l) {
		got, _ := call()
		for _, x := range got {
			for _, s := range []string{x.Name, x.Value} {
				if known[unsafe.StringData(s)] {
					t.Errorf("%d: %q has memory of an argument, or of another result", i, s)
				}
				known[unsafe.StringData(s)] = true
			}
		}
	}
	if got := label.Get(l, "second"); got != "two" || known[unsafe.StringData(got)] {
		t.Errorf("%q has memory of an argument", got)
	}
}

// R4: the same call answers the same, many labels in the same order each time.
func TestSameAgain(t *testing.T) {
	many := numbered("n", 64, 5)
	backward := slices.Clone(many)
	slices.Reverse(backward)
	for i := range 50 {
		label.Of(of("-", "\xff"))
		label.Set(many, of("z", "1")...)
		a, e := label.Of(backward)
		same(t, i, a, e, many, api.OK)
		b, e := label.Set(many[:20], backward...)
		same(t, i, b, e, many, api.OK)
		c, e := label.Merge(many[30:], many[:40])
		same(t, i, c, e, many, api.OK)
		d, e := label.Export(many[:31], many[31:])
		same(t, i, d, e, many, api.OK)
	}
}

// R5: nil is as good as empty.
func TestNilIsEmpty(t *testing.T) {
	l := of("a", "1")
	for i, none := range []api.Labels{nil, {}} {
		if at, e := label.Check(none); at != -1 || e != api.OK || !label.Right(none) || label.Get(none, "a") != "" {
			t.Error(i, at, e)
		}
		if label.Compare(none, nil) != 0 || label.Compare(none, api.Labels{}) != 0 || label.Compare(none, l) != -1 || label.Compare(l, none) != 1 {
			t.Error(i)
		}
		for j, call := range wholes(none) {
			got, e := call()
			same(t, []int{i, j}, got, e, nil, api.OK)
		}
		got, e := label.Set(l, none...)
		same(t, i, got, e, l, api.OK)
		got, e = label.Merge(l, none)
		same(t, i, got, e, l, api.OK)
		got, e = label.Export(none, l)
		same(t, i, got, e, l, api.OK)
	}
	for i, none := range [][]string{nil, {}} {
		kept, e := label.Keep(l, none...)
		same(t, i, kept, e, nil, api.OK)
		dropped, e := label.Drop(l, none...)
		same(t, i, dropped, e, l, api.OK)
	}
}

// Limits: as many labels as there may be, with the longest names and values.
func TestLongest(t *testing.T) {
	l := numbered("n", 64, 128)
	for i := range l {
		l[i].Value = strings.Repeat("€", 341) + string(rune('0'+i))
	}
	if at, e := label.Check(l); at != -1 || e != api.OK {
		t.Fatal(at, e)
	}
	got, e := label.Of(l)
	same(t, "of", got, e, l, api.OK)
	got, e = label.Set(l[:1], l...)
	same(t, "set", got, e, l, api.OK)
	got, e = label.Merge(l, l)
	same(t, "merge", got, e, l, api.OK)
	// No name can be exported, as each one would be too long.
	got, e = label.Export(l, l)
	same(t, "export", got, e, l, api.OK)
}
