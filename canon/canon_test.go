package canon_test

import (
	"fmt"
	"hash/fnv"
	"math/rand"
	"regexp"
	"runtime"
	"slices"
	"sort"
	"strings"
	"testing"
	"unicode/utf8"
	"unsafe"

	"gauger/api"
	"gauger/canon"
	"gauger/label"
)

var names = regexp.MustCompile(`\A[a-zA-Z_][a-zA-Z0-9_]{0,127}\z`)

// rightLabels tells by chapter 4 whether labels are right, so that the tests do not depend on the packages.
func rightLabels(l api.Labels) bool {
	for i, x := range l {
		if !names.MatchString(x.Name) || x.Value == "" || len(x.Value) > 1024 || !utf8.ValidString(x.Value) || i > 0 && x.Name <= l[i-1].Name {
			return false
		}
	}
	return len(l) <= 64
}

func rightJob(s string) bool { return len(s) >= 1 && len(s) <= 128 && utf8.ValidString(s) }

// wrongTarget is the error of a target by the chapter.
func wrongTarget(t api.Target) api.Errno {
	switch {
	case !rightJob(t.Job):
		return canon.ErrJob
	case !rightLabels(t.Labels):
		return label.ErrLabels
	}
	return api.OK
}

// wrongList is the error of the first target that has one.
func wrongList(l ...api.Target) api.Errno {
	for _, t := range l {
		if e := wrongTarget(t); e != api.OK {
			return e
		}
	}
	return api.OK
}

// bytesOf are the bytes of right labels by the chapter.
func bytesOf(l api.Labels) string {
	var b []byte
	for _, x := range l {
		b = append(b, x.Name...)
		b = append(b, 255)
		b = append(b, x.Value...)
		b = append(b, 255)
	}
	return string(b)
}

// keyOf is the key of a right target by the chapter.
func keyOf(t api.Target) string { return t.Job + string([]byte{254}) + bytesOf(t.Labels) }

// printOf is FNV-1a of 64 bits.
func printOf(s string) uint64 {
	h := fnv.New64a()
	h.Write([]byte(s))
	return h.Sum64()
}

// readOf are the right labels whose bytes a string is, if there are any.
func readOf(s string) (api.Labels, bool) {
	pieces := strings.Split(s, "\xff")
	var l api.Labels
	for i := 0; i+1 < len(pieces); i += 2 {
		l = append(l, api.Label{Name: pieces[i], Value: pieces[i+1]})
	}
	return l, rightLabels(l) && bytesOf(l) == s
}

// readKeyOf is the right target whose key a string is, if there is one: all places where the job could end are tried.
func readKeyOf(s string) (api.Target, bool) {
	for i := range len(s) {
		if s[i] != 254 || !rightJob(s[:i]) {
			continue
		}
		if l, ok := readOf(s[i+1:]); ok {
			return api.Target{Job: s[:i], Labels: l}, true
		}
	}
	return api.Target{}, false
}

// of returns labels: names and values, in turn.
func of(l ...string) api.Labels {
	var out api.Labels
	for i := 0; i < len(l); i += 2 {
		out = append(out, api.Label{Name: l[i], Value: l[i+1]})
	}
	return out
}

// target returns a target with labels: names and values, in turn.
func target(job string, l ...string) api.Target { return api.Target{Job: job, Labels: of(l...)} }

// numbered returns n right labels; their names have size bytes.
func numbered(n, size int) api.Labels {
	var l api.Labels
	for i := range n {
		digits := fmt.Sprintf("%04d", i)
		l = append(l, api.Label{Name: strings.Repeat("n", size-4) + digits, Value: digits})
	}
	return l
}

// wrongLabels are labels that are not right, for each reason.
func wrongLabels() []api.Labels {
	return []api.Labels{
		of("", "1"), of("1", "1"), of("a", "1", "b-", "1"), of("a:b", "1"), of(strings.Repeat("n", 129), "1"),
		of("a", "\xff"), of("a", "1\xff"), of("a\xff", "1"), of("a", "\xfe"), of("a", "1", "b", "\xed\xa0\x80"), of("a", strings.Repeat("v", 1025)),
		of("a", ""), of("a", "1", "b", ""), of("b", "1", "a", "1"), of("a", "1", "a", "1"), of("a", "1", "c", "1", "b", "1"), of("a", "1\xffb\xff2"),
		numbered(65, 5), make(api.Labels, 65), make(api.Labels, 1),
	}
}

// wrongJobs are jobs that are not right, for each reason.
func wrongJobs() []string {
	return []string{"", "\xff", "\xfe", "a\xfe", "a\xff", "\xe2\x82", "\xed\xa0\x80", "\xc0\x80", "a\x80", strings.Repeat("j", 129), strings.Repeat("é", 64) + "a"}
}

var (
	someJobs   = []string{"a", "ab", "a b", "web", "é", "\x00", "a\x00", "\U0010ffff", strings.Repeat("j", 127), strings.Repeat("j", 128)}
	someNames  = []string{"A", "_", "a", "a1", "ab", "b", "job", strings.Repeat("n", 127), strings.Repeat("n", 128)}
	someValues = []string{"1", "1", "2", "10", "é", "\x00", " ", "job", strings.Repeat("v", 1024)}
)

// pick returns one of some strings.
func pick(r *rand.Rand, l []string) string { return l[r.Intn(len(l))] }

// anyLabels returns right labels; one of so many times others.
func anyLabels(r *rand.Rand, n int) api.Labels {
	var l api.Labels
	for _, name := range someNames {
		if r.Intn(4) == 0 {
			l = append(l, api.Label{Name: name, Value: pick(r, someValues)})
		}
	}
	if r.Intn(n) > 0 {
		return l
	}
	wrong := wrongLabels()
	return wrong[r.Intn(len(wrong))]
}

// anyTarget returns a right target; one of so many times another one.
func anyTarget(r *rand.Rand, n int) api.Target {
	t := api.Target{Job: pick(r, someJobs), Labels: anyLabels(r, n)}
	if r.Intn(n) == 0 {
		t.Job = pick(r, wrongJobs())
	}
	return t
}

// changed returns bytes with some of them changed, taken out or put in, mostly those that mean something.
func changed(r *rand.Rand, s string) string {
	b := []byte(s)
	for range r.Intn(3) {
		at, c := r.Intn(len(b)+1), "\xff\xff\xfe\x00ab1_\xc3\xa9"[r.Intn(10)]
		switch k := r.Intn(4); {
		case k == 0:
			b = slices.Insert(b, at, c)
		case at == len(b):
		case k == 1:
			b[at] = c
		case k == 2:
			b = slices.Delete(b, at, at+1)
		default:
			b = b[:at]
		}
	}
	return string(b)
}

// same reports whether targets are the same.
func same(a, b api.Target) bool { return a.Job == b.Job && slices.Equal(a.Labels, b.Labels) }

// The limit and the numbers of errors, as the chapter gives them.
func TestConstants(t *testing.T) {
	if canon.MaxJob != 128 || canon.ErrBytes != 50 || canon.ErrJob != 51 {
		t.Error(canon.MaxJob, canon.ErrBytes, canon.ErrJob)
	}
}

// checkLabels holds the functions of labels against the definition.
func checkLabels(t *testing.T, l api.Labels) {
	t.Helper()
	want, size, print, wantError := "", 0, uint64(0), label.ErrLabels
	if rightLabels(l) {
		want, wantError = bytesOf(l), api.OK
		size, print = len(want), printOf(want)
	}
	s, e := canon.Bytes(l)
	n, f := canon.Size(l)
	p, g := canon.Print(l)
	if s != want || n != size || p != print || e != wantError || f != wantError || g != wantError {
		t.Fatalf("%q: %q %d, %d %d, %d %d, not %q %d", l, s, e, n, f, p, g, want, wantError)
	}
}

// checkRead holds Read against the definition.
func checkRead(t *testing.T, s string) bool {
	t.Helper()
	got, e := canon.Read(s)
	want, ok := readOf(s)
	if ok && (!slices.Equal(got, want) || e != api.OK) || !ok && (len(got) != 0 || e != canon.ErrBytes) {
		t.Fatalf("%q: %q %d, not %q %t", s, got, e, want, ok)
	}
	return ok
}

// checkKey holds ReadKey against the definition.
func checkKey(t *testing.T, s string) bool {
	t.Helper()
	got, e := canon.ReadKey(s)
	want, ok := readKeyOf(s)
	if !same(got, want) || ok != (e == api.OK) || !ok && e != canon.ErrBytes {
		t.Fatalf("%q: %q %d, not %q %t", s, got, e, want, ok)
	}
	return ok
}

// P5.1: the examples of the chapter, and others.
func TestLabels(t *testing.T) {
	for _, c := range []struct {
		l api.Labels
		s string
	}{
		{nil, ""}, {of("a", "1"), "a\xff1\xff"}, {of("a", "1", "job", "x"), "a\xff1\xffjob\xffx\xff"}, {of("A", "2", "_", "1", "a", "3"), "A\xff2\xff_\xff1\xffa\xff3\xff"},
		{of("a", "\x00"), "a\xff\x00\xff"}, {of("a", "é", "b", "a b"), "a\xff\xc3\xa9\xffb\xffa b\xff"}, {of("a", "\U0010ffff"), "a\xff\xf4\x8f\xbf\xbf\xff"},
		{of("a", "b", "b", "a"), "a\xffb\xffb\xffa\xff"}, {of("__name__", "up", "ab", `"\`), "__name__\xffup\xffab\xff\"\\\xff"},
	} {
		s, e := canon.Bytes(c.l)
		n, f := canon.Size(c.l)
		l, g := canon.Read(c.s)
		if s != c.s || n != len(c.s) || !slices.Equal(l, c.l) || e != api.OK || f != api.OK || g != api.OK {
			t.Errorf("%q: %q %d, %d %d, %q %d", c.l, s, e, n, f, l, g)
		}
		checkLabels(t, c.l)
	}
	if n, e := canon.Size(of("a", "1", "job", "x")); n != 10 || e != api.OK {
		t.Error(n, e)
	}
}

// P5.1: prints are FNV-1a of 64 bits; of no labels that of no bytes.
func TestPrint(t *testing.T) {
	for _, c := range []struct {
		l    api.Labels
		want uint64
	}{{nil, 0xcbf29ce484222325}, {of("a", "1"), printOf("a\xff1\xff")}, {of("a", "1", "job", "x"), printOf("a\xff1\xffjob\xffx\xff")}} {
		if p, e := canon.Print(c.l); p != c.want || e != api.OK {
			t.Errorf("%q: %#x %d", c.l, p, e)
		}
	}
}

// P5.1: bytes that are no labels, for each reason, and those beside them that are.
func TestRead(t *testing.T) {
	long := strings.Repeat("n", 128)
	value := strings.Repeat("v", 1024)
	for _, c := range []struct {
		s     string
		right bool
	}{
		{"", true}, {"a\xff1\xff", true}, {"a\xff\xff", false}, {"b\xff1\xffa\xff1\xff", false}, {"a\xff1\xffa\xff1\xff", false}, {"a\xff1\xffa\xff2\xff", false},
		{"a", false}, {"a\xff", false}, {"a\xff1", false}, {"a\xff1\xffb", false}, {"a\xff1\xffb\xff", false}, {"a\xff1\xffb\xff2", false}, {"a\xff1\xffb\xff2\xff", true},
		{"\xff", false}, {"\xff\xff", false}, {"\xff1\xff", false}, {"a\xff1\xff\xff", false}, {"a\xff1\xff\xff\xff", false}, {"a\xff1\xff\xff1\xff", false}, {"\xffa\xff1\xff", false},
		{"a\xff1\xff\xff1\xffb", false}, {"1\xff1\xff", false}, {"a:b\xff1\xff", false}, {"é\xff1\xff", false}, {"a\xfe\xff1\xff", false}, {"a\xff\xfe\xff", false}, {"a\xff\xc3\xff", false},
		{"a\xff\xed\xa0\x80\xff", false}, {"a\xff\xef\xbf\xbd\xff", true}, {"a\xfe1\xfe", false}, {"j\xfea\xff1\xff", false}, {"a\xff1\xff ", false}, {" a\xff1\xff", false}, {"a=1", false},
		{long + "\xff1\xff", true}, {long + "n\xff1\xff", false}, {"a\xff" + value + "\xff", true}, {"a\xff" + value + "v\xff", false},
		{bytesOf(numbered(64, 128)), true}, {bytesOf(numbered(65, 128)), false}, {bytesOf(numbered(64, 5)) + "z", false}, {bytesOf(numbered(1000, 5)), false},
		{bytesOf(numbered(64, 5)) + "\xff", false}, {bytesOf(numbered(63, 5)) + "a\xff1\xff", false}, {bytesOf(numbered(63, 5)) + "z\xff1\xff", true},
	} {
		if checkRead(t, c.s) != c.right {
			t.Errorf("the definition: %q", c.s)
		}
	}
}

// P5.1: many labels and bytes against the definition, and all strings of a few bytes.
func TestLabelsAgainstDefinition(t *testing.T) {
	r := rand.New(rand.NewSource(51))
	right := 0
	for range 20000 {
		l := anyLabels(r, 5)
		checkLabels(t, l)
		if checkRead(t, changed(r, bytesOf(l))) {
			right++
		}
	}
	if right < 5000 || right > 15000 {
		t.Error("too few bytes of one sort: right of 20000 are", right)
	}
	short(7, "\xff\xfea1", func(s string) { checkRead(t, s) })
}

// short calls a function with all strings of at most so many bytes, of some.
func short(most int, of string, try func(s string)) {
	var all func(s string)
	all = func(s string) {
		try(s)
		if len(s) == most {
			return
		}
		for i := range len(of) {
			all(s + of[i:i+1])
		}
	}
	all("")
}

// P5.2: jobs are valid UTF-8 of 1 to 128 bytes, not code points.
func TestJob(t *testing.T) {
	for _, s := range append(slices.Clone(someJobs), "a", "\n", "a:b", "1", "-", " ", "\ufffd", strings.Repeat("é", 64), strings.Repeat("\U0010ffff", 32)) {
		if !canon.Job(s) {
			t.Errorf("%q", s)
		}
	}
	for _, s := range append(wrongJobs(), "\xf4\x90\x80\x80", strings.Repeat("é", 65), strings.Repeat("j", 127)+"\xc3", strings.Repeat("j", 127)+"é", strings.Repeat("j", 1<<20)) {
		if canon.Job(s) {
			t.Errorf("%.200q", s)
		}
	}
	for n := range 300 {
		if canon.Job(strings.Repeat("j", n)) != (n >= 1 && n <= 128) {
			t.Error(n)
		}
	}
	for a := range 256 {
		for b := range 256 {
			s := string([]byte{byte(a), byte(b)})
			if canon.Job(s) != utf8.ValidString(s) || canon.Job(s[:1]) != (a < 128) {
				t.Errorf("%q", s)
			}
		}
	}
}

// P5.2: the example of the chapter, and others; the print is that of the key.
func TestKey(t *testing.T) {
	for _, c := range []struct {
		t   api.Target
		key string
	}{
		{target("web", "a", "1"), "web\xfea\xff1\xff"}, {target("web"), "web\xfe"}, {target("é", "a", "é"), "é\xfea\xffé\xff"}, {target("\x00", "_", "\x00"), "\x00\xfe_\xff\x00\xff"},
		{target("a", "a", "a", "b", "a"), "a\xfea\xffa\xffb\xffa\xff"}, {target(" ", "job", " "), " \xfejob\xff \xff"},
	} {
		k, e := canon.Key(c.t)
		p, f := canon.KeyPrint(c.t)
		back, g := canon.ReadKey(c.key)
		if k != c.key || p != printOf(c.key) || !same(back, c.t) || e != api.OK || f != api.OK || g != api.OK {
			t.Errorf("%q: %q %d, %#x %d, %q %d", c.t, k, e, p, f, back, g)
		}
	}
}

// P5.2: bytes that are no key, for each reason, and those beside them that are.
func TestReadKey(t *testing.T) {
	long := strings.Repeat("j", 128)
	for _, c := range []struct {
		s     string
		right bool
	}{
		{"web\xfea\xff1\xff", true}, {"web\xfe", true}, {"", false}, {"web", false}, {"\xfe", false}, {"\xfea\xff1\xff", false}, {"web\xffa\xff1\xff", false}, {"weba\xff1\xff", false},
		{"web\xfe\xfe", false}, {"\xfe\xfe", false}, {"web\xfe\xfea\xff1\xff", false}, {"web\xfea\xff1\xff\xfe", false}, {"web\xfea\xfe1\xff", false}, {"web\xfea\xff1\xfe", false},
		{"web\xfea", false}, {"web\xfea\xff", false}, {"web\xfea\xff1", false}, {"web\xfe\xff", false}, {"web\xfe\xff\xff", false}, {"web\xfea\xff\xff", false},
		{"web\xfeb\xff1\xffa\xff1\xff", false}, {"web\xfea\xff1\xffa\xff1\xff", false}, {"w\xff\xfe", false}, {"w\x80\xfe", false}, {"\xc3\xfe", false}, {"é\xfe", true}, {"web\xfeweb\xfe", false},
		{long + "\xfea\xff1\xff", true}, {long + "j\xfea\xff1\xff", false}, {"\xff\xfea\xff1\xff", false}, {"a\xff1\xff\xfea\xff1\xff", false},
		{long + "\xfe" + bytesOf(numbered(64, 128)), true}, {long + "\xfe" + bytesOf(numbered(65, 128)), false},
	} {
		if checkKey(t, c.s) != c.right {
			t.Errorf("the definition: %q", c.s)
		}
	}
}

// P5.2: many targets and bytes against the definition, and all strings of a few bytes.
func TestKeysAgainstDefinition(t *testing.T) {
	r := rand.New(rand.NewSource(52))
	right := 0
	for range 20000 {
		x := anyTarget(r, 8)
		want, print, wantError := "", uint64(0), wrongTarget(x)
		if wantError == api.OK {
			want = keyOf(x)
			print = printOf(want)
		}
		k, e := canon.Key(x)
		p, f := canon.KeyPrint(x)
		if k != want || p != print || e != wantError || f != wantError {
			t.Fatalf("%q: %q %d, %#x %d, not %q %d", x, k, e, p, f, want, wantError)
		}
		if checkKey(t, changed(r, keyOf(x))) {
			right++
		}
	}
	if right < 5000 || right > 15000 {
		t.Error("too few keys of one sort: right of 20000 are", right)
	}
	short(7, "\xff\xfea1", func(s string) { checkKey(t, s) })
}

// P5.3: in order, by the bytes of the keys: the end of a job, or of a name, is behind all that may go on there.
func TestOrder(t *testing.T) {
	l := []api.Target{
		target("\x00"), target("A"), target("a\x00"), target("a b"), target("aa", "a", "1"), target("ab"), target("aé"), target("a\U0010ffff"), target("a"), target("a", "B", "9"), target("a", "_", "1"),
		target("a", "aa", "1"), target("a", "ab", "1"), target("a", "a", "\x00"), target("a", "a", "10"), target("a", "a", "1é"), target("a", "a", "1"), target("a", "a", "1", "b", "1"),
		target("a", "a", "1", "c", "0"), target("a", "a", "2"), target("a", "a", "é"), target("a", "b", "1"), target("b"), target("é"),
	}
	for i, a := range l {
		for j, b := range l {
			want := 0
			if i < j {
				want = -1
			} else if i > j {
				want = 1
			}
			if n, e := canon.Compare(a, b); n != want || e != api.OK {
				t.Errorf("%q %q: %d %d, not %d", a, b, n, e, want)
			}
		}
	}
	backward := slices.Clone(l)
	slices.Reverse(backward)
	for _, given := range [][]api.Target{l, backward, append(slices.Clone(backward), l...)} {
		sorted, e := canon.Sort(given)
		if !slices.EqualFunc(sorted, l, same) || e != api.OK {
			t.Errorf("%q: %q %d", given, sorted, e)
		}
	}
}

// P5.3: a list, its order, and what is there for the first time; all that is the same, wherever it stands.
func TestLists(t *testing.T) {
	a, b, c, a1 := target("a"), target("b"), target("c"), target("a", "a", "1")
	for i, x := range []struct {
		l, sorted []api.Target
		first     []int
	}{
		{nil, nil, nil}, {[]api.Target{a}, []api.Target{a}, []int{0}}, {[]api.Target{a, b, a}, []api.Target{a, b}, []int{0, 1}}, {[]api.Target{b, a, b}, []api.Target{a, b}, []int{0, 1}},
		{[]api.Target{a, a, a}, []api.Target{a}, []int{0}}, {[]api.Target{c, c, b, a, b, a1, c, a1}, []api.Target{a, a1, b, c}, []int{0, 2, 3, 5}},
		{[]api.Target{a1, a, a1, a}, []api.Target{a, a1}, []int{0, 1}}, {[]api.Target{b, b, a, a, c, c}, []api.Target{a, b, c}, []int{0, 2, 4}},
		{[]api.Target{target("a", "b", "c"), target("ab", "c", "d"), target("a", "bc", "d")}, []api.Target{target("ab", "c", "d"), target("a", "bc", "d"), target("a", "b", "c")}, []int{0, 1, 2}},
	} {
		sorted, e := canon.Sort(x.l)
		first, f := canon.First(x.l)
		if !slices.EqualFunc(sorted, x.sorted, same) || !slices.Equal(first, x.first) || e != api.OK || f != api.OK {
			t.Errorf("%d: %q %d, %d %d", i, sorted, e, first, f)
		}
	}
}

// checkList holds the functions of lists, and Compare, against the definition.
func checkList(t *testing.T, l []api.Target) {
	t.Helper()
	var indexes []int
	var want []api.Target
	wantError := wrongList(l...)
	for i, x := range l {
		if wantError == api.OK && !slices.ContainsFunc(l[:i], func(y api.Target) bool { return same(x, y) }) {
			indexes, want = append(indexes, i), append(want, x)
		}
	}
	sort.Slice(want, func(i, j int) bool { return keyOf(want[i]) < keyOf(want[j]) })
	sorted, e := canon.Sort(l)
	first, f := canon.First(l)
	if !slices.EqualFunc(sorted, want, same) || !slices.Equal(first, indexes) || e != wantError || f != wantError {
		t.Fatalf("%q: %q %d, %d %d, not %q %d %d", l, sorted, e, first, f, want, indexes, wantError)
	}
	for i := range len(l) - 1 {
		order, wantError := 0, wrongList(l[i], l[i+1])
		if wantError == api.OK {
			order = strings.Compare(keyOf(l[i]), keyOf(l[i+1]))
		}
		if n, e := canon.Compare(l[i], l[i+1]); n != order || e != wantError {
			t.Fatalf("%q %q: %d %d, not %d %d", l[i], l[i+1], n, e, order, wantError)
		}
	}
}

// P5.3: many lists against the definition, some of them with errors.
func TestListsAgainstDefinition(t *testing.T) {
	r := rand.New(rand.NewSource(53))
	for range 3000 {
		pool := make([]api.Target, 1+r.Intn(8))
		for i := range pool {
			pool[i] = anyTarget(r, 40)
		}
		var l []api.Target
		for range r.Intn(20) {
			l = append(l, pool[r.Intn(len(pool))])
		}
		checkList(t, l)
	}
}

// P5.4: labels are the same just if their bytes are, and targets just if their keys are; what is written is read back, and no key is bytes of labels.
func TestSameBytes(t *testing.T) {
	r := rand.New(rand.NewSource(54))
	var l []api.Target
	for range 300 {
		x := api.Target{Job: pick(r, someJobs), Labels: anyLabels(r, 1<<30)}
		k, e := canon.Key(x)
		s, f := canon.Bytes(x.Labels)
		back, g := canon.ReadKey(k)
		labels, h := canon.Read(s)
		if e != api.OK || f != api.OK || g != api.OK || h != api.OK || !same(back, x) || !slices.Equal(labels, x.Labels) {
			t.Fatalf("%q: %q %d, %q %d, %q %d, %q %d", x, k, e, s, f, back, g, labels, h)
		}
		if _, e := canon.Read(k); e != canon.ErrBytes {
			t.Fatalf("%q %d", k, e)
		}
		if _, e := canon.ReadKey(s); e != canon.ErrBytes {
			t.Fatalf("%q %d", s, e)
		}
		l = append(l, x)
	}
	for _, a := range l {
		for _, b := range l {
			keyA, _ := canon.Key(a)
			keyB, _ := canon.Key(b)
			bytesA, _ := canon.Bytes(a.Labels)
			bytesB, _ := canon.Bytes(b.Labels)
			n, _ := canon.Compare(a, b)
			if (keyA == keyB) != same(a, b) || (bytesA == bytesB) != slices.Equal(a.Labels, b.Labels) || (n == 0) != same(a, b) {
				t.Fatalf("%q %q", a, b)
			}
		}
	}
}

// P5.4: what is sorted stays as it is, all of it is there for the first time, and it has just what was there for the first time.
func TestSortedStays(t *testing.T) {
	r := rand.New(rand.NewSource(55))
	for range 1000 {
		var l []api.Target
		for range r.Intn(30) {
			l = append(l, target(pick(r, someJobs[:3]), pick(r, someNames[:3]), pick(r, someValues[:4])))
		}
		sorted, e := canon.Sort(l)
		again, f := canon.Sort(sorted)
		first, g := canon.First(l)
		all, h := canon.First(sorted)
		if e != api.OK || f != api.OK || g != api.OK || h != api.OK || !slices.EqualFunc(again, sorted, same) || len(first) != len(sorted) || len(all) != len(sorted) {
			t.Fatalf("%q: %q %q %d %d", l, sorted, again, first, all)
		}
		for i, at := range first {
			if all[i] != i || !slices.ContainsFunc(sorted, func(x api.Target) bool { return same(x, l[at]) }) {
				t.Fatalf("%q: %q %d %d", l, sorted, first, all)
			}
		}
	}
}

// R2 and R7: labels that are not right.
func TestWrongLabels(t *testing.T) {
	for _, l := range wrongLabels() {
		checkLabels(t, l)
	}
}

// wrongCalls are the errors of all calls with a target, where there must be no result; behind is what a list has behind it.
func wrongCalls(t *testing.T, x api.Target, behind ...api.Target) []api.Errno {
	t.Helper()
	right := target("r", "a", "1")
	k, e := canon.Key(x)
	p, f := canon.KeyPrint(x)
	m, g := canon.Compare(x, right)
	n, h := canon.Compare(right, x)
	l := append([]api.Target{target("z"), right, x}, behind...)
	sorted, i := canon.Sort(l)
	first, j := canon.First(l)
	if k != "" || p != 0 || m != 0 || n != 0 || len(sorted) != 0 || len(first) != 0 {
		t.Errorf("%q: %q %d %d %d %q %d", x, k, p, m, n, sorted, first)
	}
	return []api.Errno{e, f, g, h, i, j}
}

// R2 and R7: of a target the job goes first, of targets the first one in error; without a result.
func TestWrongTargets(t *testing.T) {
	for _, job := range wrongJobs() {
		for _, l := range append(wrongLabels(), nil, of("a", "1")) {
			if got := wrongCalls(t, api.Target{Job: job, Labels: l}, target("a", "a", "")); !slices.Equal(got, slices.Repeat([]api.Errno{canon.ErrJob}, 6)) {
				t.Errorf("%q %q: %d", job, l, got)
			}
		}
	}
	for _, l := range wrongLabels() {
		if got := wrongCalls(t, api.Target{Job: "a", Labels: l}, target("")); !slices.Equal(got, slices.Repeat([]api.Errno{label.ErrLabels}, 6)) {
			t.Errorf("%q: %d", l, got)
		}
	}
	if n, e := canon.Compare(target("a", "a", ""), target("")); n != 0 || e != label.ErrLabels {
		t.Error(n, e)
	}
	if n, e := canon.Compare(target(""), target("a", "a", "")); n != 0 || e != canon.ErrJob {
		t.Error(n, e)
	}
	if n, e := canon.Compare(target(""), target("")); n != 0 || e != canon.ErrJob {
		t.Error(n, e)
	}
}

// R3: arguments, and what they have room for, stay as they were, also when results are changed and appended to; no result has memory of another one.
func TestNothingShared(t *testing.T) {
	made := func() []api.Target {
		l := []api.Target{target("b", "a", "1", "b", "2", "c", "3"), target("a", "a", "1"), target("b", "a", "1", "b", "2", "c", "3"), target("spare", "a", "1")}
		for i := range l {
			// What is cut off here is what the labels have room for.
			l[i].Labels = l[i].Labels[:len(l[i].Labels)-i%2]
		}
		return l
	}
	l, before := made(), made()
	lists := l[:3]
	one, _ := canon.Sort(lists)
	other, _ := canon.Sort(lists)
	first, _ := canon.First(lists)
	for i := range one {
		for j := range one[i].Labels {
			one[i].Labels[j] = api.Label{Name: "changed", Value: "changed"}
		}
		one[i].Labels = append(one[i].Labels, api.Label{Name: "appended"})
	}
	one = append(one[:1], target("appended"), target("appended"), target("appended"))
	first = append(first[:0], 7, 7, 7)
	if !slices.EqualFunc(other, []api.Target{before[1], before[0]}, same) || !slices.EqualFunc(l, before, same) || len(one) != 4 || len(first) != 3 {
		t.Errorf("%q %q", other, l)
	}
	for i, x := range l {
		canon.Bytes(x.Labels)
		canon.Size(x.Labels)
		canon.Print(x.Labels)
		canon.Key(x)
		canon.KeyPrint(x)
		canon.Compare(x, l[0])
		full, want := x.Labels[:cap(x.Labels)], before[i].Labels
		if !slices.Equal(full, want[:cap(want)]) {
			t.Errorf("%q", full)
		}
	}
}

// memory returns where the strings of targets begin.
func memory(l ...api.Target) []*byte {
	var out []*byte
	for _, x := range l {
		out = append(out, unsafe.StringData(x.Job))
		for _, y := range x.Labels {
			out = append(out, unsafe.StringData(y.Name), unsafe.StringData(y.Value))
		}
	}
	return out
}

// R3: strings of results have memory of their own, so that a label does not hold the text that it was cut out of.
func TestStringsAreNew(t *testing.T) {
	x, y := target("web", "first", "one", "second", "two"), target("job", "third", "three")
	known := map[*byte]bool{}
	for _, p := range memory(x, y) {
		known[p] = true
	}
	key, _ := canon.Key(x)
	other, _ := canon.Bytes(x.Labels)
	for _, s := range []string{key, other} {
		if known[unsafe.StringData(s)] {
			t.Errorf("%q has memory of an argument", s)
		}
		for i := range len(s) {
			known[unsafe.StringData(s[i:])] = true
		}
	}
	labels, _ := canon.Read(other)
	again, _ := canon.Read(other)
	back, _ := canon.ReadKey(key)
	sorted, _ := canon.Sort([]api.Target{x, y, x})
	results := append([]api.Target{{Job: strings.Clone("own"), Labels: labels}, {Job: strings.Clone("own"), Labels: again}, back}, sorted...)
	for _, p := range memory(results...) {
		if known[p] {
			t.Errorf("%q: a string has memory of an argument, or of another result", results)
		}
		known[p] = true
	}
}

// R4: the same call answers the same, whatever was called before.
func TestSameAgain(t *testing.T) {
	r := rand.New(rand.NewSource(56))
	var l []api.Target
	for range 200 {
		l = append(l, anyTarget(r, 1<<30))
	}
	sorted, _ := canon.Sort(l)
	first, _ := canon.First(l)
	for range 20 {
		canon.Sort([]api.Target{target("z"), target("")})
		canon.Read("a\xff")
		a, e := canon.Sort(l)
		b, f := canon.First(l)
		if !slices.EqualFunc(a, sorted, same) || !slices.Equal(b, first) || e != api.OK || f != api.OK {
			t.Fatal("another answer")
		}
	}
}

// R5: nil is as good as empty.
func TestNilIsEmpty(t *testing.T) {
	for i, none := range []api.Labels{nil, {}} {
		checkLabels(t, none)
		if k, e := canon.Key(api.Target{Job: "a", Labels: none}); k != "a\xfe" || e != api.OK {
			t.Errorf("%d: %q %d", i, k, e)
		}
		if n, e := canon.Compare(api.Target{Job: "a", Labels: none}, api.Target{Job: "a"}); n != 0 || e != api.OK {
			t.Errorf("%d: %d %d", i, n, e)
		}
		if l, e := canon.First([]api.Target{{Job: "a"}, {Job: "a", Labels: none}}); !slices.Equal(l, []int{0}) || e != api.OK {
			t.Errorf("%d: %d %d", i, l, e)
		}
	}
	for i, none := range [][]api.Target{nil, {}} {
		sorted, e := canon.Sort(none)
		first, f := canon.First(none)
		if len(sorted) != 0 || len(first) != 0 || e != api.OK || f != api.OK {
			t.Errorf("%d: %q %d %d %d", i, sorted, e, first, f)
		}
	}
}

// Limits: as many labels as there may be, with the longest names and values, and as many targets as a job has.
func TestLongest(t *testing.T) {
	l := numbered(64, 128)
	for i := range l {
		l[i].Value = strings.Repeat("€", 341) + string(rune('0'+i))
	}
	checkLabels(t, l)
	if n, e := canon.Size(l); n != 64*(128+1024+2) || e != api.OK {
		t.Fatal(n, e)
	}
	x := api.Target{Job: strings.Repeat("j", 128), Labels: l}
	if !checkRead(t, bytesOf(l)) || !checkKey(t, keyOf(x)) {
		t.Fatal("not read")
	}
	var many []api.Target
	for i := range 16000 {
		many = append(many, target(fmt.Sprintf("%05d", i*7919%16000), "a", "1"))
	}
	sorted, e := canon.Sort(append(many, many...))
	first, f := canon.First(append(many, many...))
	if len(sorted) != 16000 || len(first) != 16000 || first[15999] != 15999 || e != api.OK || f != api.OK {
		t.Fatal(len(sorted), e, len(first), f)
	}
	for i, x := range sorted {
		if x.Job != fmt.Sprintf("%05d", i) {
			t.Fatal(i, x)
		}
	}
}

// Limits: a long string that is no labels is not made into many of them first.
func TestLongBytes(t *testing.T) {
	for _, s := range []string{strings.Repeat("\xff", 1<<24), strings.Repeat("a\xff1\xff", 1<<22), strings.Repeat("a", 1<<24) + "\xff1\xff"} {
		var before, behind runtime.MemStats
		runtime.ReadMemStats(&before)
		_, e := canon.Read(s)
		_, f := canon.ReadKey("j\xfe" + s[:1<<20])
		_, g := canon.ReadKey(s)
		runtime.ReadMemStats(&behind)
		if grown := behind.TotalAlloc - before.TotalAlloc; grown > 4<<20 || e != canon.ErrBytes || f != canon.ErrBytes || g != canon.ErrBytes {
			t.Errorf("%.10q: %d bytes, %d %d %d", s, grown, e, f, g)
		}
	}
}
