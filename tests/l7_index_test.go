package tests

import (
	"cmp"
	"fmt"
	"maps"
	"math"
	"slices"
	"strconv"
	"strings"
	"testing"

	"loop.example/g00747/impl"
)

// carried is an index as the labels of each reference.
type carried map[int][]impl.Label

func (c carried) refs() []int {
	return slices.Sorted(maps.Keys(c))
}

func (c carried) index() impl.Index {
	byLabel := map[impl.Label][]int{}
	x := impl.Index{All: c.refs()}
	for _, ref := range x.All {
		for _, label := range c[ref] {
			byLabel[label] = append(byLabel[label], ref)
		}
	}
	for label, refs := range byLabel {
		x.Entries = append(x.Entries, entryOf(label.Name, label.Is, refs...))
	}
	slices.SortFunc(x.Entries, func(a impl.Entry, b impl.Entry) int {
		return cmp.Or(strings.Compare(a.Name, b.Name), strings.Compare(a.Is, b.Is))
	})
	return x
}

func (c carried) with(ref int, l []impl.Label) carried {
	more := maps.Clone(c)
	more[ref] = l
	return more
}

func (c carried) without(refs []int) carried {
	kept := maps.Clone(c)
	for _, ref := range refs {
		delete(kept, ref)
	}
	return kept
}

func (c carried) refsWhere(is func(l []impl.Label) bool) []int {
	var refs []int
	for _, ref := range c.refs() {
		if is(c[ref]) {
			refs = append(refs, ref)
		}
	}
	return refs
}

// labels are all that some reference has.
func (c carried) labels() []impl.Label {
	return slices.Concat(slices.Collect(maps.Values(c))...)
}

func (c carried) wordsPlainly(name string) []string {
	var words []string
	for _, label := range c.labels() {
		if label.Name == name {
			words = append(words, label.Is)
		}
	}
	slices.Sort(words)
	return slices.Compact(words)
}

func entryOf(name string, is string, refs ...int) impl.Entry {
	return impl.Entry{Name: name, Is: is, Refs: refs}
}

func indexOf(all []int, entries ...impl.Entry) impl.Index {
	return impl.Index{Entries: entries, All: all}
}

func sameIndex(a impl.Index, b impl.Index) bool {
	return slices.Equal(a.All, b.All) && slices.EqualFunc(a.Entries, b.Entries, func(a impl.Entry, b impl.Entry) bool {
		return a.Name == b.Name && a.Is == b.Is && slices.Equal(a.Refs, b.Refs)
	})
}

func isZeroIndex(x impl.Index) bool {
	return len(x.Entries) == 0 && len(x.All) == 0
}

// indexShown keeps what a test tells of an index short, however much is in it.
func indexShown(x impl.Index) string {
	var text strings.Builder
	fmt.Fprint(&text, x.All)
	for _, e := range x.Entries {
		fmt.Fprintf(&text, " %.20q=%.20q%v", e.Name, e.Is, e.Refs)
	}
	return fmt.Sprintf("%.2000s", text.String())
}

func wantIndex(t *testing.T, what string, got impl.Index, ok bool, want carried) {
	t.Helper()
	if !sameIndex(got, want.index()) || !ok {
		t.Errorf("%s: %s, %v, not %s", what, indexShown(got), ok, indexShown(want.index()))
	}
	if !impl.GoodIndex(got) {
		t.Errorf("%s: %s is not good", what, indexShown(got))
	}
}

func wantRefs(t *testing.T, what string, got []int, ok bool, want []int) {
	t.Helper()
	if !slices.Equal(got, want) || !ok {
		t.Errorf("%s: %v, %v, not %v", what, got, ok, want)
	}
}

func wantNoRefs(t *testing.T, what string, got []int, ok bool) {
	t.Helper()
	if len(got) != 0 || ok {
		t.Errorf("%s: %v, %v", what, got, ok)
	}
}

func wantNoIndex(t *testing.T, what string, got impl.Index, ok bool) {
	t.Helper()
	if !isZeroIndex(got) || ok {
		t.Errorf("%s: %s, %v", what, indexShown(got), ok)
	}
}

// stepped are numbers from one on, so much apart.
func stepped(from int, by int, many int) []int {
	var l []int
	for i := range many {
		l = append(l, from+i*by)
	}
	return l
}

func goodRefLists() [][]int {
	lists := [][]int{
		nil, {},
		{0}, {999}, {0, 999}, {500}, {1, 2, 5}, {2, 5, 7}, {9, 10, 99, 100},
		stepped(0, 1, 20), stepped(1, 1, 20), stepped(980, 1, 20), stepped(0, 50, 20), stepped(0, 52, 20), stepped(19, 51, 20), stepped(0, 2, 20), stepped(1, 2, 20),
		stepped(0, 1, 19), stepped(0, 1, 10), stepped(10, 1, 10), stepped(10, 1, 11), stepped(20, 1, 1), stepped(100, 3, 19), stepped(100, 6, 10), stepped(103, 6, 9),
	}
	for n := range 1 << 5 {
		var l []int
		for bit := range 5 {
			if n>>bit&1 == 1 {
				l = append(l, 3+bit)
			}
		}
		lists = append(lists, l)
	}
	return lists
}

// badRefLists are lists that are none of references, each for one reason.
func badRefLists() map[string][]int {
	return map[string][]int{
		"MaxSeries and one more":            stepped(0, 1, 21),
		"MaxSeries and one more, up to 999": stepped(979, 1, 21),
		"far too many":                      stepped(0, 1, 1000),
		"one below 0":                       {-1},
		"one above 999":                     {1000},
		"one below 0 in front":              {-1, 0, 1},
		"one above 999 at the end":          {0, 1, 1000},
		"one below 0 in front of 19":        stepped(-1, 1, 20),
		"one above 999 behind 19":           stepped(981, 1, 20),
		"the least int":                     {math.MinInt},
		"the greatest int":                  {math.MaxInt},
		"both":                              {math.MinInt, math.MaxInt},
		"a good one by its end":             {1<<32 + 5},
		"still":                             {5, 5},
		"still at 0":                        {0, 0},
		"still at 999":                      {999, 999},
		"still in the middle":               {1, 3, 3, 5},
		"still at the end":                  {1, 3, 5, 5},
		"falling":                           {5, 4},
		"falling in front":                  {4, 3, 5},
		"falling in the middle":             {1, 5, 3, 7},
		"falling at the end":                {1, 5, 7, 6},
		"falling ahead of rising":           {7, 1, 2},
	}
}

// refsPlainly are the numbers of two lists that are in them as asked.
func refsPlainly(a []int, b []int, asked func(inA bool, inB bool) bool) []int {
	all := slices.Concat(a, b)
	slices.Sort(all)
	var l []int
	for _, n := range slices.Compact(all) {
		if asked(slices.Contains(a, n), slices.Contains(b, n)) {
			l = append(l, n)
		}
	}
	return l
}

func TestLimitOfSeriesInAnIndex(t *testing.T) {
	if impl.MaxSeries != 20 {
		t.Error(impl.MaxSeries)
	}
}

func TestBothEitherAndLess(t *testing.T) {
	cases := []struct{ a, b, both, either, less []int }{
		{nil, nil, nil, nil, nil},
		{nil, []int{1, 2}, nil, []int{1, 2}, nil},
		{[]int{1, 2}, nil, nil, []int{1, 2}, []int{1, 2}},
		{[]int{1, 2}, []int{3, 4}, nil, []int{1, 2, 3, 4}, []int{1, 2}},
		{[]int{3, 4}, []int{1, 2}, nil, []int{1, 2, 3, 4}, []int{3, 4}},
		{[]int{1, 3, 5}, []int{2, 4}, nil, []int{1, 2, 3, 4, 5}, []int{1, 3, 5}},
		{[]int{2, 4}, []int{1, 3, 5}, nil, []int{1, 2, 3, 4, 5}, []int{2, 4}},
		{[]int{1, 2, 5}, []int{1, 2, 5}, []int{1, 2, 5}, []int{1, 2, 5}, nil},
		{[]int{1, 2, 5}, []int{2, 5, 7}, []int{2, 5}, []int{1, 2, 5, 7}, []int{1}},
		{[]int{2, 5, 7}, []int{1, 2, 5}, []int{2, 5}, []int{1, 2, 5, 7}, []int{7}},
		{[]int{1, 2, 5}, []int{2}, []int{2}, []int{1, 2, 5}, []int{1, 5}},
		{[]int{2}, []int{1, 2, 5}, []int{2}, []int{1, 2, 5}, nil},
		{[]int{9, 100}, []int{10, 99}, nil, []int{9, 10, 99, 100}, []int{9, 100}},
		{[]int{0}, []int{0}, []int{0}, []int{0}, nil},
		{[]int{0}, []int{999}, nil, []int{0, 999}, []int{0}},
		{[]int{0, 999}, []int{999}, []int{999}, []int{0, 999}, []int{0}},
		{[]int{0, 999}, []int{0}, []int{0}, []int{0, 999}, []int{999}},
		{stepped(0, 1, 20), stepped(0, 1, 20), stepped(0, 1, 20), stepped(0, 1, 20), nil},
		{stepped(0, 1, 20), nil, nil, stepped(0, 1, 20), stepped(0, 1, 20)},
		{nil, stepped(980, 1, 20), nil, stepped(980, 1, 20), nil},
		{stepped(0, 2, 10), stepped(1, 2, 10), nil, stepped(0, 1, 20), stepped(0, 2, 10)},
		{stepped(0, 1, 19), []int{19}, nil, stepped(0, 1, 20), stepped(0, 1, 19)},
		{stepped(0, 1, 15), stepped(5, 1, 15), stepped(5, 1, 10), stepped(0, 1, 20), stepped(0, 1, 5)},
	}
	for _, c := range cases {
		both, ok := impl.BothOf(c.a, c.b)
		wantRefs(t, fmt.Sprint("BothOf ", c.a, c.b), both, ok, c.both)
		either, ok := impl.EitherOf(c.a, c.b)
		wantRefs(t, fmt.Sprint("EitherOf ", c.a, c.b), either, ok, c.either)
		less, ok := impl.LessOf(c.a, c.b)
		wantRefs(t, fmt.Sprint("LessOf ", c.a, c.b), less, ok, c.less)
	}
}

func TestMoreThanMaxSeriesInEither(t *testing.T) {
	cases := []struct {
		a, b, both, less []int
	}{
		{stepped(0, 1, 20), []int{20}, nil, stepped(0, 1, 20)},
		{[]int{999}, stepped(0, 1, 20), nil, []int{999}},
		{stepped(0, 2, 11), stepped(1, 2, 10), nil, stepped(0, 2, 11)},
		{stepped(0, 1, 20), stepped(1, 1, 20), stepped(1, 1, 19), []int{0}},
		{stepped(0, 1, 20), stepped(980, 1, 20), nil, stepped(0, 1, 20)},
	}
	for _, c := range cases {
		both, ok := impl.BothOf(c.a, c.b)
		wantRefs(t, fmt.Sprint("BothOf ", c.a, c.b), both, ok, c.both)
		less, ok := impl.LessOf(c.a, c.b)
		wantRefs(t, fmt.Sprint("LessOf ", c.a, c.b), less, ok, c.less)
		either, ok := impl.EitherOf(c.a, c.b)
		wantNoRefs(t, fmt.Sprint("EitherOf ", c.a, c.b), either, ok)
	}
}

func TestBothEitherAndLessOfAllPairs(t *testing.T) {
	for _, a := range goodRefLists() {
		for _, b := range goodRefLists() {
			both, ok := impl.BothOf(a, b)
			wantRefs(t, fmt.Sprint("BothOf ", a, b), both, ok, refsPlainly(a, b, func(inA bool, inB bool) bool { return inA && inB }))
			less, ok := impl.LessOf(a, b)
			wantRefs(t, fmt.Sprint("LessOf ", a, b), less, ok, refsPlainly(a, b, func(inA bool, inB bool) bool { return inA && !inB }))
			either, ok := impl.EitherOf(a, b)
			if want := refsPlainly(a, b, func(inA bool, inB bool) bool { return inA || inB }); len(want) <= 20 {
				wantRefs(t, fmt.Sprint("EitherOf ", a, b), either, ok, want)
			} else {
				wantNoRefs(t, fmt.Sprint("EitherOf ", a, b), either, ok)
			}
		}
	}
}

func TestListsThatAreNoneOfReferences(t *testing.T) {
	for what, bad := range badRefLists() {
		others := append(goodRefLists(), bad)
		for _, other := range others {
			for _, pair := range [][2][]int{{bad, other}, {other, bad}} {
				l, ok := impl.BothOf(pair[0], pair[1])
				wantNoRefs(t, fmt.Sprintf("BothOf, %s, and %v", what, other), l, ok)
				l, ok = impl.EitherOf(pair[0], pair[1])
				wantNoRefs(t, fmt.Sprintf("EitherOf, %s, and %v", what, other), l, ok)
				l, ok = impl.LessOf(pair[0], pair[1])
				wantNoRefs(t, fmt.Sprintf("LessOf, %s, and %v", what, other), l, ok)
			}
		}
	}
}

// fullOf is an index with MaxSeries references from one on, each with so many labels, of which none is as another one.
func fullOf(from int, labels int) carried {
	c := carried{}
	for i := range impl.MaxSeries {
		c[from+i] = manyLabels(labels, "w"+strconv.Itoa(i))
	}
	return c
}

func goodCarried() map[string]carried {
	rising := carried{}
	for i, l := range risingLabels()[:impl.MaxSeries] {
		rising[i*i] = l
	}
	later := carried{}
	for i, l := range risingLabels()[impl.MaxSeries:] {
		later[990+i] = l
	}
	return map[string]carried{
		"nothing":                       {},
		"one without labels":            {7: nil},
		"one with a label":              {7: labelsOf("job", "a")},
		"one at 0":                      {0: labelsOf("job", "a", "up", "b")},
		"one at 999":                    {999: labelsOf("job", "a", "up", "b")},
		"at 0 and 999":                  {0: labelsOf("job", "a"), 999: labelsOf("job", "a", "up", "1")},
		"MaxLabels":                     {12: manyLabels(6, "x")},
		"MaxLabels as long as can be":   {12: widestLabels()},
		"two with the same labels":      {12: manyLabels(6, "x"), 13: manyLabels(6, "x")},
		"two of one Name":               {1: labelsOf("job", "b"), 3: labelsOf("job", "a")},
		"two of all Names":              {1: manyLabels(6, "x"), 3: manyLabels(6, "y")},
		"some of each kind":             {2: labelsOf("job", "a", "zone", "n"), 4: nil, 6: labelsOf("job", "a", "up", "1"), 8: labelsOf("job", "b"), 400: labelsOf("up", "1"), 401: nil},
		"Names that begin alike":        {5: labelsOf("a", "1", "a0", "1", "a_", "1", "aa", "1"), 6: labelsOf("a", "10"), 7: labelsOf("a", "9", "aa", "!")},
		"labels of all kinds":           rising,
		"more labels of all kinds":      later,
		"MaxSeries without labels":      fullOf(0, 0),
		"MaxSeries with one label":      fullOf(980, 1),
		"MaxSeries with MaxLabels":      fullOf(300, 6),
		"all but one with MaxLabels":    fullOf(100, 6).without([]int{110}),
		"MaxSeries with the same label": maxSeriesAlike(),
	}
}

func maxSeriesAlike() carried {
	c := carried{}
	for i := range impl.MaxSeries {
		c[i*50] = labelsOf("job", "a", "up", strconv.Itoa(i%3))
	}
	return c
}

// badIndexes are those that are not good, each for one reason.
func badIndexes() map[string]impl.Index {
	ofSeven := func(all []int, refs ...int) impl.Index {
		x := indexOf(all)
		for _, label := range manyLabels(7, "x") {
			x.Entries = append(x.Entries, entryOf(label.Name, label.Is, refs...))
		}
		return x
	}
	one, two := []int{1}, []int{1, 2}
	bad := map[string]impl.Index{
		"Names that fall":                    indexOf(one, entryOf("b", "x", 1), entryOf("a", "x", 1)),
		"Names that fall behind":             indexOf(one, entryOf("a", "x", 1), entryOf("c", "x", 1), entryOf("b", "x", 1)),
		"Names by how long they are":         indexOf(one, entryOf("b", "x", 1), entryOf("aa", "x", 1)),
		"Is ahead of Name":                   indexOf(two, entryOf("b", "x", 1), entryOf("a", "y", 2)),
		"an Is that falls":                   indexOf(two, entryOf("a", "y", 1), entryOf("a", "x", 2)),
		"an Is that falls behind":            indexOf([]int{1, 2, 3}, entryOf("a", "x", 1), entryOf("a", "z", 2), entryOf("a", "y", 3)),
		"an Is as a number":                  indexOf(two, entryOf("a", "9", 1), entryOf("a", "10", 2)),
		"an entry twice":                     indexOf(one, entryOf("a", "x", 1), entryOf("a", "x", 1)),
		"an entry twice, of two":             indexOf(two, entryOf("a", "x", 1), entryOf("a", "x", 2)),
		"an entry twice behind":              indexOf(two, entryOf("a", "x", 1), entryOf("b", "x", 1), entryOf("b", "x", 2)),
		"no Refs":                            indexOf(one, entryOf("a", "x")),
		"no Refs, and nothing in All":        indexOf(nil, entryOf("a", "x")),
		"no Refs behind":                     indexOf(one, entryOf("a", "x", 1), entryOf("b", "x")),
		"Refs not in All":                    indexOf(one, entryOf("a", "x", 2)),
		"Refs, and nothing in All":           indexOf(nil, entryOf("a", "x", 1)),
		"Refs at 0, and nothing in All":      indexOf(nil, entryOf("a", "x", 0)),
		"one in Refs not in All":             indexOf([]int{1, 3}, entryOf("a", "x", 1, 2)),
		"one in front of Refs not in All":    indexOf([]int{1, 3}, entryOf("a", "x", 0, 1, 3)),
		"one behind Refs not in All":         indexOf(one, entryOf("a", "x", 1, 999)),
		"Refs not in All behind":             indexOf(one, entryOf("a", "x", 1), entryOf("b", "x", 2)),
		"MaxSeries and one more in Refs":     indexOf(stepped(0, 1, 20), entryOf("a", "x", stepped(0, 1, 21)...)),
		"MaxLabels and one more":             ofSeven(one, 1),
		"MaxLabels and one more of each":     ofSeven(two, 1, 2),
		"MaxLabels and one more of the last": ofSeven(stepped(0, 1, 20), 19),
		"a Name twice of one":                indexOf(one, entryOf("a", "x", 1), entryOf("a", "y", 1)),
		"a Name twice behind":                indexOf(one, entryOf("a", "x", 1), entryOf("b", "x", 1), entryOf("b", "y", 1)),
		"a Name twice of the last":           indexOf(two, entryOf("a", "x", 1, 2), entryOf("a", "y", 2)),
		"a Name twice with one between":      indexOf(two, entryOf("a", "x", 1), entryOf("a", "y", 2), entryOf("a", "z", 1)),
		"a Name twice of the first":          indexOf(two, entryOf("a", "x", 1), entryOf("a", "y", 1, 2)),
		"far too many entries":               indexOf(one, slices.Repeat([]impl.Entry{entryOf("a", "x", 1)}, 10000)...),
	}
	for _, name := range []string{"", "1a", "A", "a b", "a-b", "abcdefghijklm", "a\xff", "\u00e9", strings.Repeat("a", 100000)} {
		bad[fmt.Sprintf("Name %.20q", name)] = indexOf(one, entryOf(name, "x", 1))
		bad[fmt.Sprintf("Name %.20q and more", name)] = sortedIndex(two, entryOf(name, "x", 1), entryOf("a", "x", 2), entryOf("z", "x", 1, 2))
	}
	for _, is := range []string{"", "abcdefghijklm", "x y", " ", `"`, "x,", "{", "}", "x\n", "\x7f", "\x80", "\u00e9", strings.Repeat("x", 100000)} {
		bad[fmt.Sprintf("Is %.20q", is)] = indexOf(one, entryOf("a", is, 1))
		bad[fmt.Sprintf("Is %.20q and more", is)] = sortedIndex(two, entryOf("b", is, 1), entryOf("b", "x", 2), entryOf("z", "x", 1, 2))
	}
	for what, refs := range badRefLists() {
		within := slices.DeleteFunc(slices.Compact(slices.Sorted(slices.Values(refs))), func(ref int) bool { return ref < 0 || ref > 999 })
		within = within[:min(20, len(within))]
		bad["All "+what] = indexOf(refs)
		bad["All and Refs "+what] = indexOf(refs, entryOf("a", "x", refs...))
		bad["All "+what+", the first one in Refs"] = indexOf(refs, entryOf("a", "x", refs[0]))
		bad["Refs "+what] = indexOf(within, entryOf("a", "x", refs...))
		bad["Refs "+what+", in the middle"] = indexOf([]int{0, 1, 3, 4, 5, 6, 7, 999}, entryOf("a", "x", 5), entryOf("b", "x", refs...), entryOf("c", "x", 5))
	}
	return bad
}

func sortedIndex(all []int, entries ...impl.Entry) impl.Index {
	slices.SortFunc(entries, func(a impl.Entry, b impl.Entry) int {
		return cmp.Or(strings.Compare(a.Name, b.Name), strings.Compare(a.Is, b.Is))
	})
	return indexOf(all, entries...)
}

func TestGoodIndex(t *testing.T) {
	good := map[string]impl.Index{
		"the zero value":               {},
		"empty lists":                  {Entries: []impl.Entry{}, All: []int{}},
		"numbers that no entry has":    indexOf([]int{0, 5, 999}),
		"one that an entry has":        indexOf([]int{0, 5, 999}, entryOf("a", "x", 5)),
		"MaxSeries without entries":    indexOf(stepped(0, 1, 20)),
		"MaxSeries up to 999":          indexOf(stepped(980, 1, 20), entryOf("a", "x", 999)),
		"MaxSeries in an entry":        indexOf(stepped(0, 1, 20), entryOf("a", "x", stepped(0, 1, 20)...)),
		"0 and 999":                    indexOf([]int{0, 999}, entryOf("a", "x", 0, 999)),
		"a Name of two":                indexOf([]int{1, 2}, entryOf("a", "x", 1), entryOf("a", "y", 2)),
		"an Is of two Names":           indexOf([]int{1}, entryOf("a", "x", 1), entryOf("b", "x", 1)),
		"an Is that falls by Name":     indexOf([]int{1}, entryOf("a", "y", 1), entryOf("b", "x", 1)),
		"an Is by bytes":               indexOf([]int{1, 2, 3, 4}, entryOf("a", "!", 1), entryOf("a", "10", 2), entryOf("a", "9", 3), entryOf("a", "A", 4)),
		"Names by bytes":               indexOf([]int{1}, entryOf("_", "x", 1), entryOf("a", "x", 1), entryOf("a0", "x", 1), entryOf("a_", "x", 1), entryOf("aa", "x", 1), entryOf("b", "x", 1)),
		"a Name and Is of twelve each": indexOf([]int{1}, entryOf("abcdefghijkl", "************", 1)),
	}
	for what, c := range goodCarried() {
		good[what+", carried"] = c.index()
	}
	wantGood(t, "GoodIndex", impl.GoodIndex, good, badIndexes())
}

// wantGood wants a function to tell what is good from what is not.
func wantGood[T any](t *testing.T, asked string, isGood func(x T) bool, good map[string]T, bad map[string]T) {
	t.Helper()
	for what, x := range good {
		if !isGood(x) {
			t.Errorf("%s, %s: false", asked, what)
		}
	}
	for what, x := range bad {
		if isGood(x) {
			t.Errorf("%s, %s: true", asked, what)
		}
	}
}

func TestEachByteInAnEntry(t *testing.T) {
	for b := range 256 {
		c := string([]byte{byte(b)})
		if got := impl.GoodIndex(indexOf([]int{1}, entryOf("a"+c, "x", 1))); got != strings.Contains(nameBytes, c) {
			t.Errorf("GoodIndex, Name %q: %v", "a"+c, got)
		}
		if got := impl.GoodIndex(indexOf([]int{1}, entryOf("a", c, 1))); got != strings.Contains(wordBytes, c) {
			t.Errorf("GoodIndex, Is %q: %v", c, got)
		}
	}
}

func TestWhereAnAddedReferenceComes(t *testing.T) {
	x := indexOf([]int{3, 5}, entryOf("job", "b", 3, 5), entryOf("job", "d", 7), entryOf("up", "1", 5))
	x.All = append(x.All, 7)
	cases := []struct {
		what string
		ref  int
		l    []impl.Label
		want impl.Index
	}{
		{"no labels", 4, nil, indexOf([]int{3, 4, 5, 7}, x.Entries...)},
		{"no labels, ahead", 0, nil, indexOf([]int{0, 3, 5, 7}, x.Entries...)},
		{"no labels, behind", 999, nil, indexOf([]int{3, 5, 7, 999}, x.Entries...)},
		{"to an entry that is there, ahead of its Refs", 1, labelsOf("job", "b"),
			indexOf([]int{1, 3, 5, 7}, entryOf("job", "b", 1, 3, 5), entryOf("job", "d", 7), entryOf("up", "1", 5))},
		{"to an entry that is there, between its Refs", 4, labelsOf("job", "b"),
			indexOf([]int{3, 4, 5, 7}, entryOf("job", "b", 3, 4, 5), entryOf("job", "d", 7), entryOf("up", "1", 5))},
		{"to an entry that is there, behind its Refs", 6, labelsOf("job", "b"),
			indexOf([]int{3, 5, 6, 7}, entryOf("job", "b", 3, 5, 6), entryOf("job", "d", 7), entryOf("up", "1", 5))},
		{"to the last entry", 999, labelsOf("up", "1"),
			indexOf([]int{3, 5, 7, 999}, entryOf("job", "b", 3, 5), entryOf("job", "d", 7), entryOf("up", "1", 5, 999))},
		{"to a new one ahead by Name", 8, labelsOf("a", "z"),
			indexOf([]int{3, 5, 7, 8}, entryOf("a", "z", 8), entryOf("job", "b", 3, 5), entryOf("job", "d", 7), entryOf("up", "1", 5))},
		{"to a new one ahead by Is", 8, labelsOf("job", "a"),
			indexOf([]int{3, 5, 7, 8}, entryOf("job", "a", 8), entryOf("job", "b", 3, 5), entryOf("job", "d", 7), entryOf("up", "1", 5))},
		{"to a new one between by Is", 8, labelsOf("job", "c"),
			indexOf([]int{3, 5, 7, 8}, entryOf("job", "b", 3, 5), entryOf("job", "c", 8), entryOf("job", "d", 7), entryOf("up", "1", 5))},
		{"to a new one between by Name", 8, labelsOf("k", "c"),
			indexOf([]int{3, 5, 7, 8}, entryOf("job", "b", 3, 5), entryOf("job", "d", 7), entryOf("k", "c", 8), entryOf("up", "1", 5))},
		{"to a new one behind by Is", 8, labelsOf("up", "2"),
			indexOf([]int{3, 5, 7, 8}, entryOf("job", "b", 3, 5), entryOf("job", "d", 7), entryOf("up", "1", 5), entryOf("up", "2", 8))},
		{"to a new one behind by Name", 8, labelsOf("zone", "1"),
			indexOf([]int{3, 5, 7, 8}, entryOf("job", "b", 3, 5), entryOf("job", "d", 7), entryOf("up", "1", 5), entryOf("zone", "1", 8))},
		{"to some that are there and some new", 4, labelsOf("a", "b", "job", "d", "up", "1", "zone", "b"),
			indexOf([]int{3, 4, 5, 7}, entryOf("a", "b", 4), entryOf("job", "b", 3, 5), entryOf("job", "d", 4, 7), entryOf("up", "1", 4, 5), entryOf("zone", "b", 4))},
		{"MaxLabels", 8, manyLabels(6, "x"),
			indexOf([]int{3, 5, 7, 8}, entryOf("a", "x", 8), entryOf("b", "x", 8), entryOf("c", "x", 8), entryOf("d", "x", 8), entryOf("e", "x", 8), entryOf("f", "x", 8), entryOf("job", "b", 3, 5), entryOf("job", "d", 7), entryOf("up", "1", 5))},
	}
	for _, c := range cases {
		if got, ok := impl.AddRef(x, c.ref, c.l); !sameIndex(got, c.want) || !ok {
			t.Errorf("AddRef, %s: %s, %v", c.what, indexShown(got), ok)
		}
	}
}

// labelsToAdd are good labels, with those that the references have, all of them and the first one.
func labelsToAdd(c carried) [][]impl.Label {
	lists := append(risingLabels(), manyLabels(6, "x"), manyLabels(6, "w3"), widestLabels(), labelsOf("job", "a"), labelsOf("job", "a", "up", "1"), labelsOf("up", "1", "zone", "n"))
	for _, ref := range c.refs() {
		lists = append(lists, c[ref], c[ref][:min(1, len(c[ref]))])
	}
	return lists
}

func TestAReferenceThatIsAddedIsFoundByEachOfItsLabels(t *testing.T) {
	for what, c := range goodCarried() {
		if len(c) == impl.MaxSeries {
			continue
		}
		x := c.index()
		for _, ref := range []int{0, 1, 3, 5, 110, 500, 998, 999} {
			if _, is := c[ref]; is {
				continue
			}
			for _, l := range labelsToAdd(c) {
				want := c.with(ref, l)
				got, ok := impl.AddRef(x, ref, l)
				wantIndex(t, fmt.Sprintf("AddRef of %d with %v, %s", ref, l, what), got, ok, want)
				wantFound(t, want, got, ref)
				back, ok := impl.DropRefs(got, []int{ref})
				wantIndex(t, fmt.Sprintf("DropRefs of %d with %v, %s", ref, l, what), back, ok, c)
				wantNowhere(t, c, back, ref, l)
			}
		}
	}
}

func wantFound(t *testing.T, c carried, x impl.Index, ref int) {
	t.Helper()
	for _, label := range c[ref] {
		refs, ok := impl.RefsFor(x, label.Name, label.Is)
		wantRefs(t, fmt.Sprint("RefsFor ", label), refs, ok, c.refsWhere(func(l []impl.Label) bool { return slices.Contains(l, label) }))
		if !slices.Contains(refs, ref) {
			t.Errorf("%d is not found by %v", ref, label)
		}
		if words, _ := impl.WordsOf(x, label.Name); !slices.Contains(words, label.Is) {
			t.Errorf("%v is not among the words %q", label, words)
		}
	}
	if all, _ := impl.SelectRefs(x, nil); !slices.Contains(all, ref) {
		t.Errorf("%d is not among %v", ref, all)
	}
}

// wantNowhere looks for a reference that was dropped in all places, and for what was left of its labels.
func wantNowhere(t *testing.T, c carried, x impl.Index, ref int, labels []impl.Label) {
	t.Helper()
	if slices.Contains(x.All, ref) {
		t.Errorf("%d is still in %v", ref, x.All)
	}
	for _, e := range x.Entries {
		if slices.Contains(e.Refs, ref) || len(e.Refs) == 0 {
			t.Errorf("%d was dropped, and %v is still there", ref, e)
		}
	}
	for _, label := range labels {
		refs, ok := impl.RefsFor(x, label.Name, label.Is)
		wantRefs(t, fmt.Sprint("RefsFor ", label), refs, ok, c.refsWhere(func(l []impl.Label) bool { return slices.Contains(l, label) }))
		words, ok := impl.WordsOf(x, label.Name)
		if want := c.wordsPlainly(label.Name); !slices.Equal(words, want) || !ok {
			t.Errorf("WordsOf %q: %q, %v, not %q", label.Name, words, ok, want)
		}
	}
	if all, _ := impl.SelectRefs(x, nil); slices.Contains(all, ref) {
		t.Errorf("%d is still among %v", ref, all)
	}
}

func TestReferencesThatAreNotAdded(t *testing.T) {
	for what, c := range goodCarried() {
		x := c.index()
		for _, ref := range []int{math.MinInt, -1000, -1, 1000, 1001, 1 << 32, math.MaxInt} {
			for _, l := range [][]impl.Label{nil, labelsOf("job", "a"), manyLabels(6, "x")} {
				got, ok := impl.AddRef(x, ref, l)
				wantNoIndex(t, fmt.Sprintf("AddRef of %d, %s", ref, what), got, ok)
			}
		}
		for _, ref := range c.refs() {
			for _, l := range [][]impl.Label{nil, c[ref], labelsOf("new", "a"), manyLabels(6, "x")} {
				got, ok := impl.AddRef(x, ref, l)
				wantNoIndex(t, fmt.Sprintf("AddRef of %d again, %s", ref, what), got, ok)
			}
		}
		for why, l := range badLabels() {
			for _, ref := range []int{0, 777, 999} {
				got, ok := impl.AddRef(x, ref, l)
				wantNoIndex(t, fmt.Sprintf("AddRef with labels amiss (%s), %s", why, what), got, ok)
			}
		}
		if len(c) < impl.MaxSeries {
			continue
		}
		for _, ref := range []int{0, 20, 250, 299, 321, 777, 979, 999} {
			if _, is := c[ref]; is {
				continue
			}
			for _, l := range [][]impl.Label{nil, labelsOf("new", "a"), c.labels()[:min(1, len(c.labels()))]} {
				got, ok := impl.AddRef(x, ref, l)
				wantNoIndex(t, fmt.Sprintf("AddRef of %d without room, %s", ref, what), got, ok)
			}
		}
	}
}

func TestAddRefUpToMaxSeries(t *testing.T) {
	c := carried{}
	x := impl.Index{}
	for i := range impl.MaxSeries {
		ref := (i*7 + 3) % impl.MaxSeries
		l := manyLabels(i%7, "w"+strconv.Itoa(i%4))
		var ok bool
		x, ok = impl.AddRef(x, ref, l)
		c = c.with(ref, l)
		wantIndex(t, fmt.Sprint("AddRef of ", ref), x, ok, c)
	}
	got, ok := impl.AddRef(x, 20, nil)
	wantNoIndex(t, "AddRef of one more", got, ok)
	x, ok = impl.DropRefs(x, []int{4})
	wantIndex(t, "DropRefs", x, ok, c.without([]int{4}))
	x, ok = impl.AddRef(x, 20, labelsOf("job", "a"))
	wantIndex(t, "AddRef where there is room again", x, ok, c.without([]int{4}).with(20, labelsOf("job", "a")))
}

func TestWhatDropRefsLeaves(t *testing.T) {
	x := indexOf([]int{1, 3, 5}, entryOf("job", "a", 1, 3, 5), entryOf("job2", "b", 3), entryOf("up", "1", 1, 5))
	cases := []struct {
		what string
		refs []int
		want impl.Index
	}{
		{"none", nil, x},
		{"an empty list", []int{}, x},
		{"the first", []int{1}, indexOf([]int{3, 5}, entryOf("job", "a", 3, 5), entryOf("job2", "b", 3), entryOf("up", "1", 5))},
		{"one alone in an entry", []int{3}, indexOf([]int{1, 5}, entryOf("job", "a", 1, 5), entryOf("up", "1", 1, 5))},
		{"all of an entry", []int{1, 5}, indexOf([]int{3}, entryOf("job", "a", 3), entryOf("job2", "b", 3))},
		{"all but one", []int{1, 3}, indexOf([]int{5}, entryOf("job", "a", 5), entryOf("up", "1", 5))},
		{"all", []int{1, 3, 5}, impl.Index{}},
		{"all and more", []int{0, 1, 2, 3, 4, 5, 6, 999}, impl.Index{}},
		{"not there", []int{0, 2, 4, 6, 999}, x},
		{"some not there", []int{0, 1, 2, 999}, indexOf([]int{3, 5}, entryOf("job", "a", 3, 5), entryOf("job2", "b", 3), entryOf("up", "1", 5))},
	}
	for _, c := range cases {
		if got, ok := impl.DropRefs(x, c.refs); !sameIndex(got, c.want) || !ok {
			t.Errorf("DropRefs of %s: %s, %v", c.what, indexShown(got), ok)
		}
	}
}

func TestAReferenceThatIsDroppedIsNowhere(t *testing.T) {
	for what, c := range goodCarried() {
		x := c.index()
		all := c.refs()
		lists := append(goodRefLists(), all, all[:len(all)/2], all[len(all)/2:])
		for i, ref := range all {
			lists = append(lists, []int{ref}, slices.Delete(slices.Clone(all), i, i+1))
		}
		for _, refs := range lists {
			kept := c.without(refs)
			got, ok := impl.DropRefs(x, refs)
			wantIndex(t, fmt.Sprintf("DropRefs of %v, %s", refs, what), got, ok, kept)
			for _, ref := range refs {
				wantNowhere(t, kept, got, ref, c[ref])
			}
		}
		for why, refs := range badRefLists() {
			got, ok := impl.DropRefs(x, refs)
			wantNoIndex(t, fmt.Sprintf("DropRefs of a list amiss (%s), %s", why, what), got, ok)
		}
	}
}

func TestRefsFor(t *testing.T) {
	x := indexOf([]int{1, 3, 5, 7}, entryOf("job", "a", 1, 3), entryOf("job", "ab", 5), entryOf("up", "a", 3))
	cases := []struct {
		name, is string
		want     []int
	}{
		{"job", "a", []int{1, 3}}, {"job", "ab", []int{5}}, {"up", "a", []int{3}},
		{"job", "b", nil}, {"job", "", nil}, {"job", "aa", nil}, {"job", "*", nil}, {"job", "A", nil}, {"job", "~", nil},
		{"up", "ab", nil}, {"up", "1", nil}, {"jo", "a", nil}, {"joba", "b", nil}, {"joba", "", nil}, {"a", "a", nil}, {"zone", "a", nil},
		{"", "", nil}, {"", "a", nil}, {"1", "a", nil}, {"job", "a b", nil}, {`job="`, "a", nil}, {"a", "job", nil},
		{strings.Repeat("j", 1000), strings.Repeat("a", 1000), nil}, {"\xff", "\x00", nil},
	}
	for _, c := range cases {
		refs, ok := impl.RefsFor(x, c.name, c.is)
		wantRefs(t, fmt.Sprintf("RefsFor %.20q %.20q", c.name, c.is), refs, ok, c.want)
		refs, ok = impl.RefsFor(impl.Index{}, c.name, c.is)
		wantRefs(t, fmt.Sprintf("RefsFor of nothing, %.20q %.20q", c.name, c.is), refs, ok, nil)
	}
	for what, c := range goodCarried() {
		for _, label := range append(c.labels(), labelsOf("none", "a", "a", "none", "", "", "job", "")...) {
			refs, ok := impl.RefsFor(c.index(), label.Name, label.Is)
			wantRefs(t, fmt.Sprintf("RefsFor %v, %s", label, what), refs, ok, c.refsWhere(func(l []impl.Label) bool { return slices.Contains(l, label) }))
		}
	}
}

func TestWordsOf(t *testing.T) {
	x := indexOf([]int{1, 3, 5, 7}, entryOf("job", "!", 1, 3), entryOf("job", "10", 5), entryOf("job", "9", 7), entryOf("jobs", "a", 1), entryOf("up", "z", 3))
	cases := []struct {
		name string
		want []string
	}{
		{"job", []string{"!", "10", "9"}}, {"jobs", []string{"a"}}, {"up", []string{"z"}},
		{"jo", nil}, {"joba", nil}, {"a", nil}, {"zone", nil}, {"", nil}, {"*", nil}, {"1", nil}, {"JOB", nil}, {"a b", nil}, {"\xff", nil}, {strings.Repeat("j", 1000), nil},
	}
	for _, c := range cases {
		if words, ok := impl.WordsOf(x, c.name); !slices.Equal(words, c.want) || !ok {
			t.Errorf("WordsOf %.20q: %q, %v", c.name, words, ok)
		}
		if words, ok := impl.WordsOf(impl.Index{}, c.name); len(words) != 0 || !ok {
			t.Errorf("WordsOf of nothing, %.20q: %q, %v", c.name, words, ok)
		}
	}
	for what, c := range goodCarried() {
		for _, label := range append(c.labels(), labelsOf("none", "a", "", "")...) {
			words, ok := impl.WordsOf(c.index(), label.Name)
			if want := c.wordsPlainly(label.Name); !slices.Equal(words, want) || !ok {
				t.Errorf("WordsOf %q, %s: %q, %v, not %q", label.Name, what, words, ok, want)
			}
		}
	}
}

func matchersOf(m ...impl.Matcher) []impl.Matcher {
	return m
}

func TestSelectRefs(t *testing.T) {
	x := carried{
		1: labelsOf("job", "api", "up", "1"),
		3: labelsOf("job", "api2", "zone", "n"),
		5: labelsOf("job", "web"),
		7: nil,
		9: labelsOf("up", "1"),
	}.index()
	cases := []struct {
		m    []impl.Matcher
		want []int
	}{
		{nil, []int{1, 3, 5, 7, 9}},
		{matchersOf(), []int{1, 3, 5, 7, 9}},
		{matchersOf(matcherOf(impl.MtIs, "job", "api")), []int{1}},
		{matchersOf(matcherOf(impl.MtIs, "job", "api*")), nil},
		{matchersOf(matcherOf(impl.MtIs, "job", "none")), nil},
		{matchersOf(matcherOf(impl.MtIs, "job", "")), []int{7, 9}},
		{matchersOf(matcherOf(impl.MtNot, "job", "api")), []int{3, 5, 7, 9}},
		{matchersOf(matcherOf(impl.MtNot, "job", "none")), []int{1, 3, 5, 7, 9}},
		{matchersOf(matcherOf(impl.MtNot, "job", "")), []int{1, 3, 5}},
		{matchersOf(matcherOf(impl.MtLike, "job", "api*")), []int{1, 3}},
		{matchersOf(matcherOf(impl.MtLike, "job", "*")), []int{1, 3, 5, 7, 9}},
		{matchersOf(matcherOf(impl.MtLike, "job", "")), []int{7, 9}},
		{matchersOf(matcherOf(impl.MtUnlike, "job", "api*")), []int{5, 7, 9}},
		{matchersOf(matcherOf(impl.MtUnlike, "job", "*")), nil},
		{matchersOf(matcherOf(impl.MtUnlike, "job", "")), []int{1, 3, 5}},
		// Of a Name that no entry has all references have the empty text.
		{matchersOf(matcherOf(impl.MtIs, "none", "")), []int{1, 3, 5, 7, 9}},
		{matchersOf(matcherOf(impl.MtIs, "none", "a")), nil},
		{matchersOf(matcherOf(impl.MtNot, "none", "")), nil},
		{matchersOf(matcherOf(impl.MtNot, "none", "a")), []int{1, 3, 5, 7, 9}},
		{matchersOf(matcherOf(impl.MtLike, "none", "*")), []int{1, 3, 5, 7, 9}},
		{matchersOf(matcherOf(impl.MtLike, "none", "a*")), nil},
		{matchersOf(matcherOf(impl.MtUnlike, "none", "*")), nil},
		{matchersOf(matcherOf(impl.MtUnlike, "none", "a*")), []int{1, 3, 5, 7, 9}},
		// Several at once, of one Name, of several, and all that can be.
		{matchersOf(matcherOf(impl.MtLike, "job", "*p*"), matcherOf(impl.MtIs, "up", "1")), []int{1}},
		{matchersOf(matcherOf(impl.MtIs, "up", "1"), matcherOf(impl.MtIs, "job", "")), []int{9}},
		{matchersOf(matcherOf(impl.MtIs, "job", "api"), matcherOf(impl.MtIs, "job", "web")), nil},
		{matchersOf(matcherOf(impl.MtLike, "job", "*p*"), matcherOf(impl.MtNot, "job", "api")), []int{3}},
		{matchersOf(matcherOf(impl.MtNot, "job", "api"), matcherOf(impl.MtNot, "job", "web"), matcherOf(impl.MtUnlike, "up", "*1*"), matcherOf(impl.MtIs, "zone", "")), []int{7}},
		{slices.Repeat(matchersOf(matcherOf(impl.MtIs, "up", "1")), 6), []int{1, 9}},
	}
	for _, c := range cases {
		refs, ok := impl.SelectRefs(x, c.m)
		wantRefs(t, fmt.Sprint("SelectRefs ", c.m), refs, ok, c.want)
		refs, ok = impl.SelectRefs(impl.Index{}, c.m)
		wantRefs(t, fmt.Sprint("SelectRefs of nothing ", c.m), refs, ok, nil)
	}
}

// fitsPlainly tells whether labels match, by trying each length for each star.
func fitsPlainly(l []impl.Label, m impl.Matcher) bool {
	is := ""
	for _, label := range l {
		if label.Name == m.Name {
			is = label.Is
		}
	}
	switch m.Kind {
	case impl.MtIs:
		return is == m.Want
	case impl.MtNot:
		return is != m.Want
	case impl.MtLike:
		return likeByTrying(m.Want, is)
	}
	return !likeByTrying(m.Want, is)
}

func TestSelectRefsOfAllKinds(t *testing.T) {
	for what, c := range goodCarried() {
		x := c.index()
		var all []impl.Matcher
		for _, name := range []string{"a", "b", "f", "aa", "job", "up", "zone", "none"} {
			for _, want := range []string{"", "x", "1", "a", "w3", "*", "w1*", "*1", "a*"} {
				for _, kind := range allMatcherKinds {
					all = append(all, matcherOf(kind, name, want))
				}
			}
		}
		for i := range all {
			for _, many := range []int{1, 2, 3, 6} {
				var m []impl.Matcher
				for j := range many {
					m = append(m, all[(i+j*j*37)%len(all)])
				}
				want := c.refsWhere(func(l []impl.Label) bool {
					return !slices.ContainsFunc(m, func(one impl.Matcher) bool { return !fitsPlainly(l, one) })
				})
				refs, ok := impl.SelectRefs(x, m)
				wantRefs(t, fmt.Sprintf("SelectRefs %v, %s", m, what), refs, ok, want)
			}
		}
	}
}

func TestSelectRefsByMatchersThatAreNotGood(t *testing.T) {
	good := matcherOf(impl.MtIs, "job", "a")
	none := matcherOf(impl.MtIs, "job", "none")
	for what, c := range goodCarried() {
		x := c.index()
		for why, bad := range badMatchers() {
			for _, m := range [][]impl.Matcher{{bad}, {good, bad}, {none, bad}, {bad, good}, {good, bad, good}} {
				refs, ok := impl.SelectRefs(x, m)
				wantNoRefs(t, fmt.Sprintf("SelectRefs by one amiss (%s), %s", why, what), refs, ok)
			}
		}
		for _, many := range []int{7, 12, 1000} {
			refs, ok := impl.SelectRefs(x, slices.Repeat([]impl.Matcher{good}, many))
			wantNoRefs(t, fmt.Sprintf("SelectRefs by %d, %s", many, what), refs, ok)
		}
	}
}

func TestIndexesThatAreNotGoodGetZero(t *testing.T) {
	for what, x := range badIndexes() {
		for _, ref := range []int{0, 1, 5, 500, 999} {
			for _, l := range [][]impl.Label{nil, labelsOf("a", "x"), labelsOf("job", "a"), manyLabels(6, "x")} {
				got, ok := impl.AddRef(x, ref, l)
				wantNoIndex(t, "AddRef, "+what, got, ok)
			}
		}
		for _, refs := range [][]int{nil, {0}, {1}, {2}, {1, 2}, {0, 999}, stepped(0, 1, 20), stepped(1, 1, 20)} {
			got, ok := impl.DropRefs(x, refs)
			wantNoIndex(t, "DropRefs, "+what, got, ok)
		}
		for _, label := range labelsOf("a", "x", "b", "x", "a", "y", "z", "x", "", "", "a", "", "none", "x") {
			refs, ok := impl.RefsFor(x, label.Name, label.Is)
			wantNoRefs(t, "RefsFor, "+what, refs, ok)
			if words, ok := impl.WordsOf(x, label.Name); len(words) != 0 || ok {
				t.Errorf("WordsOf %q, %s: %q, %v", label.Name, what, words, ok)
			}
		}
		for _, m := range [][]impl.Matcher{nil, {matcherOf(impl.MtIs, "a", "x")}, {matcherOf(impl.MtNot, "none", "x")}, {matcherOf(impl.MtIs, "none", "x")}} {
			refs, ok := impl.SelectRefs(x, m)
			wantNoRefs(t, "SelectRefs, "+what, refs, ok)
		}
	}
}

func TestAddingAndDroppingByTurns(t *testing.T) {
	turn := 1
	next := func(below int) int {
		turn = (turn*1103515245 + 12345) & 0x7fffffff
		return (turn >> 8) % below
	}
	for range 20 {
		x, c := impl.Index{}, carried{}
		for range 120 {
			ref := next(24)
			if next(3) == 0 {
				refs := stepped(ref, 1+next(3), next(3))
				var ok bool
				x, ok = impl.DropRefs(x, refs)
				c = c.without(refs)
				wantIndex(t, fmt.Sprint("DropRefs of ", refs), x, ok, c)
				continue
			}
			var l []impl.Label
			for _, label := range manyLabels(6, "x") {
				if next(2) == 0 {
					l = append(l, impl.Label{Name: label.Name, Is: strconv.Itoa(next(12))})
				}
			}
			got, ok := impl.AddRef(x, ref, l)
			if _, is := c[ref]; is || len(c) == 20 {
				wantNoIndex(t, fmt.Sprint("AddRef of ", ref), got, ok)
				continue
			}
			x, c = got, c.with(ref, l)
			wantIndex(t, fmt.Sprint("AddRef of ", ref, l), x, ok, c)
			wantFound(t, c, x, ref)
		}
	}
}

// indexArgs are what the functions of an index are called with.
type indexArgs struct {
	x    impl.Index
	ref  int
	l    []impl.Label
	refs []int
	m    []impl.Matcher
}

// indexAnswers are all lists that the functions of an index answer with: of references, of entries and of words.
type indexAnswers struct {
	refs    [][]int
	entries [][]impl.Entry
	words   [][]string
}

func (a *indexAnswers) take(x impl.Index) {
	a.refs = append(a.refs, x.All)
	a.entries = append(a.entries, x.Entries)
	for _, e := range x.Entries {
		a.refs = append(a.refs, e.Refs)
	}
}

func (g indexArgs) answers() indexAnswers {
	var a indexAnswers
	added, _ := impl.AddRef(g.x, g.ref, g.l)
	bare, _ := impl.AddRef(g.x, g.ref, nil)
	dropped, _ := impl.DropRefs(g.x, g.refs)
	same, _ := impl.DropRefs(g.x, nil)
	for _, x := range []impl.Index{added, bare, dropped, same} {
		a.take(x)
	}
	for _, pair := range [][2][]int{{g.x.All, g.refs}, {g.refs, g.x.All}, {g.x.All, g.x.All}, {g.x.All, nil}, {nil, g.x.All}} {
		both, _ := impl.BothOf(pair[0], pair[1])
		either, _ := impl.EitherOf(pair[0], pair[1])
		less, _ := impl.LessOf(pair[0], pair[1])
		a.refs = append(a.refs, both, either, less)
	}
	all, _ := impl.SelectRefs(g.x, nil)
	some, _ := impl.SelectRefs(g.x, g.m)
	a.refs = append(a.refs, all, some)
	for _, e := range g.x.Entries[:min(130, len(g.x.Entries))] {
		refs, _ := impl.RefsFor(g.x, e.Name, e.Is)
		words, _ := impl.WordsOf(g.x, e.Name)
		a.refs = append(a.refs, refs)
		a.words = append(a.words, words)
	}
	return a
}

func (g indexArgs) called() string {
	return fmt.Sprint(g.answers())
}

// roomy has something behind the length of each list.
func (g indexArgs) roomy(ref int, e impl.Entry, m impl.Matcher) indexArgs {
	var entries []impl.Entry
	for _, one := range g.x.Entries {
		_, one.Refs = withRoom(one.Refs, ref, ref)
		entries = append(entries, one)
	}
	_, g.x.Entries = withRoom(entries, e, e)
	_, g.x.All = withRoom(g.x.All, ref, ref)
	_, g.refs = withRoom(g.refs, ref, ref)
	_, g.l = withRoom(g.l, impl.Label{Name: e.Name, Is: e.Is})
	_, g.m = withRoom(g.m, m)
	return g
}

// shown tells all memory of the arguments, what lies behind the lengths too.
func (g indexArgs) shown() string {
	var text strings.Builder
	for _, e := range whole(g.x.Entries) {
		fmt.Fprintf(&text, "%q %q %v, ", e.Name, e.Is, whole(e.Refs))
	}
	fmt.Fprintf(&text, "%v %v %q %q", whole(g.x.All), whole(g.refs), whole(g.l), fmt.Sprint(whole(g.m)))
	return text.String()
}

func argsForIndexes() []indexArgs {
	var args []indexArgs
	add := func(x impl.Index, l []impl.Label, refs []int) {
		m := []impl.Matcher{matcherOf(impl.MtNot, "job", "a"), matcherOf(impl.MtLike, "a", "*")}
		args = append(args, indexArgs{x, 777, l, refs, m}, indexArgs{x, -1, slices.Concat(l, l), slices.Concat(refs, refs), slices.Concat(m, m, m, m)})
	}
	for _, c := range goodCarried() {
		all := c.refs()
		add(c.index(), labelsOf("job", "a", "new", "b"), all[:len(all)/2])
		add(c.index(), manyLabels(6, "x"), []int{0, 999})
	}
	for _, x := range badIndexes() {
		add(x, labelsOf("a", "x", "b", "y"), []int{1, 5})
	}
	return args
}

func TestIndexesAreLeftAsTheyWere(t *testing.T) {
	for _, plain := range argsForIndexes() {
		wantLeft(t, indexShown(plain.x), plain,
			plain.roomy(0, impl.Entry{}, impl.Matcher{}),
			plain.roomy(999, entryOf("zz", "zz", 999), matcherOf(impl.MtIs, "zz", "zz")))
	}
}

func TestAnswersOfIndexesShareNothing(t *testing.T) {
	for _, plain := range argsForIndexes() {
		given := plain.roomy(0, impl.Entry{}, impl.Matcher{})
		// A first call's answers stand beside those of a second one, and beside the arguments.
		lists, more := given.answers(), given.answers()
		lists.refs = append(append(lists.refs, more.refs...), given.refs)
		lists.entries = append(lists.entries, more.entries...)
		lists.words = append(lists.words, more.words...)
		lists.take(given.x)
		if !eachHasItsOwn(lists.refs, func(i int) int { return i }, func(x int, i int) bool { return x == i }) {
			t.Errorf("%s: two lists of references share memory", indexShown(plain.x))
		}
		named := func(i int) impl.Entry { return impl.Entry{Name: strconv.Itoa(i)} }
		if !eachHasItsOwn(lists.entries, named, func(e impl.Entry, i int) bool { return e.Name == strconv.Itoa(i) }) {
			t.Errorf("%s: two lists of entries share memory", indexShown(plain.x))
		}
		if !eachHasItsOwn(lists.words, strconv.Itoa, func(s string, i int) bool { return s == strconv.Itoa(i) }) {
			t.Errorf("%s: two lists of words share memory", indexShown(plain.x))
		}
	}
}
