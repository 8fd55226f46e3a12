package tests

import (
	"fmt"
	"maps"
	"math"
	"slices"
	"strings"
	"testing"

	"loop.example/g00747/impl"
)

// noted is what marks tell, the numbers that are open and the views of the readers in no order.
type noted struct {
	last  int
	open  map[int]bool
	views map[int]glimpse
}

type glimpse struct {
	top  int
	hide map[int]bool
}

func setOf(l []int) map[int]bool {
	set := map[int]bool{}
	for _, x := range l {
		set[x] = true
	}
	return set
}

func inOrder(set map[int]bool) []int {
	return slices.Sorted(maps.Keys(set))
}

func notedOf(last int, open ...int) noted {
	return noted{last, setOf(open), map[int]glimpse{}}
}

func (n noted) copied() noted {
	return noted{n.last, maps.Clone(n.open), maps.Clone(n.views)}
}

func (n noted) with(reader int, top int, hide ...int) noted {
	n = n.copied()
	n.views[reader] = glimpse{top, setOf(hide)}
	return n
}

func (n noted) begunPlainly() noted {
	n = n.copied()
	n.last++
	n.open[n.last] = true
	return n
}

func (n noted) endedPlainly(id int) noted {
	n = n.copied()
	delete(n.open, id)
	return n
}

func (n noted) closedPlainly(reader int) noted {
	n = n.copied()
	delete(n.views, reader)
	return n
}

func (n noted) readers() []int {
	return slices.Sorted(maps.Keys(n.views))
}

func (g glimpse) view(reader int) impl.View {
	return impl.View{Id: reader, Top: g.top, Hide: inOrder(g.hide)}
}

func (g glimpse) sees(id int) bool {
	return 1 <= id && id <= g.top && !g.hide[id]
}

func (n noted) marks() impl.Marks {
	m := impl.Marks{Last: n.last, Open: inOrder(n.open)}
	for _, reader := range n.readers() {
		m.Readers = append(m.Readers, n.views[reader].view(reader))
	}
	return m
}

func (n noted) lowPlainly() int {
	low := 0
	for low < n.last && !n.open[low+1] {
		low++
	}
	return low
}

func (n noted) keepPlainly() int {
	low := n.lowPlainly()
	for id := 1; ; id++ {
		if id > low {
			return id
		}
		for _, g := range n.views {
			if !g.sees(id) {
				return id
			}
		}
	}
}

func sameView(a impl.View, b impl.View) bool {
	return a.Id == b.Id && a.Top == b.Top && slices.Equal(a.Hide, b.Hide)
}

func sameMarks(a impl.Marks, b impl.Marks) bool {
	return a.Last == b.Last && slices.Equal(a.Open, b.Open) && slices.EqualFunc(a.Readers, b.Readers, sameView)
}

// marksShown keeps what a test tells of marks short, however much is in them.
func marksShown(m impl.Marks) string {
	return fmt.Sprintf("%.800s", fmt.Sprint(m.Last, " ", m.Open[:min(len(m.Open), 20)], " ", m.Readers[:min(len(m.Readers), 20)]))
}

func wantMarks(t *testing.T, what string, got impl.Marks, ok bool, want noted) {
	t.Helper()
	if !sameMarks(got, want.marks()) || !ok {
		t.Errorf("%s: %s, %v, not %s", what, marksShown(got), ok, marksShown(want.marks()))
	}
	if !impl.GoodMarks(got) {
		t.Errorf("%s: %s are not good", what, marksShown(got))
	}
}

func wantNoMarks(t *testing.T, what string, got impl.Marks, ok bool) {
	t.Helper()
	if !sameMarks(got, impl.Marks{}) || ok {
		t.Errorf("%s: %s, %v", what, marksShown(got), ok)
	}
}

// wantBegun wants the marks with one number more, and gives them plainly.
func wantBegun(t *testing.T, what string, n noted) noted {
	t.Helper()
	got, id, ok := impl.BeginAppend(n.marks())
	want := n.begunPlainly()
	wantMarks(t, what, got, ok, want)
	if id != n.last+1 {
		t.Errorf("%s: %d, not %d", what, id, n.last+1)
	}
	return want
}

func wantNoneBegun(t *testing.T, what string, m impl.Marks) {
	t.Helper()
	got, id, ok := impl.BeginAppend(m)
	wantNoMarks(t, what, got, ok)
	if id != 0 {
		t.Errorf("%s: %d", what, id)
	}
}

// wantOpened wants the marks with one view more, and gives them plainly.
func wantOpened(t *testing.T, what string, n noted, reader int) noted {
	t.Helper()
	got, v, ok := impl.OpenView(n.marks(), reader)
	want := n.with(reader, n.last, inOrder(n.open)...)
	wantMarks(t, what, got, ok, want)
	if !sameView(v, want.views[reader].view(reader)) {
		t.Errorf("%s: %v, not %v", what, v, want.views[reader])
	}
	return want
}

func wantNoneOpened(t *testing.T, what string, m impl.Marks, reader int) {
	t.Helper()
	got, v, ok := impl.OpenView(m, reader)
	wantNoMarks(t, what, got, ok)
	if !sameView(v, impl.View{}) {
		t.Errorf("%s: %v", what, v)
	}
}

func wantEnded(t *testing.T, what string, n noted, id int) noted {
	t.Helper()
	got, ok := impl.EndAppend(n.marks(), id)
	want := n.endedPlainly(id)
	wantMarks(t, what, got, ok, want)
	return want
}

func wantClosed(t *testing.T, what string, n noted, reader int) noted {
	t.Helper()
	got, ok := impl.CloseView(n.marks(), reader)
	want := n.closedPlainly(reader)
	wantMarks(t, what, got, ok, want)
	return want
}

func wantLow(t *testing.T, what string, m impl.Marks, want int) {
	t.Helper()
	if got, ok := impl.LowMark(m); got != want || !ok {
		t.Errorf("LowMark, %s: %d, %v, not %d", what, got, ok, want)
	}
}

func wantKept(t *testing.T, what string, m impl.Marks, want int) {
	t.Helper()
	if got, ok := impl.KeepFrom(m); got != want || !ok {
		t.Errorf("KeepFrom, %s: %d, %v, not %d", what, got, ok, want)
	}
}

func goodWithoutReaders() map[string]noted {
	all := map[string]noted{}
	for _, last := range []int{0, 1, 2, 8, 9, 30, 99998, 99999, 100000} {
		all[fmt.Sprint("none open of ", last)] = notedOf(last)
	}
	maps.Copy(all, map[string]noted{
		"1 open of 1":                notedOf(1, 1),
		"1 open":                     notedOf(9, 1),
		"2 open":                     notedOf(9, 2),
		"the last one open":          notedOf(9, 9),
		"1 and the last one open":    notedOf(9, 1, 9),
		"1 open of 100000":           notedOf(100000, 1),
		"100000 open":                notedOf(100000, 100000),
		"99999 open of 99999":        notedOf(99999, 99999),
		"99999 open of 100000":       notedOf(100000, 99999),
		"1 and 100000 open":          notedOf(100000, 1, 100000),
		"several open":               notedOf(30, 4, 9, 10, 17),
		"more open":                  notedOf(2000, 512, 513, 1024, 1999),
		"MaxOpen open, all of 8":     notedOf(8, stepped(1, 1, 8)...),
		"MaxOpen open, up to 100000": notedOf(100000, stepped(99993, 1, 8)...),
		"MaxOpen open, up to 99999":  notedOf(99999, stepped(99992, 1, 8)...),
		"MaxOpen open far apart":     notedOf(99997, stepped(1, 14285, 8)...),
		"one fewer, all of 7":        notedOf(7, stepped(1, 1, 7)...),
		"one fewer, 8 ended":         notedOf(8, stepped(1, 1, 7)...),
		"one fewer, 1 ended":         notedOf(8, stepped(2, 1, 7)...),
		"one fewer, up to 99999":     notedOf(99999, stepped(99993, 1, 7)...),
		"one fewer, up to 100000":    notedOf(100000, stepped(99994, 1, 7)...),
	})
	return all
}

// fullOfReaders has MaxOpen of them, by steps, with a view that hides MaxOpen numbers each.
func fullOfReaders(from int, by int) noted {
	n := notedOf(900, 3, 800)
	for i, reader := range stepped(from, by, 8) {
		n = n.with(reader, 900-30*i, stepped(2+i, 70, 8)...)
	}
	return n
}

func goodWithReaders() map[string]noted {
	all := map[string]noted{
		"a view of nothing":                     notedOf(0).with(0, 0),
		"a view with the greatest Id":           notedOf(5, 5).with(math.MaxInt, 5, 5),
		"a Top at 0":                            notedOf(9).with(0, 0),
		"a Top at 1":                            notedOf(9).with(1, 1),
		"a Top at 1, hidden":                    notedOf(9).with(1, 1, 1),
		"a Top one below Last":                  notedOf(9).with(3, 8),
		"a Top at Last":                         notedOf(9).with(3, 9),
		"a Top at Last, hidden":                 notedOf(9, 9).with(3, 9, 9),
		"a Top at Last, which is open":          notedOf(9, 9).with(3, 9),
		"a Top at 100000":                       notedOf(100000).with(3, 100000, 1, 100000),
		"hides 1":                               notedOf(9).with(3, 9, 1),
		"hides 1 and Top":                       notedOf(9).with(3, 7, 1, 7),
		"hides MaxOpen":                         notedOf(9).with(3, 8, stepped(1, 1, 8)...),
		"hides MaxOpen far apart":               notedOf(99999).with(3, 99997, stepped(1, 14285, 8)...),
		"hides MaxOpen up to 100000":            notedOf(100000, 4).with(3, 100000, stepped(99993, 1, 8)...),
		"hides one below the low mark":          notedOf(9, 7).with(3, 9, 5),
		"hides some below the low mark":         notedOf(30, 27).with(3, 30, 12, 13, 20, 27),
		"hides the low mark":                    notedOf(9, 7).with(3, 9, 6),
		"hides the one above the low mark":      notedOf(9, 7).with(3, 9, 7),
		"hides one above the low mark":          notedOf(9, 3).with(3, 9, 5),
		"a Top below the low mark":              notedOf(9, 7).with(3, 4),
		"a Top one below the low mark":          notedOf(9, 7).with(3, 5),
		"a Top at the low mark":                 notedOf(9, 7).with(3, 6),
		"a Top above the low mark":              notedOf(9, 3).with(3, 6),
		"a Top below the low mark, one hidden":  notedOf(9, 7).with(3, 4, 2),
		"a Top below the low mark, all hidden":  notedOf(9).with(3, 3, 1, 2, 3),
		"views that see all":                    notedOf(40).with(0, 40).with(1, 40).with(2, 40),
		"views of one time":                     notedOf(40, 11, 12).with(0, 40, 11, 12).with(4, 40, 11, 12).with(9, 40, 11, 12),
		"views, the first one sees least":       notedOf(40, 33).with(2, 40, 5).with(5, 40, 9).with(9, 12),
		"views, one between sees least":         notedOf(40, 33).with(2, 40, 9).with(5, 4).with(9, 40, 5),
		"views, the last one sees least":        notedOf(40, 33).with(2, 9).with(5, 40, 5).with(9, 40, 2, 4),
		"views that see more than has ended":    notedOf(40, 2, 7).with(2, 40, 5).with(5, 40, 9, 10).with(9, 30),
		"views, each later one with less":       notedOf(40, 38).with(10, 39).with(20, 29).with(30, 19),
		"broad":                                 broad(),
		"MaxOpen readers from 0 on":             fullOfReaders(0, 1),
		"MaxOpen readers far apart":             fullOfReaders(3, 1000),
		"MaxOpen readers up to the greatest Id": fullOfReaders(math.MaxInt-7, 1),
		"MaxOpen readers of nothing":            notedOf(0),
	}
	for i := range 8 {
		all["MaxOpen readers of nothing"] = all["MaxOpen readers of nothing"].with(i, 0)
		all[fmt.Sprintf("all but reader %d from 0 on", i)] = fullOfReaders(0, 1).closedPlainly(i)
		all[fmt.Sprintf("all but reader %d far apart", i)] = fullOfReaders(3, 1000).closedPlainly(3 + 1000*i)
	}
	return all
}

func goodNoted() map[string]noted {
	all := goodWithReaders()
	maps.Copy(all, goodWithoutReaders())
	return all
}

// broad has numbers at both ends open and hidden, and of each list one between.
func broad() noted {
	return notedOf(30, 1, 10, 30).with(4, 30, 1, 10, 30).with(6, 20, 5, 10, 20).with(9, 12, 1, 5, 12)
}

// badNumbers are lists that are not open numbers of 1 up to a last one, which is 12 at least.
func badNumbers(last int) map[string][]int {
	return map[string][]int{
		"0":                           {0},
		"0 in front":                  {0, 1, 5},
		"one below 0":                 {-1},
		"one below 0 in front":        {-1, 1, 5},
		"the least int":               {math.MinInt},
		"the least int in front":      {math.MinInt, 3},
		"one above":                   {last + 1},
		"one above at the end":        {1, 5, last + 1},
		"one above behind the last":   {last, last + 1},
		"one far above at the end":    {1, 5, 100001},
		"the greatest int":            {math.MaxInt},
		"the greatest int at the end": {2, math.MaxInt},
		"a good one by its end":       {1<<32 + 5},
		"still":                       {5, 5},
		"still at 1":                  {1, 1},
		"still at the last":           {last, last},
		"still in the middle":         {1, 3, 3, 5},
		"still at the end":            {1, 3, 5, 5},
		"falling":                     {5, 4},
		"falling in front":            {4, 3, 5},
		"falling in the middle":       {1, 5, 3, 7},
		"falling at the end":          {1, 5, 7, 6},
		"falling ahead of rising":     {7, 1, 2},
		"MaxOpen, 0 in front":         stepped(0, 1, 8),
		"MaxOpen, one above":          stepped(last-6, 1, 8),
		"MaxOpen, still at the end":   append(stepped(1, 1, 7), 7),
		"one more than MaxOpen":       stepped(1, 1, 9),
		"one more up to the last":     stepped(last-8, 1, 9),
		"far too many":                stepped(1, 1, 5000),
	}
}

func amissMarks(n noted, change func(m *impl.Marks)) impl.Marks {
	m := n.marks()
	change(&m)
	return m
}

// addBadReaders are those of the broad marks in which one reader is amiss, or how they follow on each other.
func addBadReaders(bad map[string]impl.Marks) {
	change := func(what string, change func(r []impl.View)) {
		bad[what] = amissMarks(broad(), func(m *impl.Marks) { change(m.Readers) })
	}
	for at := range 3 {
		for _, top := range []int{-1, -2, 31, 32, 100001, math.MinInt, math.MaxInt, 1<<32 + 12} {
			change(fmt.Sprintf("a Top at %d, reader %d", top, at), func(r []impl.View) { r[at].Top = top })
			change(fmt.Sprintf("a Top at %d, none hidden, reader %d", top, at), func(r []impl.View) { r[at].Top, r[at].Hide = top, nil })
		}
		for _, top := range []int{0, 1, 11} {
			change(fmt.Sprintf("a Top at %d below what is hidden, reader %d", top, at), func(r []impl.View) { r[at].Top = top })
		}
		for what, l := range badNumbers(broad().marks().Readers[at].Top) {
			change(fmt.Sprintf("hidden: %s, reader %d", what, at), func(r []impl.View) { r[at].Hide = l })
		}
		for _, id := range []int{-1, -2, -1000, math.MinInt} {
			change(fmt.Sprintf("an Id at %d, reader %d", id, at), func(r []impl.View) { r[at].Id = id })
		}
	}
	for at := range 2 {
		change(fmt.Sprint("Ids that stand still at ", at), func(r []impl.View) { r[at+1].Id = r[at].Id })
		change(fmt.Sprint("Ids that fall at ", at), func(r []impl.View) { r[at].Id, r[at+1].Id = r[at+1].Id, r[at].Id })
		change(fmt.Sprint("a reader twice at ", at), func(r []impl.View) { r[at+1] = r[at] })
	}
	change("an Id twice with one between", func(r []impl.View) { r[2].Id = r[0].Id })
	change("Ids that stand still at 0", func(r []impl.View) { r[0].Id, r[1].Id = 0, 0 })
	change("the last Id below all", func(r []impl.View) { r[2].Id = 0 })
	change("the first Id above all", func(r []impl.View) { r[0].Id = math.MaxInt })
	change("readers turned round", func(r []impl.View) { slices.Reverse(r) })
}

// badMarks are those that are not good, each for one reason.
func badMarks() map[string]impl.Marks {
	bad := map[string]impl.Marks{}
	for _, last := range []int{-1, -2, 100001, 100002, math.MinInt, math.MaxInt, 1<<32 + 30} {
		bad[fmt.Sprint("Last at ", last)] = impl.Marks{Last: last}
		bad[fmt.Sprint("Last with a reader at ", last)] = impl.Marks{Last: last, Readers: []impl.View{{}}}
		bad[fmt.Sprint("Last of broad marks at ", last)] = amissMarks(broad(), func(m *impl.Marks) { m.Last = last })
	}
	for _, last := range []int{0, 1, 20, 29} {
		bad[fmt.Sprint("Last below what is open at ", last)] = amissMarks(broad(), func(m *impl.Marks) { m.Last, m.Readers = last, nil })
		bad[fmt.Sprint("Last below a Top at ", last)] = amissMarks(broad(), func(m *impl.Marks) { m.Last, m.Open = last, nil })
	}
	for _, last := range []int{12, 30, 100000} {
		for what, l := range badNumbers(last) {
			bad[fmt.Sprintf("open of %d: %s", last, what)] = impl.Marks{Last: last, Open: l}
		}
	}
	for _, last := range []int{0, 1, 2, 7} {
		bad[fmt.Sprint("one above open of ", last)] = impl.Marks{Last: last, Open: []int{last + 1}}
		bad[fmt.Sprint("a Top above of ", last)] = impl.Marks{Last: last, Readers: []impl.View{{Top: last + 1}}}
		bad[fmt.Sprint("one above hidden of ", last)] = impl.Marks{Last: last, Readers: []impl.View{{Top: last, Hide: []int{last + 1}}}}
		bad[fmt.Sprint("0 hidden of ", last)] = impl.Marks{Last: last, Readers: []impl.View{{Top: last, Hide: []int{0}}}}
	}
	for what, l := range badNumbers(30) {
		bad["open of broad marks: "+what] = amissMarks(broad(), func(m *impl.Marks) { m.Open = l })
	}
	bad["one reader more than MaxOpen"] = fullOfReaders(0, 1).with(8, 5).marks()
	bad["one reader more than MaxOpen, in front"] = fullOfReaders(3, 10).with(0, 5).marks()
	many := notedOf(9)
	for reader := range 3000 {
		many = noted{9, nil, many.views}
		many.views[reader] = glimpse{top: reader % 9}
	}
	bad["far too many readers"] = many.marks()
	addBadReaders(bad)
	return bad
}

func TestLimitOfOpenNumbers(t *testing.T) {
	if impl.MaxOpen != 8 {
		t.Error(impl.MaxOpen)
	}
}

func TestNewMarks(t *testing.T) {
	wantMarks(t, "NewMarks", impl.NewMarks(), true, notedOf(0))
	wantLow(t, "NewMarks", impl.NewMarks(), 0)
	wantKept(t, "NewMarks", impl.NewMarks(), 1)
}

func TestGoodMarks(t *testing.T) {
	good := map[string]impl.Marks{
		"the zero value": {},
		"empty lists":    {Last: 7, Open: []int{}, Readers: []impl.View{}},
		"empty hidden":   {Last: 7, Readers: []impl.View{{Id: 3, Top: 7, Hide: []int{}}}},
	}
	for what, n := range goodNoted() {
		good[what] = n.marks()
	}
	wantGood(t, "GoodMarks", impl.GoodMarks, good, badMarks())
}

// listsOver are all lists of at most so many numbers out of some.
func listsOver(from int, to int, most int) [][]int {
	all := [][]int{nil}
	for at, long := 0, 0; long < most; long++ {
		end := len(all)
		for _, ahead := range all[at:end] {
			for x := from; x <= to; x++ {
				all = append(all, append(slices.Clone(ahead), x))
			}
		}
		at = end
	}
	return all
}

// risingPlainly tells whether each number of a list is greater than the ones ahead, and all are within bounds.
func risingPlainly(l []int, least int, most int) bool {
	for i, x := range l {
		for _, ahead := range l[:i] {
			if ahead >= x {
				return false
			}
		}
		if x < least || x > most {
			return false
		}
	}
	return true
}

func TestGoodMarksOfAllSmallLists(t *testing.T) {
	lists := listsOver(-1, 4, 3)
	for last := -1; last <= 3; last++ {
		for _, l := range lists {
			want := last >= 0 && risingPlainly(l, 1, last)
			if got := impl.GoodMarks(impl.Marks{Last: last, Open: l}); got != want {
				t.Errorf("GoodMarks, %v open of %d: %v", l, last, got)
			}
			for top := -1; top <= 4; top++ {
				want := last >= 0 && top >= 0 && top <= last && risingPlainly(l, 1, top)
				if got := impl.GoodMarks(impl.Marks{Last: last, Readers: []impl.View{{Id: 3, Top: top, Hide: l}}}); got != want {
					t.Errorf("GoodMarks, %v hidden of %d of %d: %v", l, top, last, got)
				}
			}
		}
	}
	for _, ids := range lists {
		m := impl.Marks{Last: 3}
		for i, id := range ids {
			m.Readers = append(m.Readers, impl.View{Id: id, Top: 3 - i})
		}
		if got, want := impl.GoodMarks(m), risingPlainly(ids, 0, 4); got != want {
			t.Errorf("GoodMarks, readers %v: %v", ids, got)
		}
	}
}

func TestBeginAppend(t *testing.T) {
	for what, n := range goodNoted() {
		if len(n.open) < 8 && n.last < 100000 {
			wantBegun(t, "BeginAppend, "+what, n)
		} else {
			wantNoneBegun(t, "BeginAppend, "+what, n.marks())
		}
	}
	wantBegun(t, "BeginAppend of one fewer than MaxOpen at 99999", notedOf(99999, stepped(1, 1, 7)...))
	wantNoneBegun(t, "BeginAppend of MaxOpen at 99999", notedOf(99999, stepped(1, 1, 8)...).marks())
	wantNoneBegun(t, "BeginAppend of none at 100000", notedOf(100000).marks())
}

func TestEachNumberIsGivenOnce(t *testing.T) {
	m := impl.NewMarks()
	for want := 1; want <= 100000; want++ {
		more, id, ok := impl.BeginAppend(m)
		if id != want || !ok {
			t.Fatalf("BeginAppend: %d, %v, not %d", id, ok, want)
		}
		if m, ok = impl.EndAppend(more, id); !ok {
			t.Fatalf("EndAppend of %d: false", id)
		}
	}
	wantMarks(t, "all numbers given", m, true, notedOf(100000))
	wantNoneBegun(t, "all numbers given", m)
}

// idsAround are those open, their neighbours, and some that no marks have.
func idsAround(n noted) []int {
	ids := []int{math.MinInt, -1, 0, 1, 2, n.last - 1, n.last, n.last + 1, 100000, 100001, math.MaxInt}
	for id := range n.open {
		ids = append(ids, id-1, id, id+1, -id, 1<<32+id)
	}
	return ids
}

func TestEndAppend(t *testing.T) {
	for what, n := range goodNoted() {
		for _, id := range idsAround(n) {
			asked := fmt.Sprintf("EndAppend of %d, %s", id, what)
			if n.open[id] {
				ended := wantEnded(t, asked, n, id)
				got, ok := impl.EndAppend(ended.marks(), id)
				wantNoMarks(t, asked+", again", got, ok)
				continue
			}
			got, ok := impl.EndAppend(n.marks(), id)
			wantNoMarks(t, asked, got, ok)
		}
	}
}

func TestAllEndInAnyOrder(t *testing.T) {
	for what, n := range goodNoted() {
		for turned := range 3 {
			left := n
			ids := inOrder(n.open)
			if turned == 1 {
				slices.Reverse(ids)
			}
			if turned == 2 {
				ids = slices.Concat(ids[len(ids)/2:], ids[:len(ids)/2])
			}
			for _, id := range ids {
				left = wantEnded(t, what, left, id)
				wantLow(t, what, left.marks(), left.lowPlainly())
				wantKept(t, what, left.marks(), left.keepPlainly())
			}
			wantLow(t, what+", all ended", left.marks(), n.last)
		}
	}
}

func TestLowMark(t *testing.T) {
	known := []struct {
		n    noted
		want int
	}{
		{notedOf(0), 0},
		{notedOf(1), 1},
		{notedOf(1, 1), 0},
		{notedOf(9), 9},
		{notedOf(9, 1), 0},
		{notedOf(9, 2), 1},
		{notedOf(9, 9), 8},
		{notedOf(9, 1, 9), 0},
		{notedOf(30, 4, 9, 10, 17), 3},
		{notedOf(100000), 100000},
		{notedOf(100000, 100000), 99999},
		{notedOf(8, stepped(1, 1, 8)...), 0},
		{notedOf(100000, stepped(99993, 1, 8)...), 99992},
		{notedOf(9, 7).with(3, 2, 1), 6},
	}
	for _, k := range known {
		wantLow(t, marksShown(k.n.marks()), k.n.marks(), k.want)
	}
	for what, n := range goodNoted() {
		wantLow(t, what, n.marks(), n.lowPlainly())
	}
}

// readersAround are those that are there, their neighbours, and some far away.
func readersAround(n noted) []int {
	ids := []int{math.MinInt, -2, -1, 0, 1, 500, 100001, math.MaxInt - 1, math.MaxInt}
	for _, id := range n.readers() {
		ids = append(ids, id)
		if id > 0 {
			ids = append(ids, id-1)
		}
		if id < math.MaxInt {
			ids = append(ids, id+1)
		}
	}
	return ids
}

func TestOpenView(t *testing.T) {
	for what, n := range goodNoted() {
		for _, reader := range readersAround(n) {
			asked := fmt.Sprintf("OpenView of %d, %s", reader, what)
			if _, there := n.views[reader]; there || reader < 0 || len(n.views) >= 8 {
				wantNoneOpened(t, asked, n.marks(), reader)
				continue
			}
			opened := wantOpened(t, asked, n, reader)
			wantNoneOpened(t, asked+", again", opened.marks(), reader)
			wantClosed(t, asked+", closed", opened, reader)
		}
	}
}

func TestViewsOpenedAheadBetweenAndBehind(t *testing.T) {
	n := notedOf(9, 4, 8).with(10, 5, 2).with(20, 7, 3)
	for _, reader := range []int{0, 9, 11, 15, 19, 21, math.MaxInt} {
		opened := wantOpened(t, fmt.Sprint("OpenView of ", reader), n, reader)
		for _, other := range []int{1, 12, 30} {
			wantOpened(t, fmt.Sprintf("OpenView of %d and %d", reader, other), opened, other)
		}
	}
}

func TestCloseView(t *testing.T) {
	for what, n := range goodNoted() {
		for _, reader := range readersAround(n) {
			asked := fmt.Sprintf("CloseView of %d, %s", reader, what)
			if _, there := n.views[reader]; there {
				closed := wantClosed(t, asked, n, reader)
				got, ok := impl.CloseView(closed.marks(), reader)
				wantNoMarks(t, asked+", again", got, ok)
				wantOpened(t, asked+", opened again", closed, reader)
				continue
			}
			got, ok := impl.CloseView(n.marks(), reader)
			wantNoMarks(t, asked, got, ok)
		}
	}
}

// viewsOfAnyKind have good ones among them.
func viewsOfAnyKind() []impl.View {
	views := []impl.View{
		{},
		{Id: 3},
		{Id: -5, Top: 9},
		{Id: math.MinInt, Top: 9, Hide: []int{4}},
		{Id: 3, Top: 1},
		{Id: 3, Top: 1, Hide: []int{1}},
		{Id: 3, Top: 9, Hide: []int{1, 5, 9}},
		{Id: 3, Top: 9, Hide: stepped(1, 1, 8)},
		{Id: 3, Top: 9, Hide: stepped(1, 1, 9)},
		{Id: 3, Top: 900, Hide: stepped(2, 2, 300)},
		{Id: 3, Top: 9, Hide: []int{9, 5, 1}},
		{Id: 3, Top: 9, Hide: []int{7, 2, 8, 2, 3, 7}},
		{Id: 3, Top: 9, Hide: []int{5, 5, 5}},
		{Id: 3, Top: 9, Hide: []int{100, 6, -4, 0, 10, 2, math.MaxInt, math.MinInt, 3}},
		{Id: 3, Top: -1},
		{Id: 3, Top: -1, Hide: []int{1}},
		{Id: 3, Top: -9, Hide: []int{-5, 0, 2}},
		{Id: 3, Top: math.MinInt},
		{Id: 3, Top: 100000, Hide: []int{1, 50000, 100000}},
		{Id: 3, Top: 100001},
		{Id: 3, Top: 1<<32 + 5, Hide: []int{5}},
		{Id: 3, Top: math.MaxInt},
		{Id: 3, Top: math.MaxInt, Hide: []int{math.MaxInt, 1}},
	}
	for _, n := range goodNoted() {
		views = append(views, n.marks().Readers...)
	}
	for _, m := range badMarks() {
		views = append(views, m.Readers[:min(len(m.Readers), 10)]...)
	}
	return views
}

func TestSeesId(t *testing.T) {
	for _, v := range viewsOfAnyKind() {
		ids := append(stepped(-12, 1, 50), v.Top, math.MinInt, math.MaxInt, 99999, 100000, 100001, 1<<32+1, 1<<32+5)
		if v.Top > math.MinInt && v.Top < math.MaxInt {
			ids = append(ids, v.Top-1, v.Top+1, -v.Top)
		}
		for _, id := range v.Hide[:min(len(v.Hide), 30)] {
			ids = append(ids, id, -id)
			if id > math.MinInt && id < math.MaxInt {
				ids = append(ids, id-1, id+1)
			}
		}
		plain := glimpse{v.Top, setOf(v.Hide)}
		for _, id := range ids {
			if got := impl.SeesId(v, id); got != plain.sees(id) {
				t.Errorf("SeesId %.200s of %d: %v", fmt.Sprint(v), id, got)
			}
		}
	}
}

func TestKeepFrom(t *testing.T) {
	known := []struct {
		n    noted
		want int
	}{
		{notedOf(0), 1},
		{notedOf(9), 10},
		{notedOf(9, 1), 1},
		{notedOf(9, 9), 9},
		{notedOf(30, 4, 9, 10, 17), 4},
		{notedOf(100000), 100001},
		{notedOf(100000).with(3, 100000), 100001},
		{notedOf(0).with(0, 0), 1},
		{notedOf(9).with(3, 0), 1},
		{notedOf(9, 7).with(3, 9, 5), 5},
		{notedOf(9, 7).with(3, 9, 1), 1},
		{notedOf(9, 7).with(3, 4), 5},
		{notedOf(9, 7).with(3, 6), 7},
		{notedOf(9, 3).with(3, 9, 5), 3},
		{notedOf(40, 33).with(2, 40, 9).with(5, 4).with(9, 40, 8), 5},
		{notedOf(40, 33).with(2, 40, 9).with(5, 40).with(9, 40, 8), 8},
		{notedOf(40, 33).with(2, 40, 3).with(5, 7).with(9, 40, 8), 3},
		{notedOf(40, 2).with(2, 40, 3).with(5, 7).with(9, 40, 8), 2},
	}
	for _, k := range known {
		wantKept(t, marksShown(k.n.marks()), k.n.marks(), k.want)
	}
	for what, n := range goodNoted() {
		wantKept(t, what, n.marks(), n.keepPlainly())
	}
}

// All appends below what is kept have ended, and are seen by all that read; of the one there that is not so.
func TestAllBelowWhatIsKeptIsSeen(t *testing.T) {
	for what, n := range goodNoted() {
		m := n.marks()
		kept, _ := impl.KeepFrom(m)
		low, _ := impl.LowMark(m)
		seenByAll := func(id int) bool {
			return !slices.ContainsFunc(m.Readers, func(v impl.View) bool { return !impl.SeesId(v, id) })
		}
		for id := 1; id < kept; id++ {
			if id > low || slices.Contains(m.Open, id) || !seenByAll(id) {
				t.Errorf("KeepFrom, %s: %d below %d", what, id, kept)
			}
		}
		if kept <= low && seenByAll(kept) {
			t.Errorf("KeepFrom, %s: %d is seen by all", what, kept)
		}
	}
}

func TestWhatEndsAndBeginsBehindAViewChangesNothing(t *testing.T) {
	n := notedOf(12, 2, 5, 12)
	m, v, ok := impl.OpenView(n.marks(), 4)
	if !ok {
		t.Fatal("OpenView: false")
	}
	check := func(what string) {
		t.Helper()
		for id := -1; id <= 40; id++ {
			had := 1 <= id && id <= 12 && id != 2 && id != 5 && id != 12
			if got := impl.SeesId(v, id); got != had {
				t.Errorf("%s: SeesId of %d, %v", what, id, got)
			}
			if got := impl.SeesId(m.Readers[0], id); got != had {
				t.Errorf("%s: SeesId of %d in the marks, %v", what, id, got)
			}
		}
	}
	check("opened")
	for _, id := range []int{5, 12, 2} {
		m, ok = impl.EndAppend(m, id)
		check(fmt.Sprintf("EndAppend of %d, %v", id, ok))
	}
	for range 5 {
		var id int
		m, id, ok = impl.BeginAppend(m)
		check(fmt.Sprintf("BeginAppend of %d, %v", id, ok))
		if id%2 == 0 {
			m, ok = impl.EndAppend(m, id)
			check(fmt.Sprintf("EndAppend of %d, %v", id, ok))
		}
	}
	m, later, ok := impl.OpenView(m, 7)
	check(fmt.Sprintf("OpenView of 7, %v", ok))
	for _, id := range []int{2, 5, 12, 14, 16} {
		if !impl.SeesId(later, id) {
			t.Errorf("SeesId of %d, which had ended: false", id)
		}
	}
	for _, id := range []int{13, 15, 17, 18} {
		if impl.SeesId(later, id) {
			t.Errorf("SeesId of %d, which had not ended: true", id)
		}
	}
}

// turns are marks beside what is known of them: themselves plainly, and of each reader what had ended, from a least number on, when its view was opened.
type turns struct {
	m     impl.Marks
	n     noted
	least int
	had   map[int]map[int]bool
	turn  int
}

func (s *turns) next(below int) int {
	s.turn = (s.turn*1103515245 + 12345) & 0x7fffffff
	return (s.turn >> 8) % below
}

func (s *turns) begin(t *testing.T) {
	if len(s.n.open) == 8 || s.n.last == 100000 {
		wantNoneBegun(t, "BeginAppend", s.m)
		return
	}
	m, id, ok := impl.BeginAppend(s.m)
	s.n = s.n.begunPlainly()
	wantMarks(t, fmt.Sprint("BeginAppend, ", id), m, ok, s.n)
	s.m = m
}

func (s *turns) end(t *testing.T) {
	ids := inOrder(s.n.open)
	if len(ids) == 0 {
		return
	}
	id := ids[s.next(len(ids))]
	m, ok := impl.EndAppend(s.m, id)
	s.n = s.n.endedPlainly(id)
	wantMarks(t, fmt.Sprint("EndAppend of ", id), m, ok, s.n)
	s.m = m
}

func (s *turns) openOrClose(t *testing.T) {
	reader := s.next(12)
	if _, there := s.n.views[reader]; there {
		m, ok := impl.CloseView(s.m, reader)
		s.n = s.n.closedPlainly(reader)
		wantMarks(t, fmt.Sprint("CloseView of ", reader), m, ok, s.n)
		s.m = m
		return
	}
	if len(s.n.views) == 8 {
		wantNoneOpened(t, fmt.Sprint("OpenView of ", reader), s.m, reader)
		return
	}
	m, v, ok := impl.OpenView(s.m, reader)
	s.n = s.n.with(reader, s.n.last, inOrder(s.n.open)...)
	wantMarks(t, fmt.Sprint("OpenView of ", reader), m, ok, s.n)
	s.had[reader] = map[int]bool{}
	for id := max(1, s.least); id <= s.n.last; id++ {
		if !s.n.open[id] {
			s.had[reader][id] = true
		}
	}
	s.checkView(t, v)
	s.m = m
}

func (s *turns) checkView(t *testing.T, v impl.View) {
	t.Helper()
	for id := s.least; id <= s.n.last+2; id++ {
		if got := impl.SeesId(v, id); got != s.had[v.Id][id] {
			t.Errorf("SeesId of %d, reader %d: %v", id, v.Id, got)
		}
	}
}

func (s *turns) take(t *testing.T) {
	switch s.next(5) {
	case 0, 1:
		s.begin(t)
	case 2, 3:
		s.end(t)
	default:
		s.openOrClose(t)
	}
	for _, v := range s.m.Readers {
		s.checkView(t, v)
	}
}

func TestReadingAndAppendingByTurns(t *testing.T) {
	s := &turns{n: notedOf(0), least: -1, had: map[int]map[int]bool{}, turn: 1}
	for range 1500 {
		s.take(t)
		wantLow(t, "by turns", s.m, s.n.lowPlainly())
		wantKept(t, "by turns", s.m, s.n.keepPlainly())
	}
}

func TestReadingAndAppendingByTurnsToTheEnd(t *testing.T) {
	from := notedOf(99900, 99800, 99900)
	s := &turns{m: from.marks(), n: from, least: 99700, had: map[int]map[int]bool{}, turn: 1}
	for range 1500 {
		s.take(t)
	}
	if s.n.last != 100000 {
		t.Errorf("the end was not reached: %d", s.n.last)
	}
}

func TestMarksThatAreNotGoodGetZero(t *testing.T) {
	for what, bad := range badMarks() {
		wantNoneBegun(t, "BeginAppend, "+what, bad)
		for _, id := range append([]int{-1, 0, 1, 2, 5, 10, 12, 30, 31, bad.Last}, bad.Open[:min(len(bad.Open), 9)]...) {
			got, ok := impl.EndAppend(bad, id)
			wantNoMarks(t, fmt.Sprintf("EndAppend of %d, %s", id, what), got, ok)
		}
		for _, reader := range []int{math.MinInt, -1, 0, 1, 3, 4, 5, 6, 8, 9, 10, 3000, math.MaxInt} {
			wantNoneOpened(t, fmt.Sprintf("OpenView of %d, %s", reader, what), bad, reader)
			got, ok := impl.CloseView(bad, reader)
			wantNoMarks(t, fmt.Sprintf("CloseView of %d, %s", reader, what), got, ok)
		}
		if low, ok := impl.LowMark(bad); low != 0 || ok {
			t.Errorf("LowMark, %s: %d, %v", what, low, ok)
		}
		if kept, ok := impl.KeepFrom(bad); kept != 0 || ok {
			t.Errorf("KeepFrom, %s: %d, %v", what, kept, ok)
		}
	}
}

// marksArgs are what the functions of marks are called with.
type marksArgs struct {
	m      impl.Marks
	id     int
	reader int
	v      impl.View
}

// marksAnswers are all lists that the functions of marks answer with.
type marksAnswers struct {
	numbers [][]int
	readers [][]impl.View
}

func (a *marksAnswers) take(m impl.Marks) {
	a.numbers = append(a.numbers, m.Open)
	a.readers = append(a.readers, m.Readers)
	for _, v := range m.Readers {
		a.numbers = append(a.numbers, v.Hide)
	}
}

func (g marksArgs) answers() marksAnswers {
	var a marksAnswers
	begun, _, _ := impl.BeginAppend(g.m)
	opened, v, _ := impl.OpenView(g.m, g.reader)
	a.numbers = append(a.numbers, v.Hide)
	ended, _ := impl.EndAppend(g.m, g.id)
	closed, _ := impl.CloseView(g.m, g.reader)
	for _, m := range []impl.Marks{impl.NewMarks(), begun, opened, ended, closed} {
		a.take(m)
	}
	for _, id := range g.m.Open[:min(len(g.m.Open), 9)] {
		m, _ := impl.EndAppend(g.m, id)
		a.take(m)
	}
	for _, v := range g.m.Readers[:min(len(g.m.Readers), 9)] {
		m, _ := impl.CloseView(g.m, v.Id)
		a.take(m)
	}
	return a
}

// called tells what the functions that hand out no lists answer, beside the lists of the others.
func (g marksArgs) called() string {
	low, ok := impl.LowMark(g.m)
	kept, one := impl.KeepFrom(g.m)
	sees := []bool{impl.SeesId(g.v, g.id)}
	for _, v := range g.m.Readers {
		sees = append(sees, impl.SeesId(v, g.id), impl.SeesId(v, v.Top))
	}
	return fmt.Sprint(g.answers(), impl.GoodMarks(g.m), low, ok, kept, one, sees)
}

// roomy has something behind the length of each list.
func (g marksArgs) roomy(behind int) marksArgs {
	room := func(l []int) []int {
		_, own := withRoom(l, behind, behind+1, 0)
		return own
	}
	last := impl.View{Id: behind, Top: behind, Hide: []int{behind}}
	var readers []impl.View
	for _, v := range g.m.Readers {
		v.Hide = room(v.Hide)
		readers = append(readers, v)
	}
	_, g.m.Readers = withRoom(readers, last, impl.View{})
	g.m.Open, g.v.Hide = room(g.m.Open), room(g.v.Hide)
	return g
}

// shown tells all memory of the arguments, what lies behind the lengths too.
func (g marksArgs) shown() string {
	var text strings.Builder
	for _, v := range append([]impl.View{g.v}, whole(g.m.Readers)...) {
		fmt.Fprint(&text, v.Id, " ", v.Top, " ", whole(v.Hide), ", ")
	}
	fmt.Fprint(&text, g.m.Last, whole(g.m.Open), g.id, g.reader)
	return text.String()
}

func argsForMarks() []marksArgs {
	var args []marksArgs
	for _, n := range goodNoted() {
		m := n.marks()
		args = append(args, marksArgs{m, n.last, 2, impl.View{Top: 9, Hide: []int{8, 3}}}, marksArgs{m, 12, 5000, impl.View{Top: 20, Hide: inOrder(n.open)}})
	}
	for _, bad := range badMarks() {
		args = append(args, marksArgs{bad, 5, 3, impl.View{Top: -1, Hide: []int{1}}})
	}
	return args
}

func TestMarksAreLeftAsTheyWere(t *testing.T) {
	for _, plain := range argsForMarks() {
		wantLeft(t, marksShown(plain.m), plain, plain.roomy(0), plain.roomy(7), plain.roomy(plain.m.Last))
	}
}

func TestAnswersOfMarksShareNothing(t *testing.T) {
	for _, plain := range argsForMarks() {
		given := plain.roomy(7)
		// A first call's answers stand beside those of a second one, and beside the arguments.
		lists, more := given.answers(), given.answers()
		lists.numbers = append(append(lists.numbers, more.numbers...), given.v.Hide)
		lists.readers = append(lists.readers, more.readers...)
		lists.take(given.m)
		if !eachHasItsOwn(lists.numbers, func(i int) int { return i }, func(x int, i int) bool { return x == i }) {
			t.Errorf("%s: two lists of numbers share memory", marksShown(plain.m))
		}
		if !eachHasItsOwn(lists.readers, func(i int) impl.View { return impl.View{Id: i} }, func(v impl.View, i int) bool { return v.Id == i }) {
			t.Errorf("%s: two lists of readers share memory", marksShown(plain.m))
		}
	}
}
