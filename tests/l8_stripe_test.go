package tests

import (
	"fmt"
	"maps"
	"math"
	"slices"
	"strconv"
	"strings"
	"testing"

	"loop.example/g00747/impl"
)

// numbered is a table as the labels of each number.
type numbered struct {
	many int
	next int
	has  carried
}

func (n numbered) table() impl.Table {
	t := impl.Table{Many: n.many, Stripes: make([][]impl.Cell, n.many), Next: n.next}
	for _, ref := range n.has.refs() {
		at := hashOfText(n.has[ref]) % n.many
		t.Stripes[at] = append(t.Stripes[at], impl.Cell{Ref: ref, Labels: n.has[ref]})
	}
	return t
}

func (n numbered) refPlainly(l []impl.Label) (int, bool) {
	for ref, own := range n.has {
		if slices.Equal(own, l) {
			return ref, true
		}
	}
	return 0, false
}

// makePlainly is not asked for labels that are there.
func (n numbered) makePlainly(l []impl.Label) (numbered, bool) {
	if len(n.has) >= 20 || n.next >= 1000 {
		return n, false
	}
	return numbered{n.many, n.next + 1, n.has.with(n.next, l)}, true
}

func (n numbered) sweptPlainly(refs []int) numbered {
	return numbered{n.many, n.next, n.has.without(refs)}
}

func sameTable(a impl.Table, b impl.Table) bool {
	sameCell := func(a impl.Cell, b impl.Cell) bool {
		return a.Ref == b.Ref && slices.Equal(a.Labels, b.Labels)
	}
	return a.Many == b.Many && a.Next == b.Next && slices.EqualFunc(a.Stripes, b.Stripes, func(a []impl.Cell, b []impl.Cell) bool {
		return slices.EqualFunc(a, b, sameCell)
	})
}

func isZeroTable(t impl.Table) bool {
	return t.Many == 0 && len(t.Stripes) == 0 && t.Next == 0
}

// tableShown keeps what a test tells of a table short, however much is in it.
func tableShown(t impl.Table) string {
	return fmt.Sprintf("%.1500s", fmt.Sprint(t.Many, " ", t.Next, " ", t.Stripes[:min(len(t.Stripes), 9)]))
}

func wantTable(t *testing.T, what string, got impl.Table, ok bool, want numbered) {
	t.Helper()
	if !sameTable(got, want.table()) || !ok {
		t.Errorf("%s: %s, %v, not %s", what, tableShown(got), ok, tableShown(want.table()))
	}
	if !impl.GoodTable(got) {
		t.Errorf("%s: %s is not good", what, tableShown(got))
	}
}

func wantNoTable(t *testing.T, what string, got impl.Table, ok bool) {
	t.Helper()
	if !isZeroTable(got) || ok {
		t.Errorf("%s: %s, %v", what, tableShown(got), ok)
	}
}

// wantGot wants the table as it was, with the number that the labels have in it.
func wantGot(t *testing.T, what string, n numbered, l []impl.Label, want int) {
	t.Helper()
	got, ref, made, ok := impl.GetOrMake(n.table(), l)
	wantTable(t, what, got, ok, n)
	if ref != want || made {
		t.Errorf("%s: %d, %v, not %d", what, ref, made, want)
	}
}

// wantMade wants a table with one cell more, and gives it plainly.
func wantMade(t *testing.T, what string, n numbered, l []impl.Label) numbered {
	t.Helper()
	got, ref, made, ok := impl.GetOrMake(n.table(), l)
	want, _ := n.makePlainly(l)
	wantTable(t, what, got, ok, want)
	if ref != n.next || !made {
		t.Errorf("%s: %d, %v, not %d", what, ref, made, n.next)
	}
	return want
}

func wantNoneMade(t *testing.T, what string, from impl.Table, l []impl.Label) {
	t.Helper()
	got, ref, made, ok := impl.GetOrMake(from, l)
	wantNoTable(t, what, got, ok)
	if ref != 0 || made {
		t.Errorf("%s: %d, %v", what, ref, made)
	}
}

func wantNoRef(t *testing.T, what string, from impl.Table, l []impl.Label) {
	t.Helper()
	if ref, ok := impl.FindRef(from, l); ref != 0 || ok {
		t.Errorf("%s: %d, %v", what, ref, ok)
	}
}

func wantRef(t *testing.T, what string, from impl.Table, l []impl.Label, want int) {
	t.Helper()
	if ref, ok := impl.FindRef(from, l); ref != want || !ok {
		t.Errorf("%s: %d, %v, not %d", what, ref, ok, want)
	}
}

// labelsIn are so many labels that all belong to one stripe of many.
func labelsIn(many int, at int, howMany int) [][]impl.Label {
	var lists [][]impl.Label
	for i := 0; len(lists) < howMany; i++ {
		if l := labelsOf("job", "n"+strconv.Itoa(i)); hashOfText(l)%many == at {
			lists = append(lists, l)
		}
	}
	return lists
}

// numberedFrom gives numbers by steps to labels, in their order.
func numberedFrom(from int, by int, lists [][]impl.Label) carried {
	c := carried{}
	for i, l := range lists {
		c[from+i*by] = l
	}
	return c
}

func allManys() []int {
	return []int{1, 2, 4}
}

func goodNumbered() map[string]numbered {
	all := map[string]numbered{}
	for _, many := range allManys() {
		add := func(what string, next int, has carried) {
			all[fmt.Sprintf("%s, %d", what, many)] = numbered{many, next, has}
		}
		add("nothing", 0, carried{})
		add("nothing, some given", 500, carried{})
		add("nothing, one to give", 999, carried{})
		add("nothing, none to give", 1000, carried{})
		add("one at 0", 1, carried{0: labelsOf("job", "a")})
		add("one at 0, none to give", 1000, carried{0: labelsOf("job", "a")})
		add("one at 999", 1000, carried{999: labelsOf("job", "a", "up", "b")})
		add("one at 998", 999, carried{998: labelsOf("job", "a", "up", "b")})
		add("one without labels", 8, carried{7: nil})
		add("labels of one Name", 10, carried{3: labelsOf("a", "x"), 5: labelsOf("a", "y"), 8: labelsOf("a", "x", "b", "x"), 9: labelsOf("b", "x")})
		add("MaxLabels as long as can be", 13, carried{11: manyLabels(6, "x"), 12: widestLabels()})
		add("labels of all kinds", 400, numberedFrom(4, 20, risingLabels()[:impl.MaxSeries]))
		add("all but one of all kinds", 999, numberedFrom(4, 3, risingLabels()[:impl.MaxSeries-1]))
		add("more labels of all kinds", 20, numberedFrom(11, 2, risingLabels()[impl.MaxSeries:]))
		add("MaxSeries up to 999", 1000, fullOf(980, 1))
		add("MaxSeries with MaxLabels", 20, fullOf(0, 6))
		add("MaxSeries, some to give", 998, fullOf(300, 6))
		add("all but one, one to give", 999, fullOf(900, 1).without([]int{905}))
		add("all but one, none to give", 1000, fullOf(980, 1).without([]int{999}))
		add("all but the first", 30, fullOf(5, 2).without([]int{5}))
		for at := range many {
			add(fmt.Sprint("MaxSeries in stripe ", at), 40, numberedFrom(0, 2, labelsIn(many, at, impl.MaxSeries)))
			add(fmt.Sprint("all but one in stripe ", at), 40, numberedFrom(1, 2, labelsIn(many, at, impl.MaxSeries-1)))
			add(fmt.Sprint("three in stripe ", at), 1000, numberedFrom(199, 400, labelsIn(many, at, 3)))
		}
	}
	return all
}

// betweenEachOther has three cells in each stripe, and one number from each stripe ahead of the next one of any.
func betweenEachOther(many int) numbered {
	n := numbered{many, 100, carried{}}
	for at := range many {
		maps.Copy(n.has, numberedFrom(7-at, 30, labelsIn(many, at, 3)))
	}
	return n
}

// amiss is a good table with cells in each stripe, changed.
func amiss(many int, change func(t *impl.Table)) impl.Table {
	t := betweenEachOther(many).table()
	change(&t)
	return t
}

// addBadTables are those of so many stripes in which something else than the stripes is amiss.
func addBadTables(bad map[string]impl.Table, many int) {
	add := func(what string, t impl.Table) {
		bad[fmt.Sprintf("%s, %d", what, many)] = t
	}
	change := func(what string, change func(t *impl.Table)) {
		add(what, amiss(many, change))
	}
	for _, next := range []int{-1, 1001, 1002, 5000, math.MinInt, math.MaxInt, 1<<32 + 5} {
		add(fmt.Sprint("nothing, Next ", next), numbered{many, next, carried{}}.table())
		change(fmt.Sprint("Next ", next), func(t *impl.Table) { t.Next = next })
	}
	for _, next := range []int{0, 3, 6, 8, 38, 60, 64, 66, 67} {
		change(fmt.Sprint("a Ref above Next ", next), func(t *impl.Table) { t.Next = next })
	}
	add("a Ref at Next, at 0", numbered{many, 0, carried{0: labelsOf("a", "x")}}.table())
	add("a Ref at Next, at 999", numbered{many, 999, carried{999: labelsOf("a", "x")}}.table())
	for _, ref := range []int{-1, -2, 1000, 1001, math.MinInt, math.MaxInt, 1<<32 + 5} {
		for _, next := range []int{0, 5, 1000, 1001, math.MaxInt} {
			add(fmt.Sprintf("a Ref %d ahead of Next %d", ref, next), numbered{many, next, carried{ref: labelsOf("a", "x")}}.table())
		}
	}
	for at := range many {
		change(fmt.Sprint("a Ref below 0 in stripe ", at), func(t *impl.Table) { t.Stripes[at][0].Ref = -1 })
		change(fmt.Sprint("a Ref above 999 in stripe ", at), func(t *impl.Table) { t.Stripes[at][2].Ref, t.Next = 1000, 1000 })
		change(fmt.Sprint("a Ref above Next in stripe ", at), func(t *impl.Table) { t.Stripes[at][2].Ref = 101 })
		change(fmt.Sprint("a Ref at Next in stripe ", at), func(t *impl.Table) { t.Stripes[at][2].Ref = 100 })
		change(fmt.Sprint("Refs that stand still in stripe ", at), func(t *impl.Table) { t.Stripes[at][1].Ref = t.Stripes[at][0].Ref })
		change(fmt.Sprint("Refs that stand still at the end of stripe ", at), func(t *impl.Table) { t.Stripes[at][2].Ref = t.Stripes[at][1].Ref })
		change(fmt.Sprint("Refs that fall in stripe ", at), func(t *impl.Table) { t.Stripes[at][1].Ref = 0 })
		change(fmt.Sprint("Refs that fall at the end of stripe ", at), func(t *impl.Table) { t.Stripes[at][2].Ref = 8 })
		change(fmt.Sprint("a Ref twice with one between in stripe ", at), func(t *impl.Table) { t.Stripes[at][2].Ref = t.Stripes[at][0].Ref })
		change(fmt.Sprint("cells turned round in stripe ", at), func(t *impl.Table) { slices.Reverse(t.Stripes[at]) })
		change(fmt.Sprint("labels twice in stripe ", at), func(t *impl.Table) { t.Stripes[at][1].Labels = slices.Clone(t.Stripes[at][0].Labels) })
		change(fmt.Sprint("labels twice at the end of stripe ", at), func(t *impl.Table) { t.Stripes[at][2].Labels = slices.Clone(t.Stripes[at][1].Labels) })
		change(fmt.Sprint("labels twice with one between in stripe ", at), func(t *impl.Table) { t.Stripes[at][2].Labels = slices.Clone(t.Stripes[at][0].Labels) })
		change(fmt.Sprint("a cell twice in stripe ", at), func(t *impl.Table) { t.Stripes[at] = append(t.Stripes[at], t.Stripes[at][2]) })
		for why, l := range badLabels() {
			change(fmt.Sprintf("labels with %s in stripe %d", why, at), func(t *impl.Table) { t.Stripes[at][0].Labels = l })
			change(fmt.Sprintf("labels with %s at the end of stripe %d", why, at), func(t *impl.Table) { t.Stripes[at][2].Labels = l })
		}
		add(fmt.Sprint("MaxSeries and one more in stripe ", at), numbered{many, 50, numberedFrom(3, 1, labelsIn(many, at, 21))}.table())
		add(fmt.Sprint("far too many in stripe ", at), numbered{many, 1000, numberedFrom(0, 1, labelsIn(many, at, 300))}.table())
		for to := range many {
			if to == at {
				continue
			}
			change(fmt.Sprintf("a cell of stripe %d in %d", at, to), func(t *impl.Table) {
				t.Stripes[to] = append(t.Stripes[to], impl.Cell{Ref: 90, Labels: labelsIn(many, at, 4)[3]})
			})
			change(fmt.Sprintf("a cell of stripe %d in %d, too", at, to), func(t *impl.Table) {
				t.Stripes[to] = append(t.Stripes[to], impl.Cell{Ref: 90, Labels: t.Stripes[at][1].Labels})
			})
			change(fmt.Sprintf("a Ref of stripe %d in %d, too", at, to), func(t *impl.Table) { t.Stripes[to][1].Ref = t.Stripes[at][1].Ref })
			change(fmt.Sprintf("stripes %d and %d for each other", at, to), func(t *impl.Table) {
				t.Stripes[at], t.Stripes[to] = t.Stripes[to], t.Stripes[at]
			})
			change(fmt.Sprintf("all of stripe %d in %d", at, to), func(t *impl.Table) { t.Stripes[at], t.Stripes[to] = nil, t.Stripes[at] })
		}
	}
	add("no labels twice", impl.Table{Many: many, Next: 2, Stripes: withStripe(many, hashOfText(nil)%many, impl.Cell{Ref: 0}, impl.Cell{Ref: 1})})
	add("MaxSeries and one more of all kinds", numbered{many, 50, numberedFrom(3, 1, risingLabels()[:21])}.table())
}

// withStripe has no cells in any other stripe.
func withStripe(many int, at int, cells ...impl.Cell) [][]impl.Cell {
	stripes := make([][]impl.Cell, many)
	stripes[at] = cells
	return stripes
}

// badTables are those that are not good, each for one reason.
func badTables() map[string]impl.Table {
	bad := map[string]impl.Table{
		"the zero value":    {},
		"Many 0 with 1":     {Stripes: make([][]impl.Cell, 1)},
		"Many below 0":      {Many: -1, Stripes: make([][]impl.Cell, 1)},
		"the least Many":    {Many: math.MinInt, Stripes: make([][]impl.Cell, 4)},
		"the greatest Many": {Many: math.MaxInt, Stripes: make([][]impl.Cell, 4)},
		"1 by its end":      {Many: 1<<32 + 1, Stripes: make([][]impl.Cell, 1)},
	}
	for _, many := range []int{3, 5, 6, 8, 16} {
		bad[fmt.Sprint("Many ", many)] = impl.Table{Many: many, Stripes: make([][]impl.Cell, many)}
	}
	for _, many := range []int{3, 5, 6} {
		bad[fmt.Sprint("Many with cells ", many)] = betweenEachOther(many).table()
	}
	for _, many := range allManys() {
		for _, stripes := range []int{0, 1, 2, 3, 4, 5, 1000} {
			if stripes != many {
				bad[fmt.Sprintf("%d of %d", stripes, many)] = impl.Table{Many: many, Stripes: make([][]impl.Cell, stripes)}
			}
		}
		bad[fmt.Sprint("one stripe more than ", many)] = amiss(many, func(t *impl.Table) { t.Stripes = append(t.Stripes, nil) })
		bad[fmt.Sprint("one stripe less than ", many)] = amiss(many, func(t *impl.Table) { t.Stripes = t.Stripes[:many-1] })
		for _, other := range []int{-many, 0, 1, 2, 3, 4, 5, 8} {
			if other != many {
				bad[fmt.Sprintf("%d told as %d", many, other)] = amiss(many, func(t *impl.Table) { t.Many = other })
			}
		}
		addBadTables(bad, many)
	}
	return bad
}

func TestLimitOfStripes(t *testing.T) {
	if impl.MaxStripes != 4 {
		t.Error(impl.MaxStripes)
	}
}

func TestNewTable(t *testing.T) {
	for _, many := range []int{1, 2, impl.MaxStripes} {
		got, ok := impl.NewTable(many)
		wantTable(t, fmt.Sprint("NewTable ", many), got, ok, numbered{many, 0, carried{}})
	}
	for _, many := range []int{0, 3, impl.MaxStripes + 1, 6, 7, 8, 16, 1000, -1, -2, -3, -4, math.MinInt, math.MaxInt, 1<<32 + 1, 1<<32 + 4} {
		got, ok := impl.NewTable(many)
		wantNoTable(t, fmt.Sprint("NewTable ", many), got, ok)
	}
}

func TestGoodTable(t *testing.T) {
	good := map[string]impl.Table{}
	for _, many := range allManys() {
		n := betweenEachOther(many)
		for _, next := range []int{68, 69, 100, 999, 1000} {
			n.next = next
			good[fmt.Sprintf("Next %d, %d", next, many)] = n.table()
		}
		good[fmt.Sprint("empty stripes, ", many)] = impl.Table{Many: many, Stripes: slices.Repeat([][]impl.Cell{{}}, many), Next: 1000}
		own := hashOfText(nil) % many
		good[fmt.Sprint("empty labels, ", many)] = impl.Table{Many: many, Stripes: withStripe(many, own, impl.Cell{Labels: []impl.Label{}}), Next: 1}
	}
	for what, n := range goodNumbered() {
		good[what] = n.table()
	}
	wantGood(t, "GoodTable", impl.GoodTable, good, badTables())
}

func TestACellIsGoodInItsOwnStripeAlone(t *testing.T) {
	for _, many := range allManys() {
		for _, l := range append(risingLabels(), widestLabels(), manyLabels(6, "x")) {
			for at := range many {
				got := impl.GoodTable(impl.Table{Many: many, Stripes: withStripe(many, at, impl.Cell{Ref: 3, Labels: l}), Next: 4})
				if want := hashOfText(l)%many == at; got != want {
					t.Errorf("GoodTable, %v in stripe %d of %d: %v", l, at, many, got)
				}
			}
		}
	}
}

func TestStripeOf(t *testing.T) {
	known := []struct {
		l    []impl.Label
		hash int
	}{
		{nil, 575},
		{labelsOf("up", "a"), 496},
		{labelsOf("job", "a"), 348},
		{labelsOf("job", "a", "up", "b"), 811},
		{labelsOf("a", "!"), 194},
	}
	for _, k := range known {
		for _, many := range allManys() {
			if at, ok := impl.StripeOf(impl.Table{Many: many}, k.l); at != k.hash%many || !ok {
				t.Errorf("StripeOf %v of %d: %d, %v", k.l, many, at, ok)
			}
		}
	}
	lists := append(risingLabels(), widestLabels(), manyLabels(6, "x"))
	for i := range 300 {
		lists = append(lists, labelsOf("job", strconv.Itoa(i)))
	}
	var tables []impl.Table
	for _, n := range goodNumbered() {
		tables = append(tables, n.table())
	}
	// Of the table nothing but Many is asked.
	for _, bad := range badTables() {
		tables = append(tables, bad)
	}
	for _, from := range tables {
		for _, l := range lists {
			at, ok := impl.StripeOf(from, l)
			if !slices.Contains(allManys(), from.Many) {
				if at != 0 || ok {
					t.Errorf("StripeOf %v of %d: %d, %v", l, from.Many, at, ok)
				}
				continue
			}
			if at != hashOfText(l)%from.Many || !ok {
				t.Errorf("StripeOf %v of %s: %d, %v", l, tableShown(from), at, ok)
			}
		}
		for what, l := range badLabels() {
			if at, ok := impl.StripeOf(from, l); at != 0 || ok {
				t.Errorf("StripeOf, %s: %d, %v", what, at, ok)
			}
		}
	}
}

// labelsToLookFor are good labels, with those of the table and parts of them.
func labelsToLookFor(n numbered) [][]impl.Label {
	lists := append(risingLabels(), manyLabels(6, "x"), manyLabels(6, "w3"), manyLabels(1, "w5"), manyLabels(2, "w0"), widestLabels(), labelsOf("job", "a"), labelsOf("job", "a", "up", "b"))
	for at := range n.many {
		lists = append(lists, labelsIn(n.many, at, 22)[19:]...)
	}
	for _, l := range n.has {
		lists = append(lists, l, l[:min(1, len(l))], l[len(l)/2:])
	}
	return lists
}

func TestFindRef(t *testing.T) {
	for what, n := range goodNumbered() {
		from := n.table()
		for _, l := range labelsToLookFor(n) {
			asked := fmt.Sprintf("FindRef %v, %s", l, what)
			if ref, is := n.refPlainly(l); is {
				wantRef(t, asked, from, l, ref)
			} else {
				wantNoRef(t, asked, from, l)
			}
		}
		for why, l := range badLabels() {
			wantNoRef(t, fmt.Sprintf("FindRef, %s, %s", why, what), from, l)
		}
	}
}

func TestLabelsFor(t *testing.T) {
	for what, n := range goodNumbered() {
		from := n.table()
		for _, ref := range append(stepped(-2, 1, 1004), math.MinInt, math.MaxInt, 1<<32, 1<<32+7) {
			want, is := n.has[ref]
			if l, ok := impl.LabelsFor(from, ref); !slices.Equal(l, want) || ok != is {
				t.Errorf("LabelsFor %d, %s: %v, %v, not %v", ref, what, l, ok, want)
			}
		}
	}
}

func TestRefsIn(t *testing.T) {
	for what, n := range goodNumbered() {
		refs, ok := impl.RefsIn(n.table())
		wantRefs(t, "RefsIn, "+what, refs, ok, n.has.refs())
	}
	for many, want := range map[int][]int{
		1: {7, 37, 67},
		2: {6, 7, 36, 37, 66, 67},
		4: {4, 5, 6, 7, 34, 35, 36, 37, 64, 65, 66, 67},
	} {
		refs, ok := impl.RefsIn(betweenEachOther(many).table())
		wantRefs(t, fmt.Sprint("RefsIn of stripes between each other, ", many), refs, ok, want)
	}
}

func TestLabelsThatAreThereHaveTheirNumber(t *testing.T) {
	for what, n := range goodNumbered() {
		for ref, l := range n.has {
			wantGot(t, fmt.Sprintf("GetOrMake %v, %s", l, what), n, slices.Clone(l), ref)
		}
	}
}

func TestNewLabelsHaveTheNextNumber(t *testing.T) {
	for what, n := range goodNumbered() {
		for _, l := range labelsToLookFor(n) {
			if _, is := n.refPlainly(l); is {
				continue
			}
			asked := fmt.Sprintf("GetOrMake %v, %s", l, what)
			if _, is := n.makePlainly(l); !is {
				wantNoneMade(t, asked, n.table(), l)
				continue
			}
			more := wantMade(t, asked, n, l)
			wantRef(t, asked, more.table(), l, n.next)
			wantGot(t, asked+", again", more, l, n.next)
			if own, ok := impl.LabelsFor(more.table(), n.next); !slices.Equal(own, l) || !ok {
				t.Errorf("%s: %d has %v, %v", asked, n.next, own, ok)
			}
			swept, ok := impl.SweepRefs(more.table(), []int{n.next})
			less := more.sweptPlainly([]int{n.next})
			wantTable(t, asked+", swept", swept, ok, less)
			wantNoRef(t, asked+", swept", swept, l)
		}
	}
}

func TestLabelsThatAreNotGoodMakeNothing(t *testing.T) {
	for what, n := range goodNumbered() {
		for why, l := range badLabels() {
			wantNoneMade(t, fmt.Sprintf("GetOrMake, %s, %s", why, what), n.table(), l)
		}
	}
}

func TestRoomInATable(t *testing.T) {
	for _, many := range allManys() {
		lists := labelsIn(1, 0, 22)
		last := numbered{many, 999, numberedFrom(900, 1, lists[:19])}
		full := wantMade(t, "one number, and room for one", last, lists[19])
		for i, l := range lists[:20] {
			wantGot(t, "no number and no room", full, l, []int{900 + i, 999}[i/19])
		}
		wantNoneMade(t, "no number and no room", full.table(), lists[20])
		room := full.sweptPlainly([]int{905})
		wantNoneMade(t, "no number, but room", room.table(), lists[20])
		wantNoneMade(t, "no number, but room, and labels that were there", room.table(), lists[5])
		wantNoneMade(t, "no number, and nothing there", numbered{many, 1000, carried{}}.table(), lists[0])
		wantMade(t, "one number, and nothing there", numbered{many, 999, carried{}}, lists[0])
		crowd := numbered{many, 20, numberedFrom(0, 1, lists[:20])}
		wantNoneMade(t, "numbers, but no room", crowd.table(), lists[20])
		wantMade(t, "numbers, and room again", crowd.sweptPlainly([]int{0}), lists[20])
	}
}

func TestWhereANewCellComes(t *testing.T) {
	for _, many := range allManys() {
		for at := range many {
			lists := labelsIn(many, at, 4)
			n := betweenEachOther(many)
			n.next = 70
			got, _, _, _ := impl.GetOrMake(n.table(), lists[3])
			want := n.table()
			want.Next = 71
			want.Stripes[at] = append(want.Stripes[at], impl.Cell{Ref: 70, Labels: lists[3]})
			if !sameTable(got, want) {
				t.Errorf("GetOrMake in stripe %d of %d: %s", at, many, tableShown(got))
			}
		}
	}
}

// refsToSweep are none, some, all and more of a table's numbers, and such as are not there.
func refsToSweep(n numbered) [][]int {
	all := n.has.refs()
	lists := [][]int{nil, {}, all, {0}, {999}, {0, 999}, {500}, stepped(0, 1, 20), stepped(980, 1, 20), stepped(5, 50, 20), stepped(0, 2, 20)}
	for i, ref := range all {
		lists = append(lists, []int{ref}, all[:i], all[i:], refsPlainly(all, []int{ref}, func(inA bool, inB bool) bool { return inA && !inB }))
	}
	return lists
}

func TestSweepRefs(t *testing.T) {
	for what, n := range goodNumbered() {
		for _, refs := range refsToSweep(n) {
			asked := fmt.Sprintf("SweepRefs %v, %s", refs, what)
			got, ok := impl.SweepRefs(n.table(), refs)
			want := n.sweptPlainly(refs)
			wantTable(t, asked, got, ok, want)
			kept, ok := impl.RefsIn(got)
			wantRefs(t, asked+", RefsIn", kept, ok, want.has.refs())
			for ref, l := range n.has {
				if _, is := want.has[ref]; is {
					wantRef(t, asked, got, l, ref)
				} else {
					wantNoRef(t, asked, got, l)
				}
			}
		}
	}
}

func TestSweepOfListsThatAreNoneOfReferences(t *testing.T) {
	for what, n := range goodNumbered() {
		for why, refs := range badRefLists() {
			got, ok := impl.SweepRefs(n.table(), refs)
			wantNoTable(t, fmt.Sprintf("SweepRefs, %s, %s", why, what), got, ok)
		}
	}
}

func TestNoNumberIsGivenTwice(t *testing.T) {
	for _, many := range allManys() {
		at, _ := impl.NewTable(many)
		lists := labelsIn(1, 0, 3)
		for want := range 1000 {
			l := lists[want%3]
			more, ref, made, ok := impl.GetOrMake(at, l)
			if ref != want || !made || !ok || more.Next != want+1 {
				t.Fatalf("GetOrMake: %d, %v, %v, not %d", ref, made, ok, want)
			}
			at, ok = impl.SweepRefs(more, []int{ref})
			if !ok || at.Next != want+1 {
				t.Fatalf("SweepRefs of %d: %s, %v", ref, tableShown(at), ok)
			}
			wantNoRef(t, "FindRef of what is swept", at, l)
		}
		wantTable(t, "all numbers given", at, true, numbered{many, 1000, carried{}})
		wantNoneMade(t, "all numbers given", at, lists[0])
	}
}

func TestMakingAndSweepingByTurns(t *testing.T) {
	turn := 1
	next := func(below int) int {
		turn = (turn*1103515245 + 12345) & 0x7fffffff
		return (turn >> 8) % below
	}
	for _, many := range allManys() {
		lists := append(risingLabels(), labelsIn(1, 0, 12)...)
		at, _ := impl.NewTable(many)
		n := numbered{many, 0, carried{}}
		for range 1500 {
			if next(5) == 0 {
				refs := slices.DeleteFunc(n.has.refs(), func(int) bool { return next(3) > 0 })
				var ok bool
				at, ok = impl.SweepRefs(at, refs)
				n = n.sweptPlainly(refs)
				wantTable(t, fmt.Sprint("SweepRefs of ", refs), at, ok, n)
				continue
			}
			l := lists[next(len(lists))]
			want, is := n.refPlainly(l)
			made := false
			if !is {
				want = n.next
				n, made = n.makePlainly(l)
			}
			if !is && !made {
				wantNoneMade(t, fmt.Sprint("GetOrMake of ", l), at, l)
				continue
			}
			more, ref, one, ok := impl.GetOrMake(at, l)
			wantTable(t, fmt.Sprint("GetOrMake of ", l), more, ok, n)
			if ref != want || one != made {
				t.Errorf("GetOrMake of %v: %d, %v, not %d, %v", l, ref, one, want, made)
			}
			at = more
		}
	}
}

func TestTablesThatAreNotGoodGetZero(t *testing.T) {
	for what, bad := range badTables() {
		lists := [][]impl.Label{nil, labelsOf("a", "x"), labelsOf("up", "new"), labelsOf("", "x"), manyLabels(7, "x")}
		for _, cells := range bad.Stripes {
			for _, cell := range cells[:min(4, len(cells))] {
				lists = append(lists, cell.Labels)
			}
		}
		for _, l := range lists {
			wantNoRef(t, "FindRef, "+what, bad, l)
			wantNoneMade(t, "GetOrMake, "+what, bad, l)
		}
		for _, refs := range [][]int{nil, {0}, {7}, {4, 5, 6, 7}, stepped(0, 1, 20), {67, 66}} {
			got, ok := impl.SweepRefs(bad, refs)
			wantNoTable(t, "SweepRefs, "+what, got, ok)
		}
		refs, ok := impl.RefsIn(bad)
		wantNoRefs(t, "RefsIn, "+what, refs, ok)
		for _, ref := range []int{-1, 0, 1, 3, 4, 5, 6, 7, 37, 67, 90, 100, 999, 1000} {
			if l, ok := impl.LabelsFor(bad, ref); len(l) != 0 || ok {
				t.Errorf("LabelsFor %d, %s: %v, %v", ref, what, l, ok)
			}
		}
	}
}

// tableArgs are what the functions of a table are called with.
type tableArgs struct {
	t    impl.Table
	l    []impl.Label
	refs []int
}

// tableAnswers are all lists that the functions of a table answer with.
type tableAnswers struct {
	stripes [][][]impl.Cell
	cells   [][]impl.Cell
	labels  [][]impl.Label
	refs    [][]int
}

func (a *tableAnswers) take(t impl.Table) {
	a.stripes = append(a.stripes, t.Stripes)
	for _, cells := range t.Stripes {
		a.cells = append(a.cells, cells)
		for _, cell := range cells {
			a.labels = append(a.labels, cell.Labels)
		}
	}
}

func (g tableArgs) answers() tableAnswers {
	var a tableAnswers
	empty, _ := impl.NewTable(g.t.Many)
	made, _, _, _ := impl.GetOrMake(g.t, g.l)
	bare, _, _, _ := impl.GetOrMake(g.t, nil)
	swept, _ := impl.SweepRefs(g.t, g.refs)
	same, _ := impl.SweepRefs(g.t, nil)
	for _, t := range []impl.Table{empty, made, bare, swept, same} {
		a.take(t)
	}
	for _, cells := range g.t.Stripes {
		for _, cell := range cells[:min(25, len(cells))] {
			found, _, _, _ := impl.GetOrMake(g.t, cell.Labels)
			a.take(found)
			l, _ := impl.LabelsFor(g.t, cell.Ref)
			a.labels = append(a.labels, l)
		}
	}
	refs, _ := impl.RefsIn(g.t)
	a.refs = append(a.refs, refs)
	return a
}

// called tells what the functions that hand out no lists answer, beside the lists of the others.
func (g tableArgs) called() string {
	at, ok := impl.StripeOf(g.t, g.l)
	ref, found := impl.FindRef(g.t, g.l)
	return fmt.Sprint(g.answers(), impl.GoodTable(g.t), at, ok, ref, found)
}

// roomy has something behind the length of each list.
func (g tableArgs) roomy(behind impl.Cell) tableArgs {
	label := impl.Label{Name: "zz", Is: strconv.Itoa(behind.Ref)}
	var stripes [][]impl.Cell
	for _, cells := range g.t.Stripes {
		var own []impl.Cell
		for _, cell := range cells {
			_, cell.Labels = withRoom(cell.Labels, label, impl.Label{})
			own = append(own, cell)
		}
		_, own = withRoom(own, behind, behind)
		stripes = append(stripes, own)
	}
	_, g.t.Stripes = withRoom(stripes, []impl.Cell{behind}, nil)
	_, g.l = withRoom(g.l, label)
	_, g.refs = withRoom(g.refs, behind.Ref, behind.Ref)
	return g
}

// shown tells all memory of the arguments, what lies behind the lengths too.
func (g tableArgs) shown() string {
	var text strings.Builder
	for _, cells := range whole(g.t.Stripes) {
		for _, cell := range whole(cells) {
			fmt.Fprintf(&text, "%d %q, ", cell.Ref, whole(cell.Labels))
		}
		fmt.Fprint(&text, "; ")
	}
	fmt.Fprintf(&text, "%d %d %q %v", g.t.Many, g.t.Next, whole(g.l), whole(g.refs))
	return text.String()
}

func argsForTables() []tableArgs {
	var args []tableArgs
	add := func(t impl.Table, refs []int) {
		args = append(args, tableArgs{t, labelsOf("job", "a", "new", "b"), refs}, tableArgs{t, labelsOf("job", "a"), slices.Concat(refs, refs)})
	}
	for _, n := range goodNumbered() {
		all := n.has.refs()
		add(n.table(), all[:len(all)/2])
	}
	for _, many := range allManys() {
		add(betweenEachOther(many).table(), []int{6, 37})
	}
	for what, bad := range badTables() {
		// What is amiss in labels makes no other way through the functions than one of these does.
		if !strings.Contains(what, "labels with") || strings.Contains(what, "falling") {
			add(bad, []int{0, 7})
		}
	}
	return args
}

func TestTablesAreLeftAsTheyWere(t *testing.T) {
	for _, plain := range argsForTables() {
		wantLeft(t, tableShown(plain.t), plain, plain.roomy(impl.Cell{}), plain.roomy(impl.Cell{Ref: 999, Labels: labelsOf("zz", "zz")}))
	}
}

func TestAnswersOfTablesShareNothing(t *testing.T) {
	for _, plain := range argsForTables() {
		given := plain.roomy(impl.Cell{})
		// A first call's answers stand beside those of a second one, and beside the arguments.
		lists, more := given.answers(), given.answers()
		lists.stripes = append(lists.stripes, more.stripes...)
		lists.cells = append(lists.cells, more.cells...)
		lists.labels = append(append(lists.labels, more.labels...), given.l)
		lists.refs = append(append(lists.refs, more.refs...), given.refs)
		lists.take(given.t)
		if !eachHasItsOwn(lists.refs, func(i int) int { return i }, func(x int, i int) bool { return x == i }) {
			t.Errorf("%s: two lists of numbers share memory", tableShown(plain.t))
		}
		named := func(i int) impl.Label { return impl.Label{Name: strconv.Itoa(i)} }
		if !eachHasItsOwn(lists.labels, named, func(l impl.Label, i int) bool { return l == named(i) }) {
			t.Errorf("%s: two lists of labels share memory", tableShown(plain.t))
		}
		if !eachHasItsOwn(lists.cells, func(i int) impl.Cell { return impl.Cell{Ref: i} }, func(c impl.Cell, i int) bool { return c.Ref == i }) {
			t.Errorf("%s: two lists of cells share memory", tableShown(plain.t))
		}
		if !eachHasItsOwn(lists.stripes, func(i int) []impl.Cell { return make([]impl.Cell, i) }, func(c []impl.Cell, i int) bool { return len(c) == i }) {
			t.Errorf("%s: two lists of stripes share memory", tableShown(plain.t))
		}
	}
}
