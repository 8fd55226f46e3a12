package tests

import (
	"fmt"
	"math"
	"slices"
	"strconv"
	"strings"
	"testing"

	"loop.example/g00747/impl"
)

func TestLimitsAndCodesOfHeads(t *testing.T) {
	if impl.MaxBatch != 12 {
		t.Error(impl.MaxBatch)
	}
	codes := []int{impl.HdOk, impl.HdLabels, impl.HdClosed, impl.HdBounds, impl.HdTwice, impl.HdOrder, impl.HdFull}
	if !slices.Equal(codes, []int{0, 1, 2, 3, 4, 5, 6}) {
		t.Error(codes)
	}
}

func TestNewHead(t *testing.T) {
	for _, floor := range []int{-1000000, -999999, -1, 0, 1, 5, 999999, 1000000} {
		h, ok := impl.NewHead(floor)
		if !sameHead(h, newKnown(floor).head()) || !ok || !impl.GoodHead(h) {
			t.Errorf("NewHead of %d: %s, %v", floor, headShown(h), ok)
		}
	}
	for _, floor := range []int{math.MinInt, -1000002, -1000001, 1000001, 1000002, 1 << 32, math.MaxInt} {
		if h, ok := impl.NewHead(floor); !sameHead(h, impl.Head{}) || ok {
			t.Errorf("NewHead of %d: %s, %v", floor, headShown(h), ok)
		}
	}
}

func TestGoodHead(t *testing.T) {
	good := map[string]impl.Head{
		"the zero value":   {},
		"lists of nothing": {Held: []impl.Held{}, Apps: []impl.Appender{{Batch: []impl.Pending{}}}, Readers: []impl.Reader{{Held: []impl.Held{}}}},
	}
	for what, k := range goodHeads() {
		good[what] = k.head()
	}
	wantGood(t, "GoodHead", impl.GoodHead, good, badHeads())
}

// idsAroundThem are those that are there, their neighbours, and some far away.
func idsAroundThem(there []int) []int {
	ids := []int{math.MinInt, -1, 0, 1, 500, math.MaxInt}
	for _, id := range there {
		ids = append(ids, id)
		if id > 0 {
			ids = append(ids, id-1)
		}
		if id < math.MaxInt {
			ids = append(ids, id+1)
		}
	}
	slices.Sort(ids)
	return slices.Compact(ids)
}

func TestBeginBatch(t *testing.T) {
	for what, k := range goodHeads() {
		h := k.head()
		for _, id := range idsAroundThem(keysInOrder(k.batches)) {
			beginning(id).wantOf(t, what, h, k)
		}
	}
}

// idCase is of an id and a head with MaxOpen or fewer that are open, by steps of 10 from 10 on.
type idCase struct {
	what string
	id   int
	many int
	want int
}

func idCases() []idCase {
	return []idCase{
		{"none there", 5, 0, 0},
		{"0, none there", 0, 0, 0},
		{"below 0, none there", -1, 0, 2},
		{"far below 0, none there", math.MinInt, 0, 2},
		{"the greatest, none there", math.MaxInt, 0, 0},
		{"0, ahead", 0, 7, 0},
		{"just ahead", 9, 7, 0},
		{"just behind the first", 11, 7, 0},
		{"between", 45, 7, 0},
		{"just ahead of the last", 69, 7, 0},
		{"just behind", 71, 7, 0},
		{"far behind", math.MaxInt, 7, 0},
		{"the first again", 10, 7, 2},
		{"one between again", 40, 7, 2},
		{"the last again", 70, 7, 2},
		{"below 0, ahead", -1, 7, 2},
		{"ahead of MaxOpen", 0, 8, 6},
		{"between MaxOpen", 45, 8, 6},
		{"behind MaxOpen", 90, 8, 6},
		{"the first of MaxOpen again", 10, 8, 2},
		{"one of MaxOpen again", 50, 8, 2},
		{"the last of MaxOpen again", 80, 8, 2},
		{"below 0, with MaxOpen", -1, 8, 2},
		{"far below 0, with MaxOpen", math.MinInt, 8, 2},
	}
}

func TestCodesOfBeginBatch(t *testing.T) {
	for _, c := range idCases() {
		k := newKnown(3).holding(4, 5, 3)
		for _, id := range stepped(10, 10, c.many) {
			k = k.batching(id, dueAt(4, 300+id)...)
		}
		beginning(c.id).wantCode(t, c.what, k, c.want, 0)
		beginning(c.id).wantCode(t, c.what+", with MaxOpen readers", k.fullOfReaders(10, 10), c.want, 0)
		if c.want == 0 {
			k = k.batching(c.id)
			beginning(c.id).wantCode(t, c.what+", again", k, 2, 0)
			rollingBack(c.id).wantCode(t, c.what+", rolled back", k, 0, 0)
		}
	}
}

// forAdding has appenders with nothing, with something, and with all but one, for series that are short, full, and not held.
func forAdding() known {
	k := newKnown(0).holding(3, 10, 3).holding(5, 10, 8, 8, 8, 8, 8, 8).holding(6, 10, 8, 8, 8, 8, 8, 7).holding(8, 10).holding(10, 10, 8, 0)
	k = k.batching(4).batching(7, slices.Concat(dueAt(3, 40), dueAt(9, 5), dueAt(6, 500), dueAt(8, 7, 9))...)
	return k.batching(20, dueAt(9, stepped(0, 10, 12)...)...).batching(30, dueAt(9, stepped(0, 10, 11)...)...)
}

func TestCodesOfAddPending(t *testing.T) {
	last := func(sizes ...int) uint64 {
		all := layOf(0, spread(10, 48), sizes...).all()
		return math.Float64bits(all[len(all)-1].V)
	}
	first := math.Float64bits(1)
	cases := []struct {
		what string
		id   int
		at   int
		time int
		bits uint64
		want int
		more bool
	}{
		{"of no appender", 5, 9, 50, 0, 2, false},
		{"of an id below 0", -1, 9, 50, 0, 2, false},
		{"of no appender, below the Floor", 5, 9, -1, 0, 2, false},
		{"of no appender, the same sample", 5, 3, 30, last(3), 2, false},
		{"not held, at the Floor", 4, 9, 0, 0, 0, true},
		{"not held, below the Floor", 4, 9, -1, 0, 3, false},
		{"not held, the greatest T", 4, 9, 1000000, 0, 0, true},
		{"not held, above the greatest T", 4, 9, 1000001, 0, 3, false},
		{"not held, the least int", 4, 9, math.MinInt, 0, 3, false},
		{"not held, the greatest int", 4, 9, math.MaxInt, 0, 3, false},
		{"held without chunks, at the Floor", 4, 8, 0, 0, 0, true},
		{"held without chunks, below the Floor", 4, 8, -1, 0, 3, false},
		{"above the last", 4, 3, 31, 0, 0, true},
		{"the last again", 4, 3, 30, last(3), 0, false},
		{"at the last, another value", 4, 3, 30, last(3) ^ 1, 4, false},
		{"below the last", 4, 3, 29, last(3), 5, false},
		{"at the Floor, below the last", 4, 3, 0, 0, 5, false},
		{"below the Floor and the last", 4, 3, -1, 0, 3, false},
		{"the last again, an empty chunk behind", 4, 10, 80, last(8), 0, false},
		{"above the last, an empty chunk behind", 4, 10, 81, 0, 0, true},
		{"full, above the last", 4, 5, 481, 0, 6, false},
		{"full, the last again", 4, 5, 480, last(8, 8, 8, 8, 8, 8), 0, false},
		{"full, at the last", 4, 5, 480, 0, 4, false},
		{"full, below the last", 4, 5, 479, 0, 5, false},
		{"full, below the Floor", 4, 5, -1, 0, 3, false},
		{"full, above the greatest T", 4, 5, 1000001, 0, 3, false},
		{"room for one", 4, 6, 471, 0, 0, true},
		{"room for one, which is in the batch", 7, 6, 501, 0, 6, false},
		{"room for one, which is in the batch, again", 7, 6, 500, first, 0, false},
		{"room for one, which is in the batch, with another value", 7, 6, 500, 0, 4, false},
		{"behind the batch", 7, 3, 41, 0, 0, true},
		{"again what is in the batch", 7, 3, 40, first, 0, false},
		{"what is in the batch, another value", 7, 3, 40, 0, 4, false},
		{"below the batch, above the series", 7, 3, 35, 0, 5, false},
		{"again what is in the series, below the batch", 7, 3, 30, last(3), 5, false},
		{"behind the batch, not held", 7, 9, 6, 0, 0, true},
		{"again what is in the batch, not held", 7, 9, 5, first, 0, false},
		{"what is in the batch, another value, not held", 7, 9, 5, 0, 4, false},
		{"below the batch, not held", 7, 9, 4, 0, 5, false},
		{"below the Floor and the batch, not held", 7, 9, -1, 0, 3, false},
		{"other labels than those in the batch", 7, 11, 4, 0, 0, true},
		{"behind two of the batch", 7, 8, 10, 0, 0, true},
		{"again the second of the batch", 7, 8, 9, math.Float64bits(2), 0, false},
		{"again the first of the batch", 7, 8, 7, first, 5, false},
		{"the twelfth", 30, 9, 101, 0, 0, true},
		{"the twelfth, of other labels", 30, 3, 31, 0, 0, true},
		{"the thirteenth", 20, 9, 111, 0, 6, false},
		{"the thirteenth, of other labels", 20, 3, 31, 0, 6, false},
		{"behind MaxBatch, the last again", 20, 9, 110, math.Float64bits(12), 6, false},
		{"behind MaxBatch, at the last", 20, 9, 110, 0, 6, false},
		{"behind MaxBatch, below the last", 20, 9, 100, 0, 6, false},
		{"behind MaxBatch, below the Floor", 20, 9, -1, 0, 6, false},
		{"behind MaxBatch, full", 20, 5, 481, 0, 6, false},
	}
	for _, c := range cases {
		k := forAdding()
		next := adding(c.id, due{c.at, sampleOf(c.time, c.bits)}).wantCode(t, c.what, k, c.want, 0)
		if more := len(next.batches[c.id]) > len(k.batches[c.id]); more != c.more {
			t.Errorf("AddPending, %s: in the batch %v, not %v", c.what, more, c.more)
		}
	}
}

func TestAddPendingUpToMaxBatch(t *testing.T) {
	k := newKnown(-5).holding(3, 10, 3).batching(4).batching(9, dueAt(3, 70)...)
	for i := range 12 {
		k = adding(4, due{3 + i%3*4, impl.Sample{T: 60 + i}}).wantCode(t, fmt.Sprint(i, " in the batch"), k, 0, 0)
	}
	adding(4, due{3, impl.Sample{T: 90}}).wantCode(t, "12 in the batch", k, 6, 0)
	adding(9, due{3, impl.Sample{T: 90}}).wantCode(t, "12 in another one", k, 0, 0)
}

func TestAddPendingOfValuesByTheirBits(t *testing.T) {
	values := append(scatteredBits(8), 0, highestBit, staleBits, 0x7ff8000000000001, 0x3ff0000000000000)
	for _, one := range values {
		inBatch := newKnown(0).batching(4, due{9, sampleOf(50, one)})
		inSeries := newKnown(0).batching(4).holdingLay(9, layOf(0, []impl.Sample{sampleOf(50, one)}, 1))
		for _, other := range values {
			want := 4
			if one == other {
				want = 0
			}
			adding(4, due{9, sampleOf(50, other)}).wantCode(t, fmt.Sprintf("behind %x in the batch", one), inBatch, want, 0)
			adding(4, due{9, sampleOf(50, other)}).wantCode(t, fmt.Sprintf("behind %x in the series", one), inSeries, want, 0)
		}
	}
}

func TestAddPendingOfLabelsThatAreNotGood(t *testing.T) {
	k := forAdding()
	h := k.head()
	for what, l := range badLabels() {
		for id, want := range map[int]int{4: 1, 7: 1, 20: 1, 30: 1, 5: 2, -1: 2, math.MaxInt: 2} {
			for _, time := range []int{50, -1, 1000001, math.MinInt} {
				got, code, ok := impl.AddPending(h, id, l, impl.Sample{T: time})
				if !sameHead(got, h) || code != want || !ok {
					t.Errorf("AddPending of %d at %d, labels with %s: %d, %v", id, time, what, code, ok)
				}
			}
		}
	}
}

// A batch may have what its series refuses, which then is not what a sample comes behind.
func TestAddPendingBehindWhatIsRefused(t *testing.T) {
	k := newKnown(0).holding(3, 10, 3).batching(4, slices.Concat(dueAt(3, 5, 1000001, -1, math.MaxInt, 40, 35), dueAt(9, 50, 20, -7))...)
	for _, c := range []struct{ at, time, want int }{
		{3, 41, 0}, {3, 39, 5}, {3, 36, 5}, {3, 40, 4}, {3, 1000000, 0}, {3, -1, 3}, {3, 1000001, 3}, {3, 5, 5},
		{9, 51, 0}, {9, 50, 4}, {9, 49, 5}, {9, 21, 5}, {9, -7, 3}, {9, 0, 5},
	} {
		adding(4, due{c.at, impl.Sample{T: c.time, V: 99}}).wantCode(t, "behind what is refused", k, c.want, 0)
	}
}

func TestAddPendingWithMaxSeriesHeld(t *testing.T) {
	k := newKnown(0).holdingMany(2, 20).batching(4)
	next := adding(4, due{0, impl.Sample{T: 5}}).wantCode(t, "MaxSeries held", k, 0, 0)
	next = adding(4, due{23, impl.Sample{T: 5}}).wantCode(t, "MaxSeries held", next, 0, 0)
	adding(4, due{23, impl.Sample{T: 4}}).wantCode(t, "MaxSeries held", next, 5, 0)
	committing(4).wantCode(t, "MaxSeries held", next, 0, 0)
}

// samplesNear are for the labels of a place, at, beside and between what counts there.
func samplesNear(k known, at int, batch []due) []impl.Sample {
	ahead := slices.Clone(k.seriesFor(at).all())
	for _, d := range batch {
		if d.at == at {
			ahead = append(ahead, d.s)
		}
	}
	l := []impl.Sample{{T: k.floor - 1}, {T: k.floor}, {T: 1000000}, {T: 1000001}, {T: math.MinInt}}
	for _, s := range ahead[max(0, len(ahead)-2):] {
		l = append(l, s, sampleOf(s.T, math.Float64bits(s.V)^1), impl.Sample{T: s.T - 1}, impl.Sample{T: s.T + 1})
	}
	return l
}

// placesNear are those that a batch has, and some that are held and that are not.
func placesNear(k known, batch []due) []int {
	places := []int{0, 12, 23}
	for _, d := range batch {
		places = append(places, d.at)
	}
	held := keysInOrder(k.held)
	places = append(places, held[:min(1, len(held))]...)
	slices.Sort(places)
	return slices.Compact(places)
}

func TestAddPending(t *testing.T) {
	for what, k := range goodHeads() {
		h := k.head()
		ids := keysInOrder(k.batches)
		if len(ids) > 2 {
			ids = []int{ids[0], ids[len(ids)-1]}
		}
		for _, id := range append(ids, 50) {
			for _, at := range placesNear(k, k.batches[id]) {
				for _, s := range samplesNear(k, at, k.batches[id]) {
					adding(id, due{at, s}).wantOf(t, what, h, k)
				}
			}
		}
	}
}

func TestCommit(t *testing.T) {
	for what, k := range goodHeads() {
		h := k.head()
		for _, id := range idsAroundThem(keysInOrder(k.batches)) {
			committing(id).wantOf(t, what, h, k)
		}
	}
}

func TestWhatCommitTells(t *testing.T) {
	same := layOf(0, spread(10, 48), 3).all()[2]
	each := slices.Concat(dueAt(3, 5, 29), []due{{3, same}}, dueAt(3, 30, -1, 1000001, 40), dueAt(3, 40, 40, 41))
	nineteen, twenty := newKnown(0).holdingMany(2, 19), newKnown(0).holdingMany(2, 20)
	cases := []struct {
		what string
		from known
		many int
		held int
	}{
		{"nothing", newKnown(0).batching(4), 0, 0},
		{"each thing that is told", newKnown(0).holding(3, 10, 3).batching(4, each...), 2, 1},
		{"one not held", newKnown(0).batching(4, dueAt(3, 5)...), 1, 1},
		{"some not held", newKnown(0).batching(4, slices.Concat(dueAt(9, 5, 6), dueAt(3, 5), dueAt(7, 5), dueAt(3, 6))...), 5, 3},
		{"one not held that is refused", newKnown(0).batching(4, dueAt(3, -1)...), 0, 0},
		{"one not held that is refused at first", newKnown(0).batching(4, dueAt(3, -1, 5, 4, 1000001)...), 1, 1},
		{"a full one", newKnown(0).holding(3, 10, 8, 8, 8, 8, 8, 8).batching(4, dueAt(3, 900, 901)...), 0, 1},
		{"one that gets full", newKnown(0).holding(3, 10, 8, 8, 8, 8, 8, 6).batching(4, dueAt(3, 900, 901, 902)...), 2, 1},
		{"room for one more", nineteen.batching(4, dueAt(0, 5)...), 1, 20},
		{"room for one of two", nineteen.batching(4, slices.Concat(dueAt(23, 5), dueAt(0, 5))...), 1, 20},
		{"room for one of two, more of both", nineteen.batching(4, slices.Concat(dueAt(23, 5), dueAt(0, 5, 6), dueAt(23, 6))...), 2, 20},
		{"room for one of two, the first refused", nineteen.batching(4, slices.Concat(dueAt(23, -5), dueAt(0, 5))...), 1, 20},
		{"no room", twenty.batching(4, slices.Concat(dueAt(0, 5), dueAt(23, 5))...), 0, 20},
		{"no room but for what is held", twenty.batching(4, slices.Concat(dueAt(0, 5), dueAt(7, 900), dueAt(23, 5), dueAt(21, 900))...), 2, 20},
	}
	for _, c := range cases {
		next := committing(4).wantCode(t, c.what, c.from, 0, c.many)
		if len(next.held) != c.held {
			t.Errorf("Commit, %s: %d held, not %d", c.what, len(next.held), c.held)
		}
		committing(4).wantCode(t, c.what+", again", next, 2, 0)
	}
}

// Both batches are added to while nothing is held, so that the second one is overtaken when the first one is committed.
func TestCommitOfWhatWasOvertaken(t *testing.T) {
	cases := []struct {
		what   string
		first  []impl.Sample
		second []impl.Sample
		many   int
	}{
		{"by the same", samplesAt(5, 6), samplesAt(5, 6), 0},
		{"by the first alone", samplesAt(5), samplesAt(5, 6), 1},
		{"by others at the same times", samplesAt(5, 6), samplesAt(3, 5, 6)[1:], 0},
		{"by later ones", samplesAt(50, 60), samplesAt(5, 6), 0},
		{"by one between", samplesAt(6), samplesAt(5, 7), 1},
		{"by none", samplesAt(5, 6), samplesAt(7, 8), 2},
	}
	for _, c := range cases {
		k := newKnown(0)
		for id, l := range map[int][]impl.Sample{1: c.first, 2: c.second} {
			k = beginning(id).wantCode(t, c.what, k, 0, 0)
			for _, s := range l {
				k = adding(id, due{9, s}).wantCode(t, c.what, k, 0, 0)
			}
		}
		k = committing(1).wantCode(t, c.what, k, 0, len(c.first))
		committing(2).wantCode(t, c.what, k, 0, c.many)
	}
}

func TestCommitOfWhatIsBelowTheFloorSince(t *testing.T) {
	k := newKnown(0).holding(3, 10, 3).batching(4, slices.Concat(dueAt(3, 35, 45), dueAt(9, 35, 40, 41), dueAt(11, 39))...)
	for _, c := range []struct{ floor, many, held int }{{-5, 6, 3}, {0, 6, 3}, {30, 6, 3}, {35, 6, 3}, {36, 4, 3}, {39, 4, 3}, {40, 3, 2}, {41, 2, 2}, {42, 1, 1}, {45, 1, 1}, {46, 0, 0}, {1000000, 0, 0}} {
		what := fmt.Sprint("the Floor at ", c.floor)
		cut := truncating(c.floor).wantCode(t, what, k, 0, 0)
		next := committing(4).wantCode(t, what, cut, 0, c.many)
		if len(next.held) != c.held {
			t.Errorf("Commit, %s: %d held, not %d", what, len(next.held), c.held)
		}
		for at, l := range next.held {
			if l.floor != max(0, c.floor) {
				t.Errorf("Commit, %s: series %d from %d", what, at, l.floor)
			}
		}
	}
}

// A series that went with its samples is begun anew by what comes.
func TestCommitToASeriesThatWent(t *testing.T) {
	k := newKnown(0).holding(3, 10, 8, 2).batching(4, dueAt(3, 300)...)
	k = truncating(200).wantCode(t, "all went", k, 0, 0)
	if len(k.held) != 0 {
		t.Fatal("held", len(k.held))
	}
	k = committing(4).wantCode(t, "all went", k, 0, 1)
	if l := k.held[3]; l.floor != 200 || len(l.all()) != 1 {
		t.Error("held", l)
	}
}

// wantClosing wants of each number that is there, and of no other one, that it can be closed.
func wantClosing(t *testing.T, closing func(id int) ask, there func(k known) []int) {
	t.Helper()
	for what, k := range goodHeads() {
		h, ids := k.head(), there(k)
		for _, id := range idsAroundThem(ids) {
			a, want := closing(id), 2
			if slices.Contains(ids, id) {
				want = 0
			}
			if _, _, is := a.wantOf(t, what, h, k); is.code != want {
				t.Errorf("%s, %s: %d, not %d", a.what, what, is.code, want)
			}
		}
	}
}

func TestRollback(t *testing.T) {
	wantClosing(t, rollingBack, func(k known) []int { return keysInOrder(k.batches) })
	k := rollingBack(6).wantCode(t, "broad", broadHead(), 0, 0)
	rollingBack(6).wantCode(t, "broad, again", k, 2, 0)
	committing(6).wantCode(t, "rolled back", k, 2, 0)
	adding(6, due{9, impl.Sample{T: 900}}).wantCode(t, "rolled back", k, 2, 0)
	beginning(6).wantCode(t, "rolled back", k, 0, 0)
}

func TestOpenReader(t *testing.T) {
	for what, k := range goodHeads() {
		h := k.head()
		for _, id := range idsAroundThem(keysInOrder(k.readers)) {
			opening(id).wantOf(t, what, h, k)
		}
	}
}

func TestCodesOfOpenReader(t *testing.T) {
	for _, c := range idCases() {
		k := newKnown(3).holding(4, 5, 3).holding(9, 4, 8, 0).holding(12, 5)
		for i, id := range stepped(10, 10, c.many) {
			k = k.reading(id, newKnown(i).holding(i, 50, i))
		}
		opening(c.id).wantCode(t, c.what, k, c.want, 0)
		opening(c.id).wantCode(t, c.what+", with MaxOpen appenders", k.fullOfBatches(10, 10), c.want, 0)
		if c.want == 0 {
			k = k.reading(c.id, k)
			opening(c.id).wantCode(t, c.what+", again", k, 2, 0)
			closing(c.id).wantCode(t, c.what+", closed", k, 0, 0)
		}
	}
}

func TestCloseReader(t *testing.T) {
	wantClosing(t, closing, func(k known) []int { return keysInOrder(k.readers) })
	k := closing(5).wantCode(t, "broad", broadHead(), 0, 0)
	closing(5).wantCode(t, "broad, again", k, 2, 0)
	wantSelected(t, "closed", k, 5, nil, 0, 1000)
	opening(5).wantCode(t, "closed", k, 0, 0)
}

// wantSelected wants what is plainly told of a reader that is there, or else that it is not.
func wantSelected(t *testing.T, what string, k known, id int, m []impl.Matcher, from int, to int) []impl.Held {
	t.Helper()
	return wantSelectedOf(t, what, k.head(), k, id, m, from, to)
}

func wantSelectedOf(t *testing.T, what string, h impl.Head, k known, id int, m []impl.Matcher, from int, to int) []impl.Held {
	t.Helper()
	got, code, ok := impl.SelectFrom(h, id, m, from, to)
	reader, there := k.readers[id]
	var want []impl.Held
	wantCode := 2
	if there {
		want = reader.selected(m, from, to)
		wantCode = 0
	}
	if !sameHeld(got, want) || code != wantCode || !ok {
		t.Errorf("SelectFrom of %d, %v from %d to %d, %s: %.1000s, %d, %v, not %.1000s, %d", id, m, from, to, what, heldText(got, false), code, ok, heldText(want, false), wantCode)
	}
	return got
}

func TestSelectFrom(t *testing.T) {
	list := [][]impl.Matcher{
		nil,
		matchersOf(matcherOf(impl.MtLike, "a", "*")),
		matchersOf(matcherOf(impl.MtLike, "a", "1*"), matcherOf(impl.MtUnlike, "b", "2*")),
		matchersOf(matcherOf(impl.MtIs, "none", "x")),
		matchersOf(matcherOf(impl.MtNot, "a", "")),
	}
	for what, k := range goodHeads() {
		h := k.head()
		for i, id := range idsAroundThem(keysInOrder(k.readers)) {
			wantSelectedOf(t, what, h, k, id, list[i%len(list)], math.MinInt, math.MaxInt)
			r := k.readers[id]
			for j, time := range []int{-1000001, r.floor - 1, r.floor, r.floor + 5, r.floor + 37, r.floor + 100, 1000000} {
				wantSelectedOf(t, what, h, k, id, list[(i+j)%len(list)], time, time+50*(j-1))
				wantSelectedOf(t, what, h, k, id, nil, time, math.MaxInt)
				wantSelectedOf(t, what, h, k, id, nil, math.MinInt, time)
			}
		}
	}
}

// wantTimes wants of a reader of what is held the samples at these times, by their labels.
func wantTimes(t *testing.T, what string, k known, m []impl.Matcher, from int, to int, want map[int][]int) {
	t.Helper()
	got := wantSelected(t, what, k, 7, m, from, to)
	var texts, wants []string
	for _, x := range got {
		all, _ := impl.ReadRange(x.Series, math.MinInt, math.MaxInt)
		var times []int
		for _, s := range all {
			times = append(times, s.T)
		}
		texts = append(texts, fmt.Sprint(x.Labels, times, x.Series.Floor))
	}
	for _, at := range keysInOrder(want) {
		wants = append(wants, fmt.Sprint(labelsAt(at), want[at], k.readers[7].floor))
	}
	if !slices.Equal(texts, wants) {
		t.Errorf("SelectFrom %v from %d to %d, %s: %v, not %v", m, from, to, what, texts, wants)
	}
}

func TestTimesOfSelectFrom(t *testing.T) {
	held := newKnown(5).holding(3, 10, 3).holding(6, 20, 1, 1).holding(9, 5, 2, 0).holding(14, 5).holding(20, 5, 0)
	k := newKnown(900).reading(7, held).reading(8, newKnown(5).holding(3, 10, 8)).reading(2, newKnown(5).holding(6, 10, 8))
	all := map[int][]int{3: {10, 20, 30}, 6: {20, 30}, 9: {5, 15}}
	wantTimes(t, "all", k, nil, math.MinInt, math.MaxInt, all)
	wantTimes(t, "the bounds", k, nil, -1000000, 1000000, all)
	wantTimes(t, "beyond the bounds", k, nil, -1000001, 1000001, all)
	wantTimes(t, "from the first to the last", k, nil, 5, 30, all)
	wantTimes(t, "from behind the first", k, nil, 6, 30, map[int][]int{3: {10, 20, 30}, 6: {20, 30}, 9: {15}})
	wantTimes(t, "to ahead of the last", k, nil, 5, 29, map[int][]int{3: {10, 20}, 6: {20}, 9: {5, 15}})
	wantTimes(t, "some with none there", k, nil, 16, 25, map[int][]int{3: {20}, 6: {20}})
	wantTimes(t, "one time", k, nil, 15, 15, map[int][]int{9: {15}})
	wantTimes(t, "between", k, nil, 21, 29, nil)
	wantTimes(t, "turned round", k, nil, 30, 5, nil)
	wantTimes(t, "turned round by one", k, nil, 20, 19, nil)
	wantTimes(t, "from the greatest to the least", k, nil, math.MaxInt, math.MinInt, nil)
	wantTimes(t, "ahead of all", k, nil, math.MinInt, 4, nil)
	wantTimes(t, "behind all", k, nil, 31, math.MaxInt, nil)
	wantTimes(t, "one that matches", k, matchersOf(matcherOf(impl.MtIs, "b", "~")), 0, 100, map[int][]int{3: {10, 20, 30}})
	wantTimes(t, "none that matches", k, matchersOf(matcherOf(impl.MtIs, "b", "none")), 0, 100, nil)
	wantTimes(t, "two that match", k, matchersOf(matcherOf(impl.MtIs, "a", "1")), 0, 100, map[int][]int{6: {20, 30}, 9: {5, 15}})
	wantTimes(t, "one that matches all", k, matchersOf(matcherOf(impl.MtIs, "a", "1"), matcherOf(impl.MtIs, "b", "2")), 0, 100, map[int][]int{6: {20, 30}})
	wantTimes(t, "as many as can be", k, slices.Repeat(matchersOf(matcherOf(impl.MtIs, "a", "1")), 6), 6, 100, map[int][]int{6: {20, 30}, 9: {15}})
	wantTimes(t, "one of no samples", k, matchersOf(matcherOf(impl.MtIs, "a", "a")), 0, 100, nil)
}

func TestSelectFromMakesCompact(t *testing.T) {
	for i, sizes := range sizesOfChunks() {
		k := newKnown(0).reading(7, newKnown(5).holding(3, 10, sizes...))
		for _, from := range []int{0, 11, 25, 100} {
			for _, x := range wantSelected(t, fmt.Sprint(sizes), k, 7, nil, from, 400) {
				for _, c := range x.Series.Chunks[:len(x.Series.Chunks)-1] {
					if c.Many != 8 {
						t.Errorf("SelectFrom, %v: %d in a chunk that is not the last", sizes, c.Many)
					}
				}
				if !impl.GoodSeries(x.Series) {
					t.Errorf("SelectFrom of sizes %d: %s is not good", i, seriesShown(x.Series))
				}
			}
		}
	}
}

func TestSelectFromByMatchersThatAreNotGood(t *testing.T) {
	good := matcherOf(impl.MtIs, "a", "1")
	bad := map[string][]impl.Matcher{
		"one more than MaxLabels": slices.Repeat(matchersOf(good), 7),
		"far too many":            slices.Repeat(matchersOf(good), 1000),
	}
	for what, m := range badMatchers() {
		bad[what] = matchersOf(m)
		bad[what+", in front"] = matchersOf(m, good)
		bad[what+", at the end"] = matchersOf(good, matcherOf(impl.MtIs, "none", "x"), m)
	}
	for _, k := range []known{broadHead(), newKnown(0).reading(5, newKnown(0))} {
		h := k.head()
		for what, m := range bad {
			for id, want := range map[int]int{5: 1, 4: 2, -1: 2, math.MaxInt: 2} {
				for _, to := range []int{1000, -1000} {
					l, code, ok := impl.SelectFrom(h, id, m, 0, to)
					if len(l) != 0 || code != want || !ok {
						t.Errorf("SelectFrom of %d to %d, matchers with %s: %s, %d, %v", id, to, what, heldText(l, false), code, ok)
					}
				}
			}
		}
	}
}

// wantAsOpened wants a reader to tell the same as it did, whatever has become of the head.
func wantAsOpened(t *testing.T, what string, h impl.Head, id int, want string) {
	t.Helper()
	l, code, ok := impl.SelectFrom(h, id, nil, math.MinInt, math.MaxInt)
	if got := heldText(l, false); got != want || code != 0 || !ok {
		t.Errorf("SelectFrom of %d, %s: %.1000s, %d, %v, not %.1000s", id, what, got, code, ok, want)
	}
}

func TestAReaderSeesWhatWasHeldWhenItWasOpened(t *testing.T) {
	for what, k := range goodHeads() {
		// Of one appender and one reader fewer than there may be, so that there is room for those opened here.
		for _, id := range keysInOrder(k.batches)[:max(0, len(k.batches)-7)] {
			k, _ = k.rolledBack(id)
		}
		for _, id := range keysInOrder(k.readers)[:max(0, len(k.readers)-7)] {
			k, _ = k.closed(id)
		}
		for _, first := range []ask{truncating(k.floor + 25), cutting(), committing(700)} {
			readAll(t, what, k, first)
		}
	}
}

// readAll opens a reader and looks what it tells while all kinds of things are done, one of them at first.
func readAll(t *testing.T, what string, k known, first ask) {
	t.Helper()
	h, k, _ := opening(600).wantOf(t, what, k.head(), k)
	want := heldText(k.readers[600].selected(nil, math.MinInt, math.MaxInt), false)
	wantAsOpened(t, what, h, 600, want)
	asks := []ask{beginning(700), adding(700, due{4, impl.Sample{T: 5000}}), adding(700, due{21, impl.Sample{T: 5000}}), first, committing(700)}
	for _, id := range keysInOrder(k.batches) {
		asks = append(asks, committing(id))
	}
	for _, id := range keysInOrder(k.readers) {
		if id != 600 {
			asks = append(asks, closing(id))
		}
	}
	asks = append(asks, truncating(k.floor+60), cutting(), opening(650), beginning(701), rollingBack(701), truncating(1000000), cutting())
	for _, a := range asks {
		h, k, _ = a.wantOf(t, what, h, k)
		wantAsOpened(t, fmt.Sprintf("%s behind %s, %s", a.what, first.what, what), h, 600, want)
	}
	closing(600).wantOf(t, what, h, k)
}

func TestAReaderHasAFloorOfItsOwn(t *testing.T) {
	k := newKnown(5).holding(3, 10, 4)
	k = opening(1).wantCode(t, "from 5", k, 0, 0)
	k = truncating(20).wantCode(t, "from 5", k, 0, 0)
	k = opening(2).wantCode(t, "from 20", k, 0, 0)
	k = truncating(1000).wantCode(t, "from 20", k, 0, 0)
	k = opening(3).wantCode(t, "from 1000", k, 0, 0)
	for id, floor := range map[int]int{1: 5, 2: 20, 3: 1000} {
		if got := k.readers[id].floor; got != floor {
			t.Errorf("reader %d from %d", id, got)
		}
	}
	if l := wantSelected(t, "the first", k, 1, nil, 0, 100); len(l) != 1 || l[0].Series.Floor != 5 || l[0].Series.Chunks[0].Many != 4 {
		t.Error(heldText(l, false))
	}
	if l := wantSelected(t, "the second", k, 2, nil, 0, 100); len(l) != 1 || l[0].Series.Floor != 20 || l[0].Series.Chunks[0].Many != 3 {
		t.Error(heldText(l, false))
	}
	if l := wantSelected(t, "the third", k, 3, nil, 0, 100); len(l) != 0 {
		t.Error(heldText(l, false))
	}
}

func TestTruncateHead(t *testing.T) {
	for what, k := range goodHeads() {
		h := k.head()
		for _, time := range []int{-1000000, 1000000, k.floor, k.floor - 1, k.floor + 1, 0, k.floor + 10, k.floor + 41, k.floor + 95, k.floor + 290, k.floor + 600} {
			want := 0
			if time < -1000000 || time > 1000000 {
				want = 3
			}
			if _, _, is := truncating(time).wantOf(t, what, h, k); is.code != want {
				t.Errorf("TruncateHead at %d, %s: %d", time, what, is.code)
			}
		}
		for _, time := range []int{-1000001, 1000001, math.MinInt, math.MaxInt, -1 << 32, 1 << 32} {
			if _, _, is := truncating(time).wantOf(t, what, h, k); is.code != 3 {
				t.Errorf("TruncateHead at %d, %s: %d", time, what, is.code)
			}
		}
	}
}

func TestWhatTruncateHeadLeaves(t *testing.T) {
	held := newKnown(0).holding(3, 10, 3).holding(6, 30, 1, 1).holding(9, 5, 2, 0).holding(14, 5).holding(20, 5, 0).holding(22, 0, 8, 8)
	k := held.batching(2, dueAt(3, 70)...).reading(6, held)
	for _, c := range []struct {
		t     int
		floor int
		want  []int
	}{
		{-1000000, 0, []int{3, 6, 9, 22}},
		{-1, 0, []int{3, 6, 9, 22}},
		{0, 0, []int{3, 6, 9, 22}},
		{1, 1, []int{3, 6, 9, 22}},
		{15, 15, []int{3, 6, 9, 22}},
		{16, 16, []int{3, 6, 22}},
		{30, 30, []int{3, 6, 22}},
		{31, 31, []int{6, 22}},
		{40, 40, []int{6, 22}},
		{41, 41, []int{22}},
		{150, 150, []int{22}},
		{151, 151, nil},
		{1000000, 1000000, nil},
	} {
		what := "what is left"
		next := truncating(c.t).wantCode(t, what, k, 0, 0)
		if next.floor != c.floor || !slices.Equal(keysInOrder(next.held), c.want) {
			t.Errorf("TruncateHead at %d: from %d, %v", c.t, next.floor, keysInOrder(next.held))
		}
		again := truncating(c.t).wantCode(t, what, next, 0, 0)
		if !sameHead(again.head(), next.head()) {
			t.Errorf("TruncateHead at %d again: %s", c.t, headShown(again.head()))
		}
	}
	for _, time := range []int{-1000001, 1000001} {
		truncating(time).wantCode(t, "beyond the bounds", k, 3, 0)
	}
}

func TestCutAll(t *testing.T) {
	for what, k := range goodHeads() {
		h, cut, _ := cutting().wantOf(t, what, k.head(), k)
		cutting().wantOf(t, what+", again", h, cut)
	}
}

func TestWhatCutAllLeaves(t *testing.T) {
	k := newKnown(0).holding(1, 5).holding(2, 5, 0).holding(3, 5, 3).holding(4, 5, 8).holding(5, 5, 3, 0).holding(6, 5, 1, 1, 1, 1, 1).holding(7, 5, 1, 1, 1, 1, 1, 1).holding(8, 5, 1, 1, 1, 1, 1, 0)
	k = k.reading(9, k)
	h, ok := impl.CutAll(k.head())
	if !ok || len(h.Held) != 8 {
		t.Fatal(headShown(h), ok)
	}
	for i, want := range []int{0, 1, 2, 2, 2, 6, 6, 6} {
		if got := len(h.Held[i].Series.Chunks); got != want {
			t.Errorf("CutAll, series %d: %d chunks, not %d", i, got, want)
		}
		if got, was := len(h.Readers[0].Held[i].Series.Chunks), len(k.held[i+1].lists); got != was {
			t.Errorf("CutAll, series %d of the reader: %d chunks, not %d", i, got, was)
		}
	}
}

func TestHeadsThatAreNotGoodGetZero(t *testing.T) {
	good := matchersOf(matcherOf(impl.MtIs, "a", "1"))
	for what, bad := range badHeads() {
		for _, id := range []int{-1, 0, 1, 3, 4, 5, 8, 9, 12} {
			for _, a := range []ask{beginning(id), adding(id, due{4, impl.Sample{T: 500}}), committing(id), rollingBack(id), opening(id), closing(id)} {
				a.wantZero(t, what, bad)
			}
			got, code, ok := impl.AddPending(bad, id, labelsOf("A", ""), impl.Sample{T: -1})
			if !sameHead(got, impl.Head{}) || code != 0 || ok {
				t.Errorf("AddPending of labels that are not good, %s: %s, %d, %v", what, headShown(got), code, ok)
			}
			for _, m := range [][]impl.Matcher{nil, good, {{}}} {
				if l, code, ok := impl.SelectFrom(bad, id, m, 0, 1000); len(l) != 0 || code != 0 || ok {
					t.Errorf("SelectFrom of %d, %s: %s, %d, %v", id, what, heldText(l, false), code, ok)
				}
			}
		}
		for _, time := range []int{-1000001, -1000000, 0, 150, 1000000, 1000001} {
			truncating(time).wantZero(t, what, bad)
		}
		cutting().wantZero(t, what, bad)
	}
}

// doings are a head beside what is known of it, and which codes each kind of ask has told.
type doings struct {
	h    impl.Head
	k    known
	seen map[string]int
	turn int
}

func (d *doings) next(below int) int {
	d.turn = (d.turn*1103515245 + 12345) & 0x7fffffff
	return (d.turn >> 8) % below
}

// sampleFor is mostly a little later than what is there, now and then the same, as late, or out of bounds.
func (d *doings) sampleFor(id int, at int) impl.Sample {
	last, _ := d.k.seriesFor(at).lastPlainly()
	for _, ahead := range d.k.batches[id] {
		if ahead.at == at && ahead.s.T > last.T {
			last = ahead.s
		}
	}
	s := impl.Sample{T: max(last.T, d.k.floor) + 1 + d.next(3), V: float64(d.next(3))}
	switch d.next(12) {
	case 0:
		return last
	case 1:
		s.T = last.T
	case 2:
		s.T = last.T - d.next(4)
	case 3:
		s.T = d.k.floor - 1
	}
	return s
}

func (d *doings) ask() ask {
	id := d.next(11) - 1
	switch d.next(40) {
	case 0, 1, 2, 3:
		return beginning(id)
	case 4:
		return rollingBack(id)
	case 5, 6, 7:
		return opening(id)
	case 8, 9:
		return closing(id)
	case 10:
		return truncating(d.k.floor + d.next(12) - 8)
	case 11:
		return cutting()
	case 12, 13, 14:
		return committing(id)
	}
	// Most of them for few labels, so that some series get full.
	at := d.next(3)
	if d.next(4) == 0 {
		at = d.next(24)
	}
	return adding(id, due{at, d.sampleFor(id, at)})
}

func (d *doings) take(t *testing.T) {
	a := d.ask()
	h, k, is := a.wantOf(t, "by turns", d.h, d.k)
	kind, _, _ := strings.Cut(a.what, " ")
	d.seen[kind+" "+strconv.Itoa(is.code)]++
	d.h, d.k = h, k
	from := d.k.floor + d.next(60) - 50
	wantSelectedOf(t, "by turns", h, k, d.next(11)-1, matchersOf(matcherOf(1+d.next(4), "a", "1*")), from, from+d.next(40))
}

func TestHeadsByTurns(t *testing.T) {
	d := &doings{k: newKnown(0), seen: map[string]int{}, turn: 1}
	for range 4000 {
		d.take(t)
	}
	for _, kind := range []string{
		"BeginBatch 0", "BeginBatch 2", "BeginBatch 6", "AddPending 0", "AddPending 2", "AddPending 3", "AddPending 4", "AddPending 5", "AddPending 6",
		"Commit 0", "Commit 2", "Rollback 0", "Rollback 2", "OpenReader 0", "OpenReader 2", "OpenReader 6", "CloseReader 0", "CloseReader 2",
		"TruncateHead 0", "CutAll 0",
	} {
		if d.seen[kind] == 0 {
			t.Errorf("%s has not been told: %v", kind, d.seen)
		}
	}
}

// headArgs are what the functions of heads are called with.
type headArgs struct {
	h      impl.Head
	id     int
	reader int
	l      []impl.Label
	s      impl.Sample
	m      []impl.Matcher
}

// headAnswers are all lists that the functions of heads answer with.
type headAnswers struct {
	labels  [][]impl.Label
	chunks  [][]impl.Chunk
	held    [][]impl.Held
	batches [][]impl.Pending
	apps    [][]impl.Appender
	readers [][]impl.Reader
	heads   []impl.Head
}

func (a *headAnswers) takeHeld(l []impl.Held) {
	a.held = append(a.held, l)
	for _, x := range l {
		a.labels = append(a.labels, x.Labels)
		a.chunks = append(a.chunks, x.Series.Chunks)
	}
}

func (a *headAnswers) take(h impl.Head) {
	a.heads = append(a.heads, h)
	a.takeHeld(h.Held)
	a.apps = append(a.apps, h.Apps)
	for _, app := range h.Apps {
		a.batches = append(a.batches, app.Batch)
		for _, p := range app.Batch {
			a.labels = append(a.labels, p.Labels)
		}
	}
	a.readers = append(a.readers, h.Readers)
	for _, r := range h.Readers {
		a.takeHeld(r.Held)
	}
}

// answersTo gives the answers of calls that do what is asked for, and of some that tell a code.
func (g headArgs) answersTo(a *headAnswers) {
	made, _ := impl.NewHead(g.h.Floor)
	a.take(made)
	for _, id := range []int{g.id, 777} {
		begun, _, _ := impl.BeginBatch(g.h, id)
		added, _, _ := impl.AddPending(g.h, id, g.l, g.s)
		late, _, _ := impl.AddPending(g.h, id, g.l, impl.Sample{T: g.h.Floor - 1})
		committed, _, _, _ := impl.Commit(g.h, id)
		rolledBack, _, _ := impl.Rollback(g.h, id)
		for _, h := range []impl.Head{begun, added, late, committed, rolledBack} {
			a.take(h)
		}
	}
	for _, id := range []int{g.reader, 778} {
		opened, _, _ := impl.OpenReader(g.h, id)
		closed, _, _ := impl.CloseReader(g.h, id)
		a.take(opened)
		a.take(closed)
		l, _, _ := impl.SelectFrom(g.h, id, g.m, math.MinInt, math.MaxInt)
		a.takeHeld(l)
	}
	for _, time := range []int{g.h.Floor - 1, g.h.Floor + 17, math.MaxInt} {
		truncated, _, _ := impl.TruncateHead(g.h, time)
		a.take(truncated)
	}
	cut, _ := impl.CutAll(g.h)
	a.take(cut)
}

// called tells whether the head is good, beside all lists of the answers.
func (g headArgs) called() string {
	var a headAnswers
	g.answersTo(&a)
	var text strings.Builder
	for _, h := range a.heads {
		text.WriteString(headText(h, false))
	}
	for _, l := range a.held {
		text.WriteString(heldText(l, false))
	}
	return text.String() + strconv.FormatBool(impl.GoodHead(g.h))
}

func roomyHeld(l []impl.Held, behind impl.Held) []impl.Held {
	var own []impl.Held
	for _, x := range l {
		_, x.Labels = withRoom(x.Labels, behind.Labels...)
		_, x.Series.Chunks = withRoom(x.Series.Chunks, behind.Series.Chunks...)
		own = append(own, x)
	}
	_, own = withRoom(own, behind, impl.Held{})
	return own
}

// roomy has something behind the length of each list.
func (g headArgs) roomy(behind impl.Held) headArgs {
	pending := impl.Pending{Labels: behind.Labels, Sample: impl.Sample{T: 7, V: 1}}
	var apps []impl.Appender
	for _, a := range g.h.Apps {
		var batch []impl.Pending
		for _, p := range a.Batch {
			_, p.Labels = withRoom(p.Labels, behind.Labels...)
			batch = append(batch, p)
		}
		_, a.Batch = withRoom(batch, pending, pending)
		apps = append(apps, a)
	}
	var readers []impl.Reader
	for _, r := range g.h.Readers {
		r.Held = roomyHeld(r.Held, behind)
		readers = append(readers, r)
	}
	_, g.h.Apps = withRoom(apps, impl.Appender{Id: 1, Batch: []impl.Pending{pending}}, impl.Appender{})
	_, g.h.Readers = withRoom(readers, impl.Reader{Id: 1, Held: []impl.Held{behind}}, impl.Reader{})
	g.h.Held = roomyHeld(g.h.Held, behind)
	_, g.l = withRoom(g.l, behind.Labels...)
	_, g.m = withRoom(g.m, impl.Matcher{}, matcherOf(impl.MtIs, "none", "x"))
	return g
}

// shown tells all memory of the arguments, what lies behind the lengths too.
func (g headArgs) shown() string {
	return headText(g.h, true) + fmt.Sprint(g.id, g.reader, whole(g.l), g.s.T, math.Float64bits(g.s.V), whole(g.m))
}

func argsForHeads() []headArgs {
	var args []headArgs
	like := matchersOf(matcherOf(impl.MtLike, "none", "*"))
	for _, k := range goodHeads() {
		ids, readers := keysInOrder(k.batches), keysInOrder(k.readers)
		mid := func(l []int) int {
			if len(l) == 0 {
				return 3
			}
			return l[len(l)/2]
		}
		next := impl.Sample{T: min(k.floor+900, impl.MaxTime), V: math.NaN()}
		args = append(args, headArgs{k.head(), mid(ids), mid(readers), labelsAt(4), next, like})
	}
	for what, bad := range badHeads() {
		// What is amiss in one of the labels or series makes no other way through the functions than one of these does.
		if few := strings.Contains(what, "alone: ") || strings.Contains(what, "in front"); few {
			args = append(args, headArgs{bad, 4, 5, labelsAt(4), impl.Sample{T: 900}, nil})
		}
	}
	args = append(args, headArgs{broadHead().head(), 6, 5, labelsOf("b", "x", "a", "x"), impl.Sample{T: 900}, matchersOf(matcherOf(0, "a", "x"))})
	return args
}

func TestHeadsAreLeftAsTheyWere(t *testing.T) {
	behind := impl.Held{Labels: labelsOf("zz", "zz", "a", "1"), Series: layOf(5, spread(1000, 9), 8, 1).series()}
	for _, plain := range argsForHeads() {
		wantLeft(t, headShown(plain.h), plain, plain.roomy(behind), plain.roomy(impl.Held{Labels: make([]impl.Label, 1), Series: impl.Series{Chunks: make([]impl.Chunk, 2)}}))
	}
}

func TestAnswersOfHeadsShareNothing(t *testing.T) {
	behind := impl.Held{Labels: make([]impl.Label, 1), Series: impl.Series{Chunks: make([]impl.Chunk, 1)}}
	for _, plain := range argsForHeads() {
		given := plain.roomy(behind)
		// A first call's answers stand beside those of a second one, and beside the arguments.
		var lists headAnswers
		given.answersTo(&lists)
		given.answersTo(&lists)
		lists.take(given.h)
		lists.labels = append(lists.labels, given.l)
		what := headShown(plain.h)
		named := func(i int) impl.Label { return impl.Label{Name: strconv.Itoa(i)} }
		wantOwn(t, what+", labels", lists.labels, named, func(l impl.Label, i int) bool { return l == named(i) })
		wantOwn(t, what+", chunks", lists.chunks, func(i int) impl.Chunk { return impl.Chunk{Many: i} }, func(c impl.Chunk, i int) bool { return c.Many == i })
		wantOwn(t, what+", held", lists.held, func(i int) impl.Held { return impl.Held{Series: impl.Series{Floor: i}} }, func(x impl.Held, i int) bool { return x.Series.Floor == i })
		wantOwn(t, what+", batches", lists.batches, func(i int) impl.Pending { return impl.Pending{Sample: impl.Sample{T: i}} }, func(p impl.Pending, i int) bool { return p.Sample.T == i })
		wantOwn(t, what+", appenders", lists.apps, func(i int) impl.Appender { return impl.Appender{Id: i} }, func(a impl.Appender, i int) bool { return a.Id == i })
		wantOwn(t, what+", readers", lists.readers, func(i int) impl.Reader { return impl.Reader{Id: i} }, func(r impl.Reader, i int) bool { return r.Id == i })
	}
}

func wantOwn[T any](t *testing.T, what string, lists [][]T, thing func(i int) T, is func(x T, i int) bool) {
	t.Helper()
	if !eachHasItsOwn(lists, thing, is) {
		t.Errorf("%s: two lists share memory", what)
	}
}
