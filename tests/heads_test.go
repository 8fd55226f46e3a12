package tests

import (
	"fmt"
	"maps"
	"math"
	"slices"
	"strings"
	"testing"

	"loop.example/g00747/impl"
)

// known is a head, plainly: its series by the place that their labels have among the rising ones, in no order.
type known struct {
	floor   int
	held    pile
	batches map[int][]due
	readers map[int]frozen
}

type pile map[int]laid

// due is a sample of a batch, for the labels of a place.
type due struct {
	at int
	s  impl.Sample
}

type frozen struct {
	floor int
	held  pile
}

// told is what stands beside a head that is answered.
type told struct {
	code int
	many int
	ok   bool
}

func keysInOrder[T any](m map[int]T) []int {
	return slices.Sorted(maps.Keys(m))
}

var labelsByPlace = risingLabels()

func labelsAt(at int) []impl.Label {
	return slices.Clone(labelsByPlace[at])
}

func newKnown(floor int) known {
	return known{floor, pile{}, map[int][]due{}, map[int]frozen{}}
}

func (k known) copied() known {
	return known{k.floor, maps.Clone(k.held), maps.Clone(k.batches), maps.Clone(k.readers)}
}

// holding has in chunks of so many each samples 10 apart for the labels of a place.
func (k known) holding(at int, from int, sizes ...int) known {
	k = k.copied()
	k.held[at] = layOf(k.floor, spread(from, 48), sizes...)
	return k
}

func (k known) holdingLay(at int, l laid) known {
	k = k.copied()
	k.held[at] = l
	return k
}

func (k known) batching(id int, batch ...due) known {
	k = k.copied()
	k.batches[id] = batch
	return k
}

// reading has a reader of what another head holds.
func (k known) reading(id int, other known) known {
	k = k.copied()
	k.readers[id] = frozen{other.floor, maps.Clone(other.held)}
	return k
}

func (p pile) list() []impl.Held {
	var l []impl.Held
	for _, at := range keysInOrder(p) {
		l = append(l, impl.Held{Labels: labelsAt(at), Series: p[at].series()})
	}
	return l
}

func batchOf(dues []due) []impl.Pending {
	var l []impl.Pending
	for _, d := range dues {
		l = append(l, impl.Pending{Labels: labelsAt(d.at), Sample: d.s})
	}
	return l
}

func (k known) head() impl.Head {
	h := impl.Head{Floor: k.floor, Held: k.held.list()}
	for _, id := range keysInOrder(k.batches) {
		h.Apps = append(h.Apps, impl.Appender{Id: id, Batch: batchOf(k.batches[id])})
	}
	for _, id := range keysInOrder(k.readers) {
		r := k.readers[id]
		h.Readers = append(h.Readers, impl.Reader{Id: id, Floor: r.floor, Held: r.held.list()})
	}
	return h
}

// seriesFor is what is held for the labels of a place, or a new series.
func (k known) seriesFor(at int) laid {
	if l, held := k.held[at]; held {
		return l
	}
	return laid{floor: k.floor}
}

func (k known) begun(id int) (known, told) {
	if _, there := k.batches[id]; there || id < 0 {
		return k, told{2, 0, true}
	}
	if len(k.batches) >= 8 {
		return k, told{6, 0, true}
	}
	return k.batching(id), told{0, 0, true}
}

func (k known) added(id int, d due) (known, told) {
	batch, there := k.batches[id]
	if !there {
		return k, told{2, 0, true}
	}
	if len(batch) >= 12 {
		return k, told{6, 0, true}
	}
	l := k.seriesFor(d.at)
	for _, ahead := range batch {
		if ahead.at == d.at {
			l, _ = l.putPlainly(ahead.s)
		}
	}
	_, code := l.putPlainly(d.s)
	if code == 0 {
		return k.batching(id, append(slices.Clone(batch), d)...), told{0, 0, true}
	}
	return k, told{[]int{0, 0, 4, 5, 3, 6}[code], 0, true}
}

func (k known) committed(id int) (known, told) {
	batch, there := k.batches[id]
	if !there {
		return k, told{2, 0, true}
	}
	k = k.copied()
	delete(k.batches, id)
	many := 0
	for _, d := range batch {
		l, code := k.seriesFor(d.at).putPlainly(d.s)
		if _, held := k.held[d.at]; code == 0 && (held || len(k.held) < 20) {
			k.held[d.at] = l
			many++
		}
	}
	return k, told{0, many, true}
}

func (k known) rolledBack(id int) (known, told) {
	if _, there := k.batches[id]; !there {
		return k, told{2, 0, true}
	}
	k = k.copied()
	delete(k.batches, id)
	return k, told{0, 0, true}
}

func (k known) opened(id int) (known, told) {
	if _, there := k.readers[id]; there || id < 0 {
		return k, told{2, 0, true}
	}
	if len(k.readers) >= 8 {
		return k, told{6, 0, true}
	}
	return k.reading(id, k), told{0, 0, true}
}

func (k known) closed(id int) (known, told) {
	if _, there := k.readers[id]; !there {
		return k, told{2, 0, true}
	}
	k = k.copied()
	delete(k.readers, id)
	return k, told{0, 0, true}
}

func (k known) truncated(t int) (known, told) {
	if t < -1000000 || t > 1000000 {
		return k, told{3, 0, true}
	}
	k = k.copied()
	k.floor = max(k.floor, t)
	for at, l := range k.held {
		k.held[at] = l.truncatedPlainly(t)
		if len(k.held[at].all()) == 0 {
			delete(k.held, at)
		}
	}
	return k, told{0, 0, true}
}

func (k known) cut() (known, told) {
	k = k.copied()
	for at, l := range k.held {
		many := len(l.lists)
		if many > 0 && many < 6 && len(l.lists[many-1]) > 0 {
			k.held[at] = laid{l.floor, append(slices.Clone(l.lists), nil)}
		}
	}
	return k, told{0, 0, true}
}

// selected is for matchers that are good.
func (f frozen) selected(m []impl.Matcher, from int, to int) []impl.Held {
	found := pile{}
	for at, l := range f.held {
		unfit := func(one impl.Matcher) bool { return !fitsPlainly(labelsAt(at), one) }
		within := samplesWithin(l.all(), from, to)
		if len(within) > 0 && !slices.ContainsFunc(m, unfit) {
			found[at] = laid{f.floor, [][]impl.Sample{within}}.compactPlainly()
		}
	}
	return found.list()
}

// An ask is a call that answers a head, and the same plainly.
type ask struct {
	what    string
	call    func(h impl.Head) (impl.Head, told)
	plainly func(k known) (known, told)
}

// asked is for calls that tell nothing but a code.
func asked(h impl.Head, code int, ok bool) (impl.Head, told) {
	return h, told{code, 0, ok}
}

func beginning(id int) ask {
	return ask{
		fmt.Sprint("BeginBatch of ", id),
		func(h impl.Head) (impl.Head, told) { return asked(impl.BeginBatch(h, id)) },
		func(k known) (known, told) { return k.begun(id) },
	}
}

func adding(id int, d due) ask {
	return ask{
		fmt.Sprintf("AddPending of %d, %v, %s", id, labelsAt(d.at), samplesShown([]impl.Sample{d.s})),
		func(h impl.Head) (impl.Head, told) { return asked(impl.AddPending(h, id, labelsAt(d.at), d.s)) },
		func(k known) (known, told) { return k.added(id, d) },
	}
}

func committing(id int) ask {
	return ask{
		fmt.Sprint("Commit of ", id),
		func(h impl.Head) (impl.Head, told) {
			h, code, many, ok := impl.Commit(h, id)
			return h, told{code, many, ok}
		},
		func(k known) (known, told) { return k.committed(id) },
	}
}

func rollingBack(id int) ask {
	return ask{
		fmt.Sprint("Rollback of ", id),
		func(h impl.Head) (impl.Head, told) { return asked(impl.Rollback(h, id)) },
		func(k known) (known, told) { return k.rolledBack(id) },
	}
}

func opening(id int) ask {
	return ask{
		fmt.Sprint("OpenReader of ", id),
		func(h impl.Head) (impl.Head, told) { return asked(impl.OpenReader(h, id)) },
		func(k known) (known, told) { return k.opened(id) },
	}
}

func closing(id int) ask {
	return ask{
		fmt.Sprint("CloseReader of ", id),
		func(h impl.Head) (impl.Head, told) { return asked(impl.CloseReader(h, id)) },
		func(k known) (known, told) { return k.closed(id) },
	}
}

func truncating(t int) ask {
	return ask{
		fmt.Sprint("TruncateHead at ", t),
		func(h impl.Head) (impl.Head, told) { return asked(impl.TruncateHead(h, t)) },
		func(k known) (known, told) { return k.truncated(t) },
	}
}

func cutting() ask {
	return ask{
		"CutAll",
		func(h impl.Head) (impl.Head, told) {
			h, ok := impl.CutAll(h)
			return h, told{0, 0, ok}
		},
		func(k known) (known, told) { return k.cut() },
	}
}

// want wants the same of the call as it is plainly, and gives that.
func (a ask) want(t *testing.T, what string, k known) (known, told) {
	t.Helper()
	_, want, is := a.wantOf(t, what, k.head(), k)
	return want, is
}

// wantOf is for a head that has been made already.
func (a ask) wantOf(t *testing.T, what string, h impl.Head, k known) (impl.Head, known, told) {
	t.Helper()
	got, is := a.call(h)
	want, should := a.plainly(k)
	if is != should {
		t.Errorf("%s, %s: %v, not %v", a.what, what, is, should)
	}
	if plain := want.head(); !sameHead(got, plain) {
		t.Errorf("%s, %s: %s, not %s", a.what, what, headShown(got), headShown(plain))
	}
	if !impl.GoodHead(got) {
		t.Errorf("%s, %s: %s is not good", a.what, what, headShown(got))
	}
	return got, want, is
}

// wantCode wants a certain code too, and how many.
func (a ask) wantCode(t *testing.T, what string, k known, code int, many int) known {
	t.Helper()
	next, is := a.want(t, what, k)
	if is.code != code || is.many != many {
		t.Errorf("%s, %s: code %d and %d, not %d and %d", a.what, what, is.code, is.many, code, many)
	}
	return next
}

func (a ask) wantZero(t *testing.T, what string, h impl.Head) {
	t.Helper()
	if got, is := a.call(h); !sameHead(got, impl.Head{}) || is != (told{}) {
		t.Errorf("%s, %s: %s, %v", a.what, what, headShown(got), is)
	}
}

func sameHeld(a []impl.Held, b []impl.Held) bool {
	return slices.EqualFunc(a, b, func(a impl.Held, b impl.Held) bool {
		return slices.Equal(a.Labels, b.Labels) && sameSeries(a.Series, b.Series)
	})
}

func sameBatch(a []impl.Pending, b []impl.Pending) bool {
	return slices.EqualFunc(a, b, func(a impl.Pending, b impl.Pending) bool {
		sameValue := math.Float64bits(a.Sample.V) == math.Float64bits(b.Sample.V)
		return slices.Equal(a.Labels, b.Labels) && a.Sample.T == b.Sample.T && sameValue
	})
}

func sameHead(a impl.Head, b impl.Head) bool {
	sameApp := func(a impl.Appender, b impl.Appender) bool {
		return a.Id == b.Id && sameBatch(a.Batch, b.Batch)
	}
	sameReader := func(a impl.Reader, b impl.Reader) bool {
		return a.Id == b.Id && a.Floor == b.Floor && sameHeld(a.Held, b.Held)
	}
	return a.Floor == b.Floor && sameHeld(a.Held, b.Held) &&
		slices.EqualFunc(a.Apps, b.Apps, sameApp) && slices.EqualFunc(a.Readers, b.Readers, sameReader)
}

// upTo is a list, or all memory that it has.
func upTo[T any](l []T, all bool) []T {
	if all {
		return whole(l)
	}
	return l
}

func heldText(l []impl.Held, all bool) string {
	var text strings.Builder
	for _, x := range upTo(l, all) {
		fmt.Fprintf(&text, "%q from %d ", upTo(x.Labels, all), x.Series.Floor)
		for _, c := range upTo(x.Series.Chunks, all) {
			fmt.Fprintf(&text, "%q %d %d %d, ", c.Bytes, c.Many, c.First, c.Last)
		}
	}
	return text.String()
}

// headText is a text in which unlike heads differ, and all that is behind the lengths of their lists where it is asked for.
func headText(h impl.Head, all bool) string {
	var text strings.Builder
	fmt.Fprintf(&text, "[from %d %s", h.Floor, heldText(h.Held, all))
	for _, a := range upTo(h.Apps, all) {
		fmt.Fprintf(&text, "; appender %d ", a.Id)
		for _, p := range upTo(a.Batch, all) {
			fmt.Fprintf(&text, "%q %s, ", upTo(p.Labels, all), samplesShown([]impl.Sample{p.Sample}))
		}
	}
	for _, r := range upTo(h.Readers, all) {
		fmt.Fprintf(&text, "; reader %d from %d %s", r.Id, r.Floor, heldText(r.Held, all))
	}
	return text.String() + "]"
}

// headShown keeps what a test tells of a head short, however much is in it.
func headShown(h impl.Head) string {
	h.Held = h.Held[:min(len(h.Held), 30)]
	h.Apps = h.Apps[:min(len(h.Apps), 10)]
	h.Readers = h.Readers[:min(len(h.Readers), 10)]
	return fmt.Sprintf("%.1500s", headText(h, false))
}

// dueAt are samples of a batch for the labels of one place, with values that differ.
func dueAt(at int, times ...int) []due {
	var l []due
	for i, t := range times {
		l = append(l, due{at, impl.Sample{T: t, V: float64(i + 1)}})
	}
	return l
}

// holdingMany has series of many kinds for so many places, from one on.
func (k known) holdingMany(from int, many int) known {
	sizes := sizesOfChunks()
	for i := range many {
		k = k.holding(from+i, k.floor+3*i, sizes[(7*i+from)%len(sizes)]...)
	}
	return k
}

// fullOfBatches has MaxOpen appenders, by steps, with none to MaxBatch samples.
func (k known) fullOfBatches(from int, by int) known {
	for i, id := range stepped(from, by, 8) {
		k = k.batching(id, dueAt(3*i, stepped(k.floor+500, 3, min(2*i, 12))...)...)
	}
	return k
}

// fullOfReaders has MaxOpen readers, by steps, with Floors and series of their own.
func (k known) fullOfReaders(from int, by int) known {
	for i, id := range stepped(from, by, 8) {
		k = k.reading(id, newKnown(100*i-300).holdingMany(2*i, i))
	}
	return k
}

// broadHead has of all that it has three.
func broadHead() known {
	series := func(floor int) known {
		return newKnown(floor).holding(2, floor+5, 3).holding(9, floor, 8, 2).holding(15, floor+10, 8, 0)
	}
	k := series(100)
	k = k.batching(4, slices.Concat(dueAt(2, 150), dueAt(7, 120, 130))...)
	k = k.batching(6, slices.Concat(dueAt(9, 300), dueAt(15, 290, 291))...)
	k = k.batching(9, slices.Concat(dueAt(7, 110), dueAt(9, 301), dueAt(20, 115))...)
	return k.reading(3, series(-50)).reading(5, series(100)).reading(8, series(300))
}

// fullHead has as much of all as there may be.
func fullHead() known {
	k := newKnown(-400).holdingMany(2, 20)
	for i := range 8 {
		k = k.batching(i, slices.Concat(dueAt(i, stepped(900, 2, 6)...), dueAt(23-i, stepped(800, 3, 6)...))...)
		k = k.reading(i, newKnown(10*i).holdingMany(i%5, 20))
	}
	return k
}

func goodHeld() map[string]known {
	sizes := sizesOfChunks()
	all := map[string]known{
		"nothing":                           newKnown(0),
		"Floor at the least":                newKnown(-1000000),
		"Floor at the greatest":             newKnown(1000000),
		"labels that are none":              newKnown(0).holding(0, 5, 3),
		"one series":                        newKnown(0).holding(4, 5, 3),
		"a sample at the Floor":             newKnown(5).holding(4, 5, 3),
		"a sample at the least Floor":       newKnown(-1000000).holding(4, -1000000, 3),
		"a sample at the greatest Floor":    newKnown(1000000).holdingLay(4, layOf(1000000, samplesAt(1000000), 1)),
		"samples at both bounds":            newKnown(-1000000).holdingLay(4, layOf(-1000000, samplesAt(-1000000, 1000000), 1, 1)),
		"a series without chunks":           newKnown(3).holding(4, 5),
		"a series with an empty chunk":      newKnown(3).holding(4, 5, 0),
		"series with samples and without":   newKnown(3).holding(1, 5).holding(4, 5, 3).holding(8, 5, 0).holding(12, 3, 8, 8, 0).holding(23, 4, 8, 8, 8, 8, 8, 8),
		"only series without samples":       newKnown(-3).holding(0, 5).holding(4, 5, 0).holding(23, 5),
		"neighbours":                        newKnown(0).holdingMany(5, 5),
		"MaxSeries, the first ones":         newKnown(-70).holdingMany(0, 20),
		"MaxSeries, the last ones":          newKnown(90).holdingMany(4, 20),
		"one fewer, the first ones":         newKnown(0).holdingMany(0, 19),
		"one fewer, the last ones":          newKnown(0).holdingMany(5, 19),
		"series that end one after another": newKnown(0).holding(1, 0, 1).holding(2, 0, 2).holding(3, 0, 8, 1).holding(4, 10, 8, 8).holding(5, 100, 3, 3, 3),
	}
	for half := range 2 {
		k := newKnown(20)
		for i := range 15 {
			k = k.holding(i, 20+i%3, sizes[15*half+i]...)
		}
		all[fmt.Sprint("series of all sizes ", half)] = k
	}
	return all
}

func goodBatches() map[string]known {
	odd := []impl.Sample{{T: math.MinInt}, {T: math.MaxInt}, {T: -1000001}, {T: 1000001}, {T: 4}, {T: 90}, {T: 20}, {T: 90}, {T: 90, V: 1}, {T: 91, V: math.NaN()}}
	oddBatch := func(at int) []due {
		var l []due
		for _, s := range odd {
			l = append(l, due{at, s})
		}
		return l
	}
	each := func(time int, places ...int) []due {
		var l []due
		for _, at := range places {
			l = append(l, due{at, impl.Sample{T: time + at}})
		}
		return l
	}
	one := newKnown(5).holding(4, 10, 3)
	all := map[string]known{
		"an appender at 0":                       newKnown(0).batching(0),
		"an appender with the greatest Id":       newKnown(0).batching(math.MaxInt, dueAt(3, 5)...),
		"MaxOpen appenders from 0 on":            newKnown(0).fullOfBatches(0, 1),
		"MaxOpen appenders far apart":            newKnown(-50).holdingMany(6, 7).fullOfBatches(3, 1000),
		"MaxOpen appenders up to the greatest":   newKnown(70).fullOfBatches(math.MaxInt-7, 1),
		"a batch of MaxBatch":                    newKnown(0).batching(3, dueAt(4, stepped(0, 1, 12)...)...),
		"a batch of MaxBatch behind a series":    one.batching(3, dueAt(4, stepped(31, 7, 12)...)...),
		"a batch of MaxBatch for many labels":    one.batching(3, each(100, stepped(0, 2, 12)...)...),
		"a batch of one fewer":                   one.batching(3, each(100, stepped(0, 2, 11)...)...),
		"a batch for all labels":                 newKnown(0).batching(3, each(100, stepped(0, 1, 12)...)...).batching(5, each(100, stepped(12, 1, 12)...)...),
		"a batch for falling labels":             one.batching(3, each(100, 23, 20, 4, 3, 1, 0)...),
		"samples that no series takes":           newKnown(5).batching(3, oddBatch(4)...),
		"samples that a held one does not take":  one.batching(3, oddBatch(4)...),
		"samples that are all refused":           one.batching(3, slices.Concat(dueAt(4, 4, 10, 30, 29), dueAt(7, 4, -5, 1000001))...),
		"the same samples in two batches":        one.batching(3, dueAt(4, 40, 50)...).batching(7, dueAt(4, 40, 50)...),
		"samples of two batches between":         one.batching(3, dueAt(4, 40, 60)...).batching(7, dueAt(4, 50, 70)...),
		"samples below the Floor":                newKnown(500).holding(4, 510, 2).batching(3, slices.Concat(dueAt(4, 400, 540), dueAt(7, 400, 520))...),
		"MaxSeries, a batch for others":          newKnown(0).holdingMany(2, 20).batching(3, each(900, 0, 1, 2, 21, 22, 23, 5)...),
		"one fewer, a batch for others":          newKnown(0).holdingMany(2, 19).batching(3, each(900, 23, 0, 1, 2, 21, 23, 22, 5)...),
		"a batch that fills a series":            newKnown(0).holding(4, 0, 8, 8, 8, 8, 8, 4).batching(3, dueAt(4, stepped(900, 1, 6)...)...),
		"a batch for a full series":              newKnown(0).holding(4, 0, 8, 8, 8, 8, 8, 8).batching(3, dueAt(4, 470, 471)...),
		"a batch for series with empty chunks":   newKnown(0).holding(4, 0, 0).holding(5, 0, 8, 0).holding(6, 0).batching(3, each(900, 4, 5, 6)...),
		"batches that begin and refuse a series": newKnown(5).batching(3, dueAt(7, 4, 9)...).batching(4, dueAt(7, 3, 4)...),
	}
	for i := range 8 {
		k, _ := newKnown(-50).holdingMany(6, 7).fullOfBatches(3, 1000).rolledBack(3 + 1000*i)
		all[fmt.Sprint("all but appender ", i)] = k
	}
	return all
}

func goodReaders() map[string]known {
	one := newKnown(5).holding(4, 10, 3)
	two := newKnown(5).holding(4, 10, 3, 0).holding(9, 7, 8, 1)
	all := map[string]known{
		"a reader of nothing":                newKnown(0).reading(0, newKnown(0)),
		"a reader with the greatest Id":      one.reading(math.MaxInt, one),
		"a reader with the least Floor":      one.reading(3, newKnown(-1000000)),
		"a reader with the greatest Floor":   one.reading(3, newKnown(1000000)),
		"a reader with the head's Floor":     one.reading(3, two),
		"a reader with a lower Floor":        one.reading(3, newKnown(-70).holding(4, -60, 2).holding(6, 5, 2)),
		"a reader with a greater Floor":      one.reading(3, newKnown(70).holding(4, 75, 2).holding(6, 70, 2)),
		"a reader of what went":              newKnown(900).reading(3, two),
		"readers of more and more":           two.reading(3, newKnown(0)).reading(6, one).reading(9, two),
		"a reader of series of no samples":   newKnown(0).reading(3, newKnown(7).holding(2, 0).holding(3, 9, 1).holding(4, 9, 0)),
		"a reader of MaxSeries":              newKnown(0).reading(3, newKnown(7).holdingMany(3, 20)),
		"a reader of MaxSeries, others held": newKnown(0).holdingMany(0, 20).reading(3, newKnown(7).holdingMany(4, 20)),
		"MaxOpen readers from 0 on":          one.fullOfReaders(0, 1),
		"MaxOpen readers far apart":          two.fullOfReaders(3, 1000),
		"MaxOpen readers up to the greatest": one.fullOfReaders(math.MaxInt-7, 1),
		"appenders and readers alike":        two.batching(3, dueAt(4, 50)...).batching(5).reading(3, one).reading(5, two),
		"broad":                              broadHead(),
		"full":                               fullHead(),
	}
	for i := range 8 {
		k, _ := two.fullOfReaders(3, 1000).closed(3 + 1000*i)
		all[fmt.Sprint("all but reader ", i)] = k
	}
	return all
}

func goodHeads() map[string]known {
	all := goodHeld()
	maps.Copy(all, goodBatches())
	maps.Copy(all, goodReaders())
	return all
}

func amissHead(k known, change func(h *impl.Head)) impl.Head {
	h := k.head()
	change(&h)
	return h
}

// badHeld are lists that are not held with a Floor, whatever their series are.
func badHeld(floor int) map[string][]impl.Held {
	three := func(first []impl.Label, second []impl.Label, third []impl.Label) []impl.Held {
		var l []impl.Held
		for _, labels := range [][]impl.Label{first, second, third} {
			l = append(l, impl.Held{Labels: labels, Series: layOf(floor, spread(floor+5, 9), 8, 1).series()})
		}
		return l
	}
	low, mid, high := labelsAt(3), labelsAt(8), labelsAt(14)
	bad := map[string][]impl.Held{
		"labels that stand still in front":   three(low, low, high),
		"labels that stand still at the end": three(low, high, high),
		"labels that are none twice":         three(nil, nil, high),
		"labels that fall in front":          three(mid, low, high),
		"labels that fall at the end":        three(low, high, mid),
		"labels turned round":                three(high, mid, low),
		"labels that come back":              three(low, mid, low),
		"none behind some":                   three(low, nil, mid),
		"one more than MaxSeries":            newKnown(floor).holdingMany(0, 21).held.list(),
		"one more than MaxSeries, the last":  newKnown(floor).holdingMany(3, 21).held.list(),
	}
	for i := range 3000 {
		labels := labelsOf("job", fmt.Sprintf("n%06d", i))
		bad["far too many"] = append(bad["far too many"], impl.Held{Labels: labels, Series: impl.Series{Floor: floor}})
	}
	for what, l := range badLabels() {
		bad["alone, labels with "+what] = three(l, nil, nil)[:1]
		bad["in front, labels with "+what] = three(l, mid, high)
		bad["in the middle, labels with "+what] = three(low, l, high)
		bad["at the end, labels with "+what] = three(low, mid, l)
	}
	for _, other := range []int{floor - 1, floor + 1, floor + 7, 0, -1000000, 1000000} {
		for at := range 3 {
			l := three(low, mid, high)
			l[at].Series = layOf(other, spread(2000, 9), 8, 1).series()
			if other == 1000000 {
				l[at].Series.Chunks = nil
			}
			bad[fmt.Sprintf("a series from %d at %d", other, at)] = l
		}
	}
	return bad
}

// addBadIds are those of the broad head in which one Id is amiss, or how they follow on each other.
func addBadIds(bad map[string]impl.Head) {
	change := func(what string, ids ...int) {
		bad["appenders: "+what] = amissHead(broadHead(), func(h *impl.Head) {
			for i, id := range ids {
				h.Apps[i].Id = id
			}
		})
		bad["readers: "+what] = amissHead(broadHead(), func(h *impl.Head) {
			for i, id := range ids {
				h.Readers[i].Id = id
			}
		})
	}
	for _, id := range []int{-1, -2, math.MinInt} {
		change(fmt.Sprint("in front ", id), id)
		change(fmt.Sprint("in the middle ", id), 0, id)
		change(fmt.Sprint("at the end ", id), 0, 1, id)
		bad[fmt.Sprint("an appender alone at ", id)] = impl.Head{Apps: []impl.Appender{{Id: id}}}
		bad[fmt.Sprint("a reader alone at ", id)] = impl.Head{Readers: []impl.Reader{{Id: id}}}
	}
	change("still in front", 4, 4, 9)
	change("still at the end", 4, 9, 9)
	change("still at 0", 0, 0, 9)
	change("falling in front", 6, 4, 9)
	change("falling at the end", 4, 9, 6)
	change("turned round", 9, 6, 4)
	change("back again", 4, 6, 4)
	change("the greatest in front", math.MaxInt, 6, 9)
	bad["one appender more than MaxOpen"] = newKnown(0).fullOfBatches(0, 1).batching(8).head()
	bad["one appender more, in front"] = newKnown(0).fullOfBatches(3, 10).batching(0).head()
	bad["one reader more than MaxOpen"] = newKnown(0).fullOfReaders(0, 1).reading(8, newKnown(0)).head()
	bad["one reader more, in front"] = newKnown(0).fullOfReaders(3, 10).reading(0, newKnown(0)).head()
	var far impl.Head
	for id := range 3000 {
		far.Apps = append(far.Apps, impl.Appender{Id: id})
		far.Readers = append(far.Readers, impl.Reader{Id: id})
	}
	bad["far too many appenders"] = impl.Head{Apps: far.Apps}
	bad["far too many readers"] = impl.Head{Readers: far.Readers}
}

func addBadBatches(bad map[string]impl.Head) {
	long := dueAt(4, stepped(0, 1, 13)...)
	for at := range 3 {
		change := func(what string, change func(a *impl.Appender)) {
			bad[fmt.Sprintf("appender %d: %s", at, what)] = amissHead(broadHead(), func(h *impl.Head) { change(&h.Apps[at]) })
		}
		change("one more than MaxBatch", func(a *impl.Appender) { a.Batch = batchOf(long) })
		change("far more than MaxBatch", func(a *impl.Appender) { a.Batch = slices.Repeat(batchOf(long), 300) })
		for what, l := range badLabels() {
			for i := range 3 {
				change(fmt.Sprintf("labels with %s at %d", what, i), func(a *impl.Appender) { a.Batch[i].Labels = l })
			}
		}
	}
	bad["one more than MaxBatch alone"] = newKnown(0).batching(0, long...).head()
}

// badHeads are those that are not good, each for one reason.
func badHeads() map[string]impl.Head {
	bad := map[string]impl.Head{}
	for _, floor := range []int{-1000001, -1000002, 1000001, 1000002, math.MinInt, math.MaxInt, 1<<32 + 100} {
		bad[fmt.Sprint("Floor with nothing at ", floor)] = impl.Head{Floor: floor}
		bad[fmt.Sprint("Floor of a reader of nothing at ", floor)] = impl.Head{Readers: []impl.Reader{{Floor: floor}}}
		bad[fmt.Sprint("Floor with no chunks at ", floor)] = impl.Head{Floor: floor, Held: []impl.Held{{Series: impl.Series{Floor: floor}}}}
		bad[fmt.Sprint("Floor of all but the readers at ", floor)] = amissHead(broadHead(), func(h *impl.Head) {
			h.Floor = floor
			h.Held = nil
		})
		for at := range 3 {
			bad[fmt.Sprintf("Floor of reader %d at %d", at, floor)] = amissHead(broadHead(), func(h *impl.Head) {
				h.Readers[at].Floor = floor
				h.Readers[at].Held = nil
			})
		}
	}
	for _, floor := range []int{99, 101, 0, -100} {
		bad[fmt.Sprint("another Floor than what is held: ", floor)] = amissHead(broadHead(), func(h *impl.Head) { h.Floor = floor })
		bad[fmt.Sprint("a reader of what has another Floor: ", floor)] = amissHead(broadHead(), func(h *impl.Head) { h.Readers[1].Floor = floor })
	}
	bad["a reader of what has the head's Floor"] = amissHead(broadHead(), func(h *impl.Head) { h.Readers[0].Held = h.Held })
	for what, l := range badHeld(100) {
		bad["held: "+what] = amissHead(broadHead(), func(h *impl.Head) { h.Held = l })
		bad["held alone: "+what] = impl.Head{Floor: 100, Held: l}
		bad["of a reader alone: "+what] = impl.Head{Readers: []impl.Reader{{Floor: 100, Held: l}}}
	}
	for at, floor := range []int{-50, 100, 300} {
		for what, l := range badHeld(floor) {
			bad[fmt.Sprintf("of reader %d: %s", at, what)] = amissHead(broadHead(), func(h *impl.Head) { h.Readers[at].Held = l })
		}
	}
	for what, s := range badSeries() {
		l := []impl.Held{{Labels: labelsAt(3), Series: impl.Series{Floor: s.Floor}}, {Labels: labelsAt(5), Series: s}}
		bad["held: a series with "+what] = impl.Head{Floor: s.Floor, Held: l}
		bad["held alone: a series with "+what] = impl.Head{Floor: s.Floor, Held: l[1:]}
		bad["of a reader: a series with "+what] = amissHead(broadHead(), func(h *impl.Head) { h.Readers[1].Floor, h.Readers[1].Held = s.Floor, l })
	}
	addBadIds(bad)
	addBadBatches(bad)
	return bad
}
