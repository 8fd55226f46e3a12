package tests

import (
	"fmt"
	"math"
	"slices"
	"strings"
	"testing"

	"loop.example/g00747/impl"
)

const mostPuts = 60

// laid is a series as lists of samples, one for each chunk.
type laid struct {
	floor int
	lists [][]impl.Sample
}

// layOf cuts samples into chunks of so many each.
func layOf(floor int, all []impl.Sample, sizes ...int) laid {
	l := laid{floor: floor}
	for _, size := range sizes {
		l.lists = append(l.lists, all[:size])
		all = all[size:]
	}
	return l
}

func (l laid) series() impl.Series {
	s := impl.Series{Floor: l.floor}
	for _, samples := range l.lists {
		s.Chunks = append(s.Chunks, chunkPlainly(samples))
	}
	return s
}

func (l laid) all() []impl.Sample {
	return slices.Concat(l.lists...)
}

func (l laid) lastPlainly() (impl.Sample, bool) {
	all := l.all()
	if len(all) == 0 {
		return impl.Sample{}, false
	}
	return all[len(all)-1], true
}

func (l laid) putPlainly(x impl.Sample) (laid, int) {
	if x.T < -1000000 || x.T > 1000000 || x.T < l.floor {
		return l, 4
	}
	if last, ok := l.lastPlainly(); ok && x.T <= last.T {
		if x.T < last.T {
			return l, 3
		}
		if math.Float64bits(x.V) == math.Float64bits(last.V) {
			return l, 1
		}
		return l, 2
	}
	many := len(l.lists)
	if many > 0 && len(l.lists[many-1]) < 8 {
		front, end := l.lists[:many-1], l.lists[many-1]
		return laid{l.floor, append(slices.Clone(front), append(slices.Clone(end), x))}, 0
	}
	if many == 6 {
		return l, 5
	}
	return laid{l.floor, append(slices.Clone(l.lists), []impl.Sample{x})}, 0
}

func (l laid) truncatedPlainly(t int) laid {
	cut := laid{floor: max(l.floor, t)}
	for _, samples := range l.lists {
		var kept []impl.Sample
		for _, s := range samples {
			if s.T >= t {
				kept = append(kept, s)
			}
		}
		if len(samples) == 0 || len(kept) > 0 {
			cut.lists = append(cut.lists, kept)
		}
	}
	return cut
}

func (l laid) compactPlainly() laid {
	few := laid{floor: l.floor}
	for i, s := range l.all() {
		if i%8 == 0 {
			few.lists = append(few.lists, nil)
		}
		few.lists[i/8] = append(few.lists[i/8], s)
	}
	return few
}

func samplesWithin(l []impl.Sample, from int, to int) []impl.Sample {
	var within []impl.Sample
	for _, s := range l {
		if s.T >= from && s.T <= to {
			within = append(within, s)
		}
	}
	return within
}

// spread are samples 10 apart, from a T on, with values of all kinds.
func spread(from int, many int) []impl.Sample {
	var l []impl.Sample
	for i, bits := range scatteredBits(many) {
		l = append(l, sampleOf(from+10*i, bits))
	}
	return l
}

// sizesOfChunks are of good series: with and without room, and with an empty chunk at the end.
func sizesOfChunks() [][]int {
	return [][]int{
		{}, {0},
		{1}, {2}, {7}, {8},
		{1, 0}, {7, 0}, {8, 0},
		{1, 1}, {8, 1}, {1, 8}, {8, 7}, {8, 8}, {3, 2, 0},
		{1, 2, 3}, {8, 8, 8}, {4, 8, 1, 0}, {2, 3, 1, 8, 4},
		{8, 8, 8, 8, 8}, {8, 8, 8, 8, 7}, {1, 1, 1, 1, 1}, {8, 8, 8, 8, 8, 0}, {1, 1, 1, 1, 1, 0},
		{1, 1, 1, 1, 1, 1}, {8, 8, 8, 8, 8, 1}, {8, 8, 8, 8, 8, 7}, {8, 8, 8, 8, 8, 8}, {1, 1, 1, 1, 1, 8}, {1, 2, 3, 4, 5, 6}, {7, 8, 8, 8, 8, 8},
	}
}

func goodLays() []laid {
	var lays []laid
	for _, sizes := range sizesOfChunks() {
		for _, from := range []int{-1000000, -250, 0, 999000} {
			for _, below := range []int{0, 1, 30} {
				floor := max(from-below, -impl.MaxTime)
				lays = append(lays, layOf(floor, spread(from, 48), sizes...))
			}
		}
	}
	edges := samplesAt(-impl.MaxTime, impl.MaxTime)
	return append(lays,
		layOf(impl.MaxTime, nil),
		layOf(impl.MaxTime, nil, 0),
		layOf(impl.MaxTime, edges[1:], 1),
		layOf(impl.MaxTime, edges[1:], 1, 0),
		layOf(-impl.MaxTime, edges[1:], 1),
		layOf(-impl.MaxTime, edges[:1], 1),
		layOf(-impl.MaxTime, edges, 2),
		layOf(-impl.MaxTime, edges, 1, 1),
		layOf(-impl.MaxTime, edges, 1, 1, 0),
	)
}

// badSeries are those that are not good, each for one reason.
func badSeries() map[string]impl.Series {
	all := spread(0, 60)
	edge := samplesAt(impl.MaxTime)
	bad := map[string]impl.Series{
		"a Floor one below":               layOf(-impl.MaxTime-1, nil).series(),
		"a Floor one above":               layOf(impl.MaxTime+1, nil).series(),
		"the least int as Floor":          layOf(math.MinInt, all, 3).series(),
		"the greatest int as Floor":       layOf(math.MaxInt, nil).series(),
		"a Floor one below, with samples": layOf(-impl.MaxTime-1, all, 3).series(),
		"a Floor one above, with samples": layOf(impl.MaxTime+1, edge, 1).series(),
		"MaxChunks and one more":          layOf(0, all, 1, 1, 1, 1, 1, 1, 1).series(),
		"MaxChunks and an empty one":      layOf(0, all, 1, 1, 1, 1, 1, 1, 0).series(),
		"MaxChunks and one more, full":    layOf(0, all, 8, 8, 8, 8, 8, 8, 8).series(),
		"empty in front":                  layOf(0, all, 0, 3).series(),
		"empty in front of a full one":    layOf(0, all, 0, 8).series(),
		"empty in the middle":             layOf(0, all, 3, 0, 3).series(),
		"empty ahead of the last one":     layOf(0, all, 1, 1, 1, 1, 0, 1).series(),
		"two empty":                       layOf(0, nil, 0, 0).series(),
		"two empty at the end":            layOf(0, all, 3, 0, 0).series(),
		"empty in front and at the end":   layOf(0, all, 0, 3, 0).series(),
		"all empty":                       layOf(0, nil, 0, 0, 0, 0, 0, 0).series(),
		"T one below Floor":               layOf(all[0].T+1, all, 3).series(),
		"T one below Floor, one sample":   layOf(all[0].T+1, all, 1, 0).series(),
		"all Ts below Floor":              layOf(impl.MaxTime, all, 8, 8).series(),
		"a T again in the next chunk":     {Chunks: []impl.Chunk{chunkPlainly(samplesAt(1, 2)), chunkPlainly(samplesAt(2, 3))}},
		"the same chunk again":            {Chunks: []impl.Chunk{chunkPlainly(all[:3]), chunkPlainly(all[:3])}},
		"a lower T in the next chunk":     {Chunks: []impl.Chunk{chunkPlainly(samplesAt(1, 5)), chunkPlainly(samplesAt(4, 9))}},
		"chunks in the wrong order":       {Chunks: []impl.Chunk{chunkPlainly(all[3:6]), chunkPlainly(all[:3])}},
		"a lower T in the last chunk":     {Chunks: []impl.Chunk{chunkPlainly(samplesAt(1, 2)), chunkPlainly(samplesAt(3, 9)), chunkPlainly(samplesAt(8))}},
		"a lower T behind a lower one":    {Chunks: []impl.Chunk{chunkPlainly(samplesAt(5)), chunkPlainly(samplesAt(9)), chunkPlainly(samplesAt(7))}},
		"a later chunk below Floor":       {Chunks: []impl.Chunk{chunkPlainly(samplesAt(5)), chunkPlainly(samplesAt(-5))}},
	}
	for what, c := range map[string]impl.Chunk{
		"nine samples":        chunkPlainly(spread(0, 9)),
		"Ts that stand still": chunkPlainly(samplesAt(5, 5)),
		"Ts that fall":        chunkPlainly(samplesAt(6, 5)),
		"a T out of bounds":   chunkPlainly(samplesAt(impl.MaxTime + 1)),
		"another Many":        chunkOf(chunkPlainly(samplesAt(5, 7)).Bytes, 1, 5, 7),
		"another First":       chunkOf(chunkPlainly(samplesAt(5, 7)).Bytes, 2, 6, 7),
		"another Last":        chunkOf(chunkPlainly(samplesAt(5, 7)).Bytes, 2, 5, 8),
		"a byte more":         chunkOf(chunkPlainly(samplesAt(5, 7)).Bytes+"\x00", 2, 5, 7),
		"a byte less":         chunkOf(chunkPlainly(samplesAt(5, 7)).Bytes[:4], 2, 5, 7),
		"Many, but no bytes":  {Many: 1},
		"First of none":       {First: 1},
		"Last of none":        {Last: 1},
		"bytes of none":       {Bytes: "\x00"},
		"Many below 0":        {Many: -1},
		"many bytes":          chunkOf(strings.Repeat("\x00", 100000), 1, 5, 5),
	} {
		ahead, behind := chunkPlainly(samplesAt(-20, -10)), chunkPlainly(samplesAt(900000))
		bad["alone: "+what] = impl.Series{Chunks: []impl.Chunk{c}, Floor: -impl.MaxTime}
		bad["in front: "+what] = impl.Series{Chunks: []impl.Chunk{c, behind}, Floor: -impl.MaxTime}
		bad["at the end: "+what] = impl.Series{Chunks: []impl.Chunk{ahead, c}, Floor: -impl.MaxTime}
		bad["in the middle: "+what] = impl.Series{Chunks: []impl.Chunk{ahead, c, behind}, Floor: -impl.MaxTime}
		bad["ahead of an empty one: "+what] = impl.Series{Chunks: []impl.Chunk{ahead, c, {}}, Floor: -impl.MaxTime}
	}
	return bad
}

func sameSeries(a impl.Series, b impl.Series) bool {
	return a.Floor == b.Floor && slices.Equal(a.Chunks, b.Chunks)
}

func isZeroSeries(s impl.Series) bool {
	return sameSeries(s, impl.Series{})
}

func seriesShown(s impl.Series) string {
	var text strings.Builder
	fmt.Fprintf(&text, "[from %d", s.Floor)
	for _, c := range s.Chunks {
		fmt.Fprintf(&text, ", %s", chunkShown(c))
	}
	return text.String() + "]"
}

func wantSeries(t *testing.T, what string, got impl.Series, ok bool, want laid) {
	t.Helper()
	if !sameSeries(got, want.series()) || !ok {
		t.Errorf("%s: %s, %v, not %s", what, seriesShown(got), ok, seriesShown(want.series()))
	}
	if !impl.GoodSeries(got) {
		t.Errorf("%s: %s is not good", what, seriesShown(got))
	}
}

// timesNear are numbers at, beside and between what counts for a series.
func timesNear(l laid) []int {
	times := append(cutsOf(nil), l.floor-1, l.floor, l.floor+1)
	for _, samples := range l.lists {
		if len(samples) > 0 {
			first, last := samples[0].T, samples[len(samples)-1].T
			times = append(times, first-1, first, first+1, last-1, last, last+1, (first+last)/2)
		}
	}
	slices.Sort(times)
	return slices.Compact(times)
}

func TestLimitsAndCodesOfSeries(t *testing.T) {
	if impl.MaxChunks != 6 {
		t.Error(impl.MaxChunks)
	}
	codes := []int{impl.PtDone, impl.PtSame, impl.PtTwice, impl.PtOrder, impl.PtBounds, impl.PtFull}
	if !slices.Equal(codes, []int{0, 1, 2, 3, 4, 5}) {
		t.Error(codes)
	}
}

func TestGoodSeries(t *testing.T) {
	all := spread(5, 48)
	for what, s := range map[string]impl.Series{
		"the zero value":               {},
		"no chunks":                    {Floor: 5},
		"an empty list of chunks":      {Chunks: []impl.Chunk{}, Floor: 5},
		"Floor at the least":           {Floor: -1000000},
		"Floor at the greatest":        {Floor: 1000000},
		"an empty chunk alone":         {Chunks: []impl.Chunk{{}}, Floor: 1000000},
		"a chunk of one":               layOf(0, all, 1).series(),
		"a chunk of MaxChunk":          layOf(0, all, 8).series(),
		"MaxChunks of one":             layOf(0, all, 1, 1, 1, 1, 1, 1).series(),
		"MaxChunks of MaxChunk":        layOf(0, all, 8, 8, 8, 8, 8, 8).series(),
		"an empty one at the end":      layOf(0, all, 8, 1, 0).series(),
		"an empty one as the sixth":    layOf(0, all, 1, 1, 1, 1, 1, 0).series(),
		"T at Floor":                   layOf(5, all, 3, 2).series(),
		"T one above Floor":            layOf(4, all, 3, 2).series(),
		"T at Floor, at the least":     layOf(-1000000, samplesAt(-1000000), 1).series(),
		"T at Floor, at the greatest":  layOf(1000000, samplesAt(1000000), 1).series(),
		"Ts that rise by 1 from chunk": {Chunks: []impl.Chunk{chunkPlainly(samplesAt(1, 2)), chunkPlainly(samplesAt(3, 4))}},
	} {
		if !impl.GoodSeries(s) {
			t.Errorf("GoodSeries, %s: false", what)
		}
	}
	for _, l := range goodLays() {
		if !impl.GoodSeries(l.series()) {
			t.Errorf("GoodSeries %s: false", seriesShown(l.series()))
		}
	}
	for what, s := range badSeries() {
		if impl.GoodSeries(s) {
			t.Errorf("GoodSeries, %s: true", what)
		}
	}
}

func TestNewSeries(t *testing.T) {
	for _, floor := range []int{-1000000, -999999, -1, 0, 1, 5, 999999, 1000000} {
		s, ok := impl.NewSeries(floor)
		wantSeries(t, fmt.Sprint("NewSeries ", floor), s, ok, laid{floor: floor})
	}
	for _, floor := range []int{math.MinInt, -1000002, -1000001, 1000001, 1000002, math.MaxInt} {
		if s, ok := impl.NewSeries(floor); !isZeroSeries(s) || ok {
			t.Errorf("NewSeries %d: %s, %v", floor, seriesShown(s), ok)
		}
	}
}

func TestWhereAPutSampleComes(t *testing.T) {
	all := spread(0, 49)
	cases := []struct {
		what string
		from []int
		want []int
	}{
		{"no chunks", nil, []int{1}},
		{"an empty chunk alone", []int{0}, []int{1}},
		{"room for all but one", []int{1}, []int{2}},
		{"room for one", []int{7}, []int{8}},
		{"no room", []int{8}, []int{8, 1}},
		{"an empty chunk behind one of one", []int{1, 0}, []int{1, 1}},
		{"an empty chunk behind a full one", []int{8, 0}, []int{8, 1}},
		{"room in the last alone", []int{8, 3}, []int{8, 4}},
		{"room ahead of a full one", []int{3, 8}, []int{3, 8, 1}},
		{"room ahead and in the last", []int{3, 4}, []int{3, 5}},
		{"five full", []int{8, 8, 8, 8, 8}, []int{8, 8, 8, 8, 8, 1}},
		{"five full and an empty one", []int{8, 8, 8, 8, 8, 0}, []int{8, 8, 8, 8, 8, 1}},
		{"one less than all", []int{8, 8, 8, 8, 8, 7}, []int{8, 8, 8, 8, 8, 8}},
		{"MaxChunks, the last with room", []int{1, 1, 1, 1, 1, 1}, []int{1, 1, 1, 1, 1, 2}},
	}
	for _, c := range cases {
		from := layOf(0, all, c.from...)
		x := all[len(from.all())]
		got, code, ok := impl.PutSample(from.series(), x)
		if code != impl.PtDone {
			t.Errorf("PutSample, %s: code %d", c.what, code)
		}
		wantSeries(t, "PutSample, "+c.what, got, ok, layOf(0, all, c.want...))
		if last, ok := impl.LastOf(got); !ok || !impl.SameSamples([]impl.Sample{last}, []impl.Sample{x}) {
			t.Errorf("LastOf, %s: %d, %v", c.what, last.T, ok)
		}
	}
	for _, sizes := range [][]int{{8, 8, 8, 8, 8, 8}, {1, 1, 1, 1, 1, 8}, {7, 7, 7, 7, 7, 8}} {
		full := layOf(0, all, sizes...)
		got, code, ok := impl.PutSample(full.series(), sampleOf(900000, 0))
		if code != impl.PtFull {
			t.Errorf("PutSample to chunks of %v: code %d", sizes, code)
		}
		wantSeries(t, "PutSample to a full one", got, ok, full)
	}
}

// codeCase is a sample put to chunks with Ts from 10 on, 10 apart.
type codeCase struct {
	what  string
	floor int
	sizes []int
	time  int
	want  int
}

func wantCodes(t *testing.T, cases []codeCase) {
	t.Helper()
	for _, c := range cases {
		from := layOf(c.floor, spread(10, 48), c.sizes...)
		got, code, ok := impl.PutSample(from.series(), sampleOf(c.time, 0x4045000000000000))
		if code != c.want {
			t.Errorf("PutSample, %s: code %d, not %d", c.what, code, c.want)
		}
		next, _ := from.putPlainly(sampleOf(c.time, 0x4045000000000000))
		wantSeries(t, "PutSample, "+c.what, got, ok, next)
	}
}

func TestCodesOfTimes(t *testing.T) {
	wantCodes(t, []codeCase{
		{"at Floor, none", 5, nil, 5, impl.PtDone},
		{"above Floor, none", 5, nil, 6, impl.PtDone},
		{"below Floor, none", 5, nil, 4, impl.PtBounds},
		{"below Floor, an empty chunk", 5, []int{0}, 4, impl.PtBounds},
		{"at Floor, an empty chunk", 5, []int{0}, 5, impl.PtDone},
		{"below 0 with a Floor below", -5, []int{0}, -5, impl.PtDone},
		{"at 0 into an empty chunk", -5, []int{0}, 0, impl.PtDone},
		{"below a Floor below 0", -5, nil, -6, impl.PtBounds},
		{"the least T", -1000000, nil, -1000000, impl.PtDone},
		{"below the least T", -1000000, nil, -1000001, impl.PtBounds},
		{"the greatest T", -1000000, nil, 1000000, impl.PtDone},
		{"above the greatest T", -1000000, nil, 1000001, impl.PtBounds},
		{"the greatest T, at Floor", 1000000, nil, 1000000, impl.PtDone},
		{"below the greatest T as Floor", 1000000, nil, 999999, impl.PtBounds},
		{"above the greatest T as Floor", 1000000, nil, 1000001, impl.PtBounds},
		{"the least int", -1000000, nil, math.MinInt, impl.PtBounds},
		{"the greatest int", -1000000, nil, math.MaxInt, impl.PtBounds},
		{"above the last", 0, []int{3}, 31, impl.PtDone},
		{"at the last", 0, []int{3}, 30, impl.PtTwice},
		{"below the last", 0, []int{3}, 29, impl.PtOrder},
		{"at one ahead", 0, []int{3}, 20, impl.PtOrder},
		{"at the first", 0, []int{3}, 10, impl.PtOrder},
		{"below the first", 0, []int{3}, 9, impl.PtOrder},
		{"at Floor, below the first", 0, []int{3}, 0, impl.PtOrder},
		{"the greatest T, behind others", 0, []int{3, 1}, 1000000, impl.PtDone},
		{"above the last, an empty chunk", 0, []int{3, 0}, 31, impl.PtDone},
		{"at the last, an empty chunk", 0, []int{3, 0}, 30, impl.PtTwice},
		{"below the last, an empty chunk", 0, []int{3, 0}, 29, impl.PtOrder},
		{"at the last of a chunk ahead", 0, []int{3, 1}, 30, impl.PtOrder},
		{"at the last of two chunks", 0, []int{3, 1}, 40, impl.PtTwice},
	})
}

func TestTheFirstCodeCounts(t *testing.T) {
	full := []int{8, 8, 8, 8, 8, 8}
	wantCodes(t, []codeCase{
		{"below Floor and the last", 10, []int{3}, 9, impl.PtBounds},
		{"below Floor and the last, an empty chunk", 10, []int{3, 0}, 9, impl.PtBounds},
		{"below bounds and the last", -1000000, []int{3}, -1000001, impl.PtBounds},
		{"below Floor, full", 10, full, 9, impl.PtBounds},
		{"below bounds, full", -1000000, full, -1000001, impl.PtBounds},
		{"above bounds, full", 0, full, 1000001, impl.PtBounds},
		{"at the last, full", 0, full, 480, impl.PtTwice},
		{"below the last, full", 0, full, 479, impl.PtOrder},
		{"at Floor, full", 10, full, 10, impl.PtOrder},
		{"above the last, full", 0, full, 481, impl.PtFull},
		{"the greatest T, full", 0, full, 1000000, impl.PtFull},
	})
	from := layOf(0, spread(10, 48), full...)
	got, code, ok := impl.PutSample(from.series(), spread(10, 48)[47])
	if code != impl.PtSame {
		t.Errorf("PutSample of the last one, full: code %d", code)
	}
	wantSeries(t, "PutSample of the last one, full", got, ok, from)
}

// TestTheSameOneAgain holds each value against each, those that are equal but have other bits too.
func TestTheSameOneAgain(t *testing.T) {
	for _, was := range risingValues() {
		for _, sizes := range [][]int{{1}, {1, 0}} {
			from := layOf(-1000000, []impl.Sample{sampleOf(7, was.bits)}, sizes...)
			for _, now := range risingValues() {
				want := impl.PtTwice
				if was.bits == now.bits {
					want = impl.PtSame
				}
				got, code, ok := impl.PutSample(from.series(), sampleOf(7, now.bits))
				if code != want {
					t.Errorf("PutSample %016x at the T of %016x: code %d, not %d", now.bits, was.bits, code, want)
				}
				wantSeries(t, "PutSample at the last T", got, ok, from)
				if _, code, ok := impl.PutSample(from.series(), sampleOf(6, now.bits)); code != impl.PtOrder || !ok {
					t.Errorf("PutSample %016x below the T of %016x: code %d", now.bits, was.bits, code)
				}
			}
		}
	}
}

func TestTheSameOneAgainOfZerosAndNans(t *testing.T) {
	cases := []struct {
		was, now uint64
		want     int
	}{
		{0, 0, 1}, {0, highestBit, 2}, {highestBit, 0, 2}, {highestBit, highestBit, 1},
		{reckonedNan, reckonedNan, 1}, {reckonedNan, staleBits, 2}, {staleBits, reckonedNan, 2}, {staleBits, staleBits, 1},
		{reckonedNan, reckonedNan | highestBit, 2}, {reckonedNan, 0, 2}, {0, reckonedNan, 2}, {0, lowestBit, 2},
	}
	for _, c := range cases {
		from := layOf(0, []impl.Sample{sampleOf(3, 1), sampleOf(7, c.was)}, 2)
		if _, code, ok := impl.PutSample(from.series(), sampleOf(7, c.now)); code != c.want || !ok {
			t.Errorf("PutSample %016x at the T of %016x: code %d, %v, not %d", c.now, c.was, code, ok, c.want)
		}
	}
	// Of an empty chunk First and Last are 0, and so is the T of the zero sample, but there is no last one.
	for _, sizes := range [][]int{{}, {0}} {
		from := layOf(-5, nil, sizes...)
		for _, time := range []int{-5, -1, 0, 1} {
			got, code, ok := impl.PutSample(from.series(), impl.Sample{T: time})
			if code != impl.PtDone {
				t.Errorf("PutSample of the first one, %d: code %d", time, code)
			}
			wantSeries(t, "PutSample of the first one", got, ok, layOf(-5, []impl.Sample{{T: time}}, 1))
		}
	}
}

func TestWhatIsPutIsTheLastAndWhatIsRefusedChangesNothing(t *testing.T) {
	told := map[int]int{}
	for _, l := range goodLays() {
		before := l.series()
		last, _ := l.lastPlainly()
		for _, time := range timesNear(l) {
			for _, bits := range []uint64{math.Float64bits(last.V), math.Float64bits(last.V) ^ highestBit, staleBits} {
				x := sampleOf(time, bits)
				want, wantCode := l.putPlainly(x)
				got, code, ok := impl.PutSample(before, x)
				if code != wantCode {
					t.Errorf("PutSample %s and %s: code %d, not %d", seriesShown(before), samplesShown([]impl.Sample{x}), code, wantCode)
				}
				wantSeries(t, "PutSample "+seriesShown(before), got, ok, want)
				told[code]++
				if code != impl.PtDone {
					if !sameSeries(got, before) {
						t.Errorf("PutSample, code %d: %s, was %s", code, seriesShown(got), seriesShown(before))
					}
					continue
				}
				now, ok := impl.LastOf(got)
				if !ok || now.T != time || math.Float64bits(now.V) != bits {
					t.Errorf("LastOf %s: %s, %v", seriesShown(got), samplesShown([]impl.Sample{now}), ok)
				}
			}
		}
	}
	for code := impl.PtDone; code <= impl.PtFull; code++ {
		if told[code] < 50 {
			t.Errorf("code %d was told %d times", code, told[code])
		}
	}
}

func wantPutAll(t *testing.T, what string, from laid, l []impl.Sample, wantCodes []int, want laid) {
	t.Helper()
	got, codes, ok := impl.PutAll(from.series(), l)
	if !slices.Equal(codes, wantCodes) {
		t.Errorf("PutAll, %s: codes %v, not %v", what, codes, wantCodes)
	}
	wantSeries(t, "PutAll, "+what, got, ok, want)
}

func TestPutAll(t *testing.T) {
	none := laid{floor: 0}
	wantPutAll(t, "none, to none", none, nil, nil, none)
	wantPutAll(t, "none, to some", layOf(0, spread(0, 9), 8, 1, 0), []impl.Sample{}, nil, layOf(0, spread(0, 9), 8, 1, 0))
	wantPutAll(t, "one", none, samplesOf(4, 2), []int{0}, layOf(0, samplesOf(4, 2), 1))
	wantPutAll(t, "each code but PtFull", none,
		samplesOf(5, 1, 5, 1, 5, 2, 4, 1, -1, 1, 1000001, 1, 9, 3, 5, 1, 9, 3, 9, -3, 10, 3),
		[]int{0, 1, 2, 3, 4, 4, 0, 3, 1, 2, 0},
		layOf(0, samplesOf(5, 1, 9, 3, 10, 3), 3))
	wantPutAll(t, "all refused", layOf(0, samplesOf(5, 1), 1, 0),
		samplesOf(5, 1, 5, 2, 4, 1, -1, 1), []int{1, 2, 3, 4}, layOf(0, samplesOf(5, 1), 1, 0))
	wantPutAll(t, "zeros and NaNs", none,
		[]impl.Sample{sampleOf(1, 0), sampleOf(1, highestBit), sampleOf(1, 0), sampleOf(2, staleBits), sampleOf(2, staleBits), sampleOf(2, reckonedNan)},
		[]int{0, 2, 1, 0, 1, 2},
		layOf(0, []impl.Sample{sampleOf(1, 0), sampleOf(2, staleBits)}, 2))
	all := spread(0, 60)
	fiveFull := layOf(0, all, 8, 8, 8, 8, 8, 7)
	wantPutAll(t, "each code, full at last", fiveFull,
		[]impl.Sample{all[47], all[48], all[47], sampleOf(470, staleBits), all[46], {T: -1}, all[59]},
		[]int{0, 5, 1, 2, 3, 4, 5},
		layOf(0, all, 8, 8, 8, 8, 8, 8))
}

func TestPutAllOf60And61(t *testing.T) {
	all := spread(0, 61)
	codes := append(make([]int, 48), slices.Repeat([]int{impl.PtFull}, 12)...)
	wantPutAll(t, "60", laid{}, all[:mostPuts], codes, layOf(0, all, 8, 8, 8, 8, 8, 8))
	same := slices.Repeat([]impl.Sample{{T: 3, V: 7}}, 61)
	codes = append([]int{impl.PtDone}, slices.Repeat([]int{impl.PtSame}, 59)...)
	wantPutAll(t, "60 alike", laid{}, same[:mostPuts], codes, layOf(0, same, 1))
	for _, l := range [][]impl.Sample{all, same, make([]impl.Sample, 61), make([]impl.Sample, 5000), slices.Repeat([]impl.Sample{{T: -1}}, 61)} {
		for _, from := range []laid{{}, layOf(0, all, 1), layOf(0, all, 8, 0)} {
			if s, codes, ok := impl.PutAll(from.series(), l); !isZeroSeries(s) || len(codes) != 0 || ok {
				t.Errorf("PutAll of %d: %s, %v, %v", len(l), seriesShown(s), codes, ok)
			}
		}
	}
}

func TestPutAllIsPutSampleOfEach(t *testing.T) {
	for _, l := range goodLays() {
		var put []impl.Sample
		for i, time := range timesNear(l) {
			x := sampleOf(time, uint64(i))
			put = append(put, x, x, sampleOf(time, staleBits), sampleOf(time-1, uint64(i)))
		}
		put = put[:min(len(put), mostPuts)]
		// From behind the last one on, as many as there is room for and more.
		last, _ := l.lastPlainly()
		for _, samples := range [][]impl.Sample{put, spread(max(last.T, l.floor)+1, mostPuts)} {
			want, codes, each := l, []int(nil), l.series()
			for _, x := range samples {
				next, code := want.putPlainly(x)
				want, codes = next, append(codes, code)
				each, _, _ = impl.PutSample(each, x)
			}
			wantPutAll(t, "as one by one", l, samples, codes, want)
			if !sameSeries(each, want.series()) {
				t.Errorf("PutSample one by one: %s, not %s", seriesShown(each), seriesShown(want.series()))
			}
		}
	}
}

func TestLastOf(t *testing.T) {
	all := spread(-40, 48)
	cases := []struct {
		sizes []int
		want  int
	}{
		{[]int{}, -1}, {[]int{0}, -1}, {[]int{1}, 0}, {[]int{1, 0}, 0}, {[]int{8}, 7}, {[]int{8, 0}, 7}, {[]int{8, 1}, 8}, {[]int{3, 2, 0}, 4}, {[]int{1, 1, 1, 1, 1, 0}, 4}, {[]int{8, 8, 8, 8, 8, 8}, 47},
	}
	for _, c := range cases {
		last, ok := impl.LastOf(layOf(-40, all, c.sizes...).series())
		want := impl.Sample{}
		if c.want >= 0 {
			want = all[c.want]
		}
		if ok != (c.want >= 0) || !impl.SameSamples([]impl.Sample{last}, []impl.Sample{want}) {
			t.Errorf("LastOf chunks of %v: %s, %v", c.sizes, samplesShown([]impl.Sample{last}), ok)
		}
	}
	for _, l := range goodLays() {
		want, is := l.lastPlainly()
		last, ok := impl.LastOf(l.series())
		if ok != is || !impl.SameSamples([]impl.Sample{last}, []impl.Sample{want}) {
			t.Errorf("LastOf %s: %s, %v", seriesShown(l.series()), samplesShown([]impl.Sample{last}), ok)
		}
	}
}

func TestReadRange(t *testing.T) {
	all := samplesAt(-20, -10, 0, 10, 20, 30)
	s := layOf(-100, all, 2, 1, 3, 0).series()
	cases := []struct{ from, to, first, end int }{
		{math.MinInt, math.MaxInt, 0, 6}, {-20, 30, 0, 6}, {-100, 1000000, 0, 6},
		{-20, -20, 0, 1}, {0, 0, 2, 3}, {30, 30, 5, 6}, {-10, 0, 1, 3}, {0, 10, 2, 4},
		{-19, 29, 1, 5}, {-15, 15, 1, 4}, {-21, 31, 0, 6}, {-20, 29, 0, 5}, {-19, 30, 1, 6},
		{1, 9, 0, 0}, {5, 5, 0, 0}, {-100, -21, 0, 0}, {31, 1000, 0, 0},
		{10, 0, 0, 0}, {30, -20, 0, 0}, {math.MaxInt, math.MinInt, 0, 0}, {1, 0, 0, 0}, {0, -1, 0, 0},
		{math.MinInt, math.MinInt, 0, 0}, {math.MaxInt, math.MaxInt, 0, 0}, {math.MinInt, -20, 0, 1}, {30, math.MaxInt, 5, 6}, {math.MinInt, -21, 0, 0}, {31, math.MaxInt, 0, 0},
	}
	for _, c := range cases {
		l, ok := impl.ReadRange(s, c.from, c.to)
		if !ok {
			t.Errorf("ReadRange %d to %d: false", c.from, c.to)
		}
		wantSamples(t, fmt.Sprintf("ReadRange %d to %d", c.from, c.to), l, all[c.first:c.end])
		for _, none := range []laid{{}, layOf(0, nil, 0)} {
			if l, ok := impl.ReadRange(none.series(), c.from, c.to); len(l) != 0 || !ok {
				t.Errorf("ReadRange of none, %d to %d: %s, %v", c.from, c.to, samplesShown(l), ok)
			}
		}
	}
}

func TestReadRangeOfAllEnds(t *testing.T) {
	for _, l := range goodLays() {
		all, s, times := l.all(), l.series(), timesNear(l)
		for i, from := range times {
			for j, to := range times {
				// All pairs of a few, of the others every fifth one.
				if len(times) > 20 && (i+j)%5 != 0 {
					continue
				}
				got, ok := impl.ReadRange(s, from, to)
				if want := samplesWithin(all, from, to); !ok || samplesShown(got) != samplesShown(want) {
					t.Errorf("ReadRange %s, %d to %d: %s, %v", seriesShown(s), from, to, samplesShown(got), ok)
				}
			}
		}
	}
}

func TestTruncate(t *testing.T) {
	all := samplesAt(10, 20, 30, 40, 50)
	cases := []struct {
		what  string
		sizes []int
		t     int
		floor int
		lost  int
		want  []int
	}{
		{"below Floor", []int{2, 3}, 4, 5, 0, []int{2, 3}},
		{"at Floor", []int{2, 3}, 5, 5, 0, []int{2, 3}},
		{"above Floor, below all", []int{2, 3}, 6, 6, 0, []int{2, 3}},
		{"at the first", []int{2, 3}, 10, 10, 0, []int{2, 3}},
		{"behind the first", []int{2, 3}, 11, 11, 1, []int{1, 3}},
		{"at the end of a chunk", []int{2, 3}, 20, 20, 1, []int{1, 3}},
		{"between chunks", []int{2, 3}, 21, 21, 2, []int{3}},
		{"at the front of a chunk", []int{2, 3}, 30, 30, 2, []int{3}},
		{"in the second chunk", []int{2, 3}, 31, 31, 3, []int{2}},
		{"at the last", []int{2, 3}, 50, 50, 4, []int{1}},
		{"above all", []int{2, 3}, 51, 51, 5, nil},
		{"the greatest", []int{2, 3}, 1000000, 1000000, 5, nil},
		{"the least", []int{2, 3}, -1000000, 5, 0, []int{2, 3}},
		{"below all, an empty chunk", []int{2, 3, 0}, 6, 6, 0, []int{2, 3, 0}},
		{"in a chunk, an empty chunk", []int{2, 3, 0}, 20, 20, 1, []int{1, 3, 0}},
		{"between chunks, an empty chunk", []int{2, 3, 0}, 25, 25, 2, []int{3, 0}},
		{"at the last, an empty chunk", []int{2, 3, 0}, 50, 50, 4, []int{1, 0}},
		{"above all, an empty chunk", []int{2, 3, 0}, 51, 51, 5, []int{0}},
		{"the greatest, an empty chunk", []int{2, 3, 0}, 1000000, 1000000, 5, []int{0}},
		{"none", nil, 70, 70, 0, nil},
		{"none, below Floor", nil, -70, 5, 0, nil},
		{"an empty chunk alone", []int{0}, 70, 70, 0, []int{0}},
		{"an empty chunk alone, below Floor", []int{0}, -70, 5, 0, []int{0}},
		{"an empty chunk alone, at 0", []int{0}, 0, 5, 0, []int{0}},
		{"chunks of one", []int{1, 1, 1, 1, 1}, 35, 35, 3, []int{1, 1}},
		{"chunks of one, MaxChunks", []int{1, 1, 1, 1, 1, 0}, 50, 50, 4, []int{1, 0}},
	}
	for _, c := range cases {
		s, ok := impl.Truncate(layOf(5, all, c.sizes...).series(), c.t)
		wantSeries(t, "Truncate, "+c.what, s, ok, layOf(c.floor, all[c.lost:], c.want...))
	}
}

func TestTruncateAtAllTimes(t *testing.T) {
	for _, l := range goodLays() {
		s := l.series()
		times := timesNear(l)
		for _, x := range l.all() {
			times = append(times, x.T, x.T+1)
		}
		for _, at := range times {
			got, ok := impl.Truncate(s, at)
			if at < -1000000 || at > 1000000 {
				if !isZeroSeries(got) || ok {
					t.Errorf("Truncate %s at %d: %s, %v", seriesShown(s), at, seriesShown(got), ok)
				}
				continue
			}
			wantSeries(t, fmt.Sprintf("Truncate %s at %d", seriesShown(s), at), got, ok, l.truncatedPlainly(at))
		}
	}
}

func TestTruncateBeyondBounds(t *testing.T) {
	for _, at := range []int{math.MinInt, -1000002, -1000001, 1000001, 1000002, math.MaxInt} {
		for _, l := range []laid{{}, layOf(0, nil, 0), layOf(-1000000, spread(0, 9), 8, 1)} {
			if s, ok := impl.Truncate(l.series(), at); !isZeroSeries(s) || ok {
				t.Errorf("Truncate at %d: %s, %v", at, seriesShown(s), ok)
			}
		}
	}
}

func TestCutHead(t *testing.T) {
	all := spread(3, 48)
	cases := []struct{ sizes, want []int }{
		{nil, nil},
		{[]int{0}, []int{0}},
		{[]int{1}, []int{1, 0}},
		{[]int{8}, []int{8, 0}},
		{[]int{1, 0}, []int{1, 0}},
		{[]int{8, 3}, []int{8, 3, 0}},
		{[]int{1, 1, 1, 1, 1}, []int{1, 1, 1, 1, 1, 0}},
		{[]int{1, 1, 1, 1, 0}, []int{1, 1, 1, 1, 0}},
		{[]int{1, 1, 1, 1, 1, 0}, []int{1, 1, 1, 1, 1, 0}},
		{[]int{1, 1, 1, 1, 1, 1}, []int{1, 1, 1, 1, 1, 1}},
		{[]int{8, 8, 8, 8, 8, 8}, []int{8, 8, 8, 8, 8, 8}},
	}
	for _, c := range cases {
		for _, floor := range []int{-1000000, 3} {
			s, ok := impl.CutHead(layOf(floor, all, c.sizes...).series())
			wantSeries(t, fmt.Sprint("CutHead of chunks of ", c.sizes), s, ok, layOf(floor, all, c.want...))
			again, ok := impl.CutHead(s)
			wantSeries(t, fmt.Sprint("CutHead twice of chunks of ", c.sizes), again, ok, layOf(floor, all, c.want...))
		}
	}
	for _, l := range goodLays() {
		want := l
		if many := len(l.lists); many > 0 && many < 6 && len(l.lists[many-1]) > 0 {
			want.lists = append(slices.Clone(l.lists), nil)
		}
		s, ok := impl.CutHead(l.series())
		wantSeries(t, "CutHead "+seriesShown(l.series()), s, ok, want)
	}
}

func TestCompact(t *testing.T) {
	all := spread(-30, 48)
	cases := []struct{ sizes, want []int }{
		{nil, nil},
		{[]int{0}, nil},
		{[]int{1}, []int{1}},
		{[]int{8}, []int{8}},
		{[]int{1, 0}, []int{1}},
		{[]int{8, 0}, []int{8}},
		{[]int{1, 1}, []int{2}},
		{[]int{3, 5}, []int{8}},
		{[]int{4, 5}, []int{8, 1}},
		{[]int{1, 8}, []int{8, 1}},
		{[]int{8, 8}, []int{8, 8}},
		{[]int{7, 7, 7, 0}, []int{8, 8, 5}},
		{[]int{1, 1, 1, 1, 1, 1}, []int{6}},
		{[]int{1, 2, 3, 4, 5, 6}, []int{8, 8, 5}},
		{[]int{8, 8, 8, 8, 8, 0}, []int{8, 8, 8, 8, 8}},
		{[]int{7, 8, 8, 8, 8, 8}, []int{8, 8, 8, 8, 8, 7}},
		{[]int{8, 8, 8, 8, 8, 8}, []int{8, 8, 8, 8, 8, 8}},
	}
	for _, c := range cases {
		for _, floor := range []int{-1000000, -30} {
			s, ok := impl.Compact(layOf(floor, all, c.sizes...).series())
			wantSeries(t, fmt.Sprint("Compact of chunks of ", c.sizes), s, ok, layOf(floor, all, c.want...))
		}
	}
	for _, l := range goodLays() {
		s, ok := impl.Compact(l.series())
		wantSeries(t, "Compact "+seriesShown(l.series()), s, ok, l.compactPlainly())
	}
}

func TestSeriesThatAreNotGoodGetZero(t *testing.T) {
	for what, s := range badSeries() {
		for _, x := range []impl.Sample{{}, {T: 5, V: 1}, {T: impl.MaxTime, V: 1}, {T: math.MinInt}, {T: math.MaxInt}} {
			if got, code, ok := impl.PutSample(s, x); !isZeroSeries(got) || code != 0 || ok {
				t.Errorf("PutSample, %s: %s, %d, %v", what, seriesShown(got), code, ok)
			}
		}
		for _, l := range [][]impl.Sample{nil, samplesAt(impl.MaxTime), samplesAt(-1, math.MaxInt), make([]impl.Sample, 61)} {
			if got, codes, ok := impl.PutAll(s, l); !isZeroSeries(got) || len(codes) != 0 || ok {
				t.Errorf("PutAll, %s: %s, %v, %v", what, seriesShown(got), codes, ok)
			}
		}
		if l, ok := impl.ReadRange(s, math.MinInt, math.MaxInt); len(l) != 0 || ok {
			t.Errorf("ReadRange, %s: %s, %v", what, samplesShown(l), ok)
		}
		if l, ok := impl.ReadRange(s, 1, 0); len(l) != 0 || ok {
			t.Errorf("ReadRange, %s: %s, %v", what, samplesShown(l), ok)
		}
		for _, at := range []int{math.MinInt, -impl.MaxTime, 0, 5, impl.MaxTime, math.MaxInt} {
			if got, ok := impl.Truncate(s, at); !isZeroSeries(got) || ok {
				t.Errorf("Truncate, %s, at %d: %s, %v", what, at, seriesShown(got), ok)
			}
		}
		if got, ok := impl.CutHead(s); !isZeroSeries(got) || ok {
			t.Errorf("CutHead, %s: %s, %v", what, seriesShown(got), ok)
		}
		if got, ok := impl.Compact(s); !isZeroSeries(got) || ok {
			t.Errorf("Compact, %s: %s, %v", what, seriesShown(got), ok)
		}
		if x, ok := impl.LastOf(s); x.T != 0 || math.Float64bits(x.V) != 0 || ok {
			t.Errorf("LastOf, %s: %s, %v", what, samplesShown([]impl.Sample{x}), ok)
		}
	}
}

// seriesAnswers are those that the functions of series give of one, its samples and some more, and the lists beside them.
func seriesAnswers(s impl.Series, l []impl.Sample) ([]impl.Series, [][]int, [][]impl.Sample) {
	floor, _ := impl.NewSeries(s.Floor)
	answers := []impl.Series{floor}
	for _, x := range l {
		put, _, _ := impl.PutSample(s, x)
		answers = append(answers, put)
	}
	all, codes, _ := impl.PutAll(s, l)
	none, noCodes, _ := impl.PutAll(s, nil)
	same, _ := impl.Truncate(s, -impl.MaxTime)
	later, _ := impl.Truncate(s, max(s.Floor, -impl.MaxTime)/2+500)
	cut, _ := impl.CutHead(s)
	few, _ := impl.Compact(s)
	read, _ := impl.ReadRange(s, math.MinInt, math.MaxInt)
	part, _ := impl.ReadRange(s, 0, 100)
	return append(answers, all, none, same, later, cut, few), [][]int{codes, noCodes}, [][]impl.Sample{read, part}
}

func answersShown(answers []impl.Series, codes [][]int, lists [][]impl.Sample) string {
	var text strings.Builder
	for _, s := range answers {
		text.WriteString(seriesShown(s))
	}
	fmt.Fprint(&text, codes)
	for _, l := range lists {
		text.WriteString(samplesShown(l) + ";")
	}
	return text.String()
}

func seriesCalled(s impl.Series, l []impl.Sample) string {
	last, ok := impl.LastOf(s)
	return fmt.Sprint(answersShown(seriesAnswers(s, l)), impl.GoodSeries(s), samplesShown([]impl.Sample{last}), ok)
}

// samplesToPut are some that are refused and some that are put, to most series.
func samplesToPut(l laid) []impl.Sample {
	last, _ := l.lastPlainly()
	from := max(last.T, l.floor)
	return append([]impl.Sample{last, sampleOf(last.T, staleBits), {T: last.T - 1}, {T: -impl.MaxTime - 1}}, spread(from+1, 10)...)
}

func TestSeriesAreLeftAsTheyWere(t *testing.T) {
	check := func(s impl.Series, put []impl.Sample) {
		t.Helper()
		for _, behind := range [][]impl.Chunk{make([]impl.Chunk, 7), {chunkPlainly(samplesAt(impl.MaxTime)), {Many: -1}}} {
			chunkRoom, chunks := withRoom(s.Chunks, behind...)
			sampleRoom, samples := withRoom(put, impl.Sample{T: impl.MaxTime}, impl.Sample{T: math.MinInt})
			chunksWere, samplesWere := slices.Clone(chunkRoom), samplesShown(sampleRoom)
			given := impl.Series{Chunks: chunks, Floor: s.Floor}
			got := seriesCalled(given, samples)
			if want := seriesCalled(impl.Series{Chunks: slices.Clip(slices.Clone(s.Chunks)), Floor: s.Floor}, put); got != want {
				t.Errorf("%s: %s with more behind, %s without", seriesShown(s), got, want)
			}
			if again := seriesCalled(given, samples); again != got {
				t.Errorf("%s: %s, then %s", seriesShown(s), got, again)
			}
			if !slices.Equal(chunkRoom, chunksWere) || samplesShown(sampleRoom) != samplesWere {
				t.Errorf("%s was written into", seriesShown(s))
			}
		}
	}
	for _, l := range goodLays() {
		check(l.series(), samplesToPut(l))
	}
	for _, s := range badSeries() {
		check(s, samplesAt(5, 5, 6, math.MaxInt))
	}
}

func TestAnswersOfSeriesShareNothing(t *testing.T) {
	for _, l := range goodLays() {
		put := samplesToPut(l)
		chunkRoom, chunks := withRoom(l.series().Chunks, make([]impl.Chunk, 7)...)
		sampleRoom, samples := withRoom(put, make([]impl.Sample, 3)...)
		chunksWere, samplesWere := slices.Clone(chunkRoom), samplesShown(sampleRoom)
		given := impl.Series{Chunks: chunks, Floor: l.floor}
		want := answersShown(seriesAnswers(given, samples))
		answers, codes, lists := seriesAnswers(given, samples)
		others, otherCodes, otherLists := seriesAnswers(given, samples)
		for i := range answers {
			// Each answer is looked at ahead of being written into, so that none has been by way of another.
			if !sameSeries(answers[i], others[i]) {
				t.Errorf("%s shares memory with another answer", seriesShown(others[i]))
			}
			scribble(answers[i].Chunks, impl.Chunk{Bytes: "?", Many: 99})
		}
		for i := range codes {
			scribble(codes[i], 99)
			scribble(lists[i], impl.Sample{T: 99, V: 99})
		}
		if answersShown(others, otherCodes, otherLists) != want {
			t.Errorf("%s: an answer shares memory with another one", seriesShown(given))
		}
		if !slices.Equal(chunkRoom, chunksWere) || samplesShown(sampleRoom) != samplesWere {
			t.Errorf("%s: an answer shares memory with an argument", seriesShown(given))
		}
		scribble(chunkRoom, impl.Chunk{Many: 99})
		scribble(sampleRoom, impl.Sample{T: 99, V: 99})
		if answersShown(others, otherCodes, otherLists) != want {
			t.Errorf("%s: an answer hangs on an argument", seriesShown(l.series()))
		}
	}
}
