package tests

import (
	"encoding/binary"
	"fmt"
	"math"
	"math/bits"
	"slices"
	"strings"
	"testing"

	"loop.example/g00747/impl"
)

const (
	lowestBit  = 1
	highestBit = 1 << 63
)

func sampleOf(t int, bits uint64) impl.Sample {
	return impl.Sample{T: t, V: math.Float64frombits(bits)}
}

// samplesOf are pairs of a T and a value.
func samplesOf(pairs ...float64) []impl.Sample {
	var l []impl.Sample
	for i := 0; i < len(pairs); i += 2 {
		l = append(l, impl.Sample{T: int(pairs[i]), V: pairs[i+1]})
	}
	return l
}

func chunkOf(bytes string, many int, first int, last int) impl.Chunk {
	return impl.Chunk{Bytes: bytes, Many: many, First: first, Last: last}
}

// samplesAt have the values 1, 2 and so on.
func samplesAt(times ...int) []impl.Sample {
	var l []impl.Sample
	for i, t := range times {
		l = append(l, impl.Sample{T: t, V: float64(i + 1)})
	}
	return l
}

// samplesWith have rising Ts, some with much between.
func samplesWith(valueBits ...uint64) []impl.Sample {
	var l []impl.Sample
	for i, b := range valueBits {
		l = append(l, sampleOf(i*i*i*1000-500, b))
	}
	return l
}

// samplesShown is a text in which unlike samples differ, those with unlike NaNs and zeros too.
func samplesShown(l []impl.Sample) string {
	var text strings.Builder
	for _, s := range l {
		fmt.Fprintf(&text, "%d:%016x ", s.T, math.Float64bits(s.V))
	}
	return text.String()
}

// chunkShown keeps what a test tells of a chunk short, however long its Bytes are.
func chunkShown(c impl.Chunk) string {
	return fmt.Sprintf("%d of %d..%d in %d bytes %.120q", c.Many, c.First, c.Last, len(c.Bytes), c.Bytes)
}

// chunkPlainly is the chunk of samples, by the library's numbers, be they good or not.
func chunkPlainly(l []impl.Sample) impl.Chunk {
	if len(l) == 0 {
		return impl.Chunk{}
	}
	var times []int
	for _, s := range l {
		times = append(times, s.T)
	}
	text := []byte(listText(changesByBig(times)))
	ahead := uint64(0)
	for _, s := range l {
		now := math.Float64bits(s.V)
		text = binary.AppendUvarint(text, bits.Reverse64(now^ahead))
		ahead = now
	}
	return chunkOf(string(text), len(l), l[0].T, l[len(l)-1].T)
}

// samplesPlainly tells what a chunk holds, by the library's numbers, where it is good.
func samplesPlainly(c impl.Chunk) ([]impl.Sample, bool) {
	if c.Bytes == "" {
		return nil, c == impl.Chunk{}
	}
	read, ok := numbersPlainly(c.Bytes)
	if !ok || read[0] < 1 || read[0] > 8 || uint64(len(read)) != 1+2*read[0] {
		return nil, false
	}
	many := int(read[0])
	var l []impl.Sample
	now := uint64(0)
	for i, t := range listOfChanges(zagsPlainly(read[1 : many+1])) {
		if t < -1000000 || t > 1000000 || i > 0 && t <= l[i-1].T {
			return nil, false
		}
		now ^= bits.Reverse64(read[many+1+i])
		l = append(l, sampleOf(t, now))
	}
	return l, c.Many == many && c.First == l[0].T && c.Last == l[many-1].T
}

// goodLists are lists of samples that go into a chunk: of each length, with Ts and values of all kinds.
func goodLists() [][]impl.Sample {
	lists := [][]impl.Sample{
		nil,
		{},
		samplesAt(0),
		samplesAt(-impl.MaxTime),
		samplesAt(impl.MaxTime),
		samplesAt(-impl.MaxTime, impl.MaxTime),
		samplesAt(-impl.MaxTime, -impl.MaxTime+1, impl.MaxTime-1, impl.MaxTime),
		samplesAt(-impl.MaxTime, impl.MaxTime-6, impl.MaxTime-5, impl.MaxTime-4, impl.MaxTime-3, impl.MaxTime-2, impl.MaxTime-1, impl.MaxTime),
		samplesAt(-impl.MaxTime, -impl.MaxTime+1, -impl.MaxTime+2, -impl.MaxTime+3, -impl.MaxTime+4, -impl.MaxTime+5, -impl.MaxTime+6, impl.MaxTime),
		samplesAt(-1, 0, 1),
		samplesAt(10, 20, 30, 41, 63, 64, 65, 8192),
		samplesAt(15000, 30000, 45000, 60000, 75000, 90000, 105000, 120000),
	}
	for _, v := range risingValues() {
		lists = append(lists, samplesWith(v.bits), samplesWith(v.bits, v.bits, v.bits), samplesWith(v.bits, v.bits^lowestBit, v.bits), samplesWith(v.bits, v.bits^highestBit, v.bits))
		for _, other := range risingValues() {
			lists = append(lists, samplesWith(v.bits, other.bits))
		}
	}
	all := scatteredBits(400)
	for i := 0; i+8 <= len(all); i += 3 {
		lists = append(lists, samplesWith(all[i:i+i/3%9]...))
	}
	return lists
}

// badSamples are samples that go into no chunk, as they do not rise or are out of bounds.
func badSamples() map[string][]impl.Sample {
	return map[string][]impl.Sample{
		"one below the least T":        samplesAt(-impl.MaxTime - 1),
		"one above the greatest T":     samplesAt(impl.MaxTime + 1),
		"the least int":                samplesAt(math.MinInt),
		"the greatest int":             samplesAt(math.MaxInt),
		"below bounds ahead of a good": samplesAt(-impl.MaxTime-1, 0),
		"above bounds behind a good":   samplesAt(0, impl.MaxTime+1),
		"both out of bounds":           samplesAt(math.MinInt, math.MaxInt),
		"still":                        samplesAt(5, 5),
		"still at 0":                   samplesAt(0, 0),
		"still at the least T":         samplesAt(-impl.MaxTime, -impl.MaxTime),
		"still at the greatest T":      samplesAt(impl.MaxTime, impl.MaxTime),
		"still at the end":             samplesAt(1, 2, 3, 3),
		"still in the middle":          samplesAt(1, 2, 2, 3),
		"still with one value":         {sampleOf(7, 0), sampleOf(7, 0)},
		"falling":                      samplesAt(6, 5),
		"falling below 0":              samplesAt(-5, -6),
		"falling from bound to bound":  samplesAt(impl.MaxTime, -impl.MaxTime),
		"falling at the end":           samplesAt(1, 2, 3, 2),
		"falling in the middle":        samplesAt(1, 9, 8, 10),
		"falling behind the first":     samplesAt(4, 1, 2, 3),
		"rising, but round an int":     samplesAt(0, math.MaxInt, math.MinInt),
	}
}

func manySamples(many int) []impl.Sample {
	var l []impl.Sample
	for i := range many {
		l = append(l, impl.Sample{T: 3*i - 10, V: float64(i) / 3})
	}
	return l
}

func wantSamples(t *testing.T, what string, got []impl.Sample, want []impl.Sample) {
	t.Helper()
	if samplesShown(got) != samplesShown(want) {
		t.Errorf("%s: %s, not %s", what, samplesShown(got), samplesShown(want))
	}
}

// wantTaken is what is told of a good chunk.
func wantTaken(t *testing.T, c impl.Chunk, want []impl.Sample) {
	t.Helper()
	got, ok := impl.SamplesOf(c)
	if !ok || !impl.GoodChunk(c) {
		t.Errorf("SamplesOf %s: %v, good %v", chunkShown(c), ok, impl.GoodChunk(c))
	}
	wantSamples(t, "SamplesOf "+chunkShown(c), got, want)
}

func packed(t *testing.T, l []impl.Sample) impl.Chunk {
	t.Helper()
	c, ok := impl.PackSamples(l)
	if !ok {
		t.Fatalf("PackSamples %s: false", samplesShown(l))
	}
	return c
}

// wantNoChunk is what all functions tell of a chunk that is not good.
func wantNoChunk(t *testing.T, what string, c impl.Chunk) {
	t.Helper()
	if impl.GoodChunk(c) {
		t.Errorf("%s: GoodChunk %s: true", what, chunkShown(c))
	}
	if l, ok := impl.SamplesOf(c); len(l) != 0 || ok {
		t.Errorf("%s: SamplesOf %s: %s, %v", what, chunkShown(c), samplesShown(l), ok)
	}
	if got, ok := impl.AddSample(c, impl.Sample{T: impl.MaxTime, V: 1}); got != (impl.Chunk{}) || ok {
		t.Errorf("%s: AddSample %s: %s, %v", what, chunkShown(c), chunkShown(got), ok)
	}
	for _, at := range []int{math.MinInt, c.First, c.Last, math.MaxInt} {
		if front, back, ok := impl.CutAt(c, at); front != (impl.Chunk{}) || back != (impl.Chunk{}) || ok {
			t.Errorf("%s: CutAt %s at %d: %s, %s, %v", what, chunkShown(c), at, chunkShown(front), chunkShown(back), ok)
		}
	}
	for _, other := range []impl.Chunk{{}, chunkPlainly(samplesAt(-impl.MaxTime)), chunkPlainly(samplesAt(impl.MaxTime)), c} {
		wantNoJoin(t, c, other)
		wantNoJoin(t, other, c)
	}
}

func wantNoJoin(t *testing.T, a impl.Chunk, b impl.Chunk) {
	t.Helper()
	if c, ok := impl.JoinChunks(a, b); c != (impl.Chunk{}) || ok {
		t.Errorf("JoinChunks %s and %s: %s, %v", chunkShown(a), chunkShown(b), chunkShown(c), ok)
	}
}

func wantJoin(t *testing.T, a impl.Chunk, b impl.Chunk, want impl.Chunk) {
	t.Helper()
	if c, ok := impl.JoinChunks(a, b); c != want || !ok {
		t.Errorf("JoinChunks %s and %s: %s, %v, not %s", chunkShown(a), chunkShown(b), chunkShown(c), ok, chunkShown(want))
	}
}

func TestLimitsOfChunks(t *testing.T) {
	if impl.MaxChunk != 8 || impl.MaxTime != 1000000 {
		t.Error(impl.MaxChunk, impl.MaxTime)
	}
}

func TestGoodSamples(t *testing.T) {
	for _, l := range goodLists() {
		if !impl.GoodSamples(l) {
			t.Errorf("GoodSamples %s: false", samplesShown(l))
		}
	}
	for what, l := range badSamples() {
		if impl.GoodSamples(l) {
			t.Errorf("GoodSamples, %s: true", what)
		}
	}
	// What goes into no chunk for being too many is good all the same.
	for _, many := range []int{9, 60, 61, 200, 201, 5000} {
		l := manySamples(many)
		if !impl.GoodSamples(l) {
			t.Errorf("GoodSamples of %d: false", many)
		}
		l[many-1].T = l[many-2].T
		if impl.GoodSamples(l) {
			t.Errorf("GoodSamples of %d, the last one at the T ahead: true", many)
		}
	}
}

func TestNewChunk(t *testing.T) {
	if c := impl.NewChunk(); c != (impl.Chunk{}) || !impl.GoodChunk(c) {
		t.Errorf("NewChunk: %s, good %v", chunkShown(c), impl.GoodChunk(c))
	}
	if l, ok := impl.SamplesOf(impl.NewChunk()); len(l) != 0 || !ok {
		t.Errorf("SamplesOf NewChunk: %s, %v", samplesShown(l), ok)
	}
}

func TestPackSamples(t *testing.T) {
	cases := []struct {
		l    []impl.Sample
		want impl.Chunk
	}{
		{nil, impl.Chunk{}},
		{[]impl.Sample{}, impl.Chunk{}},
		{samplesAt(0), chunkOf("\x01\x00\xfc\x1f", 1, 0, 0)},
		{samplesOf(10, 1, 20, 1), chunkOf("\x02\x14\x14\xfc\x1f\x00", 2, 10, 20)},
		{samplesOf(-10, 1, 20, 1, 50, 1), chunkOf("\x03\x13\x3c\x00\xfc\x1f\x00\x00", 3, -10, 50)},
		// 1 and 2 differ in eleven bits; 2 has the second highest bit alone.
		{samplesOf(1, 1, 2, 2), chunkOf("\x02\x02\x02\xfc\x1f\xfe\x1f", 2, 1, 2)},
		{samplesOf(1, 2, 2, -2), chunkOf("\x02\x02\x02\x02\x01", 2, 1, 2)},
		// Zeros: of the one no bit is set, of the other the highest, which is the lowest when turned round.
		{samplesWith(0), chunkOf("\x01\xe7\x07\x00", 1, -500, -500)},
		{samplesWith(highestBit), chunkOf("\x01\xe7\x07\x01", 1, -500, -500)},
		{samplesWith(0, highestBit, 0), chunkOf("\x03\xe7\x07\xd0\x0f\xe0\x5d\x00\x01\x01", 3, -500, 7500)},
		{samplesWith(lowestBit), chunkOf("\x01\xe7\x07\x80\x80\x80\x80\x80\x80\x80\x80\x80\x01", 1, -500, -500)},
		{samplesWith(highestBit | lowestBit), chunkOf("\x01\xe7\x07\x81\x80\x80\x80\x80\x80\x80\x80\x80\x01", 1, -500, -500)},
		{samplesWith(math.MaxUint64), chunkOf("\x01\xe7\x07\xff\xff\xff\xff\xff\xff\xff\xff\xff\x01", 1, -500, -500)},
		// Infinities, the stale mark.
		{samplesWith(0x7ff0000000000000, 0xfff0000000000000), chunkOf("\x02\xe7\x07\xd0\x0f\xfe\x1f\x01", 2, -500, 500)},
		{samplesWith(0x7ff0000000000000, staleBits), chunkOf("\x02\xe7\x07\xd0\x0f\xfe\x1f\x80\x80\x80\x80\x80\x80\x80\x80\x40", 2, -500, 500)},
		// From bound to bound.
		{samplesOf(-1000000, 0, 1000000, 0), chunkOf("\x02\xff\x88\x7a\x80\x92\xf4\x01\x00\x00", 2, -1000000, 1000000)},
	}
	for _, c := range cases {
		if got, ok := impl.PackSamples(c.l); got != c.want || !ok {
			t.Errorf("PackSamples %s: %s, %v, not %s", samplesShown(c.l), chunkShown(got), ok, chunkShown(c.want))
		}
		wantTaken(t, c.want, c.l)
	}
}

func TestWhatIsPackedIsTakenOutAgain(t *testing.T) {
	for _, l := range goodLists() {
		c, ok := impl.PackSamples(l)
		if c != chunkPlainly(l) || !ok {
			t.Errorf("PackSamples %s: %s, %v", samplesShown(l), chunkShown(c), ok)
		}
		wantTaken(t, c, l)
	}
}

func TestEachBitAloneIsTakenOutAgain(t *testing.T) {
	for _, v := range risingValues() {
		for place := range 64 {
			l := samplesWith(v.bits, v.bits^1<<place, v.bits, 1<<place, ^uint64(1<<place))
			wantTaken(t, packed(t, l), l)
		}
	}
}

func TestSamplesThatGoIntoNoChunk(t *testing.T) {
	lists := badSamples()
	for _, many := range []int{9, 10, 16, 60, 61, 128, 1000} {
		lists[fmt.Sprint(many, " samples")] = manySamples(many)
	}
	for what, l := range lists {
		if c, ok := impl.PackSamples(l); c != (impl.Chunk{}) || ok {
			t.Errorf("PackSamples, %s: %s, %v", what, chunkShown(c), ok)
		}
		wantNoChunk(t, what, chunkPlainly(l))
	}
	most := manySamples(impl.MaxChunk)
	if c := packed(t, most); c != chunkPlainly(most) || c.Many != 8 {
		t.Errorf("PackSamples of MaxChunk: %s", chunkShown(c))
	}
}

// TestOneBadSampleAmongGoodOnes puts a T that is not as said at each place of a list.
func TestOneBadSampleAmongGoodOnes(t *testing.T) {
	for many := 1; many <= impl.MaxChunk; many++ {
		for at := range many {
			bad := []int{-impl.MaxTime - 1, impl.MaxTime + 1, math.MinInt, math.MaxInt}
			good := manySamples(many)
			if at > 0 {
				bad = append(bad, good[at-1].T, good[at-1].T-1, good[0].T)
			}
			if at < many-1 {
				bad = append(bad, good[at+1].T, good[at+1].T+1, good[many-1].T)
			}
			for _, time := range bad {
				l := slices.Clone(good)
				l[at].T = time
				if c, ok := impl.PackSamples(l); c != (impl.Chunk{}) || ok || impl.GoodSamples(l) {
					t.Errorf("PackSamples %s: %s, %v", samplesShown(l), chunkShown(c), ok)
				}
				wantNoChunk(t, "a T that is not as said", chunkPlainly(l))
			}
		}
	}
}

// fieldsAmiss are chunks of which one field is another one than that of a good chunk.
func fieldsAmiss(c impl.Chunk) []impl.Chunk {
	var l []impl.Chunk
	for _, more := range []int{1, -1, 8, -8, 256, 1 << 32, math.MaxInt, math.MinInt, -2 * c.Many} {
		if more != 0 {
			l = append(l, chunkOf(c.Bytes, c.Many+more, c.First, c.Last))
		}
	}
	for _, t := range []int{0, 1, -1, c.First, c.First - 1, c.First + 1, c.Last, c.Last - 1, c.Last + 1, -c.First, -c.Last, impl.MaxTime, -impl.MaxTime, math.MaxInt, math.MinInt} {
		if t != c.First {
			l = append(l, chunkOf(c.Bytes, c.Many, t, c.Last))
		}
		if t != c.Last {
			l = append(l, chunkOf(c.Bytes, c.Many, c.First, t))
		}
		if t != c.First && t != c.Last {
			l = append(l, chunkOf(c.Bytes, c.Many, t, t))
		}
	}
	if c.First != c.Last {
		l = append(l, chunkOf(c.Bytes, c.Many, c.Last, c.First))
	}
	return l
}

func TestChunksWithAFieldAmiss(t *testing.T) {
	for i, l := range goodLists() {
		if i > 40 && i%25 != 0 {
			continue
		}
		for _, c := range fieldsAmiss(chunkPlainly(l)) {
			wantNoChunk(t, "a field amiss", c)
		}
	}
}

// someChunks are of none, few and MaxChunk samples, with short and long numbers.
func someChunks() []impl.Chunk {
	scattered := scatteredBits(8)
	return []impl.Chunk{
		{},
		chunkPlainly(samplesAt(0)),
		chunkPlainly(samplesAt(64)),
		chunkPlainly(samplesWith(lowestBit, highestBit)),
		chunkPlainly(samplesAt(-impl.MaxTime, impl.MaxTime)),
		chunkPlainly(samplesWith(0, 0, reckonedNan, staleBits)),
		chunkPlainly(samplesAt(10, 20, 30, 41)),
		chunkPlainly(samplesAt(1, 2, 3, 4, 5, 6, 7)),
		chunkPlainly(samplesWith(scattered...)),
	}
}

// TestOneByteAmissInAChunk tries each byte at each place of some chunks: more, less, or another one.
func TestOneByteAmissInAChunk(t *testing.T) {
	good, tried := 0, 0
	for _, c := range someChunks() {
		for _, text := range oneByteAmiss(c.Bytes) {
			other := chunkOf(text, c.Many, c.First, c.Last)
			tried++
			if want, is := samplesPlainly(other); is {
				good++
				wantTaken(t, other, want)
			} else {
				wantNoChunk(t, "a byte amiss", other)
			}
		}
	}
	// Another byte of a value, or of a T between, makes just another chunk.
	if good < 100 || tried-good < 100 {
		t.Errorf("of %d chunks %d are good", tried, good)
	}
}

func TestChunksThatEndEarly(t *testing.T) {
	for _, c := range someChunks() {
		for long := range len(c.Bytes) {
			for many := 1; many <= impl.MaxChunk; many++ {
				wantNoChunk(t, "cut off", chunkOf(c.Bytes[:long], many, c.First, c.Last))
			}
		}
	}
}

func TestBytesThatAreNotAsSaid(t *testing.T) {
	long := strings.Repeat("\x00", 1000000)
	for _, text := range []string{
		// None has no bytes at all, not even a count.
		"\x00", "\x00\x00", "\x80\x00", " ", "\x80", "\xff", long, "\x01\x00\x00",
	} {
		wantNoChunk(t, "none with bytes", impl.Chunk{Bytes: text})
	}
	// What follows is near to the chunk of one sample at 0 with the value 0.
	if c := chunkOf("\x01\x00\x00", 1, 0, 0); c != packed(t, samplesOf(0, 0)) || !impl.GoodChunk(c) {
		t.Error("the test is amiss", c)
	}
	for _, text := range []string{
		"\x00", "\x01", "\x01\x00", "\x02\x00\x00", "\x01\x00\x00\x00", "\x00\x01\x00\x00",
		// The count, the T or the value with more bytes than it needs.
		"\x81\x00\x00\x00", "\x01\x80\x00\x00", "\x01\x00\x80\x00", "\x81\x80\x00\x00\x00", "\x01\x80\x80\x00\x00", "\x01\x00\x80\x80\x80\x80\x80\x80\x80\x80\x80\x00",
		// Beyond 64 bits, or without an end.
		"\x01\x00\x80\x80\x80\x80\x80\x80\x80\x80\x80\x02", "\x01\x80\x80\x80\x80\x80\x80\x80\x80\x80\x02\x00", "\x01\x00\x80\x80\x80\x80\x80\x80\x80\x80\x80\x80\x01", "\x01\x00\x80", "\x01\x80\x80\x80",
		// More behind.
		"\x01\x00\x00" + long, "\x01\x00\x00\x01\x00\x00", "\x01\x00\x00\x80",
		// Counts that no chunk has.
		"\x09" + strings.Repeat("\x00", 18), "<" + strings.Repeat("\x00", 120), "=" + strings.Repeat("\x00", 122), "\xff\xff\xff\xff\xff\xff\xff\xff\xff\x01\x00\x00", "\x81\x80\x80\x80\x10\x00\x00", "\x81\x02\x00\x00",
		long, strings.Repeat("\x01", 1000000), strings.Repeat("\x80", 1000000), strings.Repeat("\xff", 1000000),
	} {
		for _, many := range []int{0, 1, 2, 8, 9, 60, -1} {
			wantNoChunk(t, "bytes not as said", chunkOf(text, many, 0, 0))
		}
	}
	for _, c := range []impl.Chunk{{Many: 1}, {Many: -1}, {First: 1}, {Last: 1}, {First: 1, Last: 1}, {First: -1, Last: 1}, {Many: 8, First: 1, Last: 8}, {Many: math.MinInt}, {Many: math.MaxInt}} {
		wantNoChunk(t, "no bytes", c)
	}
}

// TestAllSmallTextsAsChunks tries each small text with each Many, and Firsts and Lasts that may be right.
func TestAllSmallTextsAsChunks(t *testing.T) {
	good := 0
	for _, text := range textsOver("\x00\x01\x02\x03\x80\x81", 5) {
		for many := -1; many <= 3; many++ {
			for first := -2; first <= 1; first++ {
				for last := first; last <= first+2; last++ {
					c := chunkOf(text, many, first, last)
					if want, is := samplesPlainly(c); is {
						good++
						wantTaken(t, c, want)
					} else if l, ok := impl.SamplesOf(c); len(l) != 0 || ok || impl.GoodChunk(c) {
						t.Errorf("SamplesOf %s: %s, %v", chunkShown(c), samplesShown(l), ok)
					}
				}
			}
		}
	}
	if good < 20 {
		t.Errorf("%d are good", good)
	}
}

func TestAddSample(t *testing.T) {
	for _, l := range goodLists() {
		c := chunkPlainly(l)
		for _, time := range []int{math.MinInt, -impl.MaxTime - 1, -impl.MaxTime, -1, 0, 1, c.First - 1, c.First, c.Last - 1, c.Last, c.Last + 1, impl.MaxTime, impl.MaxTime + 1, math.MaxInt} {
			s := sampleOf(time, staleBits)
			room := len(l) < 8 && time >= -1000000 && time <= 1000000 && (len(l) == 0 || time > c.Last)
			want := impl.Chunk{}
			if room {
				want = chunkPlainly(append(slices.Clone(l), s))
			}
			if got, ok := impl.AddSample(c, s); got != want || ok != room {
				t.Errorf("AddSample %s and %d: %s, %v, not %s, %v", samplesShown(l), time, chunkShown(got), ok, chunkShown(want), room)
			}
		}
	}
}

func TestAddSampleAtTheEdges(t *testing.T) {
	cases := []struct {
		l    []impl.Sample
		time int
		room bool
	}{
		// Of none Last is 0, but does not count.
		{nil, 0, true}, {nil, -1, true}, {nil, 1, true}, {nil, -1000000, true}, {nil, 1000000, true}, {nil, -1000001, false}, {nil, 1000001, false}, {nil, math.MinInt, false}, {nil, math.MaxInt, false},
		{samplesAt(5), 5, false}, {samplesAt(5), 4, false}, {samplesAt(5), 6, true}, {samplesAt(0), 0, false}, {samplesAt(-1), 0, true},
		{samplesAt(5, 10), 7, false}, {samplesAt(5, 10), 10, false}, {samplesAt(5, 10), 11, true}, {samplesAt(5, 10), 1000000, true}, {samplesAt(5, 10), 1000001, false},
		{samplesAt(-1000000), -1000000, false}, {samplesAt(-1000000), -999999, true}, {samplesAt(999999), 1000000, true}, {samplesAt(1000000), 1000000, false}, {samplesAt(1000000), 1000001, false},
		{manySamples(7), 1000, true}, {manySamples(8), 1000, false}, {manySamples(8), 1000000, false}, {manySamples(7), manySamples(7)[6].T, false}, {manySamples(7), manySamples(7)[6].T + 1, true},
	}
	for _, c := range cases {
		for _, v := range risingValues() {
			s := sampleOf(c.time, v.bits)
			got, ok := impl.AddSample(packed(t, c.l), s)
			want := impl.Chunk{}
			if c.room {
				want = packed(t, append(slices.Clone(c.l), s))
			}
			if got != want || ok != c.room {
				t.Errorf("AddSample %s and %d: %s, %v, not %s, %v", samplesShown(c.l), c.time, chunkShown(got), ok, chunkShown(want), c.room)
			}
		}
	}
}

func TestChunksAddedOneByOneAreAsPacked(t *testing.T) {
	for _, l := range goodLists() {
		c := impl.NewChunk()
		for i, s := range l {
			next, ok := impl.AddSample(c, s)
			if next != chunkPlainly(l[:i+1]) || !ok {
				t.Fatalf("AddSample %s and %s: %s, %v", chunkShown(c), samplesShown(l[i:i+1]), chunkShown(next), ok)
			}
			c = next
		}
		if c != packed(t, l) {
			t.Errorf("%s, not as packed: %s", chunkShown(c), samplesShown(l))
		}
	}
}

// cutsOf are numbers below, at, between and above the Ts of samples.
func cutsOf(l []impl.Sample) []int {
	cuts := []int{math.MinInt, math.MinInt + 1, -impl.MaxTime - 1, -impl.MaxTime, -1, 0, 1, impl.MaxTime, impl.MaxTime + 1, math.MaxInt - 1, math.MaxInt}
	for _, s := range l {
		cuts = append(cuts, s.T-1, s.T, s.T+1)
	}
	return cuts
}

func TestCutChunksAreJoinedAgain(t *testing.T) {
	for _, l := range goodLists() {
		c := packed(t, l)
		for _, at := range cutsOf(l) {
			var less, others []impl.Sample
			for _, s := range l {
				if s.T < at {
					less = append(less, s)
				} else {
					others = append(others, s)
				}
			}
			front, back, ok := impl.CutAt(c, at)
			if front != chunkPlainly(less) || back != chunkPlainly(others) || !ok {
				t.Errorf("CutAt %s at %d: %s, %s, %v", samplesShown(l), at, chunkShown(front), chunkShown(back), ok)
			}
			if !impl.GoodChunk(front) || !impl.GoodChunk(back) {
				t.Errorf("CutAt %s at %d: %s, %s, not good", samplesShown(l), at, chunkShown(front), chunkShown(back))
			}
			wantJoin(t, front, back, c)
		}
	}
}

func TestCutAt(t *testing.T) {
	l := samplesOf(-20, 3, -10, 2, 5, 2, 6, -2)
	cases := []struct{ at, less int }{
		{math.MinInt, 0}, {-21, 0}, {-20, 0}, {-19, 1}, {-15, 1}, {-10, 1}, {-9, 2}, {0, 2}, {4, 2}, {5, 2}, {6, 3}, {7, 4}, {1000001, 4}, {math.MaxInt, 4},
	}
	for _, c := range cases {
		front, back, ok := impl.CutAt(packed(t, l), c.at)
		if front != packed(t, l[:c.less]) || back != packed(t, l[c.less:]) || !ok {
			t.Errorf("CutAt %d: %s, %s, %v", c.at, chunkShown(front), chunkShown(back), ok)
		}
		front, back, ok = impl.CutAt(impl.NewChunk(), c.at)
		if front != impl.NewChunk() || back != impl.NewChunk() || !ok {
			t.Errorf("CutAt of none at %d: %s, %s, %v", c.at, chunkShown(front), chunkShown(back), ok)
		}
	}
}

func TestJoinChunks(t *testing.T) {
	none := impl.NewChunk()
	wantJoin(t, none, none, none)
	for _, c := range someChunks() {
		wantJoin(t, none, c, c)
		wantJoin(t, c, none, c)
		if c != none {
			wantNoJoin(t, c, c)
		}
	}
	low, high := samplesAt(1, 2, 3), samplesAt(4, 9)
	wantJoin(t, packed(t, low), packed(t, high), packed(t, slices.Concat(low, high)))
	// The wrong order, a T on both sides, Ts that mix.
	wantNoJoin(t, packed(t, high), packed(t, low))
	wantNoJoin(t, packed(t, low), packed(t, samplesAt(3, 4)))
	wantNoJoin(t, packed(t, low), packed(t, samplesAt(2)))
	wantNoJoin(t, packed(t, samplesAt(1, 5)), packed(t, samplesAt(3, 7)))
	wantNoJoin(t, packed(t, samplesAt(3)), packed(t, samplesAt(3)))
	wantNoJoin(t, packed(t, samplesAt(impl.MaxTime)), packed(t, samplesAt(-impl.MaxTime)))
	wantJoin(t, packed(t, samplesAt(-impl.MaxTime)), packed(t, samplesAt(impl.MaxTime)), packed(t, samplesOf(-impl.MaxTime, 1, impl.MaxTime, 1)))
}

func TestJoinChunksOfMaxChunkAndMore(t *testing.T) {
	all := manySamples(2 * impl.MaxChunk)
	for a := range impl.MaxChunk + 1 {
		for b := range impl.MaxChunk + 1 {
			front, back := packed(t, all[:a]), packed(t, all[a:a+b])
			if a+b > 8 {
				wantNoJoin(t, front, back)
				continue
			}
			wantJoin(t, front, back, chunkPlainly(all[:a+b]))
			if a > 0 && b > 0 {
				wantNoJoin(t, back, front)
			}
		}
	}
}

func TestSameSamples(t *testing.T) {
	zero, minusZero := samplesWith(0), samplesWith(highestBit)
	nan := samplesWith(1, reckonedNan)
	cases := []struct {
		what string
		a, b []impl.Sample
		want bool
	}{
		{"none", nil, nil, true},
		{"none, nil and empty", nil, []impl.Sample{}, true},
		{"none and one", nil, samplesAt(0), false},
		{"none and a zero sample", nil, make([]impl.Sample, 1), false},
		{"alike", samplesAt(1, 2), samplesAt(1, 2), true},
		{"one less", samplesAt(1, 2), samplesAt(1), false},
		{"one more at the end", samplesAt(1, 2, 3), samplesAt(1, 2), false},
		{"another first T", samplesAt(1, 2), samplesAt(0, 2), false},
		{"another last T", samplesAt(1, 2), samplesAt(1, 3), false},
		{"another value", samplesAt(1, 2), samplesOf(1, 1, 2, 3), false},
		{"another first value", samplesAt(1, 2), samplesOf(1, 7, 2, 2), false},
		{"the other order", samplesOf(1, 1, 2, 2), samplesOf(2, 2, 1, 1), false},
		{"zeros that compare as equal", zero, minusZero, false},
		{"the same zeros", zero, samplesWith(0), true},
		{"the same zeros below", minusZero, samplesWith(highestBit), true},
		{"the same NaN, which compares as unlike", nan, samplesWith(1, reckonedNan), true},
		{"NaNs with other bits", nan, samplesWith(1, staleBits), false},
		{"NaNs with another sign", nan, samplesWith(1, reckonedNan|highestBit), false},
		{"the lowest bit", samplesWith(0x3ff0000000000000), samplesWith(0x3ff0000000000001), false},
		// What is not good is compared all the same.
		{"not good, alike", samplesAt(5, 5, math.MinInt), samplesAt(5, 5, math.MinInt), true},
		{"not good, unlike", samplesAt(5, 5, math.MinInt), samplesAt(5, 5, math.MaxInt), false},
		{"more than a chunk has, alike", manySamples(500), manySamples(500), true},
		{"more than a chunk has, one less", manySamples(500), manySamples(499), false},
	}
	for _, c := range cases {
		if impl.SameSamples(c.a, c.b) != c.want || impl.SameSamples(c.b, c.a) != c.want {
			t.Errorf("SameSamples, %s: not %v", c.what, c.want)
		}
	}
}

func TestSameSamplesOfAllPairs(t *testing.T) {
	var lists [][]impl.Sample
	for _, l := range goodLists() {
		if len(lists) < 400 {
			lists = append(lists, l)
		}
	}
	for _, a := range lists {
		for _, b := range lists {
			if same := samplesShown(a) == samplesShown(b); impl.SameSamples(a, b) != same || (chunkPlainly(a) == chunkPlainly(b)) != same {
				t.Errorf("SameSamples %s and %s: not %v", samplesShown(a), samplesShown(b), same)
			}
		}
	}
}

func callAllOfSamples(l []impl.Sample, other []impl.Sample) string {
	c, ok := impl.PackSamples(l)
	return fmt.Sprintf("%v, %s, %v, %v, %v", impl.GoodSamples(l), chunkShown(c), ok, impl.SameSamples(l, other), impl.SameSamples(other, l))
}

func TestSamplesAreLeftAsTheyWere(t *testing.T) {
	lists := append(goodLists(), manySamples(8), manySamples(9), manySamples(300))
	for _, l := range badSamples() {
		lists = append(lists, l)
	}
	for _, list := range lists {
		// What lies behind the length must be neither read nor written, be it good there or not.
		for _, behind := range [][]impl.Sample{samplesAt(impl.MaxTime-1, impl.MaxTime), {sampleOf(math.MinInt, staleBits), sampleOf(3, 0)}} {
			room := slices.Concat(list, behind)
			was := samplesShown(room)
			l := room[:len(list)]
			got := callAllOfSamples(l, l)
			if want := callAllOfSamples(slices.Clone(list), slices.Clone(list)); got != want {
				t.Errorf("%s: %s with more behind, %s without", samplesShown(l), got, want)
			}
			if again := callAllOfSamples(l, l); again != got {
				t.Errorf("%s: %s, then %s", samplesShown(l), got, again)
			}
			if samplesShown(room) != was {
				t.Errorf("%s was written into: %s", was, samplesShown(room))
			}
		}
	}
}

func TestSamplesThatAreTakenOutAreNewMemory(t *testing.T) {
	for _, l := range goodLists() {
		given := slices.Clone(l)
		c := packed(t, given)
		was := c
		was.Bytes = strings.Clone(c.Bytes)
		first, _ := impl.SamplesOf(c)
		second, _ := impl.SamplesOf(c)
		// Neither the chunk nor a second answer may hang on the list that was handed in or out.
		for i := range given {
			given[i] = impl.Sample{T: -7, V: 7}
			first[i] = impl.Sample{T: 7, V: -7}
		}
		first = append(first, impl.Sample{T: 1, V: 1})
		wantSamples(t, "the second answer", second, l)
		third, ok := impl.SamplesOf(c)
		if c != was || !ok {
			t.Errorf("%s, %v, was %s", chunkShown(c), ok, chunkShown(was))
		}
		wantSamples(t, "the third answer", third, l)
	}
}
