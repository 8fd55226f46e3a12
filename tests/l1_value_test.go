package tests

import (
	"fmt"
	"math"
	"slices"
	"testing"

	"loop.example/g00747/impl"
)

const (
	reckonedNan = 0x7ff8000000000001
	staleBits   = 0x7ff0000000000002
)

type knownValue struct {
	bits uint64
	kind int
}

// risingValues are values of every kind in the order that LessValue must tell.
func risingValues() []knownValue {
	return []knownValue{
		{0xfff0000000000000, impl.VlInf},   // -Inf
		{0xffefffffffffffff, impl.VlPlain}, // the least that is not infinite
		{0xc008000000000000, impl.VlPlain}, // -3
		{0xbff0000000000001, impl.VlPlain}, // next below -1
		{0xbff0000000000000, impl.VlPlain}, // -1
		{0x8010000000000000, impl.VlPlain}, // the normalized one nearest to 0
		{0x800fffffffffffff, impl.VlSmall},
		{0x8000000000000001, impl.VlSmall},
		{0x8000000000000000, impl.VlZero}, // -0
		{0x0000000000000000, impl.VlZero}, // 0
		{0x0000000000000001, impl.VlSmall},
		{0x0008000000000000, impl.VlSmall},
		{0x000fffffffffffff, impl.VlSmall},
		{0x0010000000000000, impl.VlPlain},
		{0x3fb999999999999a, impl.VlPlain}, // 0.1
		{0x3ff0000000000000, impl.VlPlain}, // 1
		{0x3ff0000000000001, impl.VlPlain}, // next above 1
		{0x4008000000000000, impl.VlPlain}, // 3
		{0x7fefffffffffffff, impl.VlPlain}, // the greatest that is not infinite
		{0x7ff0000000000000, impl.VlInf},   // +Inf
		{0x7ff0000000000001, impl.VlNan},   // NaNs from here on, with the sign bit last
		{staleBits, impl.VlNan},
		{0x7ff8000000000000, impl.VlNan},
		{reckonedNan, impl.VlNan},
		{0x7fffffffffffffff, impl.VlNan},
		{0xfff0000000000001, impl.VlNan},
		{0xfff8000000000000, impl.VlNan},
		{0xffffffffffffffff, impl.VlNan},
	}
}

// scatteredBits gives bits of all kinds, the same ones each time.
func scatteredBits(many int) []uint64 {
	var l []uint64
	state := uint64(88172645463325252)
	for i := range many {
		state ^= state << 13
		state ^= state >> 7
		state ^= state << 17
		bits := state
		switch i % 4 {
		case 1:
			bits |= 0x7ff0000000000000 // NaNs
		case 2:
			bits &^= 0x7ff0000000000000 // not normalized
		}
		l = append(l, bits)
	}
	return l
}

func wantValue(t *testing.T, what string, got float64, want uint64) {
	t.Helper()
	if math.Float64bits(got) != want {
		t.Errorf("%s: %016x, not %016x", what, math.Float64bits(got), want)
	}
}

func TestKindsAreAsSaid(t *testing.T) {
	got := [5]int{impl.VlNan, impl.VlInf, impl.VlZero, impl.VlSmall, impl.VlPlain}
	if got != [5]int{0, 1, 2, 3, 4} {
		t.Error(got)
	}
	for _, v := range risingValues() {
		if k := impl.KindOf(math.Float64frombits(v.bits)); k != v.kind {
			t.Errorf("KindOf %016x: %d, not %d", v.bits, k, v.kind)
		}
	}
}

func TestKindsOfScatteredValues(t *testing.T) {
	for _, bits := range scatteredBits(2000) {
		x := math.Float64frombits(bits)
		want := impl.VlPlain
		switch {
		case math.IsNaN(x):
			want = impl.VlNan
		case math.IsInf(x, 0):
			want = impl.VlInf
		case x == 0:
			want = impl.VlZero
		case math.Abs(x) < 0x1p-1022:
			want = impl.VlSmall
		}
		if k := impl.KindOf(x); k != want {
			t.Errorf("KindOf %016x: %d, not %d", bits, k, want)
		}
	}
}

func TestBitsThereAndBack(t *testing.T) {
	named := []struct {
		x    float64
		bits uint64
	}{
		{1, 0x3ff0000000000000},
		{-3, 0xc008000000000000},
		{0.1, 0x3fb999999999999a},
		{0, 0},
		{math.Copysign(0, -1), 0x8000000000000000},
		{math.Inf(1), 0x7ff0000000000000},
		{math.Inf(-1), 0xfff0000000000000},
		{math.SmallestNonzeroFloat64, 1},
		{math.MaxFloat64, 0x7fefffffffffffff},
	}
	for _, n := range named {
		if got := impl.BitsOf(n.x); got != n.bits {
			t.Errorf("BitsOf %v: %016x", n.x, got)
		}
		wantValue(t, "FromBits", impl.FromBits(n.bits), n.bits)
		if impl.FromBits(n.bits) != n.x {
			t.Errorf("FromBits %016x: %v", n.bits, impl.FromBits(n.bits))
		}
	}
	for _, v := range risingValues() {
		if got := impl.BitsOf(impl.FromBits(v.bits)); got != v.bits {
			t.Errorf("%016x came back as %016x", v.bits, got)
		}
	}
	for _, bits := range scatteredBits(2000) {
		if got := impl.BitsOf(impl.FromBits(bits)); got != bits {
			t.Errorf("%016x came back as %016x", bits, got)
		}
	}
}

func TestSameAndLessOfAllPairs(t *testing.T) {
	l := risingValues()
	for i, a := range l {
		for j, b := range l {
			x, y := impl.FromBits(a.bits), impl.FromBits(b.bits)
			if got := impl.LessValue(x, y); got != (i < j) {
				t.Errorf("LessValue %016x %016x: %v", a.bits, b.bits, got)
			}
			if got := impl.SameValue(x, y); got != (i == j) {
				t.Errorf("SameValue %016x %016x: %v", a.bits, b.bits, got)
			}
		}
	}
}

func TestOfTwoUnlikeOneIsLess(t *testing.T) {
	l := scatteredBits(200)
	for _, a := range l {
		for _, b := range l {
			x, y := impl.FromBits(a), impl.FromBits(b)
			less, more := impl.LessValue(x, y), impl.LessValue(y, x)
			if impl.SameValue(x, y) != (a == b) || (a == b) == (less != more) {
				t.Errorf("%016x %016x: %v and %v", a, b, less, more)
			}
			if (x < y) != less && !math.IsNaN(x) && !math.IsNaN(y) {
				t.Errorf("%v %v: %v", x, y, less)
			}
		}
	}
}

func TestValueText(t *testing.T) {
	named := []struct {
		bits uint64
		text string
	}{
		{0x3ff0000000000000, "3ff0000000000000"},
		{0, "0000000000000000"},
		{1, "0000000000000001"},
		{0x8000000000000000, "8000000000000000"},
		{0x7ff0000000000000, "7ff0000000000000"},
		{0xfff0000000000000, "fff0000000000000"},
		{0x000fedcba9876543, "000fedcba9876543"},
		{staleBits, "7ff0000000000002"},
		{0xffffffffffffffff, "ffffffffffffffff"},
	}
	for _, n := range named {
		if got := impl.ValueText(impl.FromBits(n.bits)); got != n.text {
			t.Errorf("ValueText %016x: %q", n.bits, got)
		}
		got, ok := impl.ReadValue(n.text)
		wantValue(t, "ReadValue "+n.text, got, n.bits)
		if !ok {
			t.Errorf("ReadValue %q: false", n.text)
		}
	}
}

func TestTextsAreReadBack(t *testing.T) {
	var l []uint64
	for _, v := range risingValues() {
		l = append(l, v.bits)
	}
	for _, bits := range append(l, scatteredBits(500)...) {
		text := impl.ValueText(impl.FromBits(bits))
		if text != fmt.Sprintf("%016x", bits) {
			t.Errorf("ValueText %016x: %q", bits, text)
		}
		got, ok := impl.ReadValue(text)
		wantValue(t, "ReadValue "+text, got, bits)
		if !ok {
			t.Errorf("ReadValue %q: false", text)
		}
	}
}

func TestTextsThatAreNoValueText(t *testing.T) {
	texts := []string{
		"", "0", "1", "x",
		"3ff000000000000",    // fifteen digits
		"3ff00000000000000",  // seventeen digits
		"03ff0000000000000",  // seventeen, the first one 0
		"3FF0000000000000",   // great letters
		"3ff000000000000A",   // one great letter
		"3ff000000000000g",   // no digit
		"g000000000000000",   // no digit in front
		"3ff0000`00000000",   // the byte ahead of a
		"3ff0000/00000000",   // the byte ahead of 0
		"3ff0000:00000000",   // the byte behind 9
		"+ff0000000000000",   // a sign
		"-ff0000000000000",   // a sign
		"0x3ff00000000000",   // the mark of a base
		"0x3ff0000000000000", // the same ahead of sixteen digits
		"3ff0_00000000000",   // a line between
		" 3ff000000000000", "3ff000000000000 ",
		" 3ff0000000000000", "3ff0000000000000\n",
		"3ff000000000000\x00",
		"3ff00000000000\u00e9", // sixteen bytes, one letter of two
		"NaN", "Inf", "1.5", "0000000000000.5e",
	}
	for _, s := range texts {
		x, ok := impl.ReadValue(s)
		wantValue(t, fmt.Sprintf("ReadValue %q", s), x, 0)
		if ok {
			t.Errorf("ReadValue %q: true", s)
		}
	}
}

func TestOneByteChangedInText(t *testing.T) {
	for place := range 16 {
		for b := range 256 {
			text := []byte("0123456789abcdef")
			text[place] = byte(b)
			digit := slices.Contains([]byte("0123456789abcdef"), byte(b))
			x, ok := impl.ReadValue(string(text))
			if ok != digit || ok && impl.ValueText(x) != string(text) {
				t.Errorf("ReadValue %q: %v", text, ok)
			}
			if !ok {
				wantValue(t, "beside false", x, 0)
			}
		}
	}
}

func countUp(many int) []float64 {
	var l []float64
	for i := range many {
		l = append(l, float64(i+1))
	}
	return l
}

func ofBits(bits ...uint64) []float64 {
	var l []float64
	for _, b := range bits {
		l = append(l, math.Float64frombits(b))
	}
	return l
}

func TestSumValues(t *testing.T) {
	inf, minus := math.Inf(1), math.Copysign(0, -1)
	cases := []struct {
		name string
		l    []float64
		want uint64
	}{
		{"nil", nil, 0},
		{"empty", []float64{}, 0},
		{"one", []float64{2.5}, math.Float64bits(2.5)},
		{"some", []float64{1, 2, 0.5}, math.Float64bits(3.5)},
		{"200 values", countUp(200), math.Float64bits(20100)},
		{"-0 alone, from 0 on", []float64{minus}, 0},
		{"-0 twice, from 0 on", []float64{minus, minus}, 0},
		{"a small last one is kept", []float64{1e16, -1e16, 1}, math.Float64bits(1)},
		{"a small first one is lost", []float64{1, 1e16, -1e16}, 0},
		{"small ones one by one", []float64{1e16, 1, 1, 1, -1e16}, 0},
		{"tenths", []float64{0.1, 0.2, 0.3}, 0x3fe3333333333334},
		{"not normalized", ofBits(1, 2), 3},
		{"beyond the greatest", []float64{math.MaxFloat64, math.MaxFloat64, -math.MaxFloat64}, math.Float64bits(inf)},
		{"+Inf", []float64{1, inf, inf}, math.Float64bits(inf)},
		{"-Inf", []float64{-inf, 1}, math.Float64bits(-inf)},
		{"both infinities", []float64{inf, -inf}, reckonedNan},
		{"both infinities the other way", []float64{-inf, 5, inf, 7}, reckonedNan},
		{"a NaN of other bits", ofBits(0x7ff8000000000000), reckonedNan},
		{"a NaN with a sign", ofBits(0xfff8000000000000), reckonedNan},
		{"the stale mark alone", ofBits(staleBits), reckonedNan},
		{"NaNs alone", ofBits(0x7fffffffffffffff, 0xffffffffffffffff, staleBits), reckonedNan},
		{"a NaN in front", []float64{math.Float64frombits(0xfff8000000000007), 1, 2}, reckonedNan},
		{"a NaN behind", []float64{1, 2, math.Float64frombits(staleBits)}, reckonedNan},
		{"a NaN as the 200th", append(countUp(199), math.Float64frombits(0x7ff8000000000000)), reckonedNan},
	}
	for _, c := range cases {
		got, ok := impl.SumValues(c.l)
		wantValue(t, c.name, got, c.want)
		if !ok {
			t.Errorf("%s: false", c.name)
		}
	}
}

func TestRangeOf(t *testing.T) {
	inf, minus := math.Inf(1), math.Copysign(0, -1)
	nan, stale := math.Float64frombits(0xfff8000000000000), math.Float64frombits(staleBits)
	small := math.SmallestNonzeroFloat64
	cases := []struct {
		name        string
		l           []float64
		least, most float64
	}{
		{"one", []float64{7}, 7, 7},
		{"one that is -0", []float64{minus}, minus, minus},
		{"rising", []float64{1, 2, 3}, 1, 3},
		{"falling", []float64{3, 2, 1}, 1, 3},
		{"all below 0", []float64{-2, -1, -3}, -3, -1},
		{"all above 0", []float64{2, 1, 3}, 1, 3},
		{"several the same", []float64{2, 5, 2, 5}, 2, 5},
		{"0 and -0", []float64{0, minus}, minus, 0},
		{"-0 and 0", []float64{minus, 0}, minus, 0},
		{"not normalized", []float64{0, small, -small, minus}, -small, small},
		{"both infinities", []float64{inf, 0, -inf}, -inf, inf},
		{"one infinity", []float64{inf, 4}, 4, inf},
		{"a NaN in front", []float64{nan, 3, 2}, 2, 3},
		{"a NaN between", []float64{2, nan, -1}, -1, 2},
		{"a NaN behind", []float64{2, 4, stale}, 2, 4},
		{"one among NaNs", []float64{stale, nan, -6, nan}, -6, -6},
		{"+Inf among NaNs", []float64{nan, inf, stale}, inf, inf},
		{"200 values", countUp(200), 1, 200},
		{"200 falling", reversed(countUp(200)), 1, 200},
	}
	for _, c := range cases {
		least, most, ok := impl.RangeOf(c.l)
		wantValue(t, c.name+", least", least, math.Float64bits(c.least))
		wantValue(t, c.name+", greatest", most, math.Float64bits(c.most))
		if !ok {
			t.Errorf("%s: false", c.name)
		}
	}
}

func reversed(l []float64) []float64 {
	slices.Reverse(l)
	return l
}

func TestRangeIsThatOfLessValue(t *testing.T) {
	all := scatteredBits(600)
	for from := 0; from < len(all); from += 20 {
		l := ofBits(all[from : from+20]...)
		least, most, ok := impl.RangeOf(l)
		leastMet, mostMet := false, false
		for _, x := range l {
			if math.IsNaN(x) {
				continue
			}
			if impl.LessValue(x, least) || impl.LessValue(most, x) {
				t.Errorf("%v is not in %v..%v", x, least, most)
			}
			leastMet = leastMet || impl.SameValue(x, least)
			mostMet = mostMet || impl.SameValue(x, most)
		}
		if !ok || !leastMet || !mostMet {
			t.Errorf("RangeOf %v: %v, %v, %v", l, least, most, ok)
		}
	}
}

func TestStale(t *testing.T) {
	wantValue(t, "MarkStale", impl.MarkStale(), staleBits)
	if impl.KindOf(impl.MarkStale()) != impl.VlNan {
		t.Error("the mark is no NaN")
	}
	for _, v := range risingValues() {
		if got := impl.IsStale(impl.FromBits(v.bits)); got != (v.bits == staleBits) {
			t.Errorf("IsStale %016x: %v", v.bits, got)
		}
	}
	for place := range 64 {
		if bits := uint64(staleBits) ^ 1<<place; impl.IsStale(impl.FromBits(bits)) {
			t.Errorf("IsStale %016x: true", bits)
		}
	}
}

func TestListsThatAreNotAsSaidGetZero(t *testing.T) {
	nans := make([]float64, 201)
	for i := range nans {
		nans[i] = math.NaN()
	}
	for _, l := range [][]float64{countUp(201), countUp(1000), nans} {
		sum, ok := impl.SumValues(l)
		wantValue(t, "SumValues of too many", sum, 0)
		if ok {
			t.Errorf("SumValues of %d: true", len(l))
		}
	}
	minus := math.Copysign(0, -1)
	none := [][]float64{
		nil, {}, countUp(201), countUp(1000), nans, nans[:1], nans[:200],
		ofBits(staleBits, 0xffffffffffffffff),
		slices.Repeat([]float64{minus}, 201),
	}
	for _, l := range none {
		least, most, ok := impl.RangeOf(l)
		wantValue(t, "least of none", least, 0)
		wantValue(t, "greatest of none", most, 0)
		if ok {
			t.Errorf("RangeOf %d: true", len(l))
		}
	}
}

func TestListsAreLeftAsTheyWere(t *testing.T) {
	for _, many := range []int{0, 1, 5, 199, 200, 201} {
		room := append(ofBits(scatteredBits(many)...), ofBits(staleBits, 0x7ff0000000000000, 0xfff0000000000000)...)
		was := bitsOfAll(room)
		// What lies behind the length must not be read either.
		l := room[:many]
		own := slices.Clone(l)
		sum, ok := impl.SumValues(l)
		ownSum, ownOk := impl.SumValues(own)
		if !impl.SameValue(sum, ownSum) || ok != ownOk {
			t.Errorf("SumValues of %d reads behind the list", many)
		}
		least, most, found := impl.RangeOf(l)
		ownLeast, ownMost, ownFound := impl.RangeOf(own)
		if !impl.SameValue(least, ownLeast) || !impl.SameValue(most, ownMost) || found != ownFound {
			t.Errorf("RangeOf %d reads behind the list", many)
		}
		if !slices.Equal(bitsOfAll(room), was) {
			t.Errorf("a list of %d was written into", many)
		}
	}
}

func bitsOfAll(l []float64) []uint64 {
	var bits []uint64
	for _, x := range l {
		bits = append(bits, math.Float64bits(x))
	}
	return bits
}
