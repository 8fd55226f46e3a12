package tests

import (
	"encoding/binary"
	"fmt"
	"math"
	"math/big"
	"slices"
	"strings"
	"testing"

	"loop.example/g00747/impl"
)

const mostOfList = 60

type knownVar struct {
	n    uint64
	text string
}

// knownVars are the least and the greatest number of each length, and some between.
func knownVars() []knownVar {
	return []knownVar{
		{0, "\x00"},
		{1, "\x01"},
		{'a', "a"},
		{127, "\x7f"},
		{128, "\x80\x01"},
		{129, "\x81\x01"},
		{255, "\xff\x01"},
		{256, "\x80\x02"},
		{300, "\xac\x02"},
		{1<<14 - 1, "\xff\x7f"},
		{1 << 14, "\x80\x80\x01"},
		{1<<21 - 1, "\xff\xff\x7f"},
		{1 << 21, "\x80\x80\x80\x01"},
		{1<<28 - 1, "\xff\xff\xff\x7f"},
		{1 << 28, "\x80\x80\x80\x80\x01"},
		{1<<35 - 1, "\xff\xff\xff\xff\x7f"},
		{1 << 35, "\x80\x80\x80\x80\x80\x01"},
		{1<<42 - 1, "\xff\xff\xff\xff\xff\x7f"},
		{1 << 42, "\x80\x80\x80\x80\x80\x80\x01"},
		{1<<49 - 1, "\xff\xff\xff\xff\xff\xff\x7f"},
		{1 << 49, "\x80\x80\x80\x80\x80\x80\x80\x01"},
		{1<<56 - 1, "\xff\xff\xff\xff\xff\xff\xff\x7f"},
		{1 << 56, "\x80\x80\x80\x80\x80\x80\x80\x80\x01"},
		{1<<63 - 1, "\xff\xff\xff\xff\xff\xff\xff\xff\x7f"},
		{1 << 63, "\x80\x80\x80\x80\x80\x80\x80\x80\x80\x01"},
		{1<<63 + 1, "\x81\x80\x80\x80\x80\x80\x80\x80\x80\x01"},
		{math.MaxUint64 - 1, "\xfe\xff\xff\xff\xff\xff\xff\xff\xff\x01"},
		{math.MaxUint64, "\xff\xff\xff\xff\xff\xff\xff\xff\xff\x01"},
	}
}

// badVars are texts at whose front no number stands, whatever comes behind.
func badVars() []string {
	bad := []string{
		// More bytes than the number needs.
		"\x80\x00", "\x81\x00", "\xff\x00", "\x80\x80\x00", "\xac\x82\x00", "\xff\xff\x00",
		"\x80\x80\x80\x80\x80\x80\x80\x80\x80\x00", "\xff\xff\xff\xff\xff\xff\xff\xff\xff\x00", "\xff\xff\xff\xff\xff\xff\xff\xff\x00",
		"\xff\xff\xff\xff\xff\xff\xff\xff\xff\x81\x00", "\x80\x80\x80\x80\x80\x80\x80\x80\x80\x80\x00",
		// Beyond 64 bits.
		"\x80\x80\x80\x80\x80\x80\x80\x80\x80\x02", "\xff\xff\xff\xff\xff\xff\xff\xff\xff\x02", "\xff\xff\xff\xff\xff\xff\xff\xff\xff\x03",
		"\xff\xff\xff\xff\xff\xff\xff\xff\xff\x41", "\xff\xff\xff\xff\xff\xff\xff\xff\xff\x7f", "\x80\x80\x80\x80\x80\x80\x80\x80\x80\x80\x01",
		"\xff\xff\xff\xff\xff\xff\xff\xff\xff\xff\x01", "\xff\xff\xff\xff\xff\xff\xff\xff\xff\x81\x01",
	}
	for _, last := range []string{"\x00", "\x01", "\x7f"} {
		for _, long := range []int{10, 11, 18, 19, 36, 64, 128, impl.MaxBytes - 1} {
			bad = append(bad, strings.Repeat("\x80", long)+last, strings.Repeat("\xff", long)+last)
		}
	}
	return bad
}

// scatteredNumbers are of all lengths, with and without a sign, the same ones each time.
func scatteredNumbers(many int) []uint64 {
	var l []uint64
	for i, bits := range scatteredBits(many) {
		l = append(l, bits*0x9e3779b97f4a7c15>>(i%65))
	}
	return l
}

func wantVar(t *testing.T, s string, at int, n uint64, end int) {
	t.Helper()
	if got, behind, ok := impl.ReadVar(s, at); got != n || behind != end || !ok {
		t.Errorf("ReadVar %.60q at %d: %d, %d, %v, not %d, %d", s, at, got, behind, ok, n, end)
	}
}

func wantNoVar(t *testing.T, s string, at int) {
	t.Helper()
	if n, end, ok := impl.ReadVar(s, at); n != 0 || end != 0 || ok {
		t.Errorf("ReadVar %.60q (%d bytes) at %d: %d, %d, %v", s, len(s), at, n, end, ok)
	}
}

func TestLimitOfBytes(t *testing.T) {
	if impl.MaxBytes != 400 {
		t.Error(impl.MaxBytes)
	}
}

func TestPutVar(t *testing.T) {
	for _, v := range knownVars() {
		if s := impl.PutVar(v.n); s != v.text {
			t.Errorf("PutVar %d: %q, not %q", v.n, s, v.text)
		}
	}
	for place := range 64 {
		for _, n := range []uint64{1 << place, 1<<place - 1, 1<<place + 1, math.MaxUint64 << place, math.MaxUint64 >> place} {
			if s := impl.PutVar(n); s != string(binary.AppendUvarint(nil, n)) {
				t.Errorf("PutVar %d: %q", n, s)
			}
		}
	}
	for _, n := range scatteredNumbers(2000) {
		if s := impl.PutVar(n); s != string(binary.AppendUvarint(nil, n)) {
			t.Errorf("PutVar %d: %q", n, s)
		}
	}
}

func TestVarsThereAndBack(t *testing.T) {
	for _, v := range knownVars() {
		for _, ahead := range []string{"", "\x00", "x", "\x80", "\xff\xff", "\x80\x00", strings.Repeat("\x80", 20), strings.Repeat("\x01", 300)} {
			for _, behind := range []string{"", "\x00", "\x01", "x", "\x7f", "\x80", "\xff\xff", strings.Repeat("\x80", 20), strings.Repeat("\xff", 50)} {
				wantVar(t, ahead+v.text+behind, len(ahead), v.n, len(ahead)+len(v.text))
			}
		}
	}
	for i, n := range scatteredNumbers(2000) {
		text := impl.PutVar(n)
		ahead := strings.Repeat("\xff", i%7)
		wantVar(t, text, 0, n, len(text))
		wantVar(t, ahead+text+text, len(ahead), n, len(ahead)+len(text))
	}
}

func TestVarsOneBehindTheOther(t *testing.T) {
	var text string
	for _, v := range knownVars() {
		text += v.text
	}
	at := 0
	for _, v := range knownVars() {
		wantVar(t, text, at, v.n, at+len(v.text))
		// From its middle on a number stands there too: what its further bytes are.
		for skipped := range len(v.text) {
			wantVar(t, text, at+skipped, v.n>>(7*skipped), at+len(v.text))
		}
		at += len(v.text)
	}
	if at != len(text) {
		t.Error(at, len(text))
	}
	wantNoVar(t, text, at)
}

func TestPlacesThatAreNotInTheText(t *testing.T) {
	texts := []string{"", "\x00", "\x01\x02", "\xac\x02", strings.Repeat("\x01", impl.MaxBytes)}
	for _, s := range texts {
		for _, at := range []int{-1, -2, -len(s), -len(s) - 1, math.MinInt, math.MinInt + 1, len(s) + 1, len(s) + 2, 2*len(s) + 1, 1 << 32, math.MaxInt - 1, math.MaxInt} {
			if at < 0 || at > len(s) {
				wantNoVar(t, s, at)
			}
		}
		// Its length is a place in it, but nothing stands there.
		wantNoVar(t, s, len(s))
	}
}

func TestTextsThatEndInTheMiddleOfANumber(t *testing.T) {
	for _, v := range knownVars() {
		for long := range len(v.text) {
			wantNoVar(t, v.text[:long], 0)
			wantNoVar(t, "\x01"+v.text[:long], 1)
			wantNoVar(t, "\xff\x00"+v.text[:long], 2)
		}
	}
	for _, long := range []int{1, 9, 10, 11, 63, 64, 128, impl.MaxBytes} {
		wantNoVar(t, strings.Repeat("\x80", long), 0)
		wantNoVar(t, strings.Repeat("\xff", long), 0)
	}
}

func TestTextsWhereNoNumberStands(t *testing.T) {
	for _, s := range badVars() {
		for _, behind := range []string{"", "\x00", "\x01", "\x7f"} {
			for _, ahead := range []string{"", "\x01", "\x80\x01"} {
				if long := len(ahead) + len(s) + len(behind); long <= impl.MaxBytes {
					wantNoVar(t, ahead+s+behind, len(ahead))
				}
			}
		}
	}
	// A front that is no number takes nothing from those behind it.
	wantVar(t, "\x80\x00", 1, 0, 2)
	wantVar(t, "\xff\xff\xff\xff\xff\xff\xff\xff\xff\x7f", 1, math.MaxUint64>>1, 10)
}

func TestEachNumberOfTwoBytes(t *testing.T) {
	for first := range 256 {
		for second := range 256 {
			s := string([]byte{byte(first), byte(second)})
			switch {
			case first < 128:
				wantVar(t, s, 0, uint64(first), 1)
			case second == 0 || second >= 128:
				wantNoVar(t, s, 0)
			default:
				wantVar(t, s, 0, uint64(first-128+128*second), 2)
			}
		}
	}
}

func TestEachLastByteOfTen(t *testing.T) {
	for _, nine := range []string{strings.Repeat("\x80", 9), strings.Repeat("\xff", 9), "\x81\x82\x83\x84\x85\x86\x87\x88\x89"} {
		for last := range 256 {
			s := nine + string([]byte{byte(last)})
			if last != 1 {
				wantNoVar(t, s, 0)
				continue
			}
			n, _ := binary.Uvarint([]byte(s))
			wantVar(t, s, 0, n, 10)
		}
	}
}

func TestTextsOfMaxBytesAndOneMore(t *testing.T) {
	for _, v := range knownVars() {
		fill := strings.Repeat("\x01", impl.MaxBytes-len(v.text))
		wantVar(t, v.text+fill, 0, v.n, len(v.text))
		wantVar(t, fill+v.text, len(fill), v.n, impl.MaxBytes)
		wantVar(t, fill[:100]+v.text+fill[100:], 100, v.n, 100+len(v.text))
		for _, more := range []int{1, 2, 100, 100000} {
			over := strings.Repeat("\x01", more)
			wantNoVar(t, v.text+fill+over, 0)
			wantNoVar(t, over+fill+v.text, len(over)+len(fill))
			wantNoVar(t, over+fill+v.text, 0)
			wantNoVar(t, over+fill+v.text, impl.MaxBytes)
		}
	}
}

func TestZigAndZag(t *testing.T) {
	cases := []struct {
		n int
		u uint64
	}{
		{0, 0}, {-1, 1}, {1, 2}, {-2, 3}, {2, 4}, {-3, 5}, {63, 126}, {-64, 127}, {64, 128}, {-65, 129}, {1000000, 2000000}, {-1000000, 1999999},
		{1<<31 - 1, 1<<32 - 2}, {-1 << 31, 1<<32 - 1}, {1 << 31, 1 << 32}, {1<<62 - 1, 1<<63 - 2}, {-1 << 62, 1<<63 - 1}, {1 << 62, 1 << 63}, {-1<<62 - 1, 1<<63 + 1},
		{math.MaxInt - 1, math.MaxUint64 - 3}, {math.MinInt + 1, math.MaxUint64 - 2}, {math.MaxInt, math.MaxUint64 - 1}, {math.MinInt, math.MaxUint64},
	}
	for _, c := range cases {
		if u := impl.ZigOf(c.n); u != c.u {
			t.Errorf("ZigOf %d: %d, not %d", c.n, u, c.u)
		}
		if n := impl.ZagOf(c.u); n != c.n {
			t.Errorf("ZagOf %d: %d, not %d", c.u, n, c.n)
		}
	}
}

// zigByBig is what the document says, with numbers that have no bounds.
func zigByBig(n int) uint64 {
	twice := new(big.Int).Lsh(new(big.Int).Abs(big.NewInt(int64(n))), 1)
	if n < 0 {
		twice.Sub(twice, big.NewInt(1))
	}
	return twice.Uint64()
}

func TestZigAndZagOfScatteredNumbers(t *testing.T) {
	for n := -3000; n <= 3000; n++ {
		if u := impl.ZigOf(n); u != zigByBig(n) || impl.ZagOf(u) != n {
			t.Errorf("ZigOf %d: %d, and back %d", n, u, impl.ZagOf(u))
		}
	}
	for _, u := range scatteredNumbers(2000) {
		for _, n := range []int{int(u), -int(u)} {
			if z := impl.ZigOf(n); z != zigByBig(n) || impl.ZagOf(z) != n {
				t.Errorf("ZigOf %d: %d, and back %d", n, z, impl.ZagOf(z))
			}
		}
		if n := impl.ZagOf(u); zigByBig(n) != u || impl.ZigOf(n) != u {
			t.Errorf("ZagOf %d: %d", u, n)
		}
	}
}

func TestFlipBits(t *testing.T) {
	cases := []struct{ u, want uint64 }{
		{0, 0}, {1, 1 << 63}, {1 << 63, 1}, {math.MaxUint64, math.MaxUint64}, {2, 1 << 62}, {6, 3 << 61}, {1 << 31, 1 << 32}, {1<<63 | 1, 1<<63 | 1},
		{0x00000000ffffffff, 0xffffffff00000000}, {0x5555555555555555, 0xaaaaaaaaaaaaaaaa}, {0x0123456789abcdef, 0xf7b3d591e6a2c480},
	}
	for _, c := range cases {
		if got := impl.FlipBits(c.u); got != c.want {
			t.Errorf("FlipBits %x: %x, not %x", c.u, got, c.want)
		}
	}
	for place := range 64 {
		if got := impl.FlipBits(1 << place); got != 1<<(63-place) {
			t.Errorf("FlipBits of bit %d alone: %x", place, got)
		}
		if got := impl.FlipBits(^uint64(1 << place)); got != ^uint64(1<<(63-place)) {
			t.Errorf("FlipBits of all but bit %d: %x", place, got)
		}
	}
	for _, u := range scatteredNumbers(2000) {
		turned := impl.FlipBits(u)
		for place := range 64 {
			if u>>place&1 != turned>>(63-place)&1 {
				t.Errorf("FlipBits %x: %x", u, turned)
			}
		}
		if back := impl.FlipBits(turned); back != u {
			t.Errorf("FlipBits twice %x: %x", u, back)
		}
	}
}

// round brings a number into the bounds of an int, as the document says.
func round(n *big.Int) int {
	whole := new(big.Int).Lsh(big.NewInt(1), 64)
	half := new(big.Int).Lsh(big.NewInt(1), 63)
	n = new(big.Int).Mod(new(big.Int).Add(n, half), whole)
	return int(n.Sub(n, half).Int64())
}

// changesByBig is what of a list is written behind its count, with numbers that have no bounds until the end.
func changesByBig(l []int) []int {
	var changes []int
	ahead, step := new(big.Int), new(big.Int)
	for i, n := range l {
		now := big.NewInt(int64(n))
		change := new(big.Int).Sub(now, ahead)
		if i > 0 {
			next := new(big.Int).Set(change)
			change.Sub(change, step)
			step = next
		}
		changes = append(changes, round(change))
		ahead = now
	}
	return changes
}

// listText is the bytes of changes, be they too many or not.
func listText(changes []int) string {
	text := binary.AppendUvarint(nil, uint64(len(changes)))
	for _, n := range changes {
		text = binary.AppendUvarint(text, zigByBig(n))
	}
	return string(text)
}

// listOfChanges is the list of which changesByBig makes these.
func listOfChanges(changes []int) []int {
	var l []int
	n, step := 0, 0
	for i, change := range changes {
		if i == 0 {
			n = change
		} else {
			step += change
			n += step
		}
		l = append(l, n)
	}
	return l
}

func rowOf(many int, of func(i int) int) []int {
	var l []int
	for i := range many {
		l = append(l, of(i))
	}
	return l
}

func wantNoPut(t *testing.T, l []int) {
	t.Helper()
	if s, ok := impl.PutList(l); s != "" || ok {
		t.Errorf("PutList of %d numbers: %d bytes, %v", len(l), len(s), ok)
	}
}

func wantNoList(t *testing.T, s string) {
	t.Helper()
	if l, ok := impl.ReadList(s); len(l) != 0 || ok {
		t.Errorf("ReadList %.60q (%d bytes): %v, %v", s, len(s), l, ok)
	}
}

func wantList(t *testing.T, s string, want []int) {
	t.Helper()
	if l, ok := impl.ReadList(s); !slices.Equal(l, want) || !ok {
		t.Errorf("ReadList %.60q: %v, %v, not %v", s, l, ok, want)
	}
}

func TestPutListAndReadList(t *testing.T) {
	const most, least = math.MaxInt, math.MinInt
	nineFull := strings.Repeat("\xff", 9)
	cases := []struct {
		l    []int
		text string
	}{
		{nil, "\x00"},
		{[]int{}, "\x00"},
		{[]int{0}, "\x01\x00"},
		{[]int{-1}, "\x01\x01"},
		{[]int{1}, "\x01\x02"},
		{[]int{64}, "\x01\x80\x01"},
		{[]int{most}, "\x01\xfe" + nineFull[1:] + "\x01"},
		{[]int{least}, "\x01" + nineFull + "\x01"},
		// Of the second one nothing is taken off.
		{[]int{5, 5}, "\x02\x0a\x00"},
		{[]int{5, 8}, "\x02\x0a\x06"},
		{[]int{8, 5}, "\x02\x10\x05"},
		{[]int{0, 7}, "\x02\x00\x0e"},
		{[]int{7, 0}, "\x02\x0e\x0d"},
		{[]int{10, 20, 30, 41}, "\x04\x14\x14\x00\x02"},
		{[]int{10, 20, 20, 20}, "\x04\x14\x14\x13\x00"},
		{[]int{3, 2, 1, 0, -1}, "\x05\x06\x01\x00\x00\x00"},
		{[]int{-5, -7, -10, -14}, "\x04\x09\x03\x01\x01"},
		{[]int{4, 4, 4}, "\x03\x08\x00\x00"},
		{[]int{1, 2, 4, 8}, "\x04\x02\x02\x02\x04"},
		// Differences that go round.
		{[]int{most, least}, "\x02\xfe" + nineFull[1:] + "\x01\x02"},
		{[]int{least, most}, "\x02" + nineFull + "\x01\x01"},
		{[]int{0, least}, "\x02\x00" + nineFull + "\x01"},
		{[]int{least, 0}, "\x02" + nineFull + "\x01" + nineFull + "\x01"},
		{[]int{most, least, most}, "\x03\xfe" + nineFull[1:] + "\x01\x02\x03"},
		{[]int{least, most, least}, "\x03" + nineFull + "\x01\x01\x04"},
		{[]int{0, most, 0}, "\x03\x00\xfe" + nineFull[1:] + "\x01\x04"},
		{[]int{0, least, 0}, "\x03\x00" + nineFull + "\x01\x00"},
		{[]int{-1, most, -1}, "\x03\x01" + nineFull + "\x01\x00"},
	}
	for _, c := range cases {
		if s, ok := impl.PutList(c.l); s != c.text || !ok {
			t.Errorf("PutList %v: %q, %v, not %q", c.l, s, ok, c.text)
		}
		wantList(t, c.text, c.l)
	}
}

// listsOfAllKinds rise, fall, stand still and turn, by little and by much, up to 60 numbers.
func listsOfAllKinds() [][]int {
	kinds := []func(i int) int{
		func(i int) int { return 0 },
		func(i int) int { return -9 },
		func(i int) int { return math.MinInt },
		func(i int) int { return math.MaxInt },
		func(i int) int { return i },
		func(i int) int { return -i },
		func(i int) int { return 1000000 - 15*i },
		func(i int) int { return i * i * i },
		func(i int) int { return 1 << i },
		func(i int) int { return -1 << i },
		func(i int) int { return math.MaxInt - 30 + i },
		func(i int) int { return math.MinInt + 30 - i },
		func(i int) int { return 3*i - i%2*7 },
		func(i int) int { return i / 4 * 64 },
		func(i int) int { return i % 3 * 1000 },
		func(i int) int { return i * (math.MaxInt / 7) },
		func(i int) int { return [...]int{math.MinInt, 0, math.MaxInt, -1, 1}[i%5] },
		func(i int) int { return [...]int{math.MinInt, math.MaxInt}[i%2] },
	}
	bits, numbers := scatteredBits(200), scatteredNumbers(200)
	for width := range 64 {
		kinds = append(kinds, func(i int) int { return int(bits[i+width]) >> width })
		kinds = append(kinds, func(i int) int { return int(numbers[i+width]) })
	}
	var lists [][]int
	for _, kind := range kinds {
		for _, many := range []int{0, 1, 2, 3, 4, 8, 20, 39, 40, 59, 60} {
			lists = append(lists, rowOf(many, kind))
		}
	}
	return lists
}

func TestListsAreReadBack(t *testing.T) {
	put, refused := 0, 0
	for _, l := range listsOfAllKinds() {
		want := listText(changesByBig(l))
		if len(want) > impl.MaxBytes {
			refused++
			wantNoPut(t, l)
			wantNoList(t, want)
			continue
		}
		put++
		if s, ok := impl.PutList(l); s != want || !ok {
			t.Errorf("PutList %v: %q, %v, not %q", l, s, ok, want)
		}
		wantList(t, want, l)
	}
	if put < 500 || refused < 20 {
		t.Errorf("%d lists put, %d refused", put, refused)
	}
}

func TestListsOf60AndMore(t *testing.T) {
	for _, many := range []int{61, 62, 120, 127, 128, 1000} {
		for _, l := range [][]int{rowOf(many, func(i int) int { return 0 }), rowOf(many, func(i int) int { return i })} {
			wantNoPut(t, l)
			wantNoList(t, listText(changesByBig(l)))
		}
	}
	most := rowOf(mostOfList, func(i int) int { return i })
	text := "<\x00\x02" + strings.Repeat("\x00", 58)
	if s, ok := impl.PutList(most); s != text || !ok {
		t.Errorf("PutList of 60: %q, %v", s, ok)
	}
	wantList(t, text, most)
	wantNoList(t, "="+text[1:]+"\x00")
}

// changeOf has so many bytes, 1..10.
func changeOf(bytes int, turn int) int {
	if bytes == 10 {
		return [...]int{math.MinInt, math.MaxInt, 1 << 62, -1<<62 - 1}[turn%4]
	}
	edge := 1 << (7*bytes - 1)
	return [...]int{edge - 1, -edge, edge / 2, -edge/2 - 1}[turn%4]
}

// changesOfBytes are so many changes that with their count have so many bytes.
func changesOfBytes(many int, bytes int) []int {
	var changes []int
	left := bytes - 1
	for i := range many {
		wide := min(10, left-(many-i-1))
		changes = append(changes, changeOf(wide, i))
		left -= wide
	}
	return changes
}

func TestListsOfMaxBytesAndMore(t *testing.T) {
	for many := 40; many <= mostOfList; many++ {
		for bytes := impl.MaxBytes - 2; bytes <= 10*many+1; bytes++ {
			changes := changesOfBytes(many, bytes)
			l, text := listOfChanges(changes), listText(changes)
			if len(l) != many || len(text) != bytes || !slices.Equal(changesByBig(l), changes) {
				t.Fatalf("%d numbers in %d bytes: the test is amiss", len(l), len(text))
			}
			if bytes > impl.MaxBytes {
				wantNoPut(t, l)
				wantNoList(t, text)
				continue
			}
			if s, ok := impl.PutList(l); s != text || !ok {
				t.Errorf("PutList of %d bytes: %d bytes, %v", bytes, len(s), ok)
			}
			wantList(t, text, l)
		}
	}
}

// numbersPlainly are the numbers whose bytes a text is, by the library.
func numbersPlainly(s string) ([]uint64, bool) {
	var read []uint64
	for rest := []byte(s); len(rest) > 0; {
		n, long := binary.Uvarint(rest)
		if long <= 0 || long > 1 && rest[long-1] == 0 {
			return nil, false
		}
		read, rest = append(read, n), rest[long:]
	}
	return read, true
}

// readPlainly tells what list a text is PutList of, by the library's numbers.
func readPlainly(s string) ([]int, bool) {
	read, ok := numbersPlainly(s)
	if !ok || len(s) > impl.MaxBytes || len(read) == 0 || len(read) > mostOfList+1 || read[0] != uint64(len(read)-1) {
		return nil, false
	}
	return listOfChanges(zagsPlainly(read[1:])), true
}

// zagsPlainly are the numbers with a sign of which others are ZigOf.
func zagsPlainly(l []uint64) []int {
	var zags []int
	for _, u := range l {
		n := int(u / 2)
		if u%2 == 1 {
			n = -n - 1
		}
		zags = append(zags, n)
	}
	return zags
}

// wantAsPlainly is whether a text is read, which it must be just where it comes out again as it was.
func wantAsPlainly(t *testing.T, s string) bool {
	t.Helper()
	want, is := readPlainly(s)
	if !is {
		wantNoList(t, s)
		return false
	}
	wantList(t, s, want)
	if back, ok := impl.PutList(want); back != s || !ok {
		t.Errorf("PutList %v: %q, %v, not %q", want, back, ok, s)
	}
	return true
}

func TestTextsThatAreNoPutList(t *testing.T) {
	texts := []string{
		// Nothing at all, or not as many as told.
		"", "\x01", "\x02", "\x02\x00", "\x00\x00", "\x01\x00\x00", "\x02\x00\x00\x00", "\x03\x00\x00", "\x7f", "<", "<\x00",
		// Numbers with more bytes than they need, the count among them.
		"\x80\x00", "\x81\x00\x00", "\x01\x80\x00", "\x01\x81\x00", "\x02\x00\x80\x00", "\x02\x80\x00\x00", "\x82\x00\x00\x00", "\x80\x80\x00",
		// Texts that end in a number.
		"\x80", "\xff", "\x01\x80", "\x02\x00\x80", "\x02\x80\x01", "\x01" + strings.Repeat("\xff", 9),
		// Counts that no list has.
		"=" + strings.Repeat("\x00", 61), "\x80\x01" + strings.Repeat("\x00", 128), "\x7f" + strings.Repeat("\x00", 127), "\xff\xff\xff\xff\x07", "\x80\x80\x80\x80\x10",
		"\xff\xff\xff\xff\xff\xff\xff\xff\xff\x01", "\x80\x80\x80\x80\x80\x80\x80\x80\x80\x01", "\xff\xff\xff\xff\xff\xff\xff\xff\x7f", "\x81\x80\x80\x80\x80\x80\x80\x80\x80\x01\x00",
		"\x80\x02" + strings.Repeat("\x00", 256), "\x81\x02\x00", "\x81\x80\x80\x80\x10\x00", "\x8e\x03" + strings.Repeat("\x00", 398),
		// Beyond MaxBytes, behind a list that is good too.
		"\x00" + strings.Repeat("\x00", impl.MaxBytes), "\x01\x00" + strings.Repeat("\x00", impl.MaxBytes), strings.Repeat("\x01", impl.MaxBytes), strings.Repeat("\x01", impl.MaxBytes+1),
		strings.Repeat("\x00", 1000000), strings.Repeat("\x80", 1000000), strings.Repeat("\xff", 1000000), strings.Repeat("\x80", impl.MaxBytes),
	}
	for _, bad := range badVars() {
		texts = append(texts, bad, "\x01"+bad, "\x02\x00"+bad, "\x02"+bad+"\x00", bad+"\x00")
	}
	for _, s := range texts {
		wantNoList(t, s)
		if _, is := readPlainly(s); is {
			t.Errorf("%.60q is a PutList: the test is amiss", s)
		}
	}
}

func TestAllSmallTextsAsLists(t *testing.T) {
	texts := textsOver("\x00\x01\x02\x03\x7f\x80\x81\xff", 5)
	read := 0
	for _, s := range texts {
		if wantAsPlainly(t, s) {
			read++
		}
	}
	if read == 0 || read == len(texts) {
		t.Errorf("%d of %d texts are read", read, len(texts))
	}
}

// TestOneByteAmissInPutList tries each byte at each place of some texts: more, less, or another one.
func TestOneByteAmissInPutList(t *testing.T) {
	lists := [][]int{
		nil, {0}, {-1, 7}, {10, 20, 30, 41}, {64, -64, 8192, -8192}, {math.MinInt, math.MaxInt, 0}, {1 << 62, 0, 1 << 40, -3, 1 << 21},
		rowOf(8, func(i int) int { return 1000*i - 1000000 }), rowOf(mostOfList, func(i int) int { return 2 * i }), listOfChanges(changesOfBytes(41, impl.MaxBytes)),
	}
	for _, l := range lists {
		text, _ := impl.PutList(l)
		read := 0
		for _, s := range oneByteAmiss(text) {
			if wantAsPlainly(t, s) {
				read++
			}
		}
		for long := range len(text) {
			wantNoList(t, text[:long])
		}
		if len(l) > 0 && read == 0 {
			t.Errorf("of texts like %q none is read", text)
		}
	}
}

func callAllOfLists(l []int) string {
	text, ok := impl.PutList(l)
	read, fine := impl.ReadList(text)
	return fmt.Sprintf("%q, %v, %v, %v", text, ok, read, fine)
}

func TestListsOfNumbersAreLeftAsTheyWere(t *testing.T) {
	lists := append(listsOfAllKinds(), rowOf(61, func(i int) int { return i * i }), rowOf(500, func(i int) int { return i }))
	for _, list := range lists {
		// What lies behind the length must be neither read nor written.
		room := append(slices.Clone(list), 7, math.MinInt, -5, math.MaxInt)
		was := slices.Clone(room)
		l := room[:len(list)]
		got := callAllOfLists(l)
		if want := callAllOfLists(slices.Clone(list)); got != want {
			t.Errorf("%v: %s with more behind, %s without", l, got, want)
		}
		if again := callAllOfLists(l); again != got {
			t.Errorf("%v: %s, then %s", l, got, again)
		}
		if !slices.Equal(room, was) {
			t.Errorf("%v was written into: %v", was, room)
		}
	}
}

func TestListsThatAreReadAreNewMemory(t *testing.T) {
	for _, l := range listsOfAllKinds() {
		text, ok := impl.PutList(l)
		if !ok {
			continue
		}
		first, _ := impl.ReadList(text)
		second, _ := impl.ReadList(text)
		// Nothing of what the list was read into may be handed out behind its length.
		if behind := first[len(first):cap(first)]; len(behind) > 0 {
			t.Errorf("ReadList %.60q: %v behind the list", text, behind)
		}
		for i := range first {
			first[i]++
		}
		if !slices.Equal(second, l) {
			t.Errorf("ReadList %.60q: the second answer is %v now, not %v", text, second, l)
		}
		wantList(t, text, l)
	}
}
