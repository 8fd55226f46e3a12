package impl

import (
	"math"
	"strconv"
	"strings"
)

const (
	VlNan = iota
	VlInf
	VlZero
	VlSmall
	VlPlain
)

const (
	maxValues  = 200
	textDigits = 16

	signBit      = 1 << 63
	exponentBits = 0x7ff0000000000000
	fractionBits = 0x000fffffffffffff

	reckonedNan = 0x7ff8000000000001
	staleBits   = 0x7ff0000000000002
)

func BitsOf(x float64) uint64 {
	return math.Float64bits(x)
}

func FromBits(b uint64) float64 {
	return math.Float64frombits(b)
}

func SameValue(x float64, y float64) bool {
	return BitsOf(x) == BitsOf(y)
}

func KindOf(x float64) int {
	exponent := BitsOf(x) & exponentBits
	fraction := BitsOf(x) & fractionBits
	switch {
	case exponent == exponentBits && fraction != 0:
		return VlNan
	case exponent == exponentBits:
		return VlInf
	case exponent == 0 && fraction == 0:
		return VlZero
	case exponent == 0:
		return VlSmall
	}
	return VlPlain
}

func LessValue(x float64, y float64) bool {
	xIsNan := KindOf(x) == VlNan
	yIsNan := KindOf(y) == VlNan
	if xIsNan != yIsNan {
		return yIsNan
	}
	if xIsNan {
		return BitsOf(x) < BitsOf(y)
	}
	return rankOf(x) < rankOf(y)
}

// rankOf turns the bits of a value that is no NaN into a number that rises with it.
// A plain < cannot tell -0 from 0, and the bits alone run backwards below 0.
func rankOf(x float64) uint64 {
	bits := BitsOf(x)
	if bits&signBit != 0 {
		return ^bits
	}
	return bits | signBit
}

func ValueText(x float64) string {
	digits := strconv.FormatUint(BitsOf(x), 16)
	return strings.Repeat("0", textDigits-len(digits)) + digits
}

func ReadValue(s string) (float64, bool) {
	bits, err := strconv.ParseUint(s, 16, 64)
	if err != nil {
		return 0, false
	}
	x := FromBits(bits)
	// ParseUint takes fewer and more digits too, and A to F, which no ValueText has.
	if ValueText(x) != s {
		return 0, false
	}
	return x, true
}

func SumValues(l []float64) (float64, bool) {
	if len(l) > maxValues {
		return 0, false
	}
	sum := 0.0
	for _, x := range l {
		sum += x
	}
	return reckoned(sum), true
}

// reckoned gives every NaN that comes of reckoning the same bits,
// since those that the machine makes hang on its order of operands.
func reckoned(x float64) float64 {
	if KindOf(x) == VlNan {
		return FromBits(reckonedNan)
	}
	return x
}

func RangeOf(l []float64) (float64, float64, bool) {
	if len(l) > maxValues {
		return 0, 0, false
	}
	least, most, found := 0.0, 0.0, false
	for _, x := range l {
		if KindOf(x) == VlNan {
			continue
		}
		if !found || LessValue(x, least) {
			least = x
		}
		if !found || LessValue(most, x) {
			most = x
		}
		found = true
	}
	return least, most, found
}

func MarkStale() float64 {
	return FromBits(staleBits)
}

func IsStale(x float64) bool {
	return BitsOf(x) == staleBits
}
