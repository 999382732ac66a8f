package impl

import (
	"cmp"
	"math/bits"
)

const MaxDigits = 64

const (
	digitBits   = 16
	topDigit    = 1<<digitBits - 1
	maxNatBytes = 2 * MaxDigits
	maxIntBits  = 62
	digitsOfInt = 4
)

func NatOk(a []int) bool {
	if len(a) > MaxDigits {
		return false
	}
	for _, d := range a {
		if d < 0 || d > topDigit {
			return false
		}
	}
	return len(a) == 0 || a[len(a)-1] != 0
}

func NatOf(n int) ([]int, bool) {
	if n < 0 {
		return []int{}, false
	}
	digits := make([]int, digitsOfInt)
	for i := range digits {
		digits[i] = n >> (digitBits * i) & topDigit
	}
	return withoutNoughts(digits), true
}

func NatInt(a []int) (int, bool) {
	if !NatOk(a) || digitsBits(a) > maxIntBits {
		return 0, false
	}
	n := 0
	for i, d := range a {
		n += d << (digitBits * i)
	}
	return n, true
}

func NatCompare(a []int, b []int) int {
	if !NatOk(a) || !NatOk(b) {
		return -2
	}
	return compareDigits(a, b)
}

func NatAdd(a []int, b []int) ([]int, bool) {
	if !NatOk(a) || !NatOk(b) {
		return []int{}, false
	}
	return withinMaxDigits(digitsSum(a, b))
}

func NatSub(a []int, b []int) ([]int, bool) {
	if !NatOk(a) || !NatOk(b) || compareDigits(a, b) < 0 {
		return []int{}, false
	}
	return digitsDifference(a, b), true
}

func NatMul(a []int, b []int) ([]int, bool) {
	if !NatOk(a) || !NatOk(b) {
		return []int{}, false
	}
	return withinMaxDigits(digitsProduct(a, b))
}

func NatDiv(a []int, b []int) ([]int, []int, bool) {
	if !NatOk(a) || !NatOk(b) || len(b) == 0 {
		return []int{}, []int{}, false
	}
	often, rest := divideDigits(a, b)
	return often, rest, true
}

func NatBits(a []int) int {
	if !NatOk(a) {
		return -1
	}
	return digitsBits(a)
}

func NatBytes(a []int, size int) ([]byte, bool) {
	if !NatOk(a) || size < 0 || size > maxNatBytes || digitsBits(a) > 8*size {
		return []byte{}, false
	}
	told := make([]byte, size)
	for i := 0; i < size && i/2 < len(a); i++ {
		told[size-1-i] = byte(a[i/2] >> (8 * (i % 2)))
	}
	return told, true
}

func NatRead(b []byte) ([]int, bool) {
	if len(b) > maxNatBytes {
		return []int{}, false
	}
	digits := make([]int, (len(b)+1)/2)
	for i := range b {
		digits[i/2] |= int(b[len(b)-1-i]) << (8 * (i % 2))
	}
	return withoutNoughts(digits), true
}

// digitKind leaves out kinds in which a digit, another one and a carry would wrap round.
type digitKind interface {
	~int | ~int64 | ~uint32 | ~uint64
}

// addDigits adds more, which is no longer than sum, into sum; what goes over sum's end is dropped.
func addDigits[D digitKind](sum []D, more []D) {
	carry := D(0)
	for i := range sum {
		carry += sum[i]
		if i < len(more) {
			carry += more[i]
		}
		sum[i] = carry & topDigit
		carry >>= digitBits
	}
}

// takeTimes takes less, which is no longer than from, so many times (at most 65536) out of from, and answers what was lacking above from's end.
func takeTimes(from []int, less []int, times int) int {
	lacking := 0
	for i := range from {
		left := from[i] - lacking
		if i < len(less) {
			left -= times * less[i]
		}
		from[i] = left & topDigit
		lacking = -(left >> digitBits)
	}
	return lacking
}

func digitsSum(a []int, b []int) []int {
	// One digit of room above both takes the last carry.
	sum := digitsCopy(a, max(len(a), len(b))+1)
	addDigits(sum, b)
	return withoutNoughts(sum)
}

// digitsDifference wants an a that is not below b.
func digitsDifference(a []int, b []int) []int {
	rest := digitsCopy(a, len(a))
	takeTimes(rest, b, 1)
	return withoutNoughts(rest)
}

// digitsProduct knows no limit, so that what is left of a long product can still be reckoned.
func digitsProduct(a []int, b []int) []int {
	product := make([]int, len(a)+len(b))
	for i, d := range a {
		carry := 0
		for j, e := range b {
			carry += product[i+j] + d*e
			product[i+j] = carry & topDigit
			carry >>= digitBits
		}
		product[i+len(b)] = carry
	}
	return withoutNoughts(product)
}

// divideDigits takes an a of any length; b is not 0, and neither has a nought at its end.
func divideDigits(a []int, b []int) ([]int, []int) {
	if compareDigits(a, b) < 0 {
		return []int{}, digitsCopy(a, len(a))
	}
	if len(b) == 1 {
		return divideByDigit(a, b[0])
	}
	return divideLong(a, b)
}

func divideByDigit(a []int, b int) ([]int, []int) {
	often := make([]int, len(a))
	rest := 0
	for i := len(a) - 1; i >= 0; i-- {
		rest = rest<<digitBits | a[i]
		often[i] = rest / b
		rest %= b
	}
	return withoutNoughts(often), withoutNoughts([]int{rest})
}

// divideLong is long division by a divisor of two digits or more.
func divideLong(a []int, b []int) ([]int, []int) {
	// One digit of room above a lets the highest step be like the others.
	rest := digitsCopy(a, len(a)+1)
	often := make([]int, len(a)-len(b)+1)
	for i := len(often) - 1; i >= 0; i-- {
		end := i + len(b) + 1
		often[i] = takeMost(rest[i:end:end], b)
	}
	return withoutNoughts(often), withoutNoughts(rest)
}

// takeMost takes b out of a as often as it goes in, and answers how often. That is a digit: a is one digit longer than b, and less than b one place up.
func takeMost(a []int, b []int) int {
	often := guessDigit(a, b)
	if takeTimes(a, b, often) > 0 {
		// The guess was one too high; what goes over the end cancels what was lacking.
		addDigits(a, b)
		often--
	}
	return often
}

// guessDigit tells how often b goes into a, or one more: b's two highest digits are at least 65536, which is more than the answer, so the digits below them shift it by less than one further.
func guessDigit(a []int, b []int) int {
	n := len(b)
	high := a[n]<<(2*digitBits) | a[n-1]<<digitBits | a[n-2]
	return high / (b[n-1]<<digitBits | b[n-2])
}

// compareDigits wants no nought at either's end: the longer one is the greater one.
func compareDigits(a []int, b []int) int {
	if len(a) != len(b) {
		return cmp.Compare(len(a), len(b))
	}
	for i := len(a) - 1; i >= 0; i-- {
		if a[i] != b[i] {
			return cmp.Compare(a[i], b[i])
		}
	}
	return 0
}

func digitsBits(a []int) int {
	if len(a) == 0 {
		return 0
	}
	last := len(a) - 1
	return digitBits*last + bits.Len(uint(a[last]))
}

func digitsCopy(a []int, size int) []int {
	made := make([]int, size)
	copy(made, a)
	return made
}

// withoutNoughts cuts the room behind the last digit off too, so that it is not handed out.
func withoutNoughts(a []int) []int {
	n := len(a)
	for n > 0 && a[n-1] == 0 {
		n--
	}
	return a[:n:n]
}

func withinMaxDigits(a []int) ([]int, bool) {
	if len(a) > MaxDigits {
		return []int{}, false
	}
	return a, true
}
