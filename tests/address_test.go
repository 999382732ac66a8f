package tests

import (
	"fmt"
	"math"
	"net/netip"
	"slices"
	"strings"
	"testing"

	"loop.example/g00148/impl"
)

// addressOf is read by the library; nothing where s is none.
func addressOf(s string) []int {
	address, err := netip.ParseAddr(s)
	if err != nil || !address.Is4() {
		return nil
	}
	four := address.As4()
	return []int{int(four[0]), int(four[1]), int(four[2]), int(four[3])}
}

func addressText(a []int) string {
	return fmt.Sprintf("%d.%d.%d.%d", a[0], a[1], a[2], a[3])
}

// readsAddress wants just this one, or none.
func readsAddress(t *testing.T, s string, want []int) {
	t.Helper()
	got, ok := impl.ReadAddress(s)
	sameList(t, fmt.Sprintf("ReadAddress(%q)", s), got, want)
	if ok != (len(want) > 0) {
		t.Errorf("ReadAddress(%q): %v", s, ok)
	}
}

func writesAddress(t *testing.T, a []int, want string) {
	t.Helper()
	got, ok := impl.WriteAddress(a)
	if got != want || ok != (want != "") {
		t.Errorf("WriteAddress(%v): got %q %v, want %q", a, got, ok, want)
	}
}

func addressComesBack(t *testing.T, a []int) {
	t.Helper()
	text := addressText(a)
	writesAddress(t, a, text)
	readsAddress(t, text, a)
}

// addresses are of the edges of each number.
func addresses() [][]int {
	list := [][]int{}
	edges := []int{0, 1, 9, 10, 99, 100, 128, 255}
	for _, first := range edges {
		for _, second := range edges {
			for _, third := range edges {
				for _, fourth := range edges {
					list = append(list, []int{first, second, third, fourth})
				}
			}
		}
	}
	return list
}

func TestAddressesComeBack(t *testing.T) {
	for _, a := range addresses() {
		addressComesBack(t, a)
	}
	for n := range 256 {
		for other := range 256 {
			addressComesBack(t, []int{n, other, 255 - n, other ^ n})
			addressComesBack(t, []int{other ^ n, 0, n, other})
		}
	}
	s := turn(310)
	for range 50000 {
		addressComesBack(t, []int{s.below(256), s.below(256), s.below(256), s.below(256)})
	}
}

func TestReadAddressByHand(t *testing.T) {
	readsAddress(t, "0.0.0.0", []int{0, 0, 0, 0})
	readsAddress(t, "10.0.0.255", []int{10, 0, 0, 255})
	readsAddress(t, "255.255.255.255", []int{255, 255, 255, 255})
	readsAddress(t, "192.168.1.20", []int{192, 168, 1, 20})
	wrong := []string{
		"", ".", "...", "....", "1", "1.2", "1.2.3", "1.2.3.4.5", "1.2.3.4.", ".1.2.3.4", "1..2.3.4", "1.2..3", "1.2.3..", "..1.2", "1...2", "1.2.3.", ".1.2.3", "1,2,3,4", "1.2.3,4", "1.2.3:4",
		"::1", "::ffff:1.2.3.4", "1.2.3.4%eth0", "a.b.c.d", "1.2.3.a", "0x1.2.3.4", "1e1.2.3.4", "1_0.2.3.4", "1.2.3.4/8", "4294967295", "1.2.3.4\x00", "\x001.2.3.4", "1.2.3.4\n",
		"1.2.3.18446744073709551617", "18446744073709551616.0.0.0", "1.2.3.99999999999999999999", "-9223372036854775808.0.0.0", "1.2.3.4 ", " 1.2.3.4", "1. 2.3.4", "1 .2.3.4", "٠.٠.٠.٠", "１.2.3.4", "1.2.3.\xff", "\x80.2.3.4", "1。2。3。4", "255.255.255.2550", "255.255.255.255.", "255.255.255.255.255",
	}
	for _, s := range wrong {
		readsAddress(t, s, nil)
	}
}

func TestReadAddressNumbers(t *testing.T) {
	numbers := []string{"", "00", "01", "000", "001", "010", "0255", "256", "257", "260", "300", "999", "1000", "0000", "2550", "-0", "-1", "+0", "+1", "1+", "1-", " ", " 1", "1 ", "a", "1a", "\x00", "1\x80", "é", "0x1", "1e1", "1_1", "*", "-"}
	for _, number := range numbers {
		for place := range 4 {
			parts := []string{"1", "2", "3", "4"}
			parts[place] = number
			readsAddress(t, strings.Join(parts, "."), nil)
			parts = []string{"0", "0", "0", "0"}
			parts[place] = number
			readsAddress(t, strings.Join(parts, "."), nil)
		}
	}
	for n := range 2000 {
		for place := range 4 {
			a := []int{1, 20, 3, 0}
			a[place] = n
			if n < 256 {
				addressComesBack(t, a)
			} else {
				readsAddress(t, addressText(a), nil)
			}
		}
	}
	for many := range 10 {
		text := strings.TrimSuffix(strings.Repeat("7.", many), ".")
		if many == 4 {
			readsAddress(t, text, []int{7, 7, 7, 7})
		} else {
			readsAddress(t, text, nil)
		}
	}
}

func TestReadEachShortAddress(t *testing.T) {
	seen := tally{}
	check := func(text []byte) {
		want := addressOf(string(text))
		readsAddress(t, string(text), want)
		seen.count(want != nil)
		if want != nil {
			writesAddress(t, want, string(text))
		}
	}
	for size := range 3 {
		eachText(allBytes(), size, check)
	}
	for size := 3; size <= 8; size++ {
		eachText([]byte("0.256"), size, check)
	}
	for size := 9; size <= 11; size++ {
		eachText([]byte("0.1"), size, check)
	}
	for i, a := range addresses() {
		if i%7 != 0 {
			continue
		}
		text := []byte(addressText(a))
		for at := range text {
			for _, other := range append(otherTexts(text, at), slices.Insert(slices.Clone(text), at, '0'), slices.Insert(slices.Clone(text), at, '.'), slices.Insert(slices.Clone(text), at, '-'), slices.Insert(slices.Clone(text), at, '+')) {
				check(other)
			}
		}
	}
	seen.enough(t, 1000)
}

// wrongAddresses are lists that are none, each for one reason.
func wrongAddresses() [][]int {
	list := [][]int{nil, {}, {1}, {1, 2}, {1, 2, 3}, {1, 2, 3, 4, 5}, {0, 0, 0, 0, 0}, many(0, 8), many(0, 16), many(255, 100)}
	for place := range 4 {
		for _, n := range []int{-1, -255, -256, 256, 257, 511, 512, 1 << 16, 1 << 32, 1<<32 + 1, math.MaxInt, math.MinInt} {
			a := []int{1, 2, 3, 4}
			a[place] = n
			list = append(list, a)
		}
	}
	return list
}

func TestWrongAddresses(t *testing.T) {
	for _, a := range wrongAddresses() {
		writesAddress(t, a, "")
	}
}

func saysInNet(t *testing.T, net []int, bits int, a []int, want bool) {
	t.Helper()
	if got := impl.InNet(net, bits, a); got != want {
		t.Errorf("InNet(%v, %d, %v): got %v, want %v", net, bits, a, got, want)
	}
}

func wrongBits() []int {
	return []int{-1, -2, -8, -31, -32, -33, 33, 34, 40, 63, 64, 65, 96, 128, 1 << 32, 1<<32 + 8, math.MaxInt, math.MinInt}
}

func TestInNetByHand(t *testing.T) {
	saysInNet(t, []int{10, 1, 2, 3}, 16, []int{10, 1, 9, 9}, true)
	saysInNet(t, []int{10, 1, 2, 3}, 24, []int{10, 1, 9, 9}, false)
	saysInNet(t, []int{0, 0, 0, 0}, 0, []int{255, 255, 255, 255}, true)
	saysInNet(t, []int{0, 0, 0, 0}, 1, []int{127, 255, 255, 255}, true)
	saysInNet(t, []int{0, 0, 0, 0}, 1, []int{128, 0, 0, 0}, false)
	saysInNet(t, []int{10, 0, 0, 0}, 7, []int{11, 0, 0, 0}, true)
	saysInNet(t, []int{10, 0, 0, 0}, 8, []int{11, 0, 0, 0}, false)
	saysInNet(t, []int{10, 0, 0, 0}, 8, []int{10, 128, 0, 0}, true)
	saysInNet(t, []int{10, 0, 0, 0}, 9, []int{10, 128, 0, 0}, false)
	saysInNet(t, []int{10, 0, 0, 0}, 9, []int{10, 127, 255, 255}, true)
	saysInNet(t, []int{1, 2, 3, 4}, 31, []int{1, 2, 3, 5}, true)
	saysInNet(t, []int{1, 2, 3, 4}, 32, []int{1, 2, 3, 5}, false)
	saysInNet(t, []int{1, 2, 3, 4}, 32, []int{1, 2, 3, 4}, true)
}

// The highest bits alone count, each of them.
func TestInNetEachBit(t *testing.T) {
	for i, net := range addresses() {
		if i%11 != 0 {
			continue
		}
		for bits := range 33 {
			saysInNet(t, net, bits, net, true)
			for bit := range 32 {
				a := slices.Clone(net)
				a[bit/8] ^= 128 >> (bit % 8)
				saysInNet(t, net, bits, a, bit >= bits)
				saysInNet(t, a, bits, net, bit >= bits)
			}
		}
		for _, bits := range wrongBits() {
			saysInNet(t, net, bits, net, false)
		}
	}
}

func TestInNetAsTheLibrary(t *testing.T) {
	s := turn(320)
	seen := tally{}
	for range 50000 {
		net := [4]byte(s.someBytes(4))
		a := net
		a[s.below(4)] ^= byte(1 << s.below(8))
		a[s.below(4)] ^= byte(s.below(256) >> s.below(9))
		bits := s.below(33)
		want := netip.PrefixFrom(netip.AddrFrom4(net), bits).Contains(netip.AddrFrom4(a))
		saysInNet(t, addressOf(netip.AddrFrom4(net).String()), bits, addressOf(netip.AddrFrom4(a).String()), want)
		seen.count(want)
	}
	seen.enough(t, 10000)
}

func TestInNetOfWrongLists(t *testing.T) {
	right := []int{1, 2, 3, 4}
	for _, wrong := range wrongAddresses() {
		for _, bits := range append(wrongBits(), 0, 1, 7, 8, 9, 16, 31, 32) {
			saysInNet(t, wrong, bits, right, false)
			saysInNet(t, right, bits, wrong, false)
			saysInNet(t, wrong, bits, wrong, false)
		}
	}
}
