package tests

import (
	"bytes"
	"strings"
	"testing"

	"loop.example/g00148/impl"
)

func TestMaxHost(t *testing.T) {
	if impl.MaxHost != hostBytes {
		t.Errorf("MaxHost: %d", impl.MaxHost)
	}
}

func TestRightAndWrongHosts(t *testing.T) {
	for _, s := range hosts() {
		saysHost(t, s, true)
		saysPattern(t, s, true)
	}
	for _, s := range wrongHosts() {
		saysHost(t, s, false)
	}
}

func TestHostLabels(t *testing.T) {
	for size := range 45 {
		label := strings.Repeat("b", size)
		want := size >= 1 && size <= labelBytes
		for _, s := range []string{label, label + ".a", "a." + label, "a." + label + ".a", label + "." + label} {
			saysHost(t, s, want)
		}
	}
}

func TestHostDashes(t *testing.T) {
	for size := 1; size <= labelBytes; size++ {
		for at := range size {
			label := []byte(strings.Repeat("b", size))
			label[at] = '-'
			within := at > 0 && at < size-1
			for _, s := range []string{string(label), string(label) + ".a", "a." + string(label), "a." + string(label) + ".a"} {
				saysHost(t, s, within)
			}
		}
		dashes := strings.Repeat("-", size)
		saysHost(t, dashes, false)
		saysHost(t, "a"+dashes+"b", size <= labelBytes-2)
		saysHost(t, "a."+dashes+".b", false)
	}
}

func TestHostDots(t *testing.T) {
	for labels := 1; labels <= hostLabels; labels++ {
		host := hostOf(labels)
		saysHost(t, host, true)
		for at := range len(host) + 1 {
			// A dot more stands first, last, or beside another one.
			saysHost(t, host[:at]+"."+host[at:], false)
		}
	}
}

func TestHostManyLabels(t *testing.T) {
	for labels := 1; labels <= 45; labels++ {
		saysHost(t, hostOf(labels), labels <= hostLabels)
	}
}

func TestHostSizes(t *testing.T) {
	for size := 1; size <= 300; size++ {
		host := longHost(size)
		// One more than whole labels and their dots has no room for another label.
		if len(host) != size && size%(labelBytes+1) != 0 {
			t.Fatalf("a host of %d bytes has %d", size, len(host))
		}
		saysHost(t, host, len(host) <= hostBytes)
	}
	eight := strings.Repeat(strings.Repeat("a", 9)+".", 7)
	saysHost(t, eight+strings.Repeat("b", 10), true)
	saysHost(t, eight+strings.Repeat("b", 11), false)
}

func TestHostLastLabel(t *testing.T) {
	for size := 1; size <= labelBytes; size++ {
		digits := strings.Repeat("7", size)
		saysHost(t, digits, false)
		saysHost(t, "a."+digits, false)
		saysHost(t, digits+".a", true)
		saysHost(t, "a."+digits+".a", true)
		for at := range size {
			mixed := digits[:at] + "c" + digits[at+1:]
			saysHost(t, mixed, true)
			saysHost(t, "a."+mixed, true)
			dashed := digits[:at] + "-" + digits[at+1:]
			saysHost(t, "a."+dashed, at > 0 && at < size-1)
		}
	}
	for digit := '0'; digit <= '9'; digit++ {
		saysHost(t, "a."+string(digit), false)
		saysHost(t, string(digit)+"."+string(digit), false)
		saysHost(t, string(digit)+".a", true)
	}
}

func TestHostEachByte(t *testing.T) {
	for _, b := range allBytes() {
		for _, host := range []string{"a", "abc", "abc.def", "0.a1", "a-b.c-d.e-f"} {
			for at := range host {
				s := []byte(host)
				s[at] = b
				saysHost(t, string(s), len(labelsOf(string(s))) > 0)
			}
		}
	}
}

func TestEachShortHost(t *testing.T) {
	seen := tally{}
	check := func(text []byte) {
		want := len(labelsOf(string(text))) > 0
		saysHost(t, string(text), want)
		seen.count(want)
	}
	for size := range 3 {
		eachText(allBytes(), size, check)
	}
	for size := 3; size <= 5; size++ {
		eachText([]byte{'a', 'z', '0', '9', '-', '.', 'A', '*', 128}, size, check)
	}
	for size := 6; size <= 9; size++ {
		eachText([]byte{'a', '0', '-', '.'}, size, check)
	}
	seen.enough(t, 10000)
}

// lowerOf goes by bytes, so that no rune is looked at.
func lowerOf(s string) string {
	const capitals, small = "ABCDEFGHIJKLMNOPQRSTUVWXYZ", "abcdefghijklmnopqrstuvwxyz"
	b := []byte(s)
	for i := range b {
		if at := bytes.IndexByte([]byte(capitals), b[i]); at >= 0 {
			b[i] = small[at]
		}
	}
	return string(b)
}

func lowers(t *testing.T, s string, want string) {
	t.Helper()
	if got := impl.Lower(s); got != want {
		t.Errorf("Lower(%q): got %q, want %q", s, got, want)
	}
}

func TestLower(t *testing.T) {
	lowers(t, "", "")
	lowers(t, "ABCDEFGHIJKLMNOPQRSTUVWXYZ", "abcdefghijklmnopqrstuvwxyz")
	lowers(t, "abcdefghijklmnopqrstuvwxyz", "abcdefghijklmnopqrstuvwxyz")
	lowers(t, "@A[`a{Z", "@a[`a{z")
	lowers(t, "*.Example.ORG-0189_", "*.example.org-0189_")
	lowers(t, "ÀÉÜßİſ\u212aΑАＡ日😀Z", "ÀÉÜßİſ\u212aΑАＡ日😀z")
	lowers(t, "\x80A\xffB\xc3C\xed\xa0\x80D\x00E", "\x80a\xffb\xc3c\xed\xa0\x80d\x00e")
	for size := range 3 {
		eachText(allBytes(), size, func(text []byte) { lowers(t, string(text), lowerOf(string(text))) })
	}
	eachText([]byte{'@', 'A', 'Z', '[', 'a', 0x80, 0xc3, 0xe2, 0xf0, 0xff}, 5, func(text []byte) { lowers(t, string(text), lowerOf(string(text))) })
	s := turn(300)
	for size := range 300 {
		text := string(s.someBytes(size))
		lowers(t, text, lowerOf(text))
		lowers(t, lowerOf(text), lowerOf(text))
	}
}
