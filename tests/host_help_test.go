package tests

import (
	"regexp"
	"slices"
	"strings"
	"testing"

	"loop.example/g00148/impl"
)

var (
	labelForm   = regexp.MustCompile(`^[a-z0-9]([a-z0-9-]{0,18}[a-z0-9])?$`)
	decimalForm = regexp.MustCompile(`^[0-9]*$`)
)

const (
	hostBytes  = 80
	hostLabels = 8
	labelBytes = 20
)

// labelsOf are the labels of a host, reckoned apart from the program; nothing where s is none.
func labelsOf(s string) []string {
	labels := strings.Split(s, ".")
	wrong := func(label string) bool { return !labelForm.MatchString(label) }
	if len(s) > hostBytes || len(labels) > hostLabels || slices.ContainsFunc(labels, wrong) || decimalForm.MatchString(labels[len(labels)-1]) {
		return nil
	}
	return labels
}

// patternLabels are those of a pattern, the star being one; nothing where s is none.
func patternLabels(s string) []string {
	if !strings.HasPrefix(s, "*.") {
		return labelsOf(s)
	}
	if labels := labelsOf(s[2:]); len(labels) >= 2 {
		return append([]string{"*"}, labels...)
	}
	return nil
}

// matches holds label against label.
func matches(pattern string, host string) bool {
	want, got := patternLabels(pattern), labelsOf(host)
	if len(want) == 0 || len(want) != len(got) {
		return false
	}
	if want[0] == "*" {
		want, got = want[1:], got[1:]
	}
	return slices.Equal(want, got)
}

// isUnder holds the last labels against each other.
func isUnder(base string, host string) bool {
	want, got := labelsOf(base), labelsOf(host)
	return len(want) > 0 && len(want) <= len(got) && slices.Equal(want, got[len(got)-len(want):])
}

func saysHost(t *testing.T, s string, want bool) {
	t.Helper()
	if got := impl.HostOk(s); got != want {
		t.Errorf("HostOk(%q): got %v, want %v", s, got, want)
	}
}

func saysPattern(t *testing.T, s string, want bool) {
	t.Helper()
	if got := impl.PatternOk(s); got != want {
		t.Errorf("PatternOk(%q): got %v, want %v", s, got, want)
	}
}

func saysMatch(t *testing.T, pattern string, host string, want bool) {
	t.Helper()
	if got := impl.HostMatch(pattern, host); got != want {
		t.Errorf("HostMatch(%q, %q): got %v, want %v", pattern, host, got, want)
	}
}

func saysUnder(t *testing.T, base string, host string, want bool) {
	t.Helper()
	if got := impl.Under(base, host); got != want {
		t.Errorf("Under(%q, %q): got %v, want %v", base, host, got, want)
	}
}

// hostOf has so many labels of one byte.
func hostOf(labels int) string {
	return strings.Repeat("b.", labels-1) + "a"
}

// longHost has so many bytes, in labels as long as can be, the first one as long as is left.
func longHost(size int) string {
	host := strings.Repeat("x", min(size, labelBytes))
	for size -= len(host); size > 1; {
		label := strings.Repeat("y", min(size-1, labelBytes))
		host = label + "." + host
		size -= len(label) + 1
	}
	return host
}

// oddPieces are no part of any label: other letters, signs, runes of several bytes, and bytes that are no rune.
func oddPieces() []string {
	return []string{
		"A", "M", "Z", "@", "[", "`", "{", "/", ":", "_", " ", "*", "\x00", "\t", "\n", "\r", ",", "+", "~", "\x7f",
		"\x80", "\xbf", "\xc3", "\xe2", "\xff", "\xc0\xaf", "\xe2\x82", "\xed\xa0\x80", "\xf4\x90\x80\x80",
		"\u0080", "é", "ß", "İ", "ı", "ſ", "\u212a", "а", "日", "。", "．", "ａ", "Ａ", "０", "٠", "²", "\u00ad", "\u2010", "\ufeff", "\ufffd", "😀", "\U0010ffff",
	}
}

// hosts are right ones, of all numbers of labels.
func hosts() []string {
	list := []string{
		"a", "z", "a0", "0a", "org", "a.org", "b.org", "a.b", "a.a", "a.a.a", "ba.org", "x.a.org", "y.a.org", "y.x.a.org", "a.org.org", "org.a", "a-b.org",
		"0.a.org", "00.a.org", "127.0.0.1.org", "1.2.3.4a", "1.2.3.a4", "1.2.3.4-4", "x--y.org", "xn--bcher-kva.org", "xn--a.xn--b", "localhost", "b.a.org", "a.b.a.org", "b.a.b.a.org", "a.b.a.b.a.org",
		longHost(hostBytes), longHost(hostBytes - 1), longHost(hostBytes - 2), longHost(hostBytes - 3), longHost(21), longHost(41),
	}
	for labels := 1; labels <= hostLabels; labels++ {
		list = append(list, hostOf(labels), strings.Repeat("a.", labels-1)+"a", strings.Repeat("0.", labels-1)+"a")
	}
	return list
}

// wrongHosts are none, each for one reason.
func wrongHosts() []string {
	list := []string{
		"", ".", "..", "-", "*", "*.", "*.a", "*.a.org", "A", "a.ORG", ".a", "a.", "a..b", ".a.org", "a.org.", "a..org", "a...org", "-a", "a-", "-a.org", "a-.org", "a.-org", "a.org-", "a.-.org",
		"0", "1", "a.0", "a.00", "a.1", "127.0.0.1", "a.b.99", "a.0123456789", hostOf(hostLabels + 1), longHost(hostBytes + 1), longHost(hostBytes + 21), longHost(200), strings.Repeat("a", labelBytes+1), strings.Repeat("a", labelBytes+1) + ".org", "a." + strings.Repeat("a", labelBytes+1),
	}
	for _, odd := range oddPieces() {
		list = append(list, odd, "a"+odd, odd+"a", "a"+odd+"a", odd+"a.org", "a"+odd+".org", "a."+odd+"org", "a.org"+odd, "a."+odd+".org")
	}
	return list
}
