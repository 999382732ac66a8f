package tests

import (
	"strings"
	"testing"

	"loop.example/g00148/impl"
)

func TestPatternsByHand(t *testing.T) {
	for _, s := range []string{"*.a.org", "*.a.b.c", "*.0.a", "*.x--y.org", "*." + hostOf(2), "*." + hostOf(hostLabels), "*." + longHost(hostBytes)} {
		saysPattern(t, s, true)
		saysHost(t, s, false)
	}
	wrong := []string{
		"", "*", "*.", "**", "**.", "*a.", "*.*", "*.a", "*.org", "*.*.a.org", "**.a.org", "*a.org", "a*.org", "*a.a.org", "a*.a.org", "a.*", "a.*.org", "a.b.*", "a.org.*", "a.org*", "*.a.*", "*.a.*.org",
		"*..a.org", "*.a..org", "*.a.org.", ".*.a.org", "*a.b.c", "*-a.org", "*-.a.org", "*.-a.org", "*.a-.org", "*.A.org", "*.a.Org", "*.a.1", "*.1.2", "*.127.0.0.1", "?.a.org", " *.a.org", "*.a.org ", "* .a.org", "＊.a.org", "\x00*.a.org",
		"*." + hostOf(1), "*." + hostOf(hostLabels+1), "*." + longHost(hostBytes+1), "*." + strings.Repeat("a", labelBytes+1) + ".org",
	}
	for _, s := range wrong {
		saysPattern(t, s, false)
	}
	for labels := 1; labels <= 12; labels++ {
		saysPattern(t, hostOf(labels), labels <= hostLabels)
		saysPattern(t, "*."+hostOf(labels), labels >= 2 && labels <= hostLabels)
	}
	for size := 22; size <= hostBytes+30; size++ {
		host := longHost(size)
		saysPattern(t, host, len(host) <= hostBytes)
		saysPattern(t, "*."+host, len(host) <= hostBytes && strings.Contains(host, "."))
	}
}

func TestPatternsOfHosts(t *testing.T) {
	for _, host := range hosts() {
		saysPattern(t, "*."+host, strings.Contains(host, "."))
		for _, ahead := range []string{"*", "**.", "*a.", "*-.", "a*.", "*.*.", "a.*."} {
			saysPattern(t, ahead+host, false)
		}
	}
	for _, host := range wrongHosts() {
		saysPattern(t, host, len(patternLabels(host)) > 0)
		saysPattern(t, "*."+host, false)
	}
}

func TestEachShortPattern(t *testing.T) {
	starred := 0
	for size := range 9 {
		eachText([]byte("*.a1-"), size, func(text []byte) {
			labels := patternLabels(string(text))
			saysPattern(t, string(text), len(labels) > 0)
			if len(labels) > 0 && labels[0] == "*" {
				starred++
			}
		})
	}
	if starred < 100 {
		t.Errorf("only %d with a star", starred)
	}
}

func patterns() []string {
	list := hosts()
	for _, host := range hosts() {
		list = append(list, "*."+host)
	}
	return list
}

func TestMatchByHand(t *testing.T) {
	right := [][2]string{
		{"a", "a"}, {"a.org", "a.org"}, {"*.a.org", "x.a.org"}, {"*.a.org", "a.a.org"}, {"*.a.org", "0.a.org"}, {"*.a.org", "x-y.a.org"}, {"*.a.org", "xn--a.a.org"}, {"*.b.a.org", "a.b.a.org"},
		{"*." + hostOf(7), hostOf(8)}, {"*." + longHost(hostBytes-2), "a." + longHost(hostBytes-2)}, {"*.a.org", strings.Repeat("z", labelBytes) + ".a.org"},
	}
	for _, pair := range right {
		saysMatch(t, pair[0], pair[1], true)
	}
	wrong := [][2]string{
		{"", ""}, {"a", "b"}, {"a", ""}, {"", "a"}, {"*.a.org", "a.org"}, {"*.a.org", "y.x.a.org"}, {"*.a.org", "xa.org"}, {"*.a.org", ".a.org"}, {"*.a.org", "*.a.org"}, {"*.a.org", "x.b.org"}, {"*.a.org", "x.a.orga"}, {"*.a.org", "x.a.or"}, {"*.a.org", "org"}, {"*.a.org", "x.org"}, {"*.a.org", "-.a.org"}, {"*.a.org", "x-.a.org"}, {"*.a.org", "x.xa.org"},
		{"A.org", "A.org"}, {"a.org", "A.org"}, {"A.org", "a.org"}, {"*.A.org", "x.A.org"}, {"*.A.org", "x.a.org"}, {"*.a.org", "X.a.org"}, {"*.a.org", "x.A.org"},
		{"*.org", "a.org"}, {"*", "a"}, {"*.", "a."}, {"*", "*"}, {"a.1", "a.1"}, {"-", "-"}, {".", "."}, {"*.a.1", "x.a.1"}, {"x.*.org", "x.a.org"}, {"*a.org", "xa.org"}, {"127.0.0.1", "127.0.0.1"}, {"a.org.", "a.org."}, {"a_b.org", "a_b.org"},
		{"*." + hostOf(8), hostOf(9)}, {"*." + longHost(hostBytes), "a." + longHost(hostBytes)}, {"*." + longHost(hostBytes-1), "a." + longHost(hostBytes-1)}, {"*.a.org", strings.Repeat("z", labelBytes+1) + ".a.org"},
	}
	for _, pair := range wrong {
		saysMatch(t, pair[0], pair[1], false)
	}
}

func TestMatchOfAll(t *testing.T) {
	all := append(patterns(), wrongHosts()...)
	for _, pattern := range all {
		for _, host := range all {
			saysMatch(t, pattern, host, matches(pattern, host))
		}
	}
}

// What a star matches has one label more than what stands behind the star, and is under it.
func TestStarIsOneLabelFurther(t *testing.T) {
	found := 0
	check := func(base string, host string) {
		if !impl.HostMatch("*."+base, host) {
			return
		}
		found++
		if strings.Count(host, ".") != strings.Count(base, ".")+1 {
			t.Errorf("*.%s matches %s", base, host)
		}
		saysHost(t, base, true)
		saysHost(t, host, true)
		saysUnder(t, base, host, true)
		saysUnder(t, host, base, false)
		saysMatch(t, base, host, false)
		saysMatch(t, host, host, true)
	}
	for _, base := range hosts() {
		for _, host := range hosts() {
			check(base, host)
		}
		for _, label := range []string{"a", "0", "00", "x-y", "xn--bcher-kva", strings.Repeat("z", labelBytes)} {
			host := label + "." + base
			fits := strings.Contains(base, ".") && len(host) <= hostBytes && strings.Count(host, ".") < hostLabels
			saysMatch(t, "*."+base, host, fits)
			saysMatch(t, "*."+base, label+"."+host, false)
			check(base, host)
			check(base, label+"."+host)
		}
		saysMatch(t, "*."+base, base, false)
	}
	if found < 100 {
		t.Errorf("only %d", found)
	}
}

func TestUnderByHand(t *testing.T) {
	for _, pair := range [][2]string{{"a", "a"}, {"org", "a.org"}, {"org", "b.a.org"}, {"a.org", "a.org"}, {"a.org", "b.a.org"}, {"a.org", "c.b.a.org"}, {"a.org", "a.a.org"}, {hostOf(1), hostOf(8)}, {hostOf(7), hostOf(8)}} {
		saysUnder(t, pair[0], pair[1], true)
	}
	wrong := [][2]string{
		{"", ""}, {"", "a"}, {"a", ""}, {"a.org", "ba.org"}, {"a.org", "b-a.org"}, {"a.org", "org"}, {"b.a.org", "a.org"}, {"a.org", "a.org.a"}, {"a.org", "b.org"}, {"org", "orga"}, {"org", "borg"}, {"org", "a.borg"},
		{".org", "a.org"}, {".a.org", "b.a.org"}, {"a.org", ".a.org"}, {"a.org", "b..a.org"}, {"A.org", "b.A.org"}, {"a.org", "b.A.org"}, {"a.org", "B.a.org"}, {"A.org", "A.org"}, {"*.a.org", "*.a.org"}, {"a.org", "*.a.org"}, {"a.org", "-.a.org"}, {"1", "a.1"}, {"1", "1"}, {"a.1", "a.1"}, {"0.1", "127.0.0.1"},
		{hostOf(8), hostOf(9)}, {"a", hostOf(9)}, {"x", longHost(hostBytes + 1)}, {longHost(hostBytes), "a." + longHost(hostBytes)},
	}
	for _, pair := range wrong {
		saysUnder(t, pair[0], pair[1], false)
	}
}

func TestUnderOfAll(t *testing.T) {
	all := append(patterns(), wrongHosts()...)
	for _, base := range all {
		for _, host := range all {
			saysUnder(t, base, host, isUnder(base, host))
		}
	}
	for _, host := range hosts() {
		for at := range host {
			saysUnder(t, host[at:], host, at == 0 || host[at-1] == '.')
			saysUnder(t, host, host[at:], at == 0)
		}
	}
}
