package chars

import (
	"strings"
	"testing"
)

func TestClasses(t *testing.T) {
	const lower = "abcdefghijklmnopqrstuvwxyz_"
	const upper = "ABCDEFGHIJKLMNOPQRSTUVWXYZ"
	const digits = "0123456789"
	for i := range 256 {
		c := byte(i)
		in := func(set string) bool { return strings.IndexByte(set, c) >= 0 }
		for _, test := range []struct {
			name      string
			got, want bool
		}{
			{"IsLower", IsLower(c), in(lower)},
			{"IsUpper", IsUpper(c), in(upper)},
			{"IsDigit", IsDigit(c), in(digits)},
			{"IsStart", IsStart(c), in(lower + upper)},
			{"IsWord", IsWord(c), in(lower + upper + digits + "'")},
			{"IsSymbol", IsSymbol(c), in("! # $ % & * + . / < = > ? @ \\ ^ | - ~ :") && c != ' '},
		} {
			if test.got != test.want {
				t.Errorf("%s(%q) = %v", test.name, c, test.got)
			}
		}
	}
}

func TestOnlyMinus(t *testing.T) {
	for s, want := range map[string]bool{"": false, "-": false, "--": true, "---": true, "-->": false, ">--": false, "-a-": false, "+": false} {
		if OnlyMinus(s) != want {
			t.Errorf("OnlyMinus(%q) = %v", s, !want)
		}
	}
}

func TestRuns(t *testing.T) {
	for _, test := range []struct {
		s         string
		from      int
		run, name string
	}{
		{"", 0, "", ""},
		{"ab", 2, "", ""},
		{"a1' +", 0, "", "a1'"},
		{"_A.", 0, "", "_A"},
		{"a12+-b", 1, "12", ""},
		{"a12+-b", 3, "", "+-"},
		{"a12", 2, "2", ""},
		{"'a", 0, "", ""},
		{"(a", 0, "", ""},
	} {
		if got := Run(test.s, test.from, IsDigit); got != test.run {
			t.Errorf("Run(%q, %d) = %q", test.s, test.from, got)
		}
		if got := NameAt(test.s, test.from); got != test.name {
			t.Errorf("NameAt(%q, %d) = %q", test.s, test.from, got)
		}
	}
}
