package chars

import (
	"strings"
	"testing"
)

func TestClasses(t *testing.T) {
	const lower = "abcdefghijklmnopqrstuvwxyz_"
	const upper = "ABCDEFGHIJKLMNOPQRSTUVWXYZ"
	const digits = "0123456789"
	for i := range 256 {
		c := byte(i)
		in := func(set string) bool { return strings.IndexByte(set, c) >= 0 }
		for _, test := range []struct {
			name      string
			got, want bool
		}{
			{"IsLower", IsLower(c), in(lower)},
			{"IsUpper", IsUpper(c), in(upper)},
			{"IsDigit", IsDigit(c), in(digits)},
			{"IsStart", IsStart(c), in(lower + upper)},
			{"IsWord", IsWord(c), in(lower + upper + digits + "'")},
			{"IsSymbol", IsSymbol(c), in("! # $ % & * + . / < = > ? @ \\ ^ | - ~ :") && c != ' '},
		} {
			if test.got != test.want {
				t.Errorf("%s(%q) = %v", test.name, c, test.got)
			}
		}
	}
}

func TestOnlyMinus(t *testing.T) {
	for s, want := range map[string]bool{"": false, "-": false, "--": true, "---": true, "-->": false, ">--": false, "-a-": false, "+": false} {
		if OnlyMinus(s) != want {
			t.Errorf("OnlyMinus(%q) = %v", s, !want)
		}
	}
}
