package word_test

import (
	"slices"
	"strings"
	"testing"

	"marlinspike/word"
)

func TestSplit(t *testing.T) {
	for _, test := range []struct {
		s    string
		want []string
	}{
		{"", nil},
		{" ", nil},
		{"\t", nil},
		{" \t\t ", nil},
		{"a", []string{"a"}},
		{" a", []string{"a"}},
		{"a\t", []string{"a"}},
		{"a b", []string{"a", "b"}},
		{"\ta  bc \t d\t", []string{"a", "bc", "d"}},
		// No other byte is a blank.
		{"a\nb\r\v\f\x00\u00a0\u2003c\x85\xa0\xff", []string{"a\nb\r\v\f\x00\u00a0\u2003c\x85\xa0\xff"}},
	} {
		if got := word.Split(test.s); !slices.Equal(got, test.want) {
			t.Errorf("Split(%q) = %q, want %q", test.s, got, test.want)
		}
	}
}

func TestIsName(t *testing.T) {
	const may = "abcdefghijklmnopqrstuvwxyz0123456789-_"
	for c := range 256 {
		b := string([]byte{byte(c)})
		want := strings.Contains(may, b)
		for _, s := range []string{b, b + "a", "a" + b, "a" + b + "a"} {
			if got := word.IsName(s); got != want {
				t.Errorf("IsName(%q) = %v, want %v", s, got, want)
			}
		}
	}
	for size := range 40 {
		s := strings.Repeat("a", size)
		if got, want := word.IsName(s), size >= 1 && size <= 16; got != want {
			t.Errorf("IsName(%q) = %v, want %v", s, got, want)
		}
	}
}

func TestNumber(t *testing.T) {
	for s, want := range map[string]int{
		"0": 0, "7": 7, "10": 10, "9999999": 9999999, "1000000": 1000000,
		// Noughts ahead turn nothing.
		"00": 0, "007": 7, "0000000": 0, "0000010": 10,
	} {
		if got, ok := word.Number(s); got != want || !ok {
			t.Errorf("Number(%q) = %v, %v, want %v, true", s, got, ok, want)
		}
	}
	for _, s := range []string{
		"", " ", "-", "-1", "+1", "1-", "1 ", " 1", "1_0", "0x1", "1.", "1e1", "a", "1a", "1a1", "/", ":", "٣",
		// More than 7 digits.
		"10000000", "00000000", "00000001", "99999999999999999999",
	} {
		if got, ok := word.Number(s); got != 0 || ok {
			t.Errorf("Number(%q) = %v, %v, want 0, false", s, got, ok)
		}
	}
}
