package valued

import (
	"regexp"
	"strconv"
	"strings"
	"testing"
)

// form is a name, and, behind =, a number's word from 1 to 999.
var form = regexp.MustCompile(`^([a-z][a-z0-9]{0,11})(=([1-9][0-9]{0,2}))?$`)

// check holds what is read of a text against the form.
func check(t *testing.T, w string) {
	t.Helper()
	name, n, ok := Read(w)
	found := form.FindStringSubmatch(w)
	if !ok {
		if found != nil || name != "" || n != 0 {
			t.Fatalf("%q: %q, %d, %v", w, name, n, ok)
		}
		return
	}
	want := 0
	if found != nil && found[3] != "" {
		want, _ = strconv.Atoi(found[3])
	}
	if found == nil || name != found[1] || n != want || Show(name, n) != w {
		t.Fatalf("%q: %q, %d, %v", w, name, n, ok)
	}
}

func TestRead(t *testing.T) {
	for _, w := range []string{"", "a", "a=1", "a=999", "a=1000", "a=0", "a=-1", "a=01", "a=+1", "a=", "=", "=1", "a=1=1", "a==1", "a=1 ", " a", "a b", "a123456789bc", "a123456789bc=7", "a123456789bcd", "1", "1a", "A", "aB", "a_", "a\n", "a\x00", "\xff", "a\xff", "\u00e4", "a\u00e4", "a\u0661", "a=\u0661", "a=18446744073709551617", "a=1e1", "a=0x1", "a=1_0"} {
		check(t, w)
	}
	for _, c := range []string{"a", "=", "1", "a=", "\xff"} {
		check(t, strings.Repeat(c, 70000))
		check(t, "a="+strings.Repeat(c, 70000))
	}
}

func TestAllShort(t *testing.T) {
	for i := range 1 << 16 {
		check(t, string([]byte{byte(i >> 8), byte(i)}))
		check(t, "a="+string([]byte{byte(i >> 8), byte(i)}))
	}
	for i := range 256 {
		check(t, string([]byte{byte(i)}))
		check(t, "a="+string([]byte{byte(i)}))
	}
}

func TestShow(t *testing.T) {
	for want, n := range map[string]int{"a": 0, "a=1": 1, "a=1000": 1000, "a=-1": -1, "a=9223372036854775807": 1<<63 - 1} {
		if w := Show("a", n); w != want {
			t.Errorf("%d: %q", n, w)
		}
	}
}
