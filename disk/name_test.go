package disk_test

import (
	"strings"
	"testing"

	"glacier/disk"
)

func TestP201NamesByTheirLength(t *testing.T) {
	for _, c := range []struct {
		n    int
		want bool
	}{{0, false}, {1, true}, {2, true}, {63, true}, {64, true}, {65, false}, {128, false}, {1 << 16, false}} {
		if disk.Name(strings.Repeat("x", c.n)) != c.want {
			t.Errorf("P201: Name of %d bytes: %v; want %v", c.n, !c.want, c.want)
		}
	}
}

func TestP201NamesByTheirBytes(t *testing.T) {
	const right = "abcdefghijklmnopqrstuvwxyz0123456789-."
	for i := range 256 {
		c := string([]byte{byte(i)})
		want := strings.Contains(right, c)
		for _, s := range []string{c, c + "a", "a" + c, "a" + c + "a", c + c, strings.Repeat("a", 63) + c} {
			if disk.Name(s) != want {
				t.Errorf("P201: Name(%q): %v; want %v", s, !want, want)
			}
		}
	}
}

func TestP201Names(t *testing.T) {
	for _, s := range []string{"a", "0", "-", ".", "..", "--", "wal-000000", "current.tmp", "a.b-0", "9z"} {
		if !disk.Name(s) {
			t.Errorf("P201: %q is no name", s)
		}
	}
	for _, s := range wrongNames() {
		if disk.Name(s) {
			t.Errorf("P201: %q is a name", s)
		}
	}
}
