package image_test

import (
	"hash/adler32"
	"strings"
	"testing"

	"caesura/api"
	"caesura/image"
)

// TestSum (10.1): texts whose sums are known: bytes count, not code points.
func TestSum(t *testing.T) {
	for text, want := range map[string]uint32{
		"":                           1,
		"\x00":                       0x00010001,
		"\x00\x00":                   0x00020001,
		"\x01":                       0x00020002,
		"\x7f":                       0x00800080,
		"\x80":                       0x00810081,
		"\xff":                       0x01000100,
		"\x01\x02":                   0x00060004,
		"\x02\x01":                   0x00070004,
		"a":                          0x00620062,
		"ab":                         0x012600c4,
		"ba":                         0x012700c4,
		"abc":                        0x024d0127,
		"\xc3\xa4":                   0x022c0168,
		"Wikipedia":                  0x11e60398,
		"123456789":                  0x091e01de,
		"message digest":             0x29750586,
		"abcdefghijklmnopqrstuvwxyz": 0x90860b20,
	} {
		if got := image.Sum(text); got != want {
			t.Errorf("Sum(%q) is %x, not %x", text, got, want)
		}
	}
}

// TestSumMany (10.1): many bytes of 255, so that A and B pass 65521 again and again, counted without going over them.
func TestSumMany(t *testing.T) {
	for _, n := range []uint64{1, 2, 21, 22, 23, 255, 256, 257, 258, 513, 514, 5551, 5552, 5553, 5554, 65520, 65521, 65522, 1 << 20, 3_000_000} {
		a := 1 + 255*n
		b := n + 255*n*(n+1)/2
		want := uint32(b%65521<<16 + a%65521)
		if got := image.Sum(strings.Repeat("\xff", int(n))); got != want {
			t.Errorf("Sum of %d bytes of 255 is %x, not %x", n, got, want)
		}
	}
}

// TestSumRound (10.1): A, and B, that come just to 65520, to 65521, and to one more.
func TestSumRound(t *testing.T) {
	most := strings.Repeat("\xff", 256) // A is 65281
	for last, want := range map[string]uint32{"\xee": 65519, "\xef": 65520, "\xf0": 0, "\xf1": 1, "\xef\x00": 65520, "\xef\x01": 0, "\xef\x02": 1, "\xf0\x00": 0} {
		if got := image.Sum(most+last) & 0xffff; got != want {
			t.Errorf("A of 256 bytes of 255 and %q is %d, not %d", last, got, want)
		}
	}
	for n, want := range map[int]uint32{65519: 65519, 65520: 65520, 65521: 0, 65522: 1, 2*65521 - 1: 65520, 2 * 65521: 0} { // A stays 1
		if got := image.Sum(strings.Repeat("\x00", n)); got != want<<16+1 {
			t.Errorf("Sum of %d bytes of 0 is %x, not %x", n, got, want<<16+1)
		}
	}
}

// TestSumDrawn (10.1): drawn texts' sums, held against the library's.
func TestSumDrawn(t *testing.T) {
	d := die(1)
	for i := range 2000 {
		b := make([]byte, d.n(1+i))
		for i := range b {
			b[i] = byte(d.n(256)) | byte(d.n(2)*255)
		}
		if got, want := image.Sum(string(b)), adler32.Checksum(b); got != want {
			t.Fatalf("Sum(%q) is %x, not %x", b, got, want)
		}
	}
}

// TestSumBehind (10.1): an image's last four bytes are the sum of those ahead of them, the least first.
func TestSumBehind(t *testing.T) {
	d := die(2)
	for range 500 {
		s := written(t, drawProgram(&d))
		n, ahead := image.Sum(s[:len(s)-4]), len(s)-4
		for i := range 4 {
			if want := byte(n >> (8 * i)); s[ahead+i] != want {
				t.Fatalf("%q: byte %d of the sum %x is %x, not %x", s, i, n, s[ahead+i], want)
			}
		}
	}
	if s := written(t, api.Program{}); s != "\x00\x00\x01\x00\x02\x00" {
		t.Errorf("Write of an empty program is %q", s)
	}
}
