package utf_test

import (
	"errors"
	"math"
	"slices"
	"strings"
	"testing"
	"unicode/utf8"

	"caesura/api"
	"caesura/plain"
	"caesura/utf"
)

// points are the code points at the edges, and the UTF-8 of each as it is written down elsewhere.
var points = []struct {
	point int
	text  string
}{
	{0, "\x00"},
	{'a', "a"},
	{0x7f, "\x7f"},
	{0x80, "\xc2\x80"},
	{0xe4, "\xc3\xa4"},
	{0x7ff, "\xdf\xbf"},
	{0x800, "\xe0\xa0\x80"},
	{0xfff, "\xe0\xbf\xbf"},
	{0x1000, "\xe1\x80\x80"},
	{0x20ac, "\xe2\x82\xac"},
	{0xd7ff, "\xed\x9f\xbf"},
	{0xe000, "\xee\x80\x80"},
	{0xfffd, "\xef\xbf\xbd"},
	{0xffff, "\xef\xbf\xbf"},
	{0x10000, "\xf0\x90\x80\x80"},
	{0x1f600, "\xf0\x9f\x98\x80"},
	{0x3ffff, "\xf0\xbf\xbf\xbf"},
	{0x40000, "\xf1\x80\x80\x80"},
	{0xfffff, "\xf3\xbf\xbf\xbf"},
	{0x100000, "\xf4\x80\x80\x80"},
	{0x10ffff, "\xf4\x8f\xbf\xbf"},
}

// wrongPoints are numbers that are no code points; some are one if all but their least 32, 16 or 8 bits are lost.
var wrongPoints = []int{
	-1, -'a', -0xd800, math.MinInt32, math.MinInt, math.MinInt + 'a',
	0xd800, 0xdbff, 0xdc00, 0xdfff,
	0x110000, 0x110061, 0x1fffff, 0x200000, math.MaxInt32, 1<<32 + 'a', math.MaxInt,
}

// wrongTexts are texts no byte of which belongs to a code point: all of them are units of their own.
var wrongTexts = []struct{ what, text string }{
	{"bytes that go on, alone", "\x80"},
	{"the last byte that goes on, alone", "\xbf"},
	{"many bytes that go on", "\x80\xbf\x80\xbf\x80"},
	{"two bytes, cut off", "\xc2"},
	{"two bytes, cut off, the last of them", "\xdf"},
	{"three bytes, cut off behind one", "\xe2"},
	{"three bytes, cut off behind two", "\xe2\x82"},
	{"four bytes, cut off behind one", "\xf0"},
	{"four bytes, cut off behind two", "\xf0\x9f"},
	{"four bytes, cut off behind three", "\xf0\x9f\x98"},
	{"0 in two bytes", "\xc0\x80"},
	{"7f in two bytes", "\xc1\xbf"},
	{"0 in three bytes", "\xe0\x80\x80"},
	{"7f in three bytes", "\xe0\x81\xbf"},
	{"7ff in three bytes", "\xe0\x9f\xbf"},
	{"0 in four bytes", "\xf0\x80\x80\x80"},
	{"7ff in four bytes", "\xf0\x80\x9f\xbf"},
	{"ffff in four bytes", "\xf0\x8f\xbf\xbf"},
	{"ffff in five bytes", "\xf8\x80\x8f\xbf\xbf"},
	{"10ffff in six bytes", "\xfc\x80\x84\x8f\xbf\xbf"},
	{"d800", "\xed\xa0\x80"},
	{"dbff", "\xed\xaf\xbf"},
	{"dc00", "\xed\xb0\x80"},
	{"dfff", "\xed\xbf\xbf"},
	{"d800 and dc00, a pair", "\xed\xa0\x80\xed\xb0\x80"},
	{"110000", "\xf4\x90\x80\x80"},
	{"13ffff", "\xf4\xbf\xbf\xbf"},
	{"140000", "\xf5\x80\x80\x80"},
	{"1fffff", "\xf7\xbf\xbf\xbf"},
	{"200000", "\xf8\x88\x80\x80\x80"},
	{"fe, ff", "\xfe\xff"},
}

// lone are the units of a text each byte of which is one of its own.
func lone(s string) []api.Unit {
	var l []api.Unit
	for i := range len(s) {
		l = append(l, api.Unit{Point: 0xfffd, At: i, Len: 1})
	}
	return l
}

// sameUnits fails the test unless a text's units are those.
func sameUnits(t *testing.T, s string, want []api.Unit) {
	t.Helper()
	if got := utf.Decode(s); !slices.Equal(got, want) {
		t.Errorf("Decode(%q) = %v; want %v", s, got, want)
	}
}

func TestEncodeEdges(t *testing.T) {
	for _, c := range points {
		if got, err := utf.Encode([]int{c.point}); got != c.text || err != nil {
			t.Errorf("Encode(%x) = %q, %v; want %q", c.point, got, err, c.text)
		}
	}
}

func TestEncodeMany(t *testing.T) {
	var l []int
	want := ""
	for _, c := range points {
		l = append(l, c.point)
		want += c.text
	}
	if got, err := utf.Encode(l); got != want || err != nil {
		t.Errorf("Encode(%x) = %q, %v; want %q", l, got, err, want)
	}
}

func TestEncodeNone(t *testing.T) {
	for _, l := range [][]int{nil, {}} {
		if got, err := utf.Encode(l); got != "" || err != nil {
			t.Errorf("Encode(%v) = %q, %v; want nothing", l, got, err)
		}
	}
}

// sameRefusal fails the test unless Encode tells ErrArg at that place, and nothing else.
func sameRefusal(t *testing.T, l []int, place int) {
	t.Helper()
	got, err := utf.Encode(l)
	if e, at := plain.Place(err); e != api.ErrArg || at != place {
		t.Errorf("Encode(%x): error %d at %d; want %d at %d", l, e, at, api.ErrArg, place)
	}
	var a *api.At
	if !errors.As(err, &a) || !errors.Is(err, api.ErrArg) {
		t.Errorf("Encode(%x): %v is no At around ErrArg", l, err)
	}
	if got != "" {
		t.Errorf("Encode(%x) = %q beside an error", l, got)
	}
}

func TestEncodeWrong(t *testing.T) {
	for _, p := range wrongPoints {
		sameRefusal(t, []int{p}, 0)
		sameRefusal(t, []int{p, 'a'}, 0)
		sameRefusal(t, []int{'a', p}, 1)
		sameRefusal(t, []int{0x10ffff, 0xe4, 0, p, 'a', -1, 0xd800}, 3)
	}
}

func TestEncodeTellsTheFirstWrongOne(t *testing.T) {
	for place := range 6 {
		l := []int{'a', 0xe4, 0x20ac, 0x1f600, 'b', 'c', -1, 0xdfff, 0x110000}
		l[place] = 0xd800
		sameRefusal(t, l, place)
	}
}

func TestEncodeLeavesItsList(t *testing.T) {
	whole := []int{'a', 0xe4, 0x20ac, 0x1f600, 0xd800, 'z'}
	was := slices.Clone(whole)
	for n := range len(whole) + 1 {
		utf.Encode(whole[:n])
		if !slices.Equal(whole, was) {
			t.Fatalf("Encode of the first %d wrote %x over %x", n, whole, was)
		}
	}
}

func TestDecodeEdges(t *testing.T) {
	for _, c := range points {
		sameUnits(t, c.text, []api.Unit{{Point: c.point, At: 0, Len: len(c.text)}})
		sameUnits(t, "a"+c.text+"z", []api.Unit{
			{Point: 'a', At: 0, Len: 1},
			{Point: c.point, At: 1, Len: len(c.text)},
			{Point: 'z', At: 1 + len(c.text), Len: 1},
		})
	}
}

func TestDecodeNone(t *testing.T) {
	if got := utf.Decode(""); len(got) != 0 {
		t.Errorf("Decode of the empty text = %v; want no units", got)
	}
}

func TestDecodeWrong(t *testing.T) {
	for _, c := range wrongTexts {
		t.Run(c.what, func(t *testing.T) {
			n := len(c.text)
			sameUnits(t, c.text, lone(c.text))
			sameUnits(t, c.text+"z", append(lone(c.text), api.Unit{Point: 'z', At: n, Len: 1}))
			sameUnits(t, c.text+"\u20ac", append(lone(c.text), api.Unit{Point: 0x20ac, At: n, Len: 3}))
		})
	}
}

func TestDecodeCutOffAheadOfAnother(t *testing.T) {
	sameUnits(t, "\xf0\x9f\x98\xc3\xa4\x80\xe2\x82\xf0\x9f\x98\x80", []api.Unit{
		{Point: 0xfffd, At: 0, Len: 1},
		{Point: 0xfffd, At: 1, Len: 1},
		{Point: 0xfffd, At: 2, Len: 1},
		{Point: 0xe4, At: 3, Len: 2},
		{Point: 0xfffd, At: 5, Len: 1},
		{Point: 0xfffd, At: 6, Len: 1},
		{Point: 0xfffd, At: 7, Len: 1},
		{Point: 0x1f600, At: 8, Len: 4},
	})
}

func TestDecodeEachByteAlone(t *testing.T) {
	for b := range 256 {
		p := b
		if b >= 0x80 {
			p = 0xfffd
		}
		sameUnits(t, string([]byte{byte(b)}), []api.Unit{{Point: p, At: 0, Len: 1}})
	}
}

// TestEachPoint holds all code points, and some on both sides, against the library's.
func TestEachPoint(t *testing.T) {
	for p := -0x100; p <= 0x110100; p++ {
		if p < 0 || !utf8.ValidRune(rune(p)) {
			sameRefusal(t, []int{p}, 0)
			continue
		}
		s, err := utf.Encode([]int{p})
		if want := string(rune(p)); s != want || err != nil {
			t.Fatalf("Encode(%x) = %q, %v; want %q", p, s, err, want)
		}
		sameUnits(t, s, []api.Unit{{Point: p, At: 0, Len: len(s)}})
	}
}

// TestEachEdgeOfFour holds all texts of four bytes at which something changes against the library's reading.
func TestEachEdgeOfFour(t *testing.T) {
	edges := []byte("\x00\x7f\x80\x8f\x90\x9f\xa0\xbf\xc0\xc1\xc2\xdf\xe0\xe1\xec\xed\xee\xef\xf0\xf1\xf3\xf4\xf5\xf7\xf8\xff")
	for _, a := range edges {
		for _, b := range edges {
			for _, c := range edges {
				for _, d := range edges {
					s := string([]byte{a, b, c, d})
					sameUnits(t, s, unitsByLibrary(s))
				}
			}
		}
	}
}

// unitsByLibrary are a text's units, as Go's library tells them.
func unitsByLibrary(s string) []api.Unit {
	var l []api.Unit
	for at := 0; at < len(s); {
		r, n := utf8.DecodeRuneInString(s[at:])
		l = append(l, api.Unit{Point: int(r), At: at, Len: n})
		at += n
	}
	return l
}

// pieces are whole code points and broken ones, for texts that are put together of them.
var pieces = []string{
	"a", "\u00e4", "\u20ac", "\ufffd", "\U0001f600", "\xff", "\x80", "\xc3", "\xe2\x82", "\xf0\x9f\x98", "\xed\xa0\x80", "\xf4\x90\x80\x80", "\xc0\x80",
}

// TestEachByteIsOfOneUnit: units lie side by side and end where the text does.
func TestEachByteIsOfOneUnit(t *testing.T) {
	for _, a := range pieces {
		for _, b := range pieces {
			for _, c := range pieces {
				s := a + b + c
				at := 0
				for _, u := range utf.Decode(s) {
					if u.At != at || u.Len < 1 || u.Len > 4 {
						t.Fatalf("Decode(%q) has %v where %d begins", s, u, at)
					}
					at += u.Len
				}
				if at != len(s) {
					t.Fatalf("Decode(%q) ends at %d", s, at)
				}
			}
		}
	}
}

// TestWhatWasReadIsReadAgain: what Decode told may be written, and is read as the same code points.
func TestWhatWasReadIsReadAgain(t *testing.T) {
	for _, a := range pieces {
		for _, b := range pieces {
			read := pointsOf(a + b)
			s, err := utf.Encode(read)
			if err != nil {
				t.Fatalf("Encode of what Decode(%q) told: %v", a+b, err)
			}
			if again := pointsOf(s); !slices.Equal(again, read) {
				t.Fatalf("%x is written and read as %x", read, again)
			}
		}
	}
}

// pointsOf are the code points of a text.
func pointsOf(s string) []int {
	var l []int
	for _, u := range utf.Decode(s) {
		l = append(l, u.Point)
	}
	return l
}

// TestAnswersAreTheCallers: what one call answered may be written into; the next one answers as before.
func TestAnswersAreTheCallers(t *testing.T) {
	s := "a\u00e4\xff"
	want := unitsByLibrary(s)
	got := utf.Decode(s)
	clear(got[:cap(got)])
	sameUnits(t, s, want)
}

// TestLongText: a text of many units is read and written whole.
func TestLongText(t *testing.T) {
	s := strings.Repeat("a\u00e4\u20ac\U0001f600", 50_000)
	sameUnits(t, s, unitsByLibrary(s))
	if got, err := utf.Encode(pointsOf(s)); got != s || err != nil {
		t.Errorf("a long text is not written as it was read: %d bytes, %v", len(got), err)
	}
}

// FuzzDecode holds any text against the library's reading.
func FuzzDecode(f *testing.F) {
	for _, s := range pieces {
		f.Add(s)
	}
	f.Fuzz(func(t *testing.T, s string) {
		sameUnits(t, s, unitsByLibrary(s))
	})
}
