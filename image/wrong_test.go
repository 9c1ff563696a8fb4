package image_test

import (
	"encoding/binary"
	"math"
	"runtime"
	"slices"
	"strings"
	"testing"

	"caesura/api"
	"caesura/image"
)

// rightNumbers are those of an image that has all kinds of things: each of the Ops, sets of no range, of one and of two, and two rules.
func rightNumbers() []int {
	return numbersOf(api.Program{Else: true, Rules: []api.Pair{
		{Break: true, Before: api.Code{Sets: []api.Set{nil, {{Lo: 200, Hi: 300}, {Lo: 302, Hi: 20_000}}}, Ins: insts(inst(api.Split, 1, 3), inst(api.Take, 1, 0), inst(api.Jump, 0, 0), end, yes)}, After: always},
		{Before: always, After: codeOf(1, inst(api.Take, 0, 0), yes)},
	}})
}

// someImages are images, by hand and drawn.
func someImages(t *testing.T, drawn int) []string {
	l := []string{imageOf(rightNumbers()...), imageOf(0, 0), imageOf(1, 0)}
	d := die(7)
	for len(l) < drawn+3 {
		if s := written(t, drawProgram(&d)); len(s) < 400 {
			l = append(l, s)
		}
	}
	for _, s := range l {
		if !wantByWords(t, s) {
			t.Fatalf("% x is no image", s)
		}
	}
	return l
}

// TestFormOfDamage (10.1): each beginning of an image, and each end, one with a byte more, or less, wherever it is, and one in which one byte is another one, are ErrForm.
func TestFormOfDamage(t *testing.T) {
	for _, s := range someImages(t, 9) {
		for i := range len(s) {
			wantForm(t, s[:i])
			wantForm(t, s[i+1:])
			wantForm(t, s[:i]+s[i+1:])
			for b := range 256 {
				if byte(b) != s[i] {
					wantForm(t, s[:i]+string([]byte{byte(b)})+s[i+1:])
				}
			}
		}
		for b := range 256 {
			more := string([]byte{byte(b)})
			wantForm(t, s+more)
			wantForm(t, more+s)
			wantForm(t, s[:len(s)-4]+more+s[len(s)-4:])
		}
		wantForm(t, s+s)
		wantForm(t, s+"\x00\x00\x00\x00")
	}
}

// TestFormOfSealedDamage (10.1): images with one byte that is gone, stands there twice, is another one, or one too much, each with the sum that its bytes have, are told as 10.1 says word by word.
func TestFormOfSealedDamage(t *testing.T) {
	told := map[bool]int{}
	for _, s := range someImages(t, 15) {
		s = s[:len(s)-4]
		for i := range len(s) + 1 {
			told[wantByWords(t, sealed(s[:i]))]++
			told[wantByWords(t, sealed(s[i:]))]++
			for _, b := range []byte("\x00\x01\x02\x03\x04\x05\x06\x14\x15\x7f\x80\x81\xff") {
				more := string([]byte{b})
				told[wantByWords(t, sealed(s[:i]+more+s[i:]))]++
				if i < len(s) {
					told[wantByWords(t, sealed(s[:i]+more+s[i+1:]))]++
				}
			}
			if i < len(s) {
				told[wantByWords(t, sealed(s[:i]+s[i+1:]))]++
				told[wantByWords(t, sealed(s[:i]+s[i:i+1]+s[i:]))]++
			}
		}
	}
	if told[true] < 1000 || told[false] < 10_000 {
		t.Errorf("too few are right, or wrong: %v", told)
	}
}

// TestFormOfSum (10.1): a sum that is another one, or in another order, is ErrForm; so are bytes of which there are too few for one.
func TestFormOfSum(t *testing.T) {
	for _, s := range []string{"", "\x00", "\x01", "\x01\x00", "\x00\x00\x01", "\x01\x00\x00\x00", "\x00\x00\x00\x00", "\x00\x00\x00\x00\x00", "\x00\x01\x00\x01\x00", "\x01\x02\x00\x02\x00", "\x00\x00\x00\x00\x00\x00"} {
		wantForm(t, s)
	}
	for _, s := range someImages(t, 10) {
		body, sum := s[:len(s)-4], image.Sum(s[:len(s)-4])
		for _, other := range []uint32{0, 1, sum + 1, sum - 1, sum ^ 1<<31, sum ^ 1<<16, ^sum, sum<<16 | sum>>16, image.Sum(s), math.MaxUint32} {
			wantForm(t, body+string(binary.LittleEndian.AppendUint32(nil, other)))
		}
		wantForm(t, body+string(binary.BigEndian.AppendUint32(nil, sum)))
		wantForm(t, body)
		wantForm(t, body+string(binary.AppendUvarint(nil, uint64(sum))))
	}
}

// longer is a number with so many bytes too many.
func longer(n, more int) string {
	b := binary.AppendUvarint(nil, uint64(n))
	b[len(b)-1] |= 128
	return string(b) + strings.Repeat("\x80", more-1) + "\x00"
}

// wrapped are numbers that are too great, of which so many of the least bits are those of n.
func wrapped(n int) []string {
	var l []string
	for _, bits := range []int{21, 28, 32, 35, 56, 62, 63} {
		l = append(l, string(binary.AppendUvarint(nil, uint64(n)+1<<bits)))
	}
	for _, behind := range []string{"\x02", "\x7f", "\x80\x01", "\x80\x80\x01", "\x80\x80\x80\x80\x80\x80\x80\x80\x80\x01"} { // from 2^64 on
		head := binary.AppendUvarint(nil, uint64(n)+1<<63)
		l = append(l, string(head[:9])+behind, string(head[:9])+"\x81"+behind)
	}
	return l
}

// TestFormOfNumbers (10.1): a number that is written in more bytes than it needs, one that is too great, and one that has no end, are ErrForm, whichever number of an image it is, also with the sum that its bytes have.
func TestFormOfNumbers(t *testing.T) {
	right := rightNumbers()
	for i, n := range right {
		ahead, behind := bytesOf(right[:i]...), bytesOf(right[i+1:]...)
		for _, more := range []int{1, 2, 3, 8, 9, 10, 20, 100} {
			wantForm(t, sealed(ahead+longer(n, more)+behind))
		}
		for _, s := range wrapped(n) {
			if wantByWords(t, sealed(ahead+s+behind)) {
				t.Errorf("number %d, written % x, is one that may be", i, s)
			}
		}
		for _, k := range []int{1, 2, 3, 4, 9, 10, 20} {
			for _, b := range []string{"\x80", "\xff", "\x81"} {
				wantForm(t, ahead+strings.Repeat(b, k))
				wantForm(t, sealed(ahead+strings.Repeat(b, k)))
			}
		}
	}
	for n := range 300 { // numbers of sets, each longer than it needs be
		wantForm(t, sealed(bytesOf(0, 1, 0, 1, 1)+longer(n, 1)+bytesOf(300, 1, 5, 0, 0, 0, 1, 5, 0, 0)))
		wantForm(t, sealed(bytesOf(0, 1, 0, 1, 1, 0)+longer(n, 1)+bytesOf(1, 5, 0, 0, 0, 1, 5, 0, 0)))
	}
}

// TestFormOfOthers (10.1): images of which one number is another one, is gone, or is one too much, each with the sum that its bytes have, are told as 10.1 says word by word: what Write tells of no program is ErrForm.
func TestFormOfOthers(t *testing.T) {
	right := rightNumbers()
	told := map[bool]int{}
	for i := range right {
		for _, n := range []int{0, 1, 2, 3, 4, 5, 6, 7, 19, 20, 21, 127, 128, 201, 255, 256, 301, 303, 1999, 2000, 2001, 16384, api.MaxPoint, api.MaxPoint + 1, 1 << 31, 1 << 32, math.MaxInt} {
			other := slices.Clone(right)
			other[i] = n
			told[wantByWords(t, imageOf(other...))]++
			told[wantByWords(t, imageOf(slices.Insert(other, i, right[i])...))]++
		}
		told[wantByWords(t, imageOf(slices.Delete(slices.Clone(right), i, i+1)...))]++
	}
	if told[true] < 20 || told[false] < 1000 {
		t.Errorf("too few are right, or wrong: %v", told)
	}
}

// TestFormOfBits (10.1): what is neither 1 nor 0, as Else and as Break, is ErrForm.
func TestFormOfBits(t *testing.T) {
	rule := []int{0, 1, 5, 0, 0, 0, 1, 5, 0, 0}
	for n := range 300 {
		right := n <= 1
		for _, l := range [][]int{{n, 0}, append([]int{n, 1, 0}, rule...), append([]int{0, 1, n}, rule...), slices.Concat([]int{0, 2, 0}, rule, []int{n}, rule), slices.Concat([]int{1, 3, 0}, rule, []int{n}, rule, []int{1}, rule)} {
			if wantByWords(t, imageOf(l...)) != right {
				t.Errorf("%d is said not to be as it is: %v", n, l)
			}
		}
	}
}

// TestFormOfPrograms (10.1): too many rules, instructions or sets are ErrForm, and as many as there may be are not.
func TestFormOfPrograms(t *testing.T) {
	rule := []int{1, 0, 1, 5, 0, 0, 0, 1, 5, 0, 0}
	code := func(sets, ins int) []int {
		return slices.Concat([]int{sets}, make([]int, sets), []int{ins}, slices.Repeat([]int{5, 0, 0}, ins))
	}
	for n := range 3 * api.MaxRules {
		s := imageOf(slices.Concat([]int{0, n}, slices.Repeat(rule, n))...)
		if wantByWords(t, s) != (n <= api.MaxRules) {
			t.Errorf("%d rules are not told as they are", n)
		}
		wantForm(t, imageOf(slices.Concat([]int{0, n + 1}, slices.Repeat(rule, n))...))
		if n > 0 {
			wantForm(t, imageOf(slices.Concat([]int{0, n - 1}, slices.Repeat(rule, n))...))
		}
	}
	for _, c := range []struct {
		sets, ins int
		right     bool
	}{{0, 0, false}, {0, 1, true}, {1, 0, false}, {api.MaxCode, api.MaxCode, true}, {api.MaxCode + 1, 1, false}, {0, api.MaxCode + 1, false}, {api.MaxCode, api.MaxCode + 1, false}, {100_000, 1, false}, {0, 100_000, false}} {
		for _, l := range [][]int{slices.Concat([]int{0, 1, 0}, code(c.sets, c.ins), code(0, 1)), slices.Concat([]int{0, 1, 0}, code(0, 1), code(c.sets, c.ins)), slices.Concat([]int{0, 2}, rule, []int{0}, code(0, 1), code(c.sets, c.ins))} {
			if wantByWords(t, imageOf(l...)) != c.right {
				t.Errorf("%d sets and %d instructions are not told as they are", c.sets, c.ins)
			}
		}
	}
}

// longTexts are long ones that are no images: of one byte all along, or with counts of what is more than there may be.
func longTexts() []string {
	const many = 1 << 20
	var l []string
	for _, b := range []string{"\x00", "\x01", "\x02", "\x05", "\x7f", "\x80", "\xff"} {
		for _, head := range [][]int{nil, {0}, {0, many}, {0, 1, 0, many}, {0, 1, 0, 0, many}, {0, 1, 0, 1, many}, {0, 20, 1, 2000, many}, {0, 1, 0, 0, 1, 5, 0, 0, many}, {0, 20}, {0, 1, 0, 2000}, {0, 1, 0, 0, 2000}, {0, 1, 0, 1, 557_056}} {
			l = append(l, bytesOf(head...)+strings.Repeat(b, many))
		}
	}
	return l
}

// taken is how many bytes of memory are taken by what is done.
func taken(do func()) uint64 {
	var before, behind runtime.MemStats
	runtime.ReadMemStats(&before)
	do()
	runtime.ReadMemStats(&behind)
	return behind.TotalAlloc - before.TotalAlloc
}

// TestFormOfCounts (10.1): counts that are more than there is, also huge ones, are ErrForm; no memory is taken for what is not there, nor for more than there may be.
func TestFormOfCounts(t *testing.T) {
	right := rightNumbers()
	for i := range right {
		for _, n := range []int{100, 128, 1000, 2000, 2001, 500_000, 557_056, 557_057, api.MaxPoint, 1 << 24, 1 << 31, 1 << 32, 1 << 40, 1 << 62, math.MaxInt} {
			for _, s := range []string{bytesOf(right[:i]...) + bytesOf(n), bytesOf(right[:i]...) + bytesOf(n) + bytesOf(right[i+1:]...), bytesOf(right[:i]...) + bytesOf(n) + strings.Repeat("\x00", 30)} {
				for _, s := range []string{s, sealed(s)} {
					if got := taken(func() { wantByWords(t, s) }); got > 1<<16 {
						t.Errorf("number %d is %d: %d bytes of memory are taken for % x", i, n, got, s)
					}
				}
			}
		}
	}
	for _, s := range longTexts() {
		if got := taken(func() { image.Parse(s) }); got > 1<<26 {
			t.Errorf("%d bytes of memory are taken for %d bytes, % .20x..", got, len(s), s)
		}
	}
	nested := bytesOf(0, 20, 0, 2000, 557_056)
	if got := taken(func() { image.Parse(nested + strings.Repeat("\x00", 100)) }); got > 1<<16 {
		t.Errorf("%d bytes of memory are taken for counts within counts", got)
	}
}
