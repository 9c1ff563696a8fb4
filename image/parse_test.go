package image_test

import (
	"slices"
	"testing"

	"caesura/api"
	"caesura/code"
	"caesura/image"
	"caesura/mean"
	"caesura/opt"
	"caesura/rule"
	"caesura/utf"
	"caesura/vm"
)

// TestParse (10.1): images by hand, and their programs: also sets that no instruction names, and such as are alike, are there, in their order.
func TestParse(t *testing.T) {
	for bytes, p := range handmade() {
		if got := parsed(t, sealed(bytesIn(t, bytes))); !alike(got, p) {
			t.Errorf("Parse of %s is %v, not %v", bytes, got, p)
		}
	}
}

// TestWriteParse (10.1): what Write wrote of drawn programs is read: it is that very program.
func TestWriteParse(t *testing.T) {
	d := die(4)
	told := map[bool]int{}
	for range 3000 {
		p := drawProgram(&d)
		s := written(t, p)
		if q := parsed(t, s); !alike(q, p) {
			t.Fatalf("%v: written and read it is %v", p, q)
		}
		if !wantByWords(t, s) {
			t.Fatalf("%v: by 10.1 there is no program of which Write tells % x", p, s)
		}
		told[p.Else]++
		for _, r := range p.Rules {
			told[r.Break]++
		}
	}
	if min(told[true], told[false]) < 3000 {
		t.Errorf("what was drawn is one-sided: %v", told)
	}
}

// TestWriteOne (10.1): programs that are not alike have images that are not.
func TestWriteOne(t *testing.T) {
	d := die(5)
	all := map[string]api.Program{}
	for range 3000 {
		p := drawProgram(&d)
		s := written(t, p)
		if q, ok := all[s]; ok && !alike(p, q) {
			t.Fatalf("%v, and %v, have one image", p, q)
		}
		all[s] = p
	}
}

// TestWriteParseFiles (10.1): files' programs, as they are compiled, and made less, break texts just as they did, when they were written and read.
func TestWriteParseFiles(t *testing.T) {
	for _, text := range []string{
		"", "else keep;", "class a = [61-7a]; keep a: a;",
		"class a = [61-7a]; class b = ~a - [20 3000]; keep a (a | b)* : a{2,}; break $ . : .{3,12} $; keep b? : . | (a b)+; else keep;",
		"keep . [e4 1f600] : [0-10ffff]*; break ([61] | [63]){2,5} : [] | $ | [10ffff]; keep : [20];",
	} {
		f, err := rule.Parse(text)
		if err != nil {
			t.Fatal(err)
		}
		p, err := code.Compile(f)
		if err != nil {
			t.Fatal(err)
		}
		less, err := opt.Program(p)
		if err != nil {
			t.Fatal(err)
		}
		for _, q := range []api.Program{parsed(t, written(t, p)), parsed(t, written(t, less))} {
			for _, s := range []string{"", "a", "ab cd", "aacca ä", "\U0001f600\U0010ffff abc\u3000\xff", "a b  c\n\nabcabcabcabcabc"} {
				units := utf.Decode(s)
				var points []int
				for _, u := range units {
					points = append(points, u.Point)
				}
				want, _ := mean.Breaks(f, units)
				if got, err := vm.Breaks(q, points); err != nil || !slices.Equal(got, want) {
					t.Errorf("%s: %q breaks at %v, %v, not at %v", text, s, got, err, want)
				}
			}
		}
	}
}

// TestParseAnyText (P1): Parse ends, and tells ErrForm, of texts that are nothing like an image, with a sum that is right and with one that is not; also of very long ones.
func TestParseAnyText(t *testing.T) {
	d := die(6)
	right := 0
	for range 20_000 {
		b := make([]byte, d.n(30))
		for i := range b {
			b[i] = byte(d.n(256))
			if d.n(3) > 0 {
				b[i] = "\x00\x00\x00\x01\x01\x01\x02\x03\x05\x05\x80\xff"[d.n(12)]
			}
		}
		wantByWords(t, string(b))
		if wantByWords(t, sealed(string(b))) {
			right++
		}
	}
	for _, s := range longTexts() {
		wantForm(t, s)
		wantForm(t, sealed(s))
	}
	if right < 5 {
		t.Errorf("too few are right: %d", right)
	}
}

// TestParseSmall (10.1): all texts of at most six of some bytes, with their sums behind, are read as 10.1 says; and so are all those behind some beginnings of images.
func TestParseSmall(t *testing.T) {
	const some = "\x00\x01\x02\x03\x05\x80"
	heads := []string{"", bytesIn(t, "00 01 01 00 01 05 00 00"), bytesIn(t, "01 01 00 00 01 05 00 00 00 02"), bytesIn(t, "00 01 00 00 01 05 00 00 01 01 01 02 02"), bytesIn(t, "00 02 00 00 01 05 00 00 00 01 05 00 00 00 00 01 05 00 00")}
	right := 0
	all := []string{""}
	for range 7 {
		var next []string
		for _, s := range all {
			for _, head := range heads {
				if wantByWords(t, sealed(head+s)) {
					right++
				}
			}
			for i := range len(some) {
				next = append(next, s+some[i:i+1])
			}
		}
		all = next
	}
	if right < 50 {
		t.Errorf("too few are right: %d", right)
	}
}

// FuzzParse (10.1): Parse tells of any text, and of any with its sum behind, what 10.1 says.
func FuzzParse(f *testing.F) {
	for bytes := range handmade() {
		f.Add(bytesIn(f, bytes))
		f.Add(sealed(bytesIn(f, bytes)))
	}
	f.Fuzz(func(t *testing.T, text string) {
		wantByWords(t, text)
		wantByWords(t, sealed(text))
		if s, err := image.Write(api.Program{Else: len(text)%2 == 1}); err != nil || len(s) != 6 {
			t.Errorf("Write of no rules is %q, %v", s, err)
		}
	})
}
