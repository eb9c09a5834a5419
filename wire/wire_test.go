package wire_test

import (
	"math"
	"slices"
	"strings"
	"testing"

	"forepeak/api"
	"forepeak/wire"
)

// notSizes are sizes that numbers do not have.
var notSizes = []int{0, -1, -4, 5, 6, 8, 257, 65537, math.MaxInt, math.MinInt}

// someErrors are errors, among them numbers that are nobody's.
var someErrors = []api.Errno{api.ErrArg, api.ErrForm, api.ErrEnd, api.ErrMany, api.ErrRange, api.ErrDown, 20, -1}

// mixed returns a source of numbers that look like any, the same ones in each run.
func mixed() func(below int) int {
	x := uint64(1)
	return func(below int) int {
		x = x*6364136223846793005 + 1442695040888963407
		return int(x>>33) % below
	}
}

// mixedText is a string of any bytes.
func mixedText(next func(below int) int, n int) string {
	var b []byte
	for range n {
		b = append(b, byte(next(256)))
	}
	return string(b)
}

// power is 256, so many times multiplied: one more than the greatest number in that many bytes.
func power(size int) int {
	p := 1
	for range size {
		p *= 256
	}
	return p
}

// digits are a number's bytes by their definition: its digits to the base 256, the first one the most significant.
func digits(n, size int) string {
	var b []byte
	for range size {
		b = append(b, byte(n%256))
		n /= 256
	}
	slices.Reverse(b)
	return string(b)
}

// checkDone holds a Writer's bytes and error against others.
func checkDone(t *testing.T, what any, w *wire.Writer, want string, err api.Errno) {
	t.Helper()
	if b, e := w.Done(); string(b) != want || e != err {
		t.Fatalf("%v: Done() = %v, %v, want %v, %v", what, b, e, []byte(want), err)
	}
}

// checkRest holds what is left of a Reader, and its error, against others.
func checkRest(t *testing.T, what any, r *wire.Reader, left int, err api.Errno) {
	t.Helper()
	if l, e := r.Left(), r.Err(); l != left || e != err {
		t.Fatalf("%v: Left() = %d, Err() = %v, want %d, %v", what, l, e, left, err)
	}
}

// P5.1: Writer.

func TestZeroWriterIsEmpty(t *testing.T) {
	var w wire.Writer
	checkDone(t, "zero", &w, "", api.OK)
	checkDone(t, "new", new(wire.Writer), "", api.OK)
}

func TestWriterNum(t *testing.T) {
	cases := []struct {
		n, size int
		want    string
	}{
		// The chapter's example.
		{258, 2, "\x01\x02"},
		{0, 1, "\x00"},
		{0, 2, "\x00\x00"},
		{0, 3, "\x00\x00\x00"},
		{0, 4, "\x00\x00\x00\x00"},
		{1, 4, "\x00\x00\x00\x01"},
		{255, 1, "\xff"},
		{255, 2, "\x00\xff"},
		{256, 2, "\x01\x00"},
		{65535, 2, "\xff\xff"},
		{65536, 3, "\x01\x00\x00"},
		{16777215, 3, "\xff\xff\xff"},
		{16777216, 4, "\x01\x00\x00\x00"},
		{0x12345678, 4, "\x12\x34\x56\x78"},
		{0x7fffffff, 4, "\x7f\xff\xff\xff"},
		{0x80000000, 4, "\x80\x00\x00\x00"},
		{0xffffffff, 4, "\xff\xff\xff\xff"},
	}
	for _, c := range cases {
		var w wire.Writer
		w.Num(c.n, c.size)
		checkDone(t, c, &w, c.want, api.OK)
	}
}

func TestWriterNumDigitByDigit(t *testing.T) {
	check := func(n, size int) {
		var w wire.Writer
		w.Num(n, size)
		checkDone(t, []int{n, size}, &w, digits(n, size), api.OK)
	}
	for n := range 65536 {
		check(n, 2)
		check(n%256, 1)
	}
	next := mixed()
	for range 50000 {
		for size := 1; size <= 4; size++ {
			check(next(power(size)), size)
			check(next(power(size)), 4)
		}
	}
}

func TestWriterNumErrors(t *testing.T) {
	check := func(n, size int) {
		t.Helper()
		var w wire.Writer
		w.Num(n, size)
		checkDone(t, []int{n, size}, &w, "", api.ErrRange)
	}
	for _, size := range notSizes {
		for _, n := range []int{0, 1, 255, -1, math.MaxInt, math.MinInt} {
			check(n, size)
		}
	}
	for size := 1; size <= 4; size++ {
		for _, n := range []int{-1, -2, -128, -255, -256, -65536, -power(size), -power(size) + 1, math.MinInt, math.MinInt + 1} {
			check(n, size)
		}
		for _, n := range []int{power(size), power(size) + 1, 2 * power(size), 256 * power(size), 1 << 40, 1<<40 + 1, math.MaxInt} {
			check(n, size)
		}
	}
}

func TestWriterText(t *testing.T) {
	cases := []struct{ s, want string }{
		{"", "\x00"},
		{"ab", "\x02ab"},
		{"\x00", "\x01\x00"},
		{"\x00\xff\x80", "\x03\x00\xff\x80"},
		{"é", "\x02\xc3\xa9"},
		{strings.Repeat("x", 254), "\xfe" + strings.Repeat("x", 254)},
		{strings.Repeat("x", 255), "\xff" + strings.Repeat("x", 255)},
	}
	for _, c := range cases {
		var w wire.Writer
		w.Text(c.s)
		checkDone(t, c.s, &w, c.want, api.OK)
	}
	next := mixed()
	for n := range 256 {
		s := mixedText(next, n)
		var w wire.Writer
		w.Text(s)
		checkDone(t, s, &w, digits(n, 1)+s, api.OK)
	}
}

func TestWriterTextErrors(t *testing.T) {
	for _, n := range []int{256, 257, 258, 300, 511, 512, 65535, 65536, 65537, 1 << 20} {
		var w wire.Writer
		w.Text(strings.Repeat("\x00", n))
		checkDone(t, n, &w, "", api.ErrMany)
	}
	// Bytes are counted, not characters.
	var w wire.Writer
	w.Text(strings.Repeat("é", 128))
	checkDone(t, "128 characters", &w, "", api.ErrMany)
}

func TestWriterAppends(t *testing.T) {
	var w wire.Writer
	w.Num(258, 2)
	checkDone(t, "a number", &w, "\x01\x02", api.OK)
	// The chapter's example.
	w.Text("ab")
	checkDone(t, "and a string", &w, "\x01\x02\x02ab", api.OK)
	w.Text("")
	w.Num(3, 1)
	w.Num(4, 4)
	w.Text("c")
	checkDone(t, "and more", &w, "\x01\x02\x02ab\x00\x03\x00\x00\x00\x04\x01c", api.OK)
}

func TestDoneAnswersNewBytes(t *testing.T) {
	var w wire.Writer
	w.Num(258, 2)
	a, _ := w.Done()
	b, _ := w.Done()
	a[0], a[1] = 7, 8
	a = append(a, 9)
	if string(b) != "\x01\x02" {
		t.Fatal("two results share bytes:", b)
	}
	w.Text("ab")
	b = append(b, 10, 11, 12)
	checkDone(t, "changed results", &w, "\x01\x02\x02ab", api.OK)
	if string(a) != "\x07\x08\x09" || string(b) != "\x01\x02\x0a\x0b\x0c" {
		t.Fatal("a result was changed:", a, b)
	}
}

func TestWritersKeepTheirOwnBytes(t *testing.T) {
	var a, b wire.Writer
	a.Num(1, 1)
	b.Num(2, 1)
	a.Num(-1, 1)
	b.Text("b")
	checkDone(t, "one", &a, "", api.ErrRange)
	checkDone(t, "another one", &b, "\x02\x01b", api.OK)
}

func TestWriterKeepsItsFirstError(t *testing.T) {
	long := strings.Repeat("x", 256)
	faults := []struct {
		do  func(w *wire.Writer)
		err api.Errno
	}{
		{func(w *wire.Writer) { w.Num(1, 0) }, api.ErrRange},
		{func(w *wire.Writer) { w.Num(1, 5) }, api.ErrRange},
		{func(w *wire.Writer) { w.Num(-1, 1) }, api.ErrRange},
		{func(w *wire.Writer) { w.Num(256, 1) }, api.ErrRange},
		{func(w *wire.Writer) { w.Text(long) }, api.ErrMany},
	}
	for i, first := range faults {
		for j, second := range faults {
			for _, before := range []string{"", "before"} {
				var w wire.Writer
				if before != "" {
					w.Text(before)
				}
				first.do(&w)
				checkDone(t, i, &w, "", first.err)
				w.Num(7, 1)
				w.Text("behind")
				checkDone(t, i, &w, "", first.err)
				second.do(&w)
				w.Num(7, 2)
				w.Text("")
				checkDone(t, []int{i, j}, &w, "", first.err)
			}
		}
	}
}

func TestWriterByPlainText(t *testing.T) {
	next := mixed()
	failed := map[api.Errno]int{}
	for range 3000 {
		var w wire.Writer
		want, err := "", api.OK
		for range next(40) {
			switch k := next(60); {
			case k == 0:
				w.Num(power(2), 2)
				err = firstOf(err, api.ErrRange)
			case k == 1:
				w.Text(mixedText(next, 256+next(300)))
				err = firstOf(err, api.ErrMany)
			case k < 30:
				s := mixedText(next, next(256))
				w.Text(s)
				want += digits(len(s), 1) + s
			default:
				size := 1 + next(4)
				n := next(power(size))
				w.Num(n, size)
				want += digits(n, size)
			}
			if err != api.OK {
				want = ""
			}
			checkDone(t, "mixed", &w, want, err)
		}
		failed[err]++
	}
	if failed[api.OK] < 500 || failed[api.ErrRange] < 300 || failed[api.ErrMany] < 300 {
		t.Fatal("ends of the Writers:", failed)
	}
}

// firstOf is the first error of two.
func firstOf(a, b api.Errno) api.Errno {
	if a != api.OK {
		return a
	}
	return b
}

// P5.2: Reader.

func TestNewReader(t *testing.T) {
	checkRest(t, "nil", wire.NewReader(nil), 0, api.OK)
	checkRest(t, "empty", wire.NewReader([]byte{}), 0, api.OK)
	for n := range 300 {
		checkRest(t, n, wire.NewReader(make([]byte, n)), n, api.OK)
	}
}

func TestNewReaderKeepsNoArgument(t *testing.T) {
	b := []byte("\x01\x02\x02ab\x05\x06\x07")
	r := wire.NewReader(b[:6])
	again := wire.NewReader(b[:6])
	b[0], b[2], b[3], b[5] = 99, 0, 'z', 99
	if n := r.Num(2, math.MaxInt); n != 258 {
		t.Fatal(n)
	}
	clear(b)
	if s := r.Text(255); s != "ab" {
		t.Fatal(s)
	}
	// What lies beyond the length is not read.
	if n := r.Num(2, math.MaxInt); n != 0 {
		t.Fatal(n)
	}
	checkRest(t, "short", r, 0, api.ErrEnd)
	// Readers of the same bytes do not know each other.
	checkRest(t, "again", again, 6, api.OK)
	if n := again.Num(1, 255); n != 1 {
		t.Fatal(n)
	}
}

func TestReaderChangesNoArgument(t *testing.T) {
	const all = "\x01\x02\x02ab\x05\x06\x07"
	b := []byte(all)
	r := wire.NewReader(b)
	r.Num(2, 1000)
	r.Text(2)
	r.Num(3, 0)
	r.Text(1)
	r.Fail(api.ErrForm)
	if string(b) != all {
		t.Fatal(b)
	}
}

func TestReaderNum(t *testing.T) {
	cases := []struct {
		b          string
		size, most int
		n, left    int
		err        api.Errno
	}{
		{"\x01\x02", 2, 65535, 258, 0, api.OK},
		{"\x01\x02", 1, 255, 1, 1, api.OK},
		{"\x01\x02\x03\x04\x05", 3, math.MaxInt, 66051, 2, api.OK},
		{"\x01\x02\x03\x04\x05", 4, math.MaxInt, 16909060, 1, api.OK},
		{"\xff\xff\xff\xff", 4, 0xffffffff, 0xffffffff, 0, api.OK},
		{"\x80\x00\x00\x00", 4, 0x80000000, 0x80000000, 0, api.OK},
		{"\x00", 1, 0, 0, 0, api.OK},
		{"\x00\x00\x00\x00", 4, 0, 0, 0, api.OK},
		// The most that is allowed, and one more.
		{"\x10x", 1, 16, 16, 1, api.OK},
		{"\x11x", 1, 16, 0, 0, api.ErrRange},
		{"\x01\x00x", 2, 256, 256, 1, api.OK},
		{"\x01\x01x", 2, 256, 0, 0, api.ErrRange},
		{"\xff\xff\xff\xff", 4, 0xfffffffe, 0, 0, api.ErrRange},
		{"\x80\x00\x00\x00", 4, math.MaxInt32, 0, 0, api.ErrRange},
		{"\x00", 1, -1, 0, 0, api.ErrRange},
		{"\x00\x00\x00\x00x", 4, math.MinInt, 0, 0, api.ErrRange},
		// Bytes that end too early.
		{"", 1, 255, 0, 0, api.ErrEnd},
		{"\x01", 2, 65535, 0, 0, api.ErrEnd},
		{"\x01\x02", 3, 65535, 0, 0, api.ErrEnd},
		{"\x01\x02\x03", 4, math.MaxInt, 0, 0, api.ErrEnd},
		{"", 4, math.MaxInt, 0, 0, api.ErrEnd},
		// The first error of several.
		{"", 0, 255, 0, 0, api.ErrRange},
		{"", 5, 255, 0, 0, api.ErrRange},
		{"\x01\x02", 0, -1, 0, 0, api.ErrRange},
		{"", 1, -1, 0, 0, api.ErrEnd},
		{"\xff", 2, 7, 0, 0, api.ErrEnd},
		{"\xff\xff\xff", 4, 7, 0, 0, api.ErrEnd},
	}
	for _, c := range cases {
		r := wire.NewReader([]byte(c.b))
		if n := r.Num(c.size, c.most); n != c.n {
			t.Errorf("%v: Num = %d", c, n)
		}
		checkRest(t, c, r, c.left, c.err)
	}
}

func TestReaderNumOfNoSize(t *testing.T) {
	for _, size := range notSizes {
		for _, b := range []string{"", "\x01", "\x01\x02\x03\x04\x05\x06\x07\x08\x09"} {
			for _, most := range []int{math.MaxInt, 0, -1} {
				r := wire.NewReader([]byte(b))
				if n := r.Num(size, most); n != 0 {
					t.Fatal(size, n)
				}
				checkRest(t, size, r, 0, api.ErrRange)
			}
		}
	}
}

func TestReaderNumOfAllOfTwoBytes(t *testing.T) {
	for n := range 65536 {
		b := []byte(digits(n, 2))
		r := wire.NewReader(b)
		if got := r.Num(2, n); got != n {
			t.Fatalf("Num of %v = %d", b, got)
		}
		checkRest(t, n, r, 0, api.OK)
		r = wire.NewReader(b)
		if got := r.Num(2, n-1); got != 0 {
			t.Fatalf("Num of %v = %d", b, got)
		}
		checkRest(t, n, r, 0, api.ErrRange)
	}
}

func TestReaderText(t *testing.T) {
	long := strings.Repeat("y", 255)
	cases := []struct {
		b    string
		most int
		s    string
		left int
		err  api.Errno
	}{
		{"\x02ab", 255, "ab", 0, api.OK},
		{"\x02abc", 2, "ab", 1, api.OK},
		{"\x00", 0, "", 0, api.OK},
		{"\x00abc", 0, "", 3, api.OK},
		{"\x00\x00", 9, "", 1, api.OK},
		{"\x03\x00\xff\x80", 3, "\x00\xff\x80", 0, api.OK},
		{"\xff" + long, 255, long, 0, api.OK},
		{"\xff" + long + "z", math.MaxInt, long, 1, api.OK},
		// No length byte.
		{"", 255, "", 0, api.ErrEnd},
		{"", 0, "", 0, api.ErrEnd},
		{"", -1, "", 0, api.ErrEnd},
		// Longer than the most that is allowed.
		{"\x02abc", 1, "", 0, api.ErrMany},
		{"\x02abc", 0, "", 0, api.ErrMany},
		{"\x01a", 0, "", 0, api.ErrMany},
		{"\x00abc", -1, "", 0, api.ErrMany},
		{"\x00", math.MinInt, "", 0, api.ErrMany},
		{"\xff" + long, 254, "", 0, api.ErrMany},
		{"\xff", 254, "", 0, api.ErrMany},
		{"\x02", 1, "", 0, api.ErrMany},
		{"\x02a", 1, "", 0, api.ErrMany},
		// Bytes that end too early.
		{"\x01", 255, "", 0, api.ErrEnd},
		{"\x02a", 2, "", 0, api.ErrEnd},
		{"\x03ab", 3, "", 0, api.ErrEnd},
		{"\xff" + long[1:], 255, "", 0, api.ErrEnd},
		{"\xff", 255, "", 0, api.ErrEnd},
	}
	for _, c := range cases {
		r := wire.NewReader([]byte(c.b))
		if s := r.Text(c.most); s != c.s {
			t.Errorf("%q, %d: Text = %q", c.b, c.most, s)
		}
		checkRest(t, c, r, c.left, c.err)
	}
}

// checkStays tells that a Reader reads nothing, and that its error stays.
func checkStays(t *testing.T, what any, r *wire.Reader, err api.Errno) {
	t.Helper()
	for range 2 {
		checkRest(t, what, r, 0, err)
		for size := 1; size <= 4; size++ {
			if n := r.Num(size, math.MaxInt); n != 0 {
				t.Fatal(what, "Num:", n)
			}
		}
		if s := r.Text(255); s != "" {
			t.Fatal(what, "Text:", s)
		}
		// Each call that would fail by itself, too.
		if n := r.Num(9, 0) + r.Num(1, -1) + r.Num(1, 0); n != 0 {
			t.Fatal(what, "Num:", n)
		}
		if s := r.Text(-1) + r.Text(0); s != "" {
			t.Fatal(what, "Text:", s)
		}
		checkRest(t, what, r, 0, err)
		for _, e := range someErrors {
			r.Fail(e)
		}
		r.Fail(api.OK)
	}
}

func TestReaderKeepsItsFirstError(t *testing.T) {
	// Bytes of which much could be read on.
	const more = "\x02ab\x00\x01\x02\x03\x04\x01c\x00\x00\x00"
	faults := []struct {
		b   string
		do  func(r *wire.Reader)
		err api.Errno
	}{
		{more, func(r *wire.Reader) { r.Num(0, 255) }, api.ErrRange},
		{more, func(r *wire.Reader) { r.Num(5, 255) }, api.ErrRange},
		{more, func(r *wire.Reader) { r.Num(1, 1) }, api.ErrRange},
		{more, func(r *wire.Reader) { r.Num(4, 1) }, api.ErrRange},
		{more, func(r *wire.Reader) { r.Text(1) }, api.ErrMany},
		{"\x02a", func(r *wire.Reader) { r.Num(3, math.MaxInt) }, api.ErrEnd},
		{"\x02a", func(r *wire.Reader) { r.Text(2) }, api.ErrEnd},
		{"\x09" + more[:8], func(r *wire.Reader) { r.Text(255) }, api.ErrEnd},
		{"", func(r *wire.Reader) { r.Num(1, 255) }, api.ErrEnd},
		{"", func(r *wire.Reader) { r.Text(255) }, api.ErrEnd},
		{more, func(r *wire.Reader) { r.Fail(api.ErrState) }, api.ErrState},
		{"", func(r *wire.Reader) { r.Fail(api.ErrState) }, api.ErrState},
	}
	for i, f := range faults {
		r := wire.NewReader([]byte(f.b))
		f.do(r)
		checkStays(t, i, r, f.err)
		// Behind what was read without an error.
		r = wire.NewReader([]byte("\x07\x01x" + f.b))
		if n, s := r.Num(1, 7), r.Text(1); n != 7 || s != "x" {
			t.Fatal(n, s)
		}
		checkRest(t, i, r, len(f.b), api.OK)
		f.do(r)
		checkStays(t, i, r, f.err)
	}
}

func TestFail(t *testing.T) {
	for _, e := range someErrors {
		r := wire.NewReader([]byte("\x01\x02\x03"))
		r.Fail(api.OK)
		checkRest(t, "OK", r, 3, api.OK)
		if n := r.Num(1, 1); n != 1 {
			t.Fatal(n)
		}
		r.Fail(api.OK)
		checkRest(t, "OK", r, 2, api.OK)
		r.Fail(e)
		checkStays(t, e, r, e)
	}
}

// plainReader is a Reader by its definition: all bytes, a place among them, and the error.
type plainReader struct {
	all string
	at  int
	err api.Errno
}

func (p *plainReader) num(size, most int) int {
	switch {
	case p.err != api.OK:
	case size < 1 || size > 4:
		p.err = api.ErrRange
	case len(p.all)-p.at < size:
		p.err = api.ErrEnd
	default:
		n := 0
		for i := range size {
			n = n*256 + int(p.all[p.at+i])
		}
		if n <= most {
			p.at += size
			return n
		}
		p.err = api.ErrRange
	}
	return 0
}

func (p *plainReader) text(most int) string {
	switch {
	case p.err != api.OK:
	case p.at == len(p.all):
		p.err = api.ErrEnd
	case int(p.all[p.at]) > most:
		p.err = api.ErrMany
	case len(p.all)-p.at-1 < int(p.all[p.at]):
		p.err = api.ErrEnd
	default:
		from := p.at + 1
		p.at = from + int(p.all[p.at])
		return p.all[from:p.at]
	}
	return ""
}

func (p *plainReader) left() int {
	if p.err != api.OK {
		return 0
	}
	return len(p.all) - p.at
}

// fewBytes are bytes of small numbers, most of them, so that strings fit.
func fewBytes(next func(below int) int) string {
	var b []byte
	for range next(60) {
		n := next(6)
		if next(8) == 0 {
			n = next(256)
		}
		b = append(b, byte(n))
	}
	return string(b)
}

func TestReaderByPlainReader(t *testing.T) {
	next := mixed()
	ended := map[api.Errno]int{}
	for range 20000 {
		p := plainReader{all: fewBytes(next)}
		r := wire.NewReader([]byte(p.all))
		for range next(30) {
			switch k := next(40); {
			case k == 0:
				r.Fail(api.ErrType)
				p.err = firstOf(p.err, api.ErrType)
			case k == 1:
				size := notSizes[next(len(notSizes))]
				if got, want := r.Num(size, 9), p.num(size, 9); got != want {
					t.Fatalf("%q: Num = %d, want %d", p.all, got, want)
				}
			case k < 20:
				size, most := 1+next(4), power(next(5))*(next(7)+1)
				if got, want := r.Num(size, most), p.num(size, most); got != want {
					t.Fatalf("%q: Num = %d, want %d", p.all, got, want)
				}
			default:
				most := next(300)
				if got, want := r.Text(most), p.text(most); got != want {
					t.Fatalf("%q: Text = %q, want %q", p.all, got, want)
				}
			}
			checkRest(t, p, r, p.left(), p.err)
		}
		ended[p.err]++
	}
	for _, e := range []api.Errno{api.OK, api.ErrEnd, api.ErrMany, api.ErrRange, api.ErrType} {
		if ended[e] < 300 {
			t.Fatal("ends of the Readers:", ended)
		}
	}
}

// P5.3: nil.

func TestNilWriter(t *testing.T) {
	var w *wire.Writer
	for range 2 {
		w.Num(258, 2)
		w.Num(-1, 9)
		w.Text("ab")
		w.Text(strings.Repeat("x", 256))
		checkDone(t, "nil", w, "", api.ErrNil)
	}
}

func TestNilReader(t *testing.T) {
	var r *wire.Reader
	for range 2 {
		if n := r.Num(1, 255) + r.Num(9, -1); n != 0 {
			t.Fatal(n)
		}
		if s := r.Text(255) + r.Text(-1); s != "" {
			t.Fatal(s)
		}
		checkRest(t, "nil", r, 0, api.ErrNil)
		r.Fail(api.ErrForm)
		r.Fail(api.OK)
		checkRest(t, "nil", r, 0, api.ErrNil)
	}
}

// P5.4: a Reader returns what a Writer has written.

// item is a number, in some bytes, or, if it has no size, a string.
type item struct {
	n, size int
	s       string
}

func (i item) length() int {
	if i.size > 0 {
		return i.size
	}
	return 1 + len(i.s)
}

// mixedItems are numbers and strings, those at the ends of their ranges among them.
func mixedItems(next func(below int) int) []item {
	var l []item
	for range next(50) {
		size := 1 + next(4)
		lengths := []int{0, 1, next(256), 254, 255}
		numbers := []int{0, 1, next(power(size)), power(size) - 2, power(size) - 1}
		if next(2) == 0 {
			l = append(l, item{n: numbers[next(5)], size: size})
		} else {
			l = append(l, item{s: mixedText(next, lengths[next(5)])})
		}
	}
	return l
}

func TestReaderReturnsWhatWriterWrote(t *testing.T) {
	next := mixed()
	for range 3000 {
		l := mixedItems(next)
		left := 0
		var w wire.Writer
		for _, i := range l {
			if i.size > 0 {
				w.Num(i.n, i.size)
			} else {
				w.Text(i.s)
			}
			left += i.length()
		}
		b, e := w.Done()
		if e != api.OK || len(b) != left {
			t.Fatal(len(b), e)
		}
		r := wire.NewReader(b)
		for _, i := range l {
			checkRest(t, i, r, left, api.OK)
			if i.size > 0 {
				if n := r.Num(i.size, i.n); n != i.n {
					t.Fatal(i, n)
				}
			} else if s := r.Text(len(i.s)); s != i.s {
				t.Fatal(i, s)
			}
			left -= i.length()
		}
		checkRest(t, "all", r, 0, api.OK)
		r.Num(1, 255)
		checkRest(t, "more", r, 0, api.ErrEnd)
	}
}

func TestReaderReadsManyBytes(t *testing.T) {
	const many = 200000
	var w wire.Writer
	for n := range many {
		w.Num(n, 3)
	}
	b, e := w.Done()
	if e != api.OK || len(b) != 3*many {
		t.Fatal(len(b), e)
	}
	r := wire.NewReader(b)
	for n := range many {
		if got := r.Num(3, n); got != n {
			t.Fatal(n, got)
		}
	}
	checkRest(t, "all", r, 0, api.OK)
}
