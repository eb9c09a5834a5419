package lex_test

import (
	"fmt"
	"slices"
	"strings"
	"testing"

	"forepeak/api"
	"forepeak/lex"
)

// The signature, the fields and the kinds are those of the chapter.
var (
	_ func(s string) ([]lex.Piece, int, api.Errno) = lex.Pieces

	_ = struct {
		Kind int
		Text string
		N    int
		At   int
	}(lex.Piece{})
)

func TestKinds(t *testing.T) {
	if got := [...]int{lex.Word, lex.Role, lex.Tag, lex.Sign, lex.End}; got != [...]int{1, 2, 3, 4, 5} {
		t.Error(got)
	}
}

// most is how many bytes a query may have.
const most = 48

// joined are the bytes that belong to one token where they are adjacent.
const joined = "abcdefghijklmnopqrstuvwxyz0123456789"

var (
	words   = []string{"all", "live", "mine", "up", "down", "tags", "owners", "count", "some"}
	numbers = []string{"0", "1", "2", "3", "4", "5", "6", "7", "8", "9", "10", "11", "12", "13", "14", "15"}
	signs   = []string{"|", "&", "-", "(", ")", "<="}
)

// known has each token but End by its text, with the offset 0.
var known = func() map[string]lex.Piece {
	m := map[string]lex.Piece{}
	for _, s := range words {
		m[s] = lex.Piece{Kind: 1, Text: s}
	}
	for n, s := range numbers {
		m["r"+s] = lex.Piece{Kind: 2, Text: "r" + s, N: n}
		m["t"+s] = lex.Piece{Kind: 3, Text: "t" + s, N: n}
	}
	for _, s := range signs {
		m[s] = lex.Piece{Kind: 4, Text: s}
	}
	return m
}()

// texts are the texts of all tokens but End.
func texts() []string {
	l := slices.Concat(words, signs)
	for _, s := range numbers {
		l = append(l, "r"+s, "t"+s)
	}
	return l
}

// blanks are a number of blanks.
func blanks(n int) string { return strings.Repeat(" ", n) }

// at is a known token at an offset.
func at(text string, n int) lex.Piece {
	p := known[text]
	p.At = n
	return p
}

// end is the End token at an offset.
func end(n int) lex.Piece { return lex.Piece{Kind: 5, At: n} }

// joins tells whether a byte of a text is one of those that belong together.
func joins(b byte) bool { return strings.IndexByte(joined, b) >= 0 }

// together tells whether two texts belong together where no blank is between them.
func together(a, b string) bool { return joins(a[len(a)-1]) && joins(b[0]) }

// model is Pieces by the chapter's words, without any function of the program.
func model(s string) ([]lex.Piece, int, api.Errno) {
	if len(s) > most {
		return nil, 0, api.ErrMany
	}
	var l []lex.Piece
	for rest := s; ; {
		rest = strings.TrimLeft(rest, " ")
		n := len(s) - len(rest)
		if rest == "" {
			return append(l, end(n)), 0, api.OK
		}
		text := rest[:len(rest)-len(strings.TrimLeft(rest, joined))]
		for _, sign := range signs {
			if strings.HasPrefix(rest, sign) {
				text = sign
			}
		}
		if known[text].Kind == 0 {
			return nil, n, api.ErrForm
		}
		l = append(l, at(text, n))
		rest = rest[len(text):]
	}
}

// mixed returns a source of numbers that look like any, the same ones in each run.
func mixed() func(below int) int {
	x := uint64(1)
	return func(below int) int {
		x = x*6364136223846793005 + 1442695040888963407
		return int(x>>33) % below
	}
}

// check holds Pieces against what is wanted.
func check(t *testing.T, s string, want []lex.Piece, number int, err api.Errno) {
	t.Helper()
	l, n, e := lex.Pieces(s)
	if !slices.Equal(l, want) || n != number || e != err {
		t.Fatalf("Pieces(%q) = %v, %d, %v, want %v, %d, %v", s, l, n, e, want, number, err)
	}
}

// checkFine asks for these tokens and no error.
func checkFine(t *testing.T, s string, want ...lex.Piece) {
	t.Helper()
	check(t, s, want, 0, api.OK)
}

// checkForm asks for ErrForm with an offset.
func checkForm(t *testing.T, s string, offset int) {
	t.Helper()
	check(t, s, nil, offset, api.ErrForm)
}

// checkMany asks for ErrMany.
func checkMany(t *testing.T, s string) {
	t.Helper()
	check(t, s, nil, 0, api.ErrMany)
}

// checkModel holds Pieces against the model, and returns the error.
func checkModel(t *testing.T, s string) api.Errno {
	t.Helper()
	l, n, e := model(s)
	check(t, s, l, n, e)
	return e
}

// P16.1: Pieces.

func TestExample(t *testing.T) {
	checkFine(t, "up r1<=all",
		lex.Piece{Kind: lex.Word, Text: "up", N: 0, At: 0},
		lex.Piece{Kind: lex.Role, Text: "r1", N: 1, At: 3},
		lex.Piece{Kind: lex.Sign, Text: "<=", N: 0, At: 5},
		lex.Piece{Kind: lex.Word, Text: "all", N: 0, At: 7},
		lex.Piece{Kind: lex.End, Text: "", N: 0, At: 10},
	)
}

func TestLongerQueries(t *testing.T) {
	checkFine(t, "count (r1 | up r2)",
		lex.Piece{Kind: lex.Word, Text: "count"},
		lex.Piece{Kind: lex.Sign, Text: "(", At: 6},
		lex.Piece{Kind: lex.Role, Text: "r1", N: 1, At: 7},
		lex.Piece{Kind: lex.Sign, Text: "|", At: 10},
		lex.Piece{Kind: lex.Word, Text: "up", At: 12},
		lex.Piece{Kind: lex.Role, Text: "r2", N: 2, At: 15},
		lex.Piece{Kind: lex.Sign, Text: ")", At: 17},
		lex.Piece{Kind: lex.End, At: 18},
	)
	checkFine(t, "  t15-(live&tags mine)<=t0 ",
		lex.Piece{Kind: lex.Tag, Text: "t15", N: 15, At: 2},
		lex.Piece{Kind: lex.Sign, Text: "-", At: 5},
		lex.Piece{Kind: lex.Sign, Text: "(", At: 6},
		lex.Piece{Kind: lex.Word, Text: "live", At: 7},
		lex.Piece{Kind: lex.Sign, Text: "&", At: 11},
		lex.Piece{Kind: lex.Word, Text: "tags", At: 12},
		lex.Piece{Kind: lex.Word, Text: "mine", At: 17},
		lex.Piece{Kind: lex.Sign, Text: ")", At: 21},
		lex.Piece{Kind: lex.Sign, Text: "<=", At: 22},
		lex.Piece{Kind: lex.Tag, Text: "t0", N: 0, At: 24},
		lex.Piece{Kind: lex.End, At: 27},
	)
	// What no grammar would allow are tokens all the same.
	checkFine(t, ")(<=<=||all all",
		lex.Piece{Kind: lex.Sign, Text: ")", At: 0},
		lex.Piece{Kind: lex.Sign, Text: "(", At: 1},
		lex.Piece{Kind: lex.Sign, Text: "<=", At: 2},
		lex.Piece{Kind: lex.Sign, Text: "<=", At: 4},
		lex.Piece{Kind: lex.Sign, Text: "|", At: 6},
		lex.Piece{Kind: lex.Sign, Text: "|", At: 7},
		lex.Piece{Kind: lex.Word, Text: "all", At: 8},
		lex.Piece{Kind: lex.Word, Text: "all", At: 12},
		lex.Piece{Kind: lex.End, At: 15},
	)
}

func TestEachWord(t *testing.T) {
	for _, s := range words {
		checkFine(t, s, lex.Piece{Kind: lex.Word, Text: s}, lex.Piece{Kind: lex.End, At: len(s)})
	}
}

func TestEachRole(t *testing.T) {
	for n := range 16 {
		s := fmt.Sprintf("r%d", n)
		checkFine(t, s, lex.Piece{Kind: lex.Role, Text: s, N: n}, lex.Piece{Kind: lex.End, At: len(s)})
	}
}

func TestEachTag(t *testing.T) {
	for n := range 16 {
		s := fmt.Sprintf("t%d", n)
		checkFine(t, s, lex.Piece{Kind: lex.Tag, Text: s, N: n}, lex.Piece{Kind: lex.End, At: len(s)})
	}
}

func TestEachSign(t *testing.T) {
	for _, s := range signs {
		checkFine(t, s, lex.Piece{Kind: lex.Sign, Text: s}, lex.Piece{Kind: lex.End, At: len(s)})
	}
}

// Blanks in front of a token and behind it, as many as there is room for.
func TestEachAmongBlanks(t *testing.T) {
	for _, s := range texts() {
		for front := range most - len(s) + 1 {
			for _, back := range []int{0, 1, 2, most - len(s) - front} {
				n := front + len(s) + back
				if n > most {
					checkMany(t, blanks(front)+s+blanks(back))
					continue
				}
				checkFine(t, blanks(front)+s+blanks(back), at(s, front), end(n))
			}
		}
	}
}

func TestEveryTwo(t *testing.T) {
	l := texts()
	if len(l) != 9+6+16+16 {
		t.Fatalf("tokens: %d", len(l))
	}
	apart, none := 0, 0
	for _, a := range l {
		for _, b := range l {
			for _, n := range []int{1, 2, 3, 7, 30, most - len(a) - len(b)} {
				second := len(a) + n
				checkFine(t, a+blanks(n)+b, at(a, 0), at(b, second), end(second+len(b)))
			}
			if !together(a, b) {
				checkFine(t, a+b, at(a, 0), at(b, len(a)), end(len(a)+len(b)))
				apart++
				continue
			}
			// It so happens that no two of letters and digits run together into another one.
			checkForm(t, a+b, 0)
			none++
		}
	}
	if none != 41*41 || apart != 47*47-41*41 {
		t.Errorf("two tokens: %d, none: %d", apart, none)
	}
}

// A blank within a token leaves none of it, but of r10 to r15 and t10 to t15 the first digit.
func TestBlanksWithinTokens(t *testing.T) {
	count := 0
	for _, s := range texts() {
		for i := 1; i < len(s); i++ {
			split := s[:i] + " " + s[i:]
			if known[s[:i]].Kind == 0 {
				checkForm(t, split, 0)
				continue
			}
			checkForm(t, split, i+1)
			count++
		}
	}
	if count != 12 {
		t.Errorf("tokens that begin with another one: %d", count)
	}
	checkForm(t, "u p", 0)
	checkForm(t, "r 1", 0)
	checkForm(t, "< =", 0)
	checkForm(t, "r1 5", 3)
	checkForm(t, "up r1 5", 6)
}

// Signs end what is of letters and digits, and need no blanks themselves.
func TestEveryThreeAroundASign(t *testing.T) {
	l := texts()
	for _, a := range l {
		for _, sign := range signs {
			for _, b := range l {
				n := len(a) + len(sign)
				checkFine(t, a+sign+b, at(a, 0), at(sign, len(a)), at(b, n), end(n+len(b)))
			}
		}
	}
}

func TestNothingButBlanks(t *testing.T) {
	for n := range most + 1 {
		checkFine(t, blanks(n), lex.Piece{Kind: lex.End, Text: "", N: 0, At: n})
	}
	checkMany(t, blanks(most+1))
}

// Blanks in front, between and behind, where the End token's offset is the length.
func TestBlanksAllOver(t *testing.T) {
	for front := range 10 {
		for between := range 10 {
			for back := range 10 {
				s := blanks(front) + "up" + blanks(between+1) + "r12" + blanks(between) + "<=" + blanks(between) + "all" + blanks(back)
				second := front + 2 + between + 1
				third := second + 3 + between
				fourth := third + 2 + between
				if len(s) > most {
					checkMany(t, s)
					continue
				}
				checkFine(t, s, at("up", front), at("r12", second), at("<=", third), at("all", fourth), end(fourth+3+back))
			}
		}
	}
}

// full are queries of 48 bytes, each with its tokens but End.
func full() map[string][]lex.Piece {
	m := map[string][]lex.Piece{blanks(most): nil}
	for text := range known {
		m[text+blanks(most-len(text))] = []lex.Piece{at(text, 0)}
		m[blanks(most-len(text))+text] = []lex.Piece{at(text, most-len(text))}
	}
	for _, text := range []string{"r0 ", "r7|", "-t3", "r15 ", "t10&", "up ", "all ", "some ", " (", "<=", "-", "()", "count (", "t9<="} {
		s := strings.Repeat(text, most/len(text))
		s += blanks(most - len(s))
		l, _, _ := model(s)
		m[s] = l[:len(l)-1]
	}
	return m
}

func TestLongestQueries(t *testing.T) {
	for s, l := range full() {
		if len(s) != most {
			t.Fatalf("%q has %d bytes", s, len(s))
		}
		checkFine(t, s, append(l, end(most))...)
		checkMany(t, s+" ")
		checkMany(t, " "+s)
		checkModel(t, s[:most-1])
		checkModel(t, s[1:])
	}
	signs := make([]lex.Piece, most+1)
	for n := range most {
		signs[n] = lex.Piece{Kind: lex.Sign, Text: "-", At: n}
	}
	signs[most] = end(most)
	checkFine(t, strings.Repeat("-", most), signs...)
}

// 48 bytes are not too many, so that the error is that of the form.
func TestLongestQueriesThatAreNone(t *testing.T) {
	for _, bad := range notTokens() {
		if len(bad) > most {
			continue
		}
		n := most - len(bad)
		checkForm(t, bad+blanks(n), 0)
		checkForm(t, blanks(n)+bad, n)
		checkForm(t, strings.Repeat("|", n)+bad, n)
	}
	checkForm(t, strings.Repeat("a", most), 0)
	checkForm(t, strings.Repeat("0", most), 0)
	checkForm(t, "r"+strings.Repeat("0", most-1), 0)
	checkForm(t, "t"+strings.Repeat("9", most-1), 0)
	checkForm(t, "r"+strings.Repeat("0", most-2)+"1", 0)
	checkForm(t, strings.Repeat("all", most/3), 0)
	checkForm(t, strings.Repeat("-", most-1)+"<", most-1)
	checkForm(t, blanks(most-1)+"r", most-1)
	// Bytes are counted, not characters.
	checkForm(t, strings.Repeat("é", most/2), 0)
	checkMany(t, strings.Repeat("é", most/2)+" ")
	checkMany(t, strings.Repeat("日", most/3+1))
}

// Too many bytes, whatever they are.
func TestTooLongQueries(t *testing.T) {
	for _, n := range []int{most + 1, most + 2, most + 3, 2 * most, 96, 100, 255, 256, 257, 300, 304, 1000, 65535, 65536, 65584, 1 << 20, 1 << 24} {
		for _, b := range []string{" ", "-", "a", "r", "0", "<", "=", "\x00", "\xff", "\n"} {
			checkMany(t, strings.Repeat(b, n))
		}
		for _, text := range []string{"all", "r1", "<=", "x", "<", "r16", "!"} {
			checkMany(t, text+blanks(n-len(text)))
			checkMany(t, blanks(n-len(text))+text)
		}
	}
	for _, bad := range notTokens() {
		checkMany(t, bad+blanks(most+1-len(bad)))
		checkMany(t, blanks(most+1-len(bad))+bad)
		checkMany(t, "all "+bad+strings.Repeat(" |", most))
	}
}

// notTokens are texts in which no token begins at the first byte.
func notTokens() []string {
	l := []string{
		"none", "role", "roles", "tag", "owner", "owns", "dead", "used", "in", "and", "or", "not", "less", "any", "x", "a", "z", "e", "label", "true", "false", "self",
		"r", "t", "r16", "t16", "r17", "t17", "r19", "r20", "t20", "r99", "r100", "t100", "r150", "t115", "r255", "r256", "t65536", "r4294967296", "r18446744073709551616", "r18446744073709551617", "t340282366920938463463374607431768211457",
		"r01", "t01", "r00", "t00", "r000", "r010", "t015", "r001", "r1x", "t1x", "rx", "rx1", "r1r", "rr1", "tr1", "rt", "t1t", "1r", "1t", "r0x1", "r1e0", "r1r2", "t1t2", "r1t2", "t15r15",
		"r-1", "t-1", "r-0", "r+1", "t+1", "r_1", "r 1", "t 0", "r(1)", "r|", "t<=1", "r.1", "r１", "t\x001",
		"0", "1", "9", "10", "15", "16", "007", "1all", "0r", "5t5", "0x1", "1 2",
		"<", "=", "=<", "==", "<<", "<<=", "< =", "<\t=", "=<=", "=>", "<>", "<-", "<(", "<r1", "<all", "<1", "<\x00", "< ", "= ", "<|=", "=all",
		">", ">=", "!", "!=", "~", "^", "\\", "/", "*", "+", "%", "$", "#", "@", "?", ".", ",", ";", ":", "'", "\"", "`", "[", "]", "{", "}", "_", "//", "/*", "\x00", "\x7f",
		"\t", "\n", "\r", "\r\n", "\v", "\f", "\u00a0", "\u2003", "\u3000", "\ufeff", "\t all", "\nup", "\u00a0all", "é", "ａｌｌ", "日", "\xe9", "\xff\xfe", "\x80", "‐", "−", "∣", "≤", "（",
	}
	for _, s := range words {
		l = append(l, strings.ToUpper(s), strings.ToUpper(s[:1])+s[1:], s[:len(s)-1]+strings.ToUpper(s[len(s)-1:]))
		l = append(l, s[1:], s[:len(s)-1], s[:1], s[:1]+s, s+s[len(s)-1:], s+"s", s+"x", "x"+s, s+"0", s+"1", "1"+s, s+s, s+"r1", "t1"+s)
	}
	for _, s := range numbers {
		l = append(l, "R"+s, "T"+s, s, "r"+s+"a", "t"+s+"z", "r0"+s, "t0"+s, "ar"+s, "s"+s, "q"+s, "u"+s)
	}
	return l
}

// startsNone tells whether no token begins at the first byte, by the model.
func startsNone(s string) bool {
	_, n, e := model(s)
	return e == api.ErrForm && n == 0
}

func TestWhatIsNoToken(t *testing.T) {
	l := notTokens()
	for _, s := range l {
		if !startsNone(s) {
			t.Fatalf("a token begins %q", s)
		}
		checkForm(t, s, 0)
		checkForm(t, s+" ", 0)
		checkForm(t, " "+s, 1)
		checkForm(t, "    "+s+"   ", 4)
	}
	for _, good := range []string{"all", "r1", "t15", "(", "<=", "up (r1 - r2)"} {
		for _, s := range l {
			if len(s) > 20 {
				continue
			}
			n := len(good) + 1
			checkForm(t, s+" "+good, 0)
			checkForm(t, good+" "+s, n)
			checkForm(t, good+" "+s+" "+good, n)
			checkForm(t, good+"   "+s+" ", n+2)
			// And with no blank, where it does not run together with what is in front of it.
			if !together(good, s) {
				checkForm(t, good+s, n-1)
				checkForm(t, good+s+good, n-1)
			}
		}
	}
}

// Where it runs together with what is in front, no token begins there either.
func TestWhatRunsTogether(t *testing.T) {
	checkForm(t, "r1all", 0)
	checkForm(t, "allr1", 0)
	checkForm(t, "up r1all", 3)
	checkForm(t, "(allr1)", 1)
	checkForm(t, "r15t15", 0)
	checkForm(t, "upup", 0)
	checkForm(t, "updown r1", 0)
	checkForm(t, "up downr1", 3)
	checkForm(t, "r1 0r", 3)
	checkForm(t, "tags7", 0)
	checkForm(t, "r1<=r2x", 4)
	// Capitals and other bytes do not run together with it, but begin no token themselves.
	checkForm(t, "allX", 3)
	checkForm(t, "upDown", 2)
	checkForm(t, "r1X", 2)
	checkForm(t, "r1_0", 2)
	checkForm(t, "t1.0", 2)
	checkForm(t, "all\n", 3)
	checkForm(t, "up\tr1", 2)
	checkForm(t, "allé", 3)
	checkForm(t, "aLL", 0)
	checkForm(t, "r1=r2", 2)
	checkForm(t, "r1<r2", 2)
	checkForm(t, "r1<==r2", 4)
	checkForm(t, "r1<<=r2", 2)
	checkForm(t, "r1=<r2", 2)
	checkForm(t, "r1 < =r2", 3)
	checkForm(t, "all<", 3)
	checkForm(t, "all <", 4)
	checkForm(t, "all =", 4)
	// What is no token in front of a sign stays in front.
	checkForm(t, "x<=all", 0)
	checkForm(t, "all|x-all", 4)
	checkForm(t, "r-1", 0)
	checkForm(t, "r16&r1", 0)
}

// Every byte that begins no token, alone and between others.
func TestBytesThatBeginNoToken(t *testing.T) {
	count := 0
	for b := range 256 {
		s := string([]byte{byte(b)})
		if s == " " || slices.Contains(signs, s) {
			continue
		}
		count++
		checkForm(t, s, 0)
		checkForm(t, s+s, 0)
		checkForm(t, " "+s, 1)
		checkForm(t, s+" all", 0)
		checkForm(t, s+"(", 0)
		checkForm(t, "up r1 "+s, 6)
		checkForm(t, "up "+s+" r1", 3)
		checkForm(t, "(r1)"+s, 4)
		checkForm(t, "-"+s+"-", 1)
		if !joins(byte(b)) {
			checkForm(t, "all"+s, 3)
			checkForm(t, "r1"+s+"1", 2)
			checkForm(t, s+"all", 0)
		}
	}
	if count != 256-6 {
		t.Errorf("bytes: %d", count)
	}
}

// The first error is the one that counts.
func TestWhichErrorComesFirst(t *testing.T) {
	checkForm(t, "x y", 0)
	checkForm(t, "all x y", 4)
	checkForm(t, "all X!", 4)
	checkForm(t, "r16 < =", 0)
	checkForm(t, "< r16", 0)
	checkForm(t, "up < r16", 3)
	checkForm(t, "(r1 | \n) | t01", 6)
	checkForm(t, "  =  =", 2)
	var l []string
	for _, s := range notTokens() {
		if len(s) < 10 {
			l = append(l, s)
		}
	}
	next := mixed()
	for _, a := range l {
		for range 20 {
			b := l[next(len(l))]
			checkForm(t, a+" "+b, 0)
			checkForm(t, "all "+a+" "+b, 4)
			checkForm(t, " - "+a+" r1 "+b+" up", 3)
			// Too many bytes come first of all, wherever what is no token stands.
			s := a + " " + b
			checkMany(t, s+blanks(most+1-len(s)))
			checkMany(t, blanks(most+1-len(s))+s)
			checkMany(t, a+strings.Repeat("(", most)+b)
		}
	}
}

// All queries of up to two bytes.
func TestAllShortQueries(t *testing.T) {
	fine := 0
	for a := range 256 {
		if checkModel(t, string([]byte{byte(a)})) == api.OK {
			fine++
		}
		for b := range 256 {
			if checkModel(t, string([]byte{byte(a), byte(b)})) == api.OK {
				fine++
			}
		}
	}
	// One byte: a blank or one of five signs; two bytes: two of these, <=, up, and ten roles and tags each.
	if fine != 6+36+1+1+20 {
		t.Errorf("queries: %d", fine)
	}
}

// All queries of up to six bytes out of a few that make something together.
func TestAllQueriesOfFewBytes(t *testing.T) {
	fine, others := 0, 0
	var each func(s, alphabet string, left int)
	each = func(s, alphabet string, left int) {
		if checkModel(t, s) == api.OK {
			fine++
		} else {
			others++
		}
		if left == 0 {
			return
		}
		for i := range len(alphabet) {
			each(s+alphabet[i:i+1], alphabet, left-1)
		}
	}
	each("", "rt0156 ", 6)
	each("", "<= |r1", 6)
	each("", "alup ", 6)
	each("", "ownes0", 6)
	if fine < 1000 || others < 50000 {
		t.Errorf("queries: %d, others: %d", fine, others)
	}
}

// Every byte of queries, with every value, in place of it, ahead of it, and left out.
func TestByteByByte(t *testing.T) {
	fine, others := 0, 0
	note := func(s string) {
		if checkModel(t, s) == api.OK {
			fine++
		} else {
			others++
		}
	}
	for _, s := range []string{"up r1<=all", "count (r1 | up r2)", "t15-(live&tags mine)<=t0", " some down owners t10 ", "r0 r9 r10 r15", "-- <= ()"} {
		for i := range len(s) + 1 {
			for b := range 256 {
				note(s[:i] + string([]byte{byte(b)}) + s[i:])
				if i < len(s) {
					note(s[:i] + string([]byte{byte(b)}) + s[i+1:])
				}
			}
			note(s[:i])
			note(s[i:])
			if i < len(s) {
				note(s[:i] + s[i+1:])
			}
		}
	}
	if fine < 500 || others < 30000 {
		t.Errorf("queries: %d, others: %d", fine, others)
	}
}

// Roles and tags of any number.
func TestAllNumbers(t *testing.T) {
	for _, letter := range []string{"r", "t"} {
		fine := 0
		for n := range 20000 {
			s := fmt.Sprint(letter, n)
			if n < 16 {
				checkFine(t, s, at(s, 0), end(len(s)))
				fine++
			} else {
				checkForm(t, s, 0)
			}
			for zeros := 1; zeros < 4; zeros++ {
				checkForm(t, letter+strings.Repeat("0", zeros)+fmt.Sprint(n), 0)
			}
		}
		if fine != 16 {
			t.Errorf("%s: %d", letter, fine)
		}
	}
}

// Mixed queries of tokens and of what is none.
func TestMixedQueries(t *testing.T) {
	good, bad := texts(), notTokens()
	next := mixed()
	count := map[api.Errno]int{}
	for range 200000 {
		var s strings.Builder
		for range next(12) {
			s.WriteString(blanks(next(4)))
			if next(40) == 0 {
				s.WriteString(bad[next(len(bad))])
			} else {
				s.WriteString(good[next(len(good))])
			}
		}
		s.WriteString(blanks(next(3)))
		count[checkModel(t, s.String())]++
	}
	for _, e := range []api.Errno{api.OK, api.ErrMany, api.ErrForm} {
		if count[e] < 5000 {
			t.Errorf("%v: %d times", e, count[e])
		}
	}
}

// P16.2: inserting blanks between tokens changes nothing but their offsets.

// mixedTokens are the texts of some tokens.
func mixedTokens(next func(below int) int) []string {
	l := texts()
	var tokens []string
	for range next(11) {
		// Signs more often than the others, which are more.
		if next(3) == 0 {
			tokens = append(tokens, signs[next(len(signs))])
		} else {
			tokens = append(tokens, l[next(len(l))])
		}
	}
	return tokens
}

// gaps are the fewest blanks in front of each of some tokens, and behind the last one.
func gaps(tokens []string) []int {
	l := make([]int, len(tokens)+1)
	for i := 1; i < len(tokens); i++ {
		if together(tokens[i-1], tokens[i]) {
			l[i] = 1
		}
	}
	return l
}

// spaced is the query of tokens with blanks in the gaps, and the tokens with their offsets.
func spaced(tokens []string, gaps []int) (string, []lex.Piece) {
	var s strings.Builder
	var l []lex.Piece
	for i, text := range tokens {
		s.WriteString(blanks(gaps[i]))
		l = append(l, at(text, s.Len()))
		s.WriteString(text)
	}
	s.WriteString(blanks(gaps[len(tokens)]))
	return s.String(), append(l, end(s.Len()))
}

// withoutOffsets are tokens as if all stood at the beginning.
func withoutOffsets(l []lex.Piece) []lex.Piece {
	l = slices.Clone(l)
	for i := range l {
		l[i].At = 0
	}
	return l
}

// checkSpaced holds the tokens of one query against those of another one with other blanks, but for the offsets.
func checkSpaced(t *testing.T, s, wide string) {
	t.Helper()
	a, _, e := lex.Pieces(s)
	b, n, f := lex.Pieces(wide)
	if e != api.OK || f != api.OK || n != 0 || !slices.Equal(withoutOffsets(a), withoutOffsets(b)) {
		t.Fatalf("%q: %v, %v, %q: %v, %d, %v", s, a, e, wide, b, n, f)
	}
}

func TestBlanksBetweenTokens(t *testing.T) {
	next := mixed()
	queries, wider := 0, 0
	for range 8000 {
		tokens := mixedTokens(next)
		fewest := gaps(tokens)
		s, want := spaced(tokens, fewest)
		if len(s) > most {
			checkMany(t, s)
			continue
		}
		queries++
		checkFine(t, s, want...)
		for room := most - len(s); room > 0; room -= 1 + next(5) {
			wide := slices.Clone(fewest)
			for range room {
				wide[next(len(wide))]++
			}
			w, want := spaced(tokens, wide)
			checkFine(t, w, want...)
			checkSpaced(t, s, w)
			wider++
		}
		for i := range fewest {
			for _, n := range []int{1, 2, most - len(s)} {
				wide := slices.Clone(fewest)
				wide[i] += n
				w, want := spaced(tokens, wide)
				if len(w) > most {
					checkMany(t, w)
					continue
				}
				checkFine(t, w, want...)
				checkSpaced(t, s, w)
				wider++
			}
		}
	}
	if queries < 4000 || wider < 50000 {
		t.Errorf("queries: %d, with more blanks: %d", queries, wider)
	}
}

// In front of what is no token, blanks change its offset alone, and behind it nothing.
func TestBlanksAboutWhatIsNoToken(t *testing.T) {
	next := mixed()
	bad := notTokens()
	count := 0
	for range 8000 {
		front, back := mixedTokens(next), mixedTokens(next)
		text := bad[next(len(bad))]
		tokens := slices.Concat(front, []string{text}, back)
		wide := gaps(tokens)
		s, l := spaced(tokens, wide)
		if len(s) > most {
			checkMany(t, s)
			continue
		}
		checkForm(t, s, l[len(front)].At)
		for range most - len(s) {
			wide[next(len(wide))]++
			s, l = spaced(tokens, wide)
			checkForm(t, s, l[len(front)].At)
			count++
		}
	}
	if count < 20000 {
		t.Errorf("queries: %d", count)
	}
}

// R4 and R5: results are new memory, and hang on the query alone.

func TestResultsAreNew(t *testing.T) {
	for s, l := range full() {
		want := append(slices.Clone(l), end(most))
		got, _, _ := lex.Pieces(s)
		clear(got)
		_ = append(got[:0], lex.Piece{Kind: 9, Text: "x", N: 9, At: 9})
		checkFine(t, s, want...)
		other, _, _ := lex.Pieces(s)
		clear(got[:cap(got)])
		if !slices.Equal(other, want) {
			t.Fatalf("Pieces(%q) = %v, once another result was changed", s, other)
		}
	}
}
