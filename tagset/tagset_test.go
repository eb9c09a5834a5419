package tagset_test

import (
	"math"
	"slices"
	"strconv"
	"strings"
	"testing"

	"forepeak/api"
	"forepeak/tagset"
)

// The signatures and the constant are those of the chapter: All has no type of its own.
var (
	_ uint16 = tagset.All
	_ int    = tagset.All
)

// notTags are numbers that are no tags, among them those whose low bits would be one's.
var notTags = []int{-1, -16, 16, 17, 31, 32, 35, 64, 65536, -65533, math.MaxInt, math.MinInt}

// tagsOf is the list of a set's tags, without any function of the package.
func tagsOf(s uint16) []int {
	var l []int
	for t := range 16 {
		if int(s)/(1<<t)%2 == 1 {
			l = append(l, t)
		}
	}
	return l
}

// textOf is a set's text, without any function of the package.
func textOf(s uint16) string {
	text := ""
	for _, t := range tagsOf(s) {
		if text != "" {
			text += ","
		}
		text += strconv.Itoa(t)
	}
	if text == "" {
		return "-"
	}
	return text
}

// eachSet calls f with every set.
func eachSet(f func(s uint16)) {
	for n := range 1 << 16 {
		f(uint16(n))
	}
}

// P1.1: Of, Has, Sub, Count, Least, Each.

func TestAllHasEveryTag(t *testing.T) {
	if tagset.All != 65535 {
		t.Fatal(tagset.All)
	}
	if got := tagset.Of(tagsOf(tagset.All)...); got != tagset.All {
		t.Fatal(got)
	}
}

func TestOf(t *testing.T) {
	cases := []struct {
		tags []int
		want uint16
	}{
		{nil, 0},
		{[]int{}, 0},
		{[]int{0}, 1},
		{[]int{15}, 32768},
		{[]int{3, 0, 16}, 9},
		{[]int{2, 2, 2}, 4},
		{[]int{15, 14, 1, 0}, 49155},
		{[]int{0, 1, 2, 3, 4, 5, 6, 7, 8, 9, 10, 11, 12, 13, 14, 15}, 65535},
		{notTags, 0},
		{append([]int{7}, notTags...), 128},
	}
	for _, c := range cases {
		if got := tagset.Of(c.tags...); got != c.want {
			t.Errorf("Of(%v) = %d, want %d", c.tags, got, c.want)
		}
	}
	if got := tagset.Of(); got != 0 {
		t.Errorf("Of() = %d", got)
	}
}

func TestOfLeavesItsArguments(t *testing.T) {
	room := []int{3, 0, 16, 3, 7}
	s := tagset.Of(room[:4]...)
	if want := []int{3, 0, 16, 3, 7}; !slices.Equal(room, want) {
		t.Errorf("arguments became %v", room)
	}
	room[0] = 9
	if s != 9 {
		t.Errorf("set became %d", s)
	}
}

func TestHas(t *testing.T) {
	eachSet(func(s uint16) {
		tags := tagsOf(s)
		for n := -2; n < 40; n++ {
			if got, want := tagset.Has(s, n), slices.Contains(tags, n); got != want {
				t.Fatalf("Has(%d, %d) = %v", s, n, got)
			}
		}
	})
}

func TestHasNoOtherNumber(t *testing.T) {
	for _, n := range notTags {
		if tagset.Has(tagset.All, n) {
			t.Errorf("All has %d", n)
		}
	}
}

func TestSub(t *testing.T) {
	cases := []struct {
		a, b uint16
		want bool
	}{
		{0, 0, true},
		{0, 9, true},
		{9, 0, false},
		{9, 9, true},
		{1, 9, true},
		{9, 1, false},
		{2, 9, false},
		{11, 9, false},
		{9, tagset.All, true},
		{tagset.All, tagset.All, true},
		{tagset.All, 32767, false},
		{32768, 32767, false},
		{32767, tagset.All, true},
	}
	for _, c := range cases {
		if got := tagset.Sub(c.a, c.b); got != c.want {
			t.Errorf("Sub(%d, %d) = %v", c.a, c.b, got)
		}
	}
}

func TestCount(t *testing.T) {
	eachSet(func(s uint16) {
		if got, want := tagset.Count(s), len(tagsOf(s)); got != want {
			t.Fatalf("Count(%d) = %d, want %d", s, got, want)
		}
	})
}

func TestLeast(t *testing.T) {
	if n, ok := tagset.Least(0); n != 0 || ok {
		t.Errorf("Least(0) = %d, %v", n, ok)
	}
	eachSet(func(s uint16) {
		if s == 0 {
			return
		}
		if n, ok := tagset.Least(s); n != tagsOf(s)[0] || !ok {
			t.Fatalf("Least(%d) = %d, %v", s, n, ok)
		}
	})
}

func TestEach(t *testing.T) {
	eachSet(func(s uint16) {
		if got, want := slices.Collect(tagset.Each(s)), tagsOf(s); !slices.Equal(got, want) {
			t.Fatalf("Each(%d) yields %v, want %v", s, got, want)
		}
	})
}

func TestEachOfNothingIsAnIterator(t *testing.T) {
	seq := tagset.Each(0)
	if seq == nil {
		t.Fatal("nil iterator")
	}
	for n := range seq {
		t.Fatal(n)
	}
}

func TestEachStopsWhereItIsLeft(t *testing.T) {
	for most := 1; most <= 4; most++ {
		var got []int
		tagset.Each(tagset.Of(2, 5, 11, 15))(func(n int) bool {
			got = append(got, n)
			return len(got) < most
		})
		if want := []int{2, 5, 11, 15}[:most]; !slices.Equal(got, want) {
			t.Errorf("left after %d: %v", most, got)
		}
	}
}

func TestEachCanBeUsedAgain(t *testing.T) {
	want := []int{0, 3, 15}
	seq := tagset.Each(tagset.Of(want...))
	for n := range seq {
		if n == 3 {
			break
		}
	}
	var outer []int
	for n := range seq {
		outer = append(outer, n)
		if inner := slices.Collect(seq); !slices.Equal(inner, want) {
			t.Errorf("inner run: %v", inner)
		}
	}
	if !slices.Equal(outer, want) {
		t.Errorf("outer run: %v", outer)
	}
}

// P1.2: Text, Parse.

func TestText(t *testing.T) {
	cases := []struct {
		set  uint16
		want string
	}{
		{0, "-"},
		{1, "0"},
		{tagset.Of(3, 0), "0,3"},
		{tagset.Of(15, 10, 9), "9,10,15"},
		{32768, "15"},
		{tagset.All, "0,1,2,3,4,5,6,7,8,9,10,11,12,13,14,15"},
	}
	for _, c := range cases {
		if got := tagset.Text(c.set); got != c.want {
			t.Errorf("Text(%d) = %q, want %q", c.set, got, c.want)
		}
	}
	eachSet(func(s uint16) {
		if got, want := tagset.Text(s), textOf(s); got != want {
			t.Fatalf("Text(%d) = %q, want %q", s, got, want)
		}
	})
}

func TestParseTakesTheTextOfEachSet(t *testing.T) {
	eachSet(func(s uint16) {
		if got, e := tagset.Parse(textOf(s)); got != s || e != api.OK {
			t.Fatalf("Parse(%q) = %d, %v", textOf(s), got, e)
		}
	})
}

func TestParseRejects(t *testing.T) {
	texts := []string{
		"", ",", ",,", " ", "\x00", "\n", "x", "0x1", "1e0", "0b1", "1_0", ".", "1.0",
		"16", "99", "65536", "18446744073709551616", "4294967299",
		"00", "01", "015", "0,01", "00,1", "0,1,02",
		"+1", "-1", "-0", "+0", "0,+1", "0,-1", "--", "-,", ",-", "-,0", "0,-", "- ",
		"3,0", "0,0", "1,1", "15,15", "10,9", "9,10,9", "0,1,1", "0,2,1", "14,15,16",
		",0", "0,", "0,,1", "0, 1", " 0", "0 ", "0\n", "0;1", "0 1", "0\x00", "\xff", "0,\xff", "\u0663", "\uff11",
		"0,3\n", "0,1,2,3,4,5,6,7,8,9,10,11,12,13,14,15,", "0,1,2,3,4,5,6,7,8,9,10,11,12,13,14,15,16",
	}
	for _, s := range texts {
		if got, e := tagset.Parse(s); got != 0 || e != api.ErrForm {
			t.Errorf("Parse(%q) = %d, %v", s, got, e)
		}
	}
}

func TestParseRejectsLongTexts(t *testing.T) {
	const most = 1 << 24
	texts := []string{
		strings.Repeat("0", most),
		strings.Repeat("9", most),
		strings.Repeat(",", most),
		strings.Repeat("-", most),
		strings.Repeat("0,", most/2),
		"0," + strings.Repeat("1", most-2),
	}
	for _, s := range texts {
		if got, e := tagset.Parse(s); got != 0 || e != api.ErrForm {
			t.Errorf("Parse of %q .. = %d, %v", s[:4], got, e)
		}
	}
}

// Every short string of these bytes is the text of a set, or rejected.
func TestParseShortTexts(t *testing.T) {
	sets := map[string]uint16{}
	eachSet(func(s uint16) { sets[textOf(s)] = s })
	var check func(s string, more int)
	check = func(s string, more int) {
		want, isText := sets[s]
		got, e := tagset.Parse(s)
		if isText && (got != want || e != api.OK) || !isText && (got != 0 || e != api.ErrForm) {
			t.Errorf("Parse(%q) = %d, %v", s, got, e)
		}
		if more == 0 {
			return
		}
		for _, b := range "0123456789,-+ _" {
			check(s+string(b), more-1)
		}
	}
	check("", 5)
}

// P1.3: consequences.

func TestSetIsTheSetOfItsTags(t *testing.T) {
	eachSet(func(s uint16) {
		if got := tagset.Of(slices.Collect(tagset.Each(s))...); got != s {
			t.Fatalf("the set of the tags of %d is %d", s, got)
		}
	})
}

func TestSubMeansThatEachTagIsThere(t *testing.T) {
	check := func(a, b uint16) {
		want := true
		for n := range tagset.Each(a) {
			want = want && tagset.Has(b, n)
		}
		if got := tagset.Sub(a, b); got != want {
			t.Fatalf("Sub(%d, %d) = %v", a, b, got)
		}
	}
	others := []uint16{0, 1, 9, 255, 256, 4660, 21845, 32767, 32768, 43690, 65534, tagset.All}
	eachSet(func(s uint16) {
		for _, o := range others {
			check(s, o)
			check(o, s)
		}
	})
	for a := range uint16(64) {
		for b := range uint16(64) {
			check(a<<10|a, b<<10|b)
			check(a<<5, b<<5)
		}
	}
}

func TestDifferentSetsHaveDifferentTexts(t *testing.T) {
	sets := map[string]uint16{}
	eachSet(func(s uint16) {
		text := tagset.Text(s)
		if o, there := sets[text]; there {
			t.Fatalf("%d and %d have the text %q", o, s, text)
		}
		sets[text] = s
	})
}
