package parse_test

import (
	"fmt"
	"math"
	"slices"
	"strings"
	"testing"

	"forepeak/api"
	"forepeak/lex"
	"forepeak/parse"
)

// The signatures are those of the chapter.
var (
	_ func(kind int) int                          = parse.Args
	_ func(l []api.Node) bool                     = parse.Right
	_ func(l []api.Node, i int) int               = parse.Begin
	_ func(s string) ([]api.Node, int, api.Errno) = parse.Query
)

// The limits of the chapter.
const (
	mostBytes = 48
	mostNodes = 24
	mostDeep  = 8
)

// arguments has the number of arguments by kind.
var arguments = [16]int{-1, 0, 0, 0, 0, 0, 1, 1, 1, 1, 1, 1, 2, 2, 2, 2}

// kinds has the kinds of the tokens that begin or join nodes, but for roles and tags.
var kinds = map[string]int{
	"all": 1, "live": 2, "mine": 3, "up": 6, "down": 7, "tags": 8, "owners": 9, "count": 10, "some": 11,
	"&": 12, "|": 13, "-": 14, "<=": 15,
}

var (
	leaves = []string{"all", "live", "mine", "r0", "r1", "r9", "r10", "r15", "t0", "t1", "t9", "t10", "t15"}
	words  = []string{"up", "down", "tags", "owners", "count", "some"}
	signs  = []string{"&", "|", "-", "<="}
)

// binds has how close an operator binds: more binds closer.
var binds = map[string]int{"<=": 1, "|": 2, "-": 2, "&": 3}

// node is the node of a token.
func node(text string) api.Node {
	if k := kinds[text]; k != 0 {
		return api.Node{Kind: k}
	}
	n := 0
	if _, e := fmt.Sscanf(text[1:], "%d", &n); e != nil {
		panic(text)
	}
	return api.Node{Kind: map[byte]int{'r': 4, 't': 5}[text[0]], N: n}
}

// nodes are the nodes of tokens in postfix order.
func nodes(texts string) []api.Node {
	var l []api.Node
	for _, s := range strings.Fields(texts) {
		l = append(l, node(s))
	}
	return l
}

// mixed returns a source of numbers that look like any, the same ones in each run.
func mixed() func(below int) int {
	x := uint64(1)
	return func(below int) int {
		x = x*6364136223846793005 + 1442695040888963407
		return int(x>>33) % below
	}
}

// check holds Query against what is wanted.
func check(t *testing.T, s string, want []api.Node, number int, err api.Errno) {
	t.Helper()
	l, n, e := parse.Query(s)
	if !slices.Equal(l, want) || n != number || e != err {
		t.Fatalf("Query(%q) = %v, %d, %v, want %v, %d, %v", s, l, n, e, want, number, err)
	}
}

// checkFine asks for these nodes in postfix order.
func checkFine(t *testing.T, s, postfix string) {
	t.Helper()
	check(t, s, nodes(postfix), 0, api.OK)
}

// checkError asks for an error with an offset.
func checkError(t *testing.T, s string, offset int, err api.Errno) {
	t.Helper()
	check(t, s, nil, offset, err)
}

// checkForm asks for ErrForm with an offset.
func checkForm(t *testing.T, s string, offset int) {
	t.Helper()
	checkError(t, s, offset, api.ErrForm)
}

// machine is Query by two states and a stack of what is open, without recursion: it knows of no rule of the grammar but how close operators bind.
type machine struct {
	out   []api.Node
	open  []string // parentheses, words, and operators that lack what is behind them
	depth int      // parentheses and words among them
}

// pop takes the last one that is open, and makes a node of it.
func (m *machine) pop() {
	s := m.open[len(m.open)-1]
	m.open = m.open[:len(m.open)-1]
	if slices.Contains(words, s) || s == "(" {
		m.depth--
	}
	if s != "(" {
		m.out = append(m.out, node(s))
	}
}

// push opens one more.
func (m *machine) push(s string) {
	m.open = append(m.open, s)
	if slices.Contains(words, s) || s == "(" {
		m.depth++
	}
}

// last tells what is open last.
func (m *machine) last() string {
	if len(m.open) == 0 {
		return ""
	}
	return m.open[len(m.open)-1]
}

// ended closes the words in front of what has ended.
func (m *machine) ended() {
	for slices.Contains(words, m.last()) {
		m.pop()
	}
}

// compared tells whether a <= is open within the last parentheses.
func (m *machine) compared() bool {
	for i := len(m.open) - 1; i >= 0 && m.open[i] != "("; i-- {
		if m.open[i] == "<=" {
			return true
		}
	}
	return false
}

// operand takes a token where a `one` is to begin, and tells whether it has ended.
func (m *machine) operand(p lex.Piece) (bool, api.Errno) {
	switch {
	case m.depth > mostDeep:
		return false, api.ErrDeep
	case p.Text == "(" || slices.Contains(words, p.Text):
		m.push(p.Text)
		return false, api.OK
	case p.Kind == lex.End || p.Kind == lex.Sign:
		return false, api.ErrForm
	}
	m.out = append(m.out, node(p.Text))
	m.ended()
	return true, api.OK
}

// operator takes a token behind a `one`, and tells whether another one may follow.
func (m *machine) operator(p lex.Piece) (bool, api.Errno) {
	closer := binds[p.Text]
	if closer == 0 && p.Text != ")" && p.Kind != lex.End || p.Text == "<=" && m.compared() {
		return false, api.ErrForm
	}
	for binds[m.last()] > 0 && binds[m.last()] >= closer {
		m.pop()
	}
	switch {
	case closer > 0:
		m.push(p.Text)
		return true, api.OK
	case (m.last() == "(") != (p.Text == ")"):
		return false, api.ErrForm
	case p.Text == ")":
		m.pop()
		m.ended()
	}
	return false, api.OK
}

// model is Query by the machine.
func model(s string) ([]api.Node, int, api.Errno) {
	l, n, e := lex.Pieces(s)
	if e != api.OK {
		return nil, n, e
	}
	m := &machine{}
	behind := false
	for _, p := range l {
		if behind {
			var more bool
			more, e = m.operator(p)
			behind = !more
		} else {
			behind, e = m.operand(p)
		}
		if e != api.OK {
			return nil, p.At, e
		}
	}
	if len(m.out) > mostNodes {
		return nil, 0, api.ErrMany
	}
	return m.out, 0, api.OK
}

// checkModel holds Query against the model, what it returns against P17.3, and returns the error.
func checkModel(t *testing.T, s string) api.Errno {
	t.Helper()
	l, n, e := model(s)
	check(t, s, l, n, e)
	if (e == api.OK) != valid(l) || parse.Right(l) != valid(l) {
		t.Fatalf("Query(%q) = %v, %d, %v", s, l, n, e)
	}
	return e
}

// subexpression is where what ends with the last node begins, from behind, if it has all its arguments.
func subexpression(l []api.Node) (int, bool) {
	if len(l) == 0 {
		return 0, false
	}
	end := len(l) - 1
	n := l[end]
	limit := 0
	if n.Kind == 4 || n.Kind == 5 {
		limit = 15
	}
	if n.Kind < 1 || n.Kind > 15 || n.N < 0 || n.N > limit {
		return 0, false
	}
	for range arguments[n.Kind] {
		i, ok := subexpression(l[:end])
		if !ok {
			return 0, false
		}
		end = i
	}
	return end, true
}

// valid is Right by the chapter's words: what ends with the last node is the whole list, and that is not too long.
func valid(l []api.Node) bool {
	if len(l) > mostNodes {
		return false
	}
	i, ok := subexpression(l)
	return ok && i == 0
}

// leaf, unary and binary are nodes of each number of arguments.
var (
	leaf   = api.Node{Kind: api.NdMine}
	unary  = api.Node{Kind: api.NdUp}
	binary = api.Node{Kind: api.NdOr}
)

// checkRight holds Right against what is wanted, and against the model.
func checkRight(t *testing.T, l []api.Node, want bool) {
	t.Helper()
	if valid(l) != want {
		t.Fatalf("the model says otherwise of %v", l)
	}
	if got := parse.Right(l); got != want {
		t.Fatalf("Right(%v) = %v", l, got)
	}
}

// P17.1: Args, Right, Begin.

func TestArgs(t *testing.T) {
	want := map[int]int{
		api.NdAll: 0, api.NdLive: 0, api.NdMine: 0, api.NdRole: 0, api.NdTag: 0,
		api.NdUp: 1, api.NdDown: 1, api.NdTags: 1, api.NdOwners: 1, api.NdCount: 1, api.NdSome: 1,
		api.NdAnd: 2, api.NdOr: 2, api.NdLess: 2, api.NdIn: 2,
	}
	if len(want) != 15 {
		t.Fatal("kinds:", len(want))
	}
	for kind := 1; kind <= 15; kind++ {
		if got := parse.Args(kind); got != want[kind] || got != arguments[kind] {
			t.Errorf("Args(%d) = %d, want %d", kind, got, want[kind])
		}
	}
}

func TestArgsOfNoKind(t *testing.T) {
	l := []int{0, 16, 17, -1, -2, -15, -16, 255, 256, 257, 271, 1 << 16, 1<<16 + 1, 1<<32 + 6, -1<<32 + 12, math.MaxInt, math.MinInt, math.MinInt + 1, math.MaxInt32, math.MinInt32, 1 << 62}
	for n := 16; n < 5000; n++ {
		l = append(l, n, 1-n)
	}
	for _, kind := range l {
		if got := parse.Args(kind); got != -1 {
			t.Errorf("Args(%d) = %d", kind, got)
		}
	}
}

func TestRightExamples(t *testing.T) {
	for _, s := range []string{
		"all", "live", "mine", "r0", "t15",
		"all up", "r1 down", "r1 tags", "t1 owners", "all count", "all some", "all up up down",
		"r1 r2 &", "r1 r2 |", "r1 r2 -", "r1 r2 <=",
		"r1 r2 up | count", "r1 r2 r3 | -", "r1 r2 | r3 -", "r1 up r2 down - some",
		// Neither types nor the grammar's single <= are asked for.
		"all count count", "r1 t1 &", "r1 r2 <= r3 <=", "r1 some r2 count |",
	} {
		checkRight(t, nodes(s), true)
	}
	for _, s := range []string{
		"", "up", "&", "<=", "up r1", "& r1 r2", "r1 &", "r1 & r2", "r1 r2", "r1 r2 r3", "r1 r2 r3 &", "r1 r2 & r3",
		"r1 r2 & &", "r1 up r2", "r1 r2 up", "up r1 r2 &", "r1 & r2 r3 |", "r1 r2 | & r3 -", "r1 up up up &",
	} {
		checkRight(t, nodes(s), false)
	}
	checkRight(t, nil, false)
	checkRight(t, []api.Node{}, false)
}

// chain is a leaf and then a number of nodes with one argument.
func chain(words int) []api.Node {
	return append([]api.Node{leaf}, slices.Repeat([]api.Node{unary}, words)...)
}

// comb are a number of leaves, each but the first one followed by what joins it.
func comb(leaves int) []api.Node {
	return append([]api.Node{leaf}, slices.Repeat([]api.Node{leaf, binary}, leaves-1)...)
}

// heap are a number of leaves, and then all that joins them.
func heap(leaves int) []api.Node {
	return append(slices.Repeat([]api.Node{leaf}, leaves), slices.Repeat([]api.Node{binary}, leaves-1)...)
}

func TestRightOfEachLength(t *testing.T) {
	for n := 1; n <= 60; n++ {
		checkRight(t, chain(n-1), n <= mostNodes)
		if n%2 == 1 {
			checkRight(t, comb(n/2+1), n <= mostNodes)
			checkRight(t, heap(n/2+1), n <= mostNodes)
		} else {
			checkRight(t, append(comb(n/2), unary), n <= mostNodes)
			checkRight(t, append(heap(n/2), unary), n <= mostNodes)
		}
	}
	for _, n := range []int{255, 256, 257, 280, 65536, 1 << 20} {
		checkRight(t, chain(n-1), false)
		checkRight(t, slices.Repeat([]api.Node{leaf}, n), false)
		checkRight(t, slices.Repeat([]api.Node{{}}, n), false)
	}
}

// Two and more nodes that are not an argument of another one.
func TestRightOfMoreThanOne(t *testing.T) {
	for n := 2; n <= 30; n++ {
		checkRight(t, slices.Repeat([]api.Node{leaf}, n), false)
		checkRight(t, append(slices.Repeat([]api.Node{leaf}, n), binary, unary)[:n+1], n == 2)
	}
	for a := 1; a <= 12; a++ {
		for b := 1; b <= 12; b++ {
			checkRight(t, append(chain(a-1), chain(b-1)...), false)
			checkRight(t, append(append(chain(a-1), chain(b-1)...), binary), a+b < mostNodes)
		}
	}
}

// A node that lacks an argument at each place: what stands in front of it is too little, or what is behind it too much.
func TestRightWithoutAnArgument(t *testing.T) {
	count := 0
	for _, l := range [][]api.Node{chain(5), chain(23), comb(3), comb(12), heap(3), heap(12), nodes("r1 r2 up | count"), nodes("r1 up r2 up & r3 up up -")} {
		checkRight(t, l, true)
		for i := range l {
			less := slices.Delete(slices.Clone(l), i, i+1)
			checkRight(t, less, arguments[l[i].Kind] == 1)
			for kind := 1; kind <= 15; kind++ {
				other := slices.Clone(l)
				other[i] = api.Node{Kind: kind}
				checkRight(t, other, arguments[kind] == arguments[l[i].Kind])
				count++
			}
		}
		for i := range len(l) + 1 {
			for _, n := range []api.Node{leaf, binary} {
				checkRight(t, slices.Insert(slices.Clone(l), i, n), false)
			}
			checkRight(t, slices.Insert(slices.Clone(l), i, unary), i > 0 && len(l) < mostNodes)
		}
	}
	if count < 1000 {
		t.Error("lists:", count)
	}
}

// strange are numbers that are neither a kind nor from 0 to 15.
var strange = []int{-1, -2, -3, -15, -16, 16, 17, 31, 32, 255, 256, 257, 260, 1 << 16, 1<<16 + 4, 1 << 32, 1<<32 + 5, -1 << 32, math.MaxInt, math.MinInt, math.MaxInt32, math.MinInt32}

func TestRightOfKindsOutOfRange(t *testing.T) {
	for _, kind := range append(strange, 0) {
		bad := api.Node{Kind: kind}
		checkRight(t, []api.Node{bad}, false)
		for _, l := range [][]api.Node{chain(4), chain(23), comb(4), heap(4), heap(12)} {
			for i := range l {
				other := slices.Clone(l)
				other[i] = bad
				checkRight(t, other, false)
			}
			for i := range len(l) + 1 {
				checkRight(t, slices.Insert(slices.Clone(l), i, bad), false)
			}
		}
	}
}

// N is from 0 to 15 for a role and a tag, and 0 for each other kind, wherever the node stands.
func TestRightOfNumbers(t *testing.T) {
	numbers := slices.Clone(strange)
	for n := range 16 {
		numbers = append(numbers, n)
	}
	allowed := 0
	for kind := 1; kind <= 15; kind++ {
		for _, n := range numbers {
			ok := n == 0 || (kind == api.NdRole || kind == api.NdTag) && 0 <= n && n <= 15
			one := api.Node{Kind: kind, N: n}
			l := append(slices.Repeat([]api.Node{leaf}, arguments[kind]), one)
			checkRight(t, l, ok)
			checkRight(t, append(l, unary), ok)
			checkRight(t, append(l, leaf, binary), ok)
			checkRight(t, append(append([]api.Node{leaf}, l...), binary), ok)
			checkRight(t, append(append(l, l...), binary, unary), ok)
			if ok {
				allowed++
			}
		}
	}
	if allowed != 13+2*16 {
		t.Error("allowed:", allowed)
	}
}

// each calls a function with all lists of up to a number of nodes out of some.
func each(l []api.Node, most int, out []api.Node, f func([]api.Node)) {
	f(l)
	if len(l) == most {
		return
	}
	for _, n := range out {
		each(append(l, n), most, out, f)
	}
}

// All lists of up to 7 nodes of five, and of up to 3 nodes of many.
func TestRightOfAllShortLists(t *testing.T) {
	right, wrong := 0, 0
	count := func(l []api.Node) {
		checkRight(t, l, valid(l))
		if valid(l) {
			right++
			checkBegin(t, l)
		} else {
			wrong++
		}
	}
	each(nil, 7, []api.Node{leaf, unary, binary, {Kind: api.NdRole, N: 15}, {Kind: api.NdTag, N: 16}}, count)
	var all []api.Node
	for kind := -1; kind <= 17; kind++ {
		for _, n := range []int{-1, 0, 1, 15, 16} {
			all = append(all, api.Node{Kind: kind, N: n})
		}
	}
	each(nil, 3, all, count)
	if right < 1000 || wrong < 10*right {
		t.Errorf("right: %d, wrong: %d", right, wrong)
	}
}

// checkBegin holds Begin against the node and all its arguments, for each node of a valid list, where all that is before and behind is there or isn't.
func checkBegin(t *testing.T, l []api.Node) {
	t.Helper()
	var stack [][]int // what belongs to each node that is not an argument so far
	for i, n := range l {
		k := len(stack) - arguments[n.Kind]
		of := append(slices.Concat(stack[k:]...), i)
		stack = append(stack[:k], of)
		first := slices.Min(of)
		if len(of) != i-first+1 {
			t.Fatalf("the nodes %v of %v are not adjacent", of, l)
		}
		if got := parse.Begin(l, i); got != first {
			t.Fatalf("Begin(%v, %d) = %d, want %d", l, i, got, first)
		}
		if !parse.Right(l[first : i+1]) {
			t.Fatalf("%v is not valid", l[first:i+1])
		}
	}
}

func TestBeginExamples(t *testing.T) {
	for s, want := range map[string][]int{
		"all":                                    {0},
		"all up":                                 {0, 0},
		"all up down tags":                       {0, 0, 0, 0},
		"r1 r2 &":                                {0, 1, 0},
		"r1 r2 up | count":                       {0, 1, 1, 0, 0},
		"r1 r2 | r3 -":                           {0, 1, 0, 3, 0},
		"r1 r2 r3 | -":                           {0, 1, 2, 1, 0},
		"r1 r2 r3 r4 | - & some":                 {0, 1, 2, 3, 2, 1, 0, 0},
		"r1 up r2 down & r3 r4 tags - <= some":   {0, 0, 2, 2, 0, 5, 6, 6, 5, 0, 0},
		"r1 r2 & r3 r4 & | r5 r6 & r7 r8 & | <=": {0, 1, 0, 3, 4, 3, 0, 7, 8, 7, 10, 11, 10, 7, 0},
	} {
		l := nodes(s)
		for i := range l {
			if got := parse.Begin(l, i); got != want[i] {
				t.Errorf("Begin of %s at %d = %d, want %d", s, i, got, want[i])
			}
		}
	}
}

func TestBeginOfLongLists(t *testing.T) {
	for n := range 24 {
		checkBegin(t, chain(n))
	}
	for n := 1; n <= 12; n++ {
		checkBegin(t, comb(n))
		checkBegin(t, heap(n))
		checkBegin(t, append(comb(n), unary))
		checkBegin(t, append(heap(n), unary))
		// Leaves and all that joins them, from the same end.
		l := slices.Concat(comb(n), heap(13-n))
		if l = append(l, binary); len(l) <= mostNodes {
			checkBegin(t, l)
		}
	}
}

// The chapter promises nothing here, but a call never panics and always ends.
func TestBeginOfWhatIsNotValid(t *testing.T) {
	for _, l := range [][]api.Node{nil, {}, nodes("up"), nodes("& r1"), nodes("r1 r2"), nodes("r1 &"), {{}}, {{Kind: 16}}, chain(24), heap(13), nodes("r1 up"), nodes("r1 r2 &")} {
		for _, i := range append(strange, 0, 1, 2, 3, 23, 24, 25) {
			if got := parse.Begin(l, i); got != 0 && (!valid(l) || i >= len(l)) {
				t.Errorf("Begin(%v, %d) = %d", l, i, got)
			}
		}
	}
}

// No argument is changed, and the memory beyond the length of a list is neither read nor written.
func TestListsStay(t *testing.T) {
	for _, l := range [][]api.Node{chain(23), comb(12), heap(9), nodes("r1 r2 up | count"), nodes("r1 r2"), nodes("r1 &"), {{Kind: 99, N: 99}}} {
		for _, beyond := range []api.Node{{}, leaf, unary, binary, {Kind: -1, N: -1}} {
			whole := slices.Concat(l, []api.Node{beyond, beyond, beyond})
			kept := slices.Clone(whole)
			for n := range len(l) + 1 {
				if parse.Right(whole[:n]) != valid(l[:n]) {
					t.Fatalf("Right of %d of %v", n, whole)
				}
			}
			if valid(l) {
				checkBegin(t, whole[:len(l)])
			}
			if !slices.Equal(whole, kept) {
				t.Fatalf("%v became %v", kept, whole)
			}
		}
	}
}

// P17.2: Query.

func TestExample(t *testing.T) {
	l, n, e := parse.Query("count (r1 | up r2)")
	want := []api.Node{{Kind: api.NdRole, N: 1}, {Kind: api.NdRole, N: 2}, {Kind: api.NdUp}, {Kind: api.NdOr}, {Kind: api.NdCount}}
	if !slices.Equal(l, want) || n != 0 || e != api.OK {
		t.Error(l, n, e)
	}
	if l[3].Kind != api.NdOr {
		t.Error(l[3])
	}
}

func TestEachLeaf(t *testing.T) {
	check(t, "all", []api.Node{{Kind: 1}}, 0, api.OK)
	check(t, "live", []api.Node{{Kind: 2}}, 0, api.OK)
	check(t, "mine", []api.Node{{Kind: 3}}, 0, api.OK)
	for n := range 16 {
		check(t, fmt.Sprintf("r%d", n), []api.Node{{Kind: 4, N: n}}, 0, api.OK)
		check(t, fmt.Sprintf("t%d", n), []api.Node{{Kind: 5, N: n}}, 0, api.OK)
	}
}

func TestEachWord(t *testing.T) {
	for i, s := range []string{"up", "down", "tags", "owners", "count", "some"} {
		check(t, s+" r7", []api.Node{{Kind: 4, N: 7}, {Kind: 6 + i}}, 0, api.OK)
		check(t, s+"(all)", []api.Node{{Kind: 1}, {Kind: 6 + i}}, 0, api.OK)
		check(t, s+" "+s+" t15", []api.Node{{Kind: 5, N: 15}, {Kind: 6 + i}, {Kind: 6 + i}}, 0, api.OK)
		// Words without an argument, of all places a query ends at.
		checkForm(t, s, len(s))
		checkForm(t, "r1|"+s, 3+len(s))
		checkForm(t, "("+s+")", 1+len(s))
	}
}

func TestEachOperator(t *testing.T) {
	for i, s := range []string{"&", "|", "-", "<="} {
		for _, gap := range []string{"", " ", "   "} {
			check(t, "r1"+gap+s+gap+"t2", []api.Node{{Kind: 4, N: 1}, {Kind: 5, N: 2}, {Kind: 12 + i}}, 0, api.OK)
		}
	}
}

// Two operators between three roles: which one comes first, and that there are no two <=.
func TestEveryTwoOperators(t *testing.T) {
	for a, line := range map[string]string{
		"&":  "left left left left",
		"|":  "right left left left",
		"-":  "right left left left",
		"<=": "right right right none",
	} {
		for i, how := range strings.Fields(line) {
			b := signs[i]
			s := "r1" + a + "r2" + b + "r3"
			switch how {
			case "left":
				checkFine(t, s, "r1 r2 "+a+" r3 "+b)
			case "right":
				checkFine(t, s, "r1 r2 r3 "+b+" "+a)
			case "none":
				checkForm(t, s, 6)
			}
			checkFine(t, "(r1"+a+"r2)"+b+"r3", "r1 r2 "+a+" r3 "+b)
			checkFine(t, "r1"+a+"(r2"+b+"r3)", "r1 r2 r3 "+b+" "+a)
		}
	}
}

// Three operators, by hand.
func TestThreeOperators(t *testing.T) {
	checkFine(t, "r1|r2-r3|r4", "r1 r2 | r3 - r4 |")
	checkFine(t, "r1-r2-r3-r4", "r1 r2 - r3 - r4 -")
	checkFine(t, "r1&r2&r3&r4", "r1 r2 & r3 & r4 &")
	checkFine(t, "r1|r2&r3-r4", "r1 r2 r3 & | r4 -")
	checkFine(t, "r1&r2|r3&r4", "r1 r2 & r3 r4 & |")
	checkFine(t, "r1&r2-r3&r4", "r1 r2 & r3 r4 & -")
	checkFine(t, "r1-r2&r3&r4", "r1 r2 r3 & r4 & -")
	checkFine(t, "r1|r2<=r3-r4", "r1 r2 | r3 r4 - <=")
	checkFine(t, "r1&r2<=r3&r4", "r1 r2 & r3 r4 & <=")
	checkFine(t, "r1<=r2|r3&r4", "r1 r2 r3 r4 & | <=")
	checkFine(t, "r1&r2|r3<=r4", "r1 r2 & r3 | r4 <=")
	checkFine(t, "r1 | r2 & r3 - r4 <= up r5 & all - mine", "r1 r2 r3 & | r4 - r5 up all & mine - <=")
}

// A word is in front of the next `one` alone.
func TestWordsBindClosest(t *testing.T) {
	for _, w := range words {
		for _, s := range signs {
			checkFine(t, w+" r1"+s+"r2", "r1 "+w+" r2 "+s)
			checkFine(t, "r1"+s+w+" r2", "r1 r2 "+w+" "+s)
			checkFine(t, w+"(r1"+s+"r2)", "r1 r2 "+s+" "+w)
			checkFine(t, w+"(r1)"+s+"r2", "r1 "+w+" r2 "+s)
			checkFine(t, w+" up r1"+s+"r2", "r1 up "+w+" r2 "+s)
		}
	}
}

// One <= at most, but again within parentheses.
func TestSeveralTests(t *testing.T) {
	checkFine(t, "(r1<=r2)<=r3", "r1 r2 <= r3 <=")
	checkFine(t, "r1<=(r2<=r3)", "r1 r2 r3 <= <=")
	checkFine(t, "(r1<=r2)<=(r3<=r4)", "r1 r2 <= r3 r4 <= <=")
	checkFine(t, "((r1<=r2)<=r3)", "r1 r2 <= r3 <=")
	checkFine(t, "r1&(r2<=r3)|r4", "r1 r2 r3 <= & r4 |")
	checkFine(t, "some(r1<=r2)<=count(r3<=r4)", "r1 r2 <= some r3 r4 <= count <=")
	checkForm(t, "r1<=r2<=r3", 6)
	checkForm(t, "r1 <= r2 | r3 <= r4", 14)
	checkForm(t, "(r1<=r2<=r3)", 7)
	checkForm(t, "(r1<=r2)<=r3<=r4", 12)
	checkForm(t, "r1<=(r2)<=r3", 8)
	checkForm(t, "r1<=<=r2", 4)
	checkForm(t, "up r1<=up(r2<=r3<=r4)", 16)
}

func TestParentheses(t *testing.T) {
	checkFine(t, "(r1)", "r1")
	checkFine(t, "((((((((r1))))))))", "r1")
	checkFine(t, "( ( r1 ) | ( r2 ) )", "r1 r2 |")
	checkFine(t, "r1-(r2-(r3-(r4-r5)))", "r1 r2 r3 r4 r5 - - - -")
	checkFine(t, "((((r1-r2)-r3)-r4)-r5)", "r1 r2 - r3 - r4 - r5 -")
	checkForm(t, "()", 1)
	checkForm(t, "(", 1)
	checkForm(t, ")", 0)
	checkForm(t, "(r1", 3)
	checkForm(t, "r1)", 2)
	checkForm(t, "(r1))", 4)
	checkForm(t, "((r1)", 5)
	checkForm(t, "(r1 (", 4)
	checkForm(t, "(r1)(r2)", 4)
	checkForm(t, "r1(r2)", 2)
	checkForm(t, "(r1 r2)", 4)
	checkForm(t, "(up)", 3)
	checkForm(t, "(r1|)", 4)
	checkForm(t, "(|r1)", 1)
}

// The errors of the tokens come ahead of all others, with their offsets.
func TestErrorsOfTokens(t *testing.T) {
	for _, bad := range []string{"x", "<", "=", "r16", "t99", "r01", "r", "alll", "\x00", "é", "=<", "R1", "upr1"} {
		checkForm(t, bad, 0)
		checkForm(t, " "+bad, 1)
		checkForm(t, "r1 "+bad, 3)
		checkForm(t, "r1 | "+bad, 5)
		// A token of the form's and the depth's errors stands in front of it.
		checkForm(t, ") "+bad, 2)
		checkForm(t, "r1 r2 & & "+bad, 10)
		checkForm(t, "((((((((((( "+bad, 12)
		checkForm(t, "up up up up up up up up up r1 "+bad, 30)
		checkForm(t, strings.Repeat("-r1", 13)+" "+bad, 40)
		checkForm(t, bad+strings.Repeat("(", 20), 0)
	}
	checkForm(t, strings.Repeat("r0|", 14)+"r0 !", 45)
	for _, s := range []string{"r1", "", ")", "(", "((((((((((", "up up up up up up up up up up", "r1 r2", "!", "x !"} {
		checkError(t, s+strings.Repeat(" ", 49-len(s)), 0, api.ErrMany)
	}
	checkError(t, strings.Repeat("r0|", 16)+"r0", 0, api.ErrMany)
	checkError(t, strings.Repeat("(", 49), 0, api.ErrMany)
	checkError(t, strings.Repeat("x", 1<<20), 0, api.ErrMany)
}

// tokens are one of each sort.
func tokens() []string {
	return []string{"all", "live", "mine", "r3", "t12", "up", "down", "tags", "owners", "count", "some", "(", ")", "&", "|", "-", "<="}
}

// Where a `one` is to begin, and where one has just ended, each token that may not stand there and the end.
func TestTokensOutOfPlace(t *testing.T) {
	for _, front := range []string{"", "(", "up ", "r1|", "r1-", "r1&", "r1<=", "(r1)&", "r1|(", "((", "count (", "up up ", "r1<=(r2|", "all & some "} {
		checkForm(t, front, len(front))
		checkForm(t, front+"   ", len(front)+3)
		for _, s := range tokens() {
			if s != ")" && binds[s] == 0 {
				continue
			}
			checkForm(t, front+s, len(front))
			checkForm(t, front+"  "+s+" all)))", len(front)+2)
		}
	}
	for _, front := range []string{"r1 ", "(r1) ", "up r1 ", "r1|r2 ", "r1<=r2 ", "(r1|r2)&(r3) ", "up up up t1 "} {
		for _, s := range tokens() {
			twice := s == "<=" && strings.Contains(front, "<=")
			if binds[s] > 0 && !twice {
				checkForm(t, front+s, len(front)+len(s))
				continue
			}
			checkForm(t, front+s, len(front))
			checkForm(t, front+" "+s+" | r1", len(front)+1)
		}
	}
	for _, front := range []string{"(r1 ", "(r2|(r1) ", "r1&(up r1 ", "(r1<=r2 ", "up(some(r1) "} {
		checkForm(t, front, len(front))
		for _, s := range tokens() {
			twice := s == "<=" && strings.Contains(front, "<=")
			if binds[s] > 0 && !twice {
				checkFine(t, front+s+" r1)", postfix(t, front+s+" r1)"))
			} else if s == ")" {
				checkFine(t, front+s, postfix(t, front+s))
			} else {
				checkForm(t, front+s, len(front))
			}
		}
	}
}

// postfix is what the model makes of a query, as texts.
func postfix(t *testing.T, s string) string {
	t.Helper()
	l, _, e := model(s)
	if e != api.OK {
		t.Fatalf("the model says %v of %q", e, s)
	}
	return texts(l)
}

// texts are the tokens of nodes.
func texts(l []api.Node) string {
	var words []string
	for _, n := range l {
		switch n.Kind {
		case 4:
			words = append(words, fmt.Sprintf("r%d", n.N))
		case 5:
			words = append(words, fmt.Sprintf("t%d", n.N))
		default:
			for s, k := range kinds {
				if k == n.Kind {
					words = append(words, s)
				}
			}
		}
	}
	return strings.Join(words, " ")
}

// A query that encloses a text in parentheses and words: a bit of how says which, and the text behind is what closes them.
func enclosing(deep int, how uint) (front, back string) {
	for i := range deep {
		if how>>i&1 == 1 {
			front += "up "
			continue
		}
		front += "("
		back += ")"
	}
	return front, back
}

// Depth 8 and 9 by parentheses, by words, and by both in each order.
func TestDeep(t *testing.T) {
	for how := range uint(1 << 9) {
		front, back := enclosing(8, how)
		l := append([]api.Node{{Kind: api.NdAll}}, slices.Repeat([]api.Node{unary}, 8-len(back))...)
		check(t, front+"all"+back, l, 0, api.OK)
		front, back = enclosing(9, how)
		checkError(t, front+"all"+back, len(front), api.ErrDeep)
		// Whatever stands there, or nothing does.
		for _, s := range tokens() {
			checkError(t, front+" "+s, len(front)+1, api.ErrDeep)
		}
		checkError(t, front, len(front), api.ErrDeep)
		checkError(t, front+"  ", len(front)+2, api.ErrDeep)
	}
	checkFine(t, "up up up up up up up up r1", "r1 up up up up up up up up")
	checkError(t, "up up up up up up up up up r1", 27, api.ErrDeep)
	checkError(t, "((((((((((((((", 9, api.ErrDeep)
	checkError(t, "(((((((((", 9, api.ErrDeep)
	checkForm(t, "((((((((", 8)
	checkForm(t, "up up up up up up up up ", 24)
	checkError(t, "up up up up up up up up up ", 27, api.ErrDeep)
	checkError(t, "((((((((()))))))))", 9, api.ErrDeep)
	checkForm(t, "(((((((())))))))", 8)
	checkError(t, strings.Repeat("(", 48), 9, api.ErrDeep)
}

// Only what encloses a `one` counts, not what has ended in front of it.
func TestDepthIsOfWhatIsOpen(t *testing.T) {
	checkFine(t, "((((r1))))|((((r2))))|((((r3))))", "r1 r2 | r3 |")
	checkFine(t, "up up up up r1|up up up up up up up up r2", "r1 up up up up r2 up up up up up up up up |")
	checkFine(t, "((((((((r1&r2|r3<=r4))))))))", "r1 r2 & r3 | r4 <=")
	checkFine(t, "((((up up up up r1))))|r2", "r1 up up up up r2 |")
	// A word's depth is that of its argument alone, not that of what follows.
	checkFine(t, "(((((((up r1&up r2|up r3<=up r4)))))))", "r1 up r2 up & r3 up | r4 up <=")
	checkError(t, "((((((((r1&up r2))))))))", 14, api.ErrDeep)
	checkError(t, "((((((((r1|r2<=r3&(", 19, api.ErrDeep)
	checkError(t, "(((((((up r1|up up r2", 19, api.ErrDeep)
	checkError(t, "((((((((up )", 11, api.ErrDeep)
	checkError(t, "r1 | ((((((((r1)|((r2", 19, api.ErrDeep)
	checkForm(t, "((((((((r1)|(r2 r3", 16)
	checkForm(t, "((((((((r1&", 11)
	checkForm(t, "((((((((r1&)", 11)
	checkError(t, "((((((((r1&up", 13, api.ErrDeep)
}

// The first error from left to right.
func TestWhichErrorComesFirst(t *testing.T) {
	checkForm(t, "r1 r2 (((((((((r3", 3)
	checkForm(t, ") (((((((((r3", 0)
	checkForm(t, "(((((((( ) (((", 9)
	checkForm(t, "(((((((( r1 ( r2", 12)
	checkForm(t, "((((((((r1)r1", 11)
	checkError(t, "(((((((((r1 r2", 9, api.ErrDeep)
	checkError(t, "((((((((( )", 10, api.ErrDeep)
	checkError(t, "((((((((( <= <= <=", 10, api.ErrDeep)
	// More than 24 nodes are found out at the end alone.
	many := strings.Repeat("r0|", 14)
	checkError(t, many+"r0", 0, api.ErrMany)
	checkForm(t, many, 42)
	checkForm(t, many+"r0 )", 45)
	checkForm(t, many+"r0 r0", 45)
	checkForm(t, many+"(r0", 45)
	checkForm(t, many+"up", 44)
	twelve := strings.Repeat("r0|", 12)
	checkError(t, twelve+"r0|(((((((((", 48, api.ErrDeep)
	checkError(t, twelve+"(((((((((r0", 45, api.ErrDeep)
	checkError(t, twelve+"r0", 0, api.ErrMany)
	checkError(t, strings.Repeat(" ", 49), 0, api.ErrMany)
}

// 24 nodes and 25, by roles and by words in front of them.
func TestMany(t *testing.T) {
	for roles := 1; roles <= 16; roles++ {
		s := strings.Repeat("r0|", roles-1) + "r0"
		for up := 0; up <= mostDeep; up++ {
			query := strings.Repeat("up ", up) + s
			if len(query) > mostBytes {
				checkError(t, query, 0, api.ErrMany)
				continue
			}
			n := 2*roles - 1 + up
			if n > mostNodes {
				checkError(t, query, 0, api.ErrMany)
				continue
			}
			l, _, e := parse.Query(query)
			if e != api.OK || len(l) != n {
				t.Fatalf("Query(%q) = %v, %v", query, l, e)
			}
		}
	}
	// 12 roles are 23 nodes, with a word 24, and with two 25.
	twelve := strings.Repeat("r0&", 11) + "r0"
	checkFine(t, twelve, "r0"+strings.Repeat(" r0 &", 11))
	checkFine(t, "up "+twelve, "r0 up"+strings.Repeat(" r0 &", 11))
	checkFine(t, twelve[:33]+"up r0", "r0"+strings.Repeat(" r0 &", 10)+" r0 up &")
	checkError(t, "up up "+twelve, 0, api.ErrMany)
	checkError(t, "up "+twelve[:33]+"up r0", 0, api.ErrMany)
	checkError(t, twelve+"&r0", 0, api.ErrMany)
	checkFine(t, "some("+twelve+")", "r0"+strings.Repeat(" r0 &", 11)+" some")
	checkError(t, "some(up "+twelve+")", 0, api.ErrMany)
}

func TestNothing(t *testing.T) {
	for n := range mostBytes + 1 {
		checkForm(t, strings.Repeat(" ", n), n)
	}
}

// All queries of up to 5 tokens, of one of each sort.
func TestAllShortQueries(t *testing.T) {
	alphabet := []string{"all", "r1", "t2", "up", "(", ")", "&", "|", "-", "<="}
	count := map[api.Errno]int{}
	var grow func(s string, left int)
	grow = func(s string, left int) {
		count[checkModel(t, s)]++
		if left == 0 {
			return
		}
		for _, a := range alphabet {
			grow(s+a+" ", left-1)
		}
	}
	grow("", 5)
	if count[api.OK] < 700 || count[api.ErrForm] < 100000 {
		t.Error(count)
	}
}

// All queries of up to 8 tokens of these, which are fewer.
func TestAllLongerQueriesOfFewTokens(t *testing.T) {
	count := map[api.Errno]int{}
	var grow func(s string, left int)
	grow = func(s string, left int) {
		count[checkModel(t, s)]++
		if left == 0 {
			return
		}
		for _, a := range []string{"r1", "(", ")", "-", "<="} {
			grow(s+a, left-1)
		}
	}
	grow("", 8)
	if count[api.OK] < 50 || count[api.ErrForm] < 100000 {
		t.Error(count)
	}
}

// What is in front of the token of an ErrForm can be made a query, so that this token is the first one that may not stand there.
func TestFirstTokenOutOfPlace(t *testing.T) {
	next := mixed()
	count := 0
	for range 200000 {
		s := jumble(next, 1+next(12))
		_, n, e := parse.Query(s)
		if e != api.ErrForm {
			continue
		}
		front := s[:n]
		fine := false
		for _, end := range []string{"", " all"} {
			done := front + end + strings.Repeat(")", strings.Count(front, "(")-strings.Count(front, ")"))
			_, _, e := parse.Query(done)
			fine = fine || e == api.OK || e == api.ErrMany || e == api.ErrDeep
		}
		if !fine {
			t.Fatalf("Query(%q): %q begins no query", s, front)
		}
		count++
	}
	if count < 100000 {
		t.Error("count:", count)
	}
}

// jumble is a text of some tokens.
func jumble(next func(int) int, n int) string {
	var b strings.Builder
	for range n {
		var s string
		switch next(6) {
		case 0, 1:
			s = leaves[next(len(leaves))]
		case 2:
			s = words[next(len(words))]
		case 3:
			s = signs[next(len(signs))]
		default:
			s = []string{"(", ")"}[next(2)]
		}
		if b.Len()+len(s) < mostBytes {
			b.WriteString(s + " ")
		}
	}
	return b.String()
}

// grown is a query of the grammar that looks like any, with the nodes it was made of and the greatest depth of a `one`.
type grown struct {
	next   func(int) int
	narrow bool // no operators
	deep   int
}

// grow is a query of about a number of nodes.
func grow(next func(int) int, size int) (*grown, string, []api.Node) {
	g := &grown{next: next, narrow: next(4) == 0}
	s, l := g.test(0, size)
	return g, s, l
}

// one is a `one` at a depth, with its nodes.
func (g *grown) one(depth, size int) (string, []api.Node) {
	g.deep = max(g.deep, depth)
	switch k := g.next(8); {
	case size <= 1 || k == 0:
		s := leaves[g.next(len(leaves))]
		return s + g.gap(), []api.Node{node(s)}
	case k <= 3:
		s, l := g.test(depth+1, size-1)
		return "(" + g.gap() + s + ")" + g.gap(), l
	default:
		w := words[g.next(len(words))]
		s, l := g.one(depth+1, size-1)
		return w + " " + g.gap() + s, append(l, node(w))
	}
}

// gap are no blanks, or one.
func (g *grown) gap() string { return []string{"", "", "", " "}[g.next(4)] }

// chain are parts with signs between them.
func (g *grown) chain(depth, size, most int, part func(depth, size int) (string, []api.Node), signs ...string) (string, []api.Node) {
	n := 1 + g.next(min(most, size))
	if g.narrow {
		n = 1
	}
	s, l := part(depth, size/n)
	for range n - 1 {
		sign := signs[g.next(len(signs))]
		b, m := part(depth, size/n)
		s += sign + g.gap() + b
		l = append(append(l, m...), node(sign))
	}
	return s, l
}

func (g *grown) both(depth, size int) (string, []api.Node) {
	return g.chain(depth, size, 3, g.one, "&")
}

func (g *grown) sum(depth, size int) (string, []api.Node) {
	return g.chain(depth, size, 3, g.both, "|", "-")
}

func (g *grown) test(depth, size int) (string, []api.Node) {
	return g.chain(depth, size, 2, g.sum, "<=")
}

// Queries that are grown by the rules have the nodes that they were made of; one byte replaced, inserted or deleted, they are as the model has them.
func TestGrownQueries(t *testing.T) {
	next := mixed()
	count := map[api.Errno]int{}
	spoilt := map[api.Errno]int{}
	const bytes = " ()&|-<=r1t2allupx"
	for range 60000 {
		g, s, l := grow(next, 1+next(26))
		switch {
		case len(s) > mostBytes:
			checkError(t, s, 0, api.ErrMany)
			count[api.ErrMany]++
			continue
		case g.deep > mostDeep:
			if _, _, e := parse.Query(s); e != api.ErrDeep {
				t.Fatal(s, e)
			}
			count[api.ErrDeep]++
		case len(l) > mostNodes:
			checkError(t, s, 0, api.ErrMany)
			count[api.ErrMany]++
		default:
			check(t, s, l, 0, api.OK)
			checkBegin(t, l)
			count[api.OK]++
		}
		checkModel(t, s)
		i := next(len(s))
		b := string(bytes[next(len(bytes))])
		spoilt[checkModel(t, s[:i]+b+s[i+1:])]++
		spoilt[checkModel(t, s[:i]+b+s[i:])]++
		spoilt[checkModel(t, s[:i]+s[i+1:])]++
	}
	for _, e := range []api.Errno{api.OK, api.ErrDeep, api.ErrMany} {
		if count[e] < 50 || spoilt[e] < 50 {
			t.Errorf("%v: %d, %d", e, count[e], spoilt[e])
		}
	}
	if spoilt[api.ErrForm] < 10000 {
		t.Error(spoilt)
	}
}

// Queries of tokens in any order.
func TestJumbles(t *testing.T) {
	next := mixed()
	count := map[api.Errno]int{}
	for range 200000 {
		count[checkModel(t, jumble(next, 1+next(16)))]++
	}
	if count[api.OK] < 1000 || count[api.ErrForm] < 10000 {
		t.Error(count)
	}
}

// Each call returns its own memory, which the caller may change.
func TestNodesAreNew(t *testing.T) {
	for _, s := range []string{"all", "r1", "count (r1 | up r2)", strings.Repeat("r0&", 11) + "r0"} {
		a, _, _ := parse.Query(s)
		kept := slices.Clone(a)
		b, _, _ := parse.Query(s)
		for i := range a {
			a[i] = api.Node{Kind: -1, N: -1}
		}
		_ = append(a, a...)
		if !slices.Equal(b, kept) {
			t.Errorf("%q became %v", s, b)
		}
		check(t, s, kept, 0, api.OK)
	}
}

// P17.3: what Query returns is valid; with an error it returns no nodes, which no list is.

func TestNodesAreValid(t *testing.T) {
	next := mixed()
	fine, none := 0, 0
	for range 100000 {
		s := jumble(next, 1+next(9))
		if next(2) == 0 {
			_, s, _ = grow(next, 1+next(20))
		}
		l, n, e := parse.Query(s)
		if e == api.OK {
			if !parse.Right(l) || !valid(l) || n != 0 {
				t.Fatalf("Query(%q) = %v, %d", s, l, n)
			}
			fine++
			continue
		}
		if len(l) != 0 || n < 0 || n > len(s) {
			t.Fatalf("Query(%q) = %v, %d, %v", s, l, n, e)
		}
		none++
	}
	if fine < 10000 || none < 10000 {
		t.Errorf("fine: %d, none: %d", fine, none)
	}
}

// P17.4: a query in parentheses, and with a word in front of it.

// checkEnclosed holds a query in parentheses against the query, with or without a word in front.
func checkEnclosed(t *testing.T, s, word string, deep int) api.Errno {
	t.Helper()
	l, _, e := parse.Query(s)
	if e != api.OK {
		t.Fatalf("Query(%q): %v", s, e)
	}
	around := word + "(" + s + ")"
	if word != "" {
		l = append(slices.Clone(l), node(word))
		deep++
	}
	got, n, e := parse.Query(around)
	switch {
	case len(around) > mostBytes:
		checkError(t, around, 0, api.ErrMany)
	case deep+1 > mostDeep:
		if e != api.ErrDeep || len(got) != 0 {
			t.Fatalf("Query(%q) = %v, %d, %v", around, got, n, e)
		}
	case len(l) > mostNodes:
		checkError(t, around, 0, api.ErrMany)
	default:
		check(t, around, l, 0, api.OK)
	}
	return e
}

func TestEnclosed(t *testing.T) {
	next := mixed()
	count := map[api.Errno]int{}
	for range 60000 {
		g, s, l := grow(next, 1+next(26))
		if len(s) > mostBytes || g.deep > mostDeep || len(l) > mostNodes {
			continue
		}
		count[checkEnclosed(t, s, "", g.deep)]++
		count[checkEnclosed(t, s, words[next(len(words))], g.deep)]++
	}
	if count[api.OK] < 10000 || count[api.ErrDeep] < 50 || count[api.ErrMany] < 50 {
		t.Error(count)
	}
}

// A word in front of what is a `one` needs no parentheses.
func TestWordInFront(t *testing.T) {
	for _, w := range words {
		for _, s := range leaves {
			checkFine(t, w+" "+s, s+" "+w)
			checkFine(t, w+" ("+s+")", s+" "+w)
			for _, v := range words {
				checkFine(t, w+" "+v+" "+s, s+" "+v+" "+w)
			}
		}
	}
	// 24 nodes become 25.
	full := "up " + strings.Repeat("r0&", 11) + "r0"
	checkEnclosed(t, full, "", 1)
	checkError(t, "up("+full+")", 0, api.ErrMany)
}
