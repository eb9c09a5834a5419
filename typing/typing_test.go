package typing_test

import (
	"fmt"
	"math"
	"slices"
	"strings"
	"testing"

	"forepeak/api"
	"forepeak/parse"
	"forepeak/typing"
)

// The signatures are those of the chapter.
var (
	_ func(kind int, args ...int) (int, bool)  = typing.Node
	_ func(l []api.Node) (int, int, api.Errno) = typing.Type
)

// row is a kind of nodes, the types of its arguments, and its type.
type row struct {
	kind int
	args []int
	ty   int
}

// The types of the chapter.
const (
	roles  = 1
	tags   = 2
	number = 3
	truth  = 4
)

// rows are all nodes that have a type.
var rows = []row{
	{1, nil, roles},            // all
	{2, nil, tags},             // live
	{3, nil, roles},            // mine
	{4, nil, roles},            // a role
	{5, nil, tags},             // a tag
	{6, []int{roles}, roles},   // up
	{7, []int{roles}, roles},   // down
	{8, []int{roles}, tags},    // tags
	{9, []int{tags}, roles},    // owners
	{10, []int{roles}, number}, // count
	{10, []int{tags}, number},
	{11, []int{roles}, truth}, // some
	{11, []int{tags}, truth},
	{12, []int{roles, roles}, roles}, // &
	{12, []int{tags, tags}, tags},
	{13, []int{roles, roles}, roles}, // |
	{13, []int{tags, tags}, tags},
	{14, []int{roles, roles}, roles}, // -
	{14, []int{tags, tags}, tags},
	{15, []int{roles, roles}, truth}, // <=
	{15, []int{tags, tags}, truth},
}

// arguments has the number of arguments by kind.
var arguments = [16]int{-1, 0, 0, 0, 0, 0, 1, 1, 1, 1, 1, 1, 2, 2, 2, 2}

// kinds has the kinds by their words and signs, but for roles and tags.
var kinds = map[string]int{
	"all": 1, "live": 2, "mine": 3, "up": 6, "down": 7, "tags": 8, "owners": 9, "count": 10, "some": 11,
	"&": 12, "|": 13, "-": 14, "<=": 15,
}

// wantNode is a node's type by the rows, or 0.
func wantNode(kind int, args []int) int {
	for _, r := range rows {
		if r.kind == kind && slices.Equal(r.args, args) {
			return r.ty
		}
	}
	return 0
}

// node is the node of a token.
func node(text string) api.Node {
	if k := kinds[text]; k != 0 {
		return api.Node{Kind: k}
	}
	n := 0
	if _, e := fmt.Sscanf(text[1:], "%d", &n); e != nil {
		panic(text)
	}
	return api.Node{Kind: map[byte]int{'r': 4, 't': 5}[text[0]], N: n}
}

// nodes are the nodes of tokens in postfix order.
func nodes(texts string) []api.Node {
	var l []api.Node
	for _, s := range strings.Fields(texts) {
		l = append(l, node(s))
	}
	return l
}

// mixed returns a source of numbers that look like any, the same ones in each run.
func mixed() func(below int) int {
	x := uint64(1)
	return func(below int) int {
		x = x*6364136223846793005 + 1442695040888963407
		return int(x>>33) % below
	}
}

// begin is the index of the first node of what ends with node i, found by recursion from the right, or -1 if an argument is missing.
func begin(l []api.Node, i int) int {
	if i < 0 {
		return -1
	}
	for range arguments[l[i].Kind] {
		if i = begin(l, i-1); i < 0 {
			return -1
		}
	}
	return i
}

// valid tells whether a list is what ends with its last node, of nodes that are fine.
func valid(l []api.Node) bool {
	for _, n := range l {
		if n.Kind < 1 || n.Kind > 15 || n.N < 0 || n.N > 15 || n.N != 0 && n.Kind != 4 && n.Kind != 5 {
			return false
		}
	}
	return 1 <= len(l) && len(l) <= 24 && begin(l, len(l)-1) == 0
}

// typeAt is the type of what ends with node i of a valid list, or 0.
func typeAt(l []api.Node, i int) int {
	var args []int
	end := i - 1
	for range arguments[l[i].Kind] {
		args = append([]int{typeAt(l, end)}, args...)
		end = begin(l, end) - 1
	}
	return wantNode(l[i].Kind, args)
}

// wantType is what Type must answer.
func wantType(l []api.Node) (int, int, api.Errno) {
	if !valid(l) {
		return 0, 0, api.ErrForm
	}
	for i := range l {
		if typeAt(l, i) == 0 {
			return 0, i, api.ErrType
		}
	}
	return typeAt(l, len(l)-1), 0, api.OK
}

// check holds Type against what is wanted, twice, and asks that the list and what is behind it stay as they are.
func check(t *testing.T, l []api.Node, ty, at int, err api.Errno) {
	t.Helper()
	room := append(slices.Clone(l), api.Node{Kind: 77, N: 78})
	for range 2 {
		a, b, e := typing.Type(room[:len(l)])
		if a != ty || b != at || e != err {
			t.Fatalf("Type(%v) = %d, %d, %v, want %d, %d, %v", l, a, b, e, ty, at, err)
		}
	}
	if !slices.Equal(room[:len(l)], l) || room[len(l)] != (api.Node{Kind: 77, N: 78}) {
		t.Fatalf("Type(%v) left %v", l, room)
	}
}

// checkModel holds Type against the model, and tells its error.
func checkModel(t *testing.T, l []api.Node) api.Errno {
	t.Helper()
	ty, at, e := wantType(l)
	check(t, l, ty, at, e)
	return e
}

// checkNode holds Node against what is wanted, and asks that the arguments and what is behind them stay as they are.
func checkNode(t *testing.T, kind int, args []int, ty int) {
	t.Helper()
	room := append(slices.Clone(args), 77)
	got, ok := typing.Node(kind, room[:len(args)]...)
	if got != ty || ok != (ty != 0) {
		t.Fatalf("Node(%d, %v) = %d, %v, want %d", kind, args, got, ok, ty)
	}
	if !slices.Equal(room[:len(args)], args) || room[len(args)] != 77 {
		t.Fatalf("Node(%d, %v) left %v", kind, args, room)
	}
}

// lists calls f with all lists of n of these values.
func lists[T any](values []T, n int, f func([]T)) {
	l := make([]T, n)
	var fill func(i int)
	fill = func(i int) {
		if i == n {
			f(l)
			return
		}
		for _, v := range values {
			l[i] = v
			fill(i + 1)
		}
	}
	fill(0)
}

// P18.1: Node

func TestNodeByHand(t *testing.T) {
	for _, r := range rows {
		checkNode(t, r.kind, r.args, r.ty)
	}
	for _, c := range []row{
		{api.NdAll, []int{}, api.TyRoles}, {api.NdMine, []int{}, api.TyRoles}, {api.NdRole, []int{}, api.TyRoles},
		{api.NdLive, []int{}, api.TyTags}, {api.NdTag, []int{}, api.TyTags},
		{api.NdUp, []int{api.TyRoles}, api.TyRoles}, {api.NdUp, []int{api.TyTags}, 0},
		{api.NdDown, []int{api.TyRoles}, api.TyRoles}, {api.NdDown, []int{api.TyTags}, 0},
		{api.NdTags, []int{api.TyRoles}, api.TyTags}, {api.NdTags, []int{api.TyTags}, 0},
		{api.NdOwners, []int{api.TyTags}, api.TyRoles}, {api.NdOwners, []int{api.TyRoles}, 0},
		{api.NdCount, []int{api.TyTags}, api.TyNumber}, {api.NdCount, []int{api.TyNumber}, 0}, {api.NdCount, []int{api.TyTruth}, 0},
		{api.NdSome, []int{api.TyRoles}, api.TyTruth}, {api.NdSome, []int{api.TyNumber}, 0}, {api.NdSome, []int{api.TyTruth}, 0},
		{api.NdAnd, []int{api.TyRoles, api.TyTags}, 0}, {api.NdOr, []int{api.TyTags, api.TyRoles}, 0},
		{api.NdLess, []int{api.TyNumber, api.TyNumber}, 0}, {api.NdAnd, []int{api.TyTruth, api.TyTruth}, 0},
		{api.NdIn, []int{api.TyTags, api.TyTags}, api.TyTruth}, {api.NdIn, []int{api.TyRoles, api.TyTags}, 0},
		{api.NdIn, []int{api.TyNumber, api.TyNumber}, 0}, {api.NdIn, []int{api.TyTruth, api.TyTruth}, 0},
	} {
		checkNode(t, c.kind, c.args, c.ty)
	}
	if ty, ok := typing.Node(api.NdAll); ty != 1 || !ok {
		t.Fatal(ty, ok)
	}
	if ty, ok := typing.Node(api.NdIn, 2, 2); ty != 4 || !ok {
		t.Fatal(ty, ok)
	}
}

func TestNodeAll(t *testing.T) {
	types := []int{1, 2, 3, 4, 0, 5, -1, 6, 16, 257, -2, math.MaxInt, math.MinInt, math.MinInt + 1, 1 << 32, 1<<32 + 1, 1<<32 + 2}
	all := []int{-1, 0, 16, 17, 31, 257, 262, math.MaxInt, math.MinInt, math.MinInt + 1, 1<<32 + 1, 1<<32 + 12}
	for kind := range 16 {
		all = append(all, kind)
	}
	found := 0
	for _, kind := range all {
		for n := range 4 {
			lists(types, n, func(args []int) {
				ty := wantNode(kind, args)
				checkNode(t, kind, args, ty)
				if ty != 0 && kind != 0 {
					found++
				}
			})
		}
	}
	if found != len(rows) || found != 21 {
		t.Fatal(found)
	}
}

func TestNodeWrongNumber(t *testing.T) {
	for kind := 1; kind <= 15; kind++ {
		for n := range 30 {
			for _, ty := range []int{roles, tags} {
				args := slices.Repeat([]int{ty}, n)
				if n != arguments[kind] {
					checkNode(t, kind, args, 0)
				}
			}
		}
	}
	checkNode(t, api.NdUp, []int{roles, roles}, 0)
	checkNode(t, api.NdUp, nil, 0)
	checkNode(t, api.NdAll, []int{roles}, 0)
	checkNode(t, api.NdAnd, []int{tags}, 0)
	checkNode(t, api.NdAnd, []int{tags, tags, tags}, 0)
}

// P18.2: Type

// fine are nodes in postfix order by their type.
var fine = []struct {
	texts string
	ty    int
}{
	{"all", roles}, {"live", tags}, {"mine", roles}, {"r0", roles}, {"r15", roles}, {"t0", tags}, {"t15", tags},
	{"all up", roles}, {"r3 down", roles}, {"mine tags", tags}, {"live owners", roles},
	{"all count", number}, {"live count", number}, {"mine some", truth}, {"t4 some", truth},
	{"r0 r1 &", roles}, {"t0 t1 &", tags}, {"r0 all |", roles}, {"live t1 |", tags}, {"all mine -", roles}, {"live t0 -", tags},
	{"r0 r1 <=", truth}, {"t0 live <=", truth},
	{"r1 r2 up | count", number},
	{"r0 tags t1 |", tags}, {"t1 owners r0 |", roles}, {"r0 up down tags owners", roles},
	{"live t1 - t2 & owners up count", number}, {"all mine - some", truth},
	{"r0 r1 | r2 - r3 &", roles}, {"t0 t1 & t2 t3 & | live <=", truth},
	{"mine tags live <=", truth}, {"all up mine down & live owners <=", truth},
}

func TestTypeByHand(t *testing.T) {
	for _, c := range fine {
		check(t, nodes(c.texts), c.ty, 0, api.OK)
	}
}

func TestTypeOfQueries(t *testing.T) {
	for _, c := range []struct {
		query string
		ty    int
		at    int
		err   api.Errno
	}{
		{"count live", number, 0, api.OK},
		{"r1 | t1", 0, 2, api.ErrType},
		{"r0 | t0", 0, 2, api.ErrType},
		{"count (r1 | up r2)", number, 0, api.OK},
		{"((all))", roles, 0, api.OK},
		{"count tags mine", number, 0, api.OK},
		{"r0 | r1 <= all - mine", truth, 0, api.OK},
		{"some owners (live & t1)", truth, 0, api.OK},
		{"tags up r1 & live - t2 | t3", tags, 0, api.OK},
		{"count count all", 0, 2, api.ErrType},
		{"some some all", 0, 2, api.ErrType},
		{"up t0", 0, 1, api.ErrType},
		{"(r0 <= r1) <= (r2 <= r3)", 0, 6, api.ErrType},
		{"count all - count live", 0, 4, api.ErrType},
		{"r0 - t0 - t1", 0, 2, api.ErrType},
		{"t0 <= r0", 0, 2, api.ErrType},
		{"live & owners live", 0, 3, api.ErrType},
	} {
		l, _, e := parse.Query(c.query)
		if e != api.OK {
			t.Fatal(c.query, e)
		}
		check(t, l, c.ty, c.at, c.err)
	}
}

func TestTypeFirstWithout(t *testing.T) {
	for _, c := range []struct {
		texts string
		at    int
	}{
		{"r0 t0 |", 2}, {"t0 r0 |", 2}, {"r0 t0 &", 2}, {"r0 t0 -", 2}, {"r0 t0 <=", 2},
		{"t0 up", 1}, {"live down", 1}, {"t0 tags", 1}, {"all owners", 1}, {"all count count", 2}, {"all some some", 2},
		{"all count up", 2}, {"all some tags", 2}, {"live count owners", 2}, {"all count some", 2}, {"all some count", 2},
		{"t0 up r1 |", 1},    // a node behind it has a type
		{"t0 up t1 up |", 1}, // several have none
		{"r1 t0 up |", 2},    // the second argument
		{"r0 t0 | count", 2}, // that of a word
		{"r0 t0 | r1 t1 & <=", 2},
		{"r0 r1 <= r2 &", 4}, {"r0 r1 r2 <= &", 4},
		{"r0 r1 t2 | r3 & <=", 3},
		{"all count all count |", 4}, {"all some live some &", 4}, {"all some live some <=", 4}, {"all count live count <=", 4},
		{"all all count -", 3}, {"all count all -", 3}, {"live live some <=", 3},
	} {
		check(t, nodes(c.texts), 0, c.at, api.ErrType)
	}
}

// long is a role and words behind it, one text for each.
func long(n int) []api.Node { return nodes("r7" + strings.Repeat(" up", n-1)) }

func TestTypeLong(t *testing.T) {
	for n := 1; n <= 24; n++ {
		check(t, long(n), roles, 0, api.OK)
		if n > 1 {
			check(t, append(long(n-1), node("tags")), tags, 0, api.OK)
			check(t, append(long(n-1), node("count")), number, 0, api.OK)
			check(t, append(long(n-1), node("some")), truth, 0, api.OK)
		}
		for at := 1; at < n; at++ {
			l := long(n)
			l[at] = node("owners")
			check(t, l, 0, at, api.ErrType)
			l[n-1] = node("owners") // the last one too
			check(t, l, 0, at, api.ErrType)
		}
		for _, leaf := range []string{"t1", "live"} {
			l := long(n)
			l[0] = node(leaf)
			if n == 1 {
				check(t, l, tags, 0, api.OK)
			} else {
				check(t, l, 0, 1, api.ErrType)
			}
		}
	}
	for n := 25; n <= 60; n++ {
		check(t, long(n), 0, 0, api.ErrForm)
		check(t, append(nodes("t0"), long(n)[1:]...), 0, 0, api.ErrForm)
	}
}

func TestTypeWide(t *testing.T) {
	for n := 1; n <= 12; n++ { // leaves in front, and signs behind them: the stack is as high as it can be
		left := nodes(strings.Repeat("t5 ", n))
		l := append(left, nodes(strings.Repeat("| ", n-1))...)
		check(t, l, tags, 0, api.OK)
		check(t, append(slices.Clone(l), node("owners")), roles, 0, api.OK)
		if n == 1 {
			continue
		}
		l[n-1] = node("r5")
		check(t, l, 0, n, api.ErrType)
		l[n-1], l[0] = node("t5"), node("r5")
		check(t, l, 0, 2*n-2, api.ErrType)
	}
	check(t, nodes(strings.Repeat("t5 ", 13)+strings.Repeat("| ", 12)), 0, 0, api.ErrForm)
}

func TestTypeNotValid(t *testing.T) {
	check(t, nil, 0, 0, api.ErrForm)
	check(t, []api.Node{}, 0, 0, api.ErrForm)
	for _, texts := range []string{
		"up", "|", "<=", "count", "r0 |", "t0 <=", "r0 r1 | |", "r0 up |", // an argument is missing
		"r0 r1", "t0 live", "r0 up t0", "r0 t0 t1 |", "r0 r1 r2 |", // more than one is no argument
		"t0 up up r0", "t0 up r0", "r0 t0 | r1", "t0 up |", "r0 t0 | |", "| t0 up", // a node without a type as well
		"count live", "up r0", "r0 | r1", // no postfix order
	} {
		check(t, nodes(texts), 0, 0, api.ErrForm)
	}
	for _, bad := range []api.Node{
		{}, {Kind: 0, N: 3}, {Kind: 16}, {Kind: 17}, {Kind: -1}, {Kind: math.MaxInt}, {Kind: math.MinInt}, {Kind: 1<<32 + 1},
		{Kind: 4, N: 16}, {Kind: 4, N: -1}, {Kind: 4, N: math.MaxInt}, {Kind: 5, N: 16}, {Kind: 5, N: -1}, {Kind: 5, N: math.MinInt},
		{Kind: 1, N: 1}, {Kind: 2, N: -1}, {Kind: 3, N: 15},
	} {
		check(t, []api.Node{bad}, 0, 0, api.ErrForm)
		check(t, append(nodes("r0 t0"), bad), 0, 0, api.ErrForm)
		check(t, append([]api.Node{bad}, nodes("up")...), 0, 0, api.ErrForm)
		check(t, append([]api.Node{bad}, nodes("t0 up |")...), 0, 0, api.ErrForm)
		check(t, append(nodes("t0 up"), bad, node("|")), 0, 0, api.ErrForm)
	}
	for kind := 6; kind <= 15; kind++ {
		l := nodes("r0 r1")[2-arguments[kind]:]
		check(t, append(l, api.Node{Kind: kind, N: 1}), 0, 0, api.ErrForm)
		check(t, append(l, api.Node{Kind: kind, N: -1}), 0, 0, api.ErrForm)
	}
}

func TestTypeShort(t *testing.T) {
	var all []api.Node
	for kind := 0; kind <= 16; kind++ {
		all = append(all, api.Node{Kind: kind})
	}
	count := map[api.Errno]int{}
	for n := range 5 {
		lists(all, n, func(l []api.Node) { count[checkModel(t, l)]++ })
	}
	if count[api.OK] < 600 || count[api.ErrType] < 2000 || count[api.ErrForm] < 50000 {
		t.Fatal(count)
	}
}

// tree makes a valid list that ends with a node, of any types.
func tree(pick func(int) int, room int) []api.Node {
	kind := 1 + pick(15)
	if room == 1 || arguments[kind] >= room {
		kind = 1 + pick(5)
	}
	n := 0
	if kind == 4 || kind == 5 {
		n = pick(16)
	}
	var l []api.Node
	for left := arguments[kind]; left > 0; left-- {
		l = append(l, tree(pick, room-len(l)-left)...)
	}
	return append(l, api.Node{Kind: kind, N: n})
}

// typedTree makes a valid list of a type: of at least two nodes, if it is that of no leaf.
func typedTree(pick func(int) int, ty, room int) []api.Node {
	r := rows[pick(len(rows))]
	for r.ty != ty || len(r.args) >= room {
		r = rows[pick(len(rows))]
	}
	n := 0
	if r.kind == 4 || r.kind == 5 {
		n = pick(16)
	}
	var l []api.Node
	for i, a := range r.args {
		l = append(l, typedTree(pick, a, room-len(l)-(len(r.args)-i))...)
	}
	return append(l, api.Node{Kind: r.kind, N: n})
}

func TestTypeMade(t *testing.T) {
	pick := mixed()
	count := map[api.Errno]int{}
	most := 0
	for range 20000 {
		count[checkModel(t, tree(pick, 1+pick(24)))]++
		ty := 1 + pick(4)
		l := typedTree(pick, ty, 2+pick(23))
		check(t, l, ty, 0, api.OK)
		most = max(most, len(l))
		i := pick(len(l))
		switch pick(5) {
		case 0:
			l[i].Kind = pick(17)
		case 1:
			l[i].N = pick(18) - 1
		case 2:
			l = slices.Delete(l, i, i+1)
		case 3:
			l = slices.Insert(l, i, api.Node{Kind: 1 + pick(15)})
		case 4:
			j := pick(len(l))
			l[i], l[j] = l[j], l[i]
		}
		count[checkModel(t, l)]++
	}
	if count[api.OK] < 5000 || count[api.ErrType] < 5000 || count[api.ErrForm] < 5000 || most < 23 {
		t.Fatal(count, most)
	}
}

func TestTypeIsNode(t *testing.T) {
	for _, r := range rows { // the nodes of a type behind the nodes of its arguments
		var l []api.Node
		for _, a := range r.args {
			l = append(l, nodes(map[int]string{roles: "live owners", tags: "all tags"}[a])...)
		}
		check(t, append(l, api.Node{Kind: r.kind}), r.ty, 0, api.OK)
	}
}

// P18.3: every subexpression of a query that has a type has a type

// checkParts asks that each subexpression has a type, which is that of its node by the types of its arguments.
func checkParts(t *testing.T, l []api.Node) int {
	t.Helper()
	for i := range l {
		from := parse.Begin(l, i)
		ty, at, e := typing.Type(l[from : i+1])
		if ty < 1 || ty > 4 || at != 0 || e != api.OK {
			t.Fatalf("Type(%v) = %d, %d, %v, part of %v", l[from:i+1], ty, at, e, l)
		}
		var args []int
		for end := i - 1; end >= from; end = parse.Begin(l, end) - 1 {
			a, _, _ := typing.Type(l[parse.Begin(l, end) : end+1])
			args = append([]int{a}, args...)
		}
		if again, ok := typing.Node(l[i].Kind, args...); !ok || again != ty {
			t.Fatalf("Node(%d, %v) = %d, %v, but Type is %d", l[i].Kind, args, again, ok, ty)
		}
	}
	return len(l)
}

func TestParts(t *testing.T) {
	for _, c := range fine {
		checkParts(t, nodes(c.texts))
	}
	pick := mixed()
	parts := 0
	for range 5000 {
		parts += checkParts(t, typedTree(pick, 1+pick(4), 2+pick(23)))
	}
	if parts < 20000 {
		t.Fatal(parts)
	}
}

// text is a query of up to some depth, of any types.
func text(pick func(int) int, deep int) string {
	leaves := []string{"all", "live", "mine", "r0", "r12", "t0", "t15"}
	words := []string{"up ", "down ", "tags ", "owners ", "count ", "some "}
	signs := []string{"&", "|", "-", "<="}
	switch {
	case deep == 0 || pick(4) == 0:
		return leaves[pick(len(leaves))]
	case pick(2) == 0:
		return words[pick(len(words))] + "(" + text(pick, deep-1) + ")"
	}
	return "(" + text(pick, deep-1) + ")" + signs[pick(len(signs))] + "(" + text(pick, deep-1) + ")"
}

func TestPartsOfQueries(t *testing.T) {
	pick := mixed()
	typed, untyped := 0, 0
	for range 30000 {
		l, _, e := parse.Query(text(pick, 3))
		if e != api.OK {
			continue
		}
		_, at, e := typing.Type(l)
		if e == api.OK {
			typed++
			checkParts(t, l)
			continue
		}
		untyped++
		from := parse.Begin(l, at) // the first node without a type ends a part that has none, whose parts have types
		check(t, l[from:at+1], 0, at-from, api.ErrType)
		for i := range at {
			if _, _, e := typing.Type(l[parse.Begin(l, i) : i+1]); e != api.OK {
				t.Fatal(l, at, i)
			}
		}
	}
	if typed < 5000 || untyped < 5000 {
		t.Fatal(typed, untyped)
	}
}
