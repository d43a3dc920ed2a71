package ast

import (
	"math"
	"math/rand"
	"slices"
	"testing"
	"unsafe"

	"emend/api"
)

// at is a tree with places.
func at(n api.Node, from, at, to int) api.Node {
	n.From, n.At, n.To = from, at, to
	return n
}

// anyTree is a tree of any nodes, nothing with children among them.
func anyTree(r *rand.Rand, deep int) api.Node {
	n := api.Node{Kind: max(r.Intn(12)-3, -1), Name: []string{"", "x", "y"}[r.Intn(3)]}
	if deep > 0 {
		for range r.Intn(4) {
			n.Kids = append(n.Kids, anyTree(r, deep-1))
		}
	}
	return n
}

// trees are such as the grammar makes, such that are spoiled, and any, with places that are mostly in order.
func trees(r *rand.Rand, many int) (l []api.Node) {
	for i := range many {
		n := anyTree(r, 4)
		if i%3 > 0 {
			n = grow(r, "file", 2+r.Intn(5))
		}
		if i%3 > 1 {
			n = spoil(r, n)
		}
		l = append(l, scatter(r, n, 0, r.Intn(30), []int{0, 0, 5, 30}[r.Intn(4)]))
	}
	return l
}

// TestDepth: P10.1.
func TestDepth(t *testing.T) {
	for _, c := range []struct {
		what string
		n    api.Node
		want int
	}{
		{"the file p", fileOf(), 1},
		{"nothing", none, 0},
		{"nothing with a name and a child", node(api.NNone, "x", x), 0},
		{"x", x, 1},
		{"nothing below x", node(api.NParen, "", none), 1},
		{"nothing with a child below x", node(api.NParen, "", node(api.NNone, "", x)), 1},
		{"x + x * x", binary("+", x, binary("*", x, x)), 3},
		{"x * x + x", binary("+", binary("*", x, x), x), 3},
		{"a node of no kind", node(-1, "", node(99, "")), 2},
		{"a child that is nothing behind another", node(api.NVar, "x", x, none), 2},
		{"100 brackets", deepExpr(100), 100},
	} {
		if got := Depth(c.n); got != c.want {
			t.Errorf("Depth of %s: %d, not %d", c.what, got, c.want)
		}
	}
	for _, n := range trees(rand.New(rand.NewSource(1)), 3000) {
		if got, want := Depth(n), modelDepth(n); got != want {
			t.Fatalf("Depth(%s): %d, not %d", shown(n), got, want)
		}
	}
}

// checkSame holds Same of two trees against what is shown of them, both ways about.
func checkSame(t *testing.T, a, b api.Node) bool {
	t.Helper()
	want := shown(a) == shown(b)
	if Same(a, b) != want || Same(b, a) != want {
		t.Fatalf("Same(%s, %s): %t, %t, not %t", shown(a), shown(b), Same(a, b), Same(b, a), want)
	}
	return want
}

// TestSame: P10.2.
func TestSame(t *testing.T) {
	for _, c := range []struct {
		what string
		a, b api.Node
		want bool
	}{
		{"places", at(x, 1, 2, 3), x, true},
		{"places below", paren(at(x, 1, 2, 3)), paren(at(x, 4, 5, 6)), true},
		{"no list and an empty one", x, api.Node{Kind: api.NIdent, Name: "x", Kids: []api.Node{}}, true},
		{"nothing", none, at(none, 1, 2, 3), true},
		{"nothing with a child", none, node(api.NNone, "", x), false},
		{"nothing with a name", none, node(api.NNone, "x"), false},
		{"nothing with other children", node(api.NNone, "", x), node(api.NNone, "", x), true},
		{"a kind", x, node(api.NTypeName, "x"), false},
		{"a name", x, ident("y"), false},
		{"a child more", call("f", x), call("f", x, x), false},
		{"a child that is nothing more", node(api.NReturn, ""), returned(none), false},
		{"children changed about", call("f", x), node(api.NCall, "", x, ident("f")), false},
		{"a deep child", deepExpr(50), deepExpr(51), false},
		{"no grammar's trees", node(-7, "\xff", none, x), node(-7, "\xff", none, x), true},
	} {
		if got := checkSame(t, c.a, c.b); got != c.want {
			t.Errorf("Same, %s: %t, not %t", c.what, got, c.want)
		}
	}
	r := rand.New(rand.NewSource(2))
	same := 0
	for _, n := range trees(r, 2000) {
		other := spoil(r, n)
		if checkSame(t, n, other) {
			same++
		}
		checkSame(t, n, scatter(r, n, 0, 9, 2))
		if Same(n, other) && Check(n) != Check(other) {
			t.Fatalf("Check of two that are the same: %s", shown(n))
		}
	}
	if same < 50 || same > 1500 {
		t.Errorf("%d of 2000 are the same", same)
	}
}

// TestEach: P10.3, what is gone through, and that it ends as soon as it is told to.
func TestEach(t *testing.T) {
	for _, c := range []struct {
		what string
		n    api.Node
		want []api.Node
	}{
		{"x", x, []api.Node{x}},
		{"nothing", none, nil},
		{"nothing below a node", node(api.NVar, "v", none, x), []api.Node{node(api.NVar, "v", none, x), x}},
		{"what is below nothing", node(api.NNone, "", x, ident("y")), []api.Node{x, ident("y")}},
		{"x + y", binary("+", x, ident("y")), []api.Node{binary("+", x, ident("y")), x, ident("y")}},
	} {
		if got := slices.Collect(Each(c.n)); !slices.Equal(wholes(got), wholes(c.want)) {
			t.Errorf("Each, %s: %v, not %v", c.what, wholes(got), wholes(c.want))
		}
	}
	for _, n := range trees(rand.New(rand.NewSource(3)), 1500) {
		want := modelEach(n)
		seq := Each(n)
		for range 2 {
			if got := slices.Collect(seq); !slices.Equal(wholes(got), wholes(want)) {
				t.Fatalf("Each(%s): %v", whole(n), wholes(got))
			}
		}
		for most := 1; most <= len(want); most++ {
			var got []api.Node
			for m := range seq {
				if got = append(got, m); len(got) == most {
					break
				}
			}
			if !slices.Equal(wholes(got), wholes(want[:most])) {
				t.Fatalf("Each(%s), %d of it: %v", whole(n), most, wholes(got))
			}
		}
	}
}

// TestEachEnds: P10.3, whoever says that it ends is asked no more.
func TestEachEnds(t *testing.T) {
	n := funcOf(returned(binary("+", x, x)), define(x))
	all := len(modelEach(n))
	for most := 1; most <= all+1; most++ {
		asked := 0
		Each(n)(func(api.Node) bool {
			asked++
			return asked < most
		})
		if asked != min(most, all) {
			t.Errorf("asked %d times, not %d", asked, min(most, all))
		}
	}
}

// TestEachInEach: P10.3, a sequence that is gone through within itself.
func TestEachInEach(t *testing.T) {
	n := binary("+", x, binary("*", x, x))
	seq := Each(n)
	times := 0
	for range seq {
		for range seq {
			times++
		}
	}
	if times != 25 {
		t.Errorf("%d times, not 25", times)
	}
}

// checkPath holds Path against the model.
func checkPath(t *testing.T, n api.Node, from, to int) []api.Node {
	t.Helper()
	got, want := Path(n, from, to), modelPath(n, from, to)
	if !slices.Equal(wholes(got), wholes(want)) {
		t.Fatalf("Path(%s, %d, %d): %v, not %v", whole(n), from, to, wholes(got), wholes(want))
	}
	return got
}

// TestPath: P10.3, the chapter's examples, and what is like them.
func TestPath(t *testing.T) {
	f := at(fileOf(), 0, 8, 9)
	a, b := at(ident("a"), 2, 2, 4), at(ident("b"), 4, 4, 6)
	sum := at(binary("+", a, b), 2, 4, 6)
	hole := at(binary("+", at(node(api.NNone, "", b), 0, 0, 9), b), 2, 4, 6)
	for _, c := range []struct {
		what     string
		n        api.Node
		from, to int
		want     []api.Node
	}{
		{"f at 3", f, 3, 3, []api.Node{f}},
		{"f at 10", f, 10, 10, nil},
		{"f, all of it", f, 0, 9, []api.Node{f}},
		{"f, a byte more", f, 0, 10, nil},
		{"f, a byte ahead", f, -1, 3, nil},
		{"f, from behind to", f, 4, 3, nil},
		{"nothing", none, 0, 0, nil},
		{"nothing with places and a child", at(node(api.NNone, "", f), 0, 0, 9), 3, 3, nil},
		{"a", sum, 2, 3, []api.Node{sum, a}},
		{"b", sum, 5, 6, []api.Node{sum, b}},
		{"between both: the first one", sum, 4, 4, []api.Node{sum, a}},
		{"over both", sum, 3, 5, []api.Node{sum}},
		{"nothing is passed by, with what is below it", hole, 5, 5, []api.Node{hole, b}},
		{"a node that ends ahead of where it begins", at(x, 5, 5, 3), 4, 4, nil},
		{"a child around its parent", at(paren(at(x, 0, 0, 9)), 4, 4, 5), 4, 5, []api.Node{at(paren(at(x, 0, 0, 9)), 4, 4, 5), at(x, 0, 0, 9)}},
		{"a child around, of a node that is not", at(paren(at(x, 0, 0, 9)), 4, 4, 5), 6, 6, nil},
		{"the farthest places", at(x, math.MinInt, 0, math.MaxInt), math.MinInt, math.MaxInt, []api.Node{at(x, math.MinInt, 0, math.MaxInt)}},
	} {
		if got := checkPath(t, c.n, c.from, c.to); !slices.Equal(wholes(got), wholes(c.want)) {
			t.Errorf("Path of %s: %v, not %v", c.what, wholes(got), wholes(c.want))
		}
	}
}

// TestPathAgainstModel: P10.3, P10.6, of trees of all sorts, at all places.
func TestPathAgainstModel(t *testing.T) {
	long := 0
	for _, n := range trees(rand.New(rand.NewSource(4)), 300) {
		for from := -2; from < 32; from++ {
			for to := from - 1; to < 32; to++ {
				l := checkPath(t, n, from, to)
				checkWayDown(t, n, l, from, to)
				long = max(long, len(l))
			}
		}
	}
	if long < 6 {
		t.Errorf("the longest path has %d nodes", long)
	}
}

// checkWayDown: P10.6.
func checkWayDown(t *testing.T, n api.Node, l []api.Node, from, to int) {
	t.Helper()
	has := func(m api.Node) bool {
		return m.Kind != api.NNone && m.From <= from && from <= to && to <= m.To
	}
	if (len(l) > 0) != has(n) {
		t.Fatalf("Path(%s, %d, %d) has %d nodes", whole(n), from, to, len(l))
	}
	for i, m := range l {
		if !has(m) || i > 0 && !slices.Contains(wholes(l[i-1].Kids), whole(m)) {
			t.Fatalf("Path(%s, %d, %d): %s", whole(n), from, to, whole(m))
		}
		if i == len(l)-1 && slices.ContainsFunc(m.Kids, has) {
			t.Fatalf("Path(%s, %d, %d) ends too early", whole(n), from, to)
		}
		with := 0
		for _, kid := range m.Kids {
			if from != to && has(kid) {
				with++
			}
		}
		if with > 1 && Placed(n, math.MaxInt) {
			t.Fatalf("%s: %d children have %d to %d in them", whole(n), with, from, to)
		}
	}
}

// TestPlaced: P10.4, each place by itself.
func TestPlaced(t *testing.T) {
	pair := func(a, b api.Node) api.Node { return at(binary("+", a, b), 2, 4, 8) }
	a, b := at(x, 2, 2, 4), at(x, 5, 5, 8)
	for _, c := range []struct {
		what string
		n    api.Node
		size int
		want bool
	}{
		{"x", at(x, 0, 0, 1), 1, true},
		{"x of no bytes", at(x, 0, 0, 0), 0, true},
		{"From below 0", at(x, -1, 0, 1), 1, false},
		{"At ahead of From", at(x, 1, 0, 1), 1, false},
		{"At at To", at(x, 0, 1, 1), 1, true},
		{"At behind To", at(x, 0, 2, 1), 2, false},
		{"To behind the text", at(x, 0, 0, 2), 1, false},
		{"a size below 0", at(x, 0, 0, 0), -1, false},
		{"nothing", none, -1, true},
		{"nothing with any places and children", at(node(api.NNone, "x", at(x, 9, 8, 7)), 5, 4, -3), 0, true},
		{"two children", pair(a, b), 8, true},
		{"two that touch", pair(a, at(x, 4, 4, 8)), 8, true},
		{"two that overlap", pair(a, at(x, 3, 4, 8)), 8, false},
		{"two changed about", pair(b, a), 8, false},
		{"two of no bytes at one place", pair(at(x, 4, 4, 4), at(x, 4, 4, 4)), 8, true},
		{"a child ahead of its parent", pair(at(x, 1, 2, 4), b), 8, false},
		{"a child behind its parent", pair(a, at(x, 5, 5, 9)), 9, false},
		{"a child behind the text", pair(a, at(x, 5, 5, 9)), 8, false},
		{"a child of which At is off", pair(a, at(x, 5, 9, 8)), 8, false},
		{"a child of which To is ahead of From", pair(at(x, 4, 4, 3), b), 8, false},
		{"nothing at no places between", at(node(api.NFor, "", a, none, b), 2, 2, 8), 8, true},
		{"nothing at far places between", at(node(api.NFor, "", a, at(none, 90, 80, 70), b), 2, 2, 8), 8, true},
		{"nothing ahead, up to where another one is", at(node(api.NFor, "", at(none, 0, 0, 7), a, b), 2, 2, 8), 8, true},
		{"a third child over the first one", at(node(api.NFor, "", b, none, a), 2, 2, 8), 8, false},
		{"a child of a child that is off", at(paren(pair(a, at(x, 3, 4, 8))), 2, 2, 8), 8, false},
		{"a child of a child beyond its parent alone", at(paren(at(paren(at(x, 1, 1, 2)), 2, 2, 4)), 0, 0, 9), 9, false},
		{"the farthest places", at(x, 0, 0, math.MaxInt), math.MaxInt, true},
		{"the least places", at(x, math.MinInt, math.MinInt, math.MaxInt), math.MaxInt, false},
	} {
		if got := Placed(c.n, c.size); got != c.want || modelPlaced(c.n, c.size) != c.want {
			t.Errorf("Placed, %s: %t, not %t", c.what, got, c.want)
		}
	}
	told := map[bool]int{}
	for _, n := range trees(rand.New(rand.NewSource(5)), 3000) {
		for _, size := range []int{-1, 0, n.To - 1, n.To, n.To + 1, 40, math.MaxInt} {
			want := modelPlaced(n, size)
			told[want]++
			if Placed(n, size) != want {
				t.Fatalf("Placed(%s, %d): %t, not %t", whole(n), size, !want, want)
			}
		}
	}
	if told[true] < 3000 || told[false] < 3000 {
		t.Errorf("too few of a sort: %v", told)
	}
}

// lists are where a tree's lists begin.
func lists(n api.Node) (l []*api.Node) {
	if len(n.Kids) > 0 {
		l = append(l, &n.Kids[0])
	}
	for _, kid := range n.Kids {
		l = append(l, lists(kid)...)
	}
	return l
}

// TestNewMemory: P10.7, no two lists, of an answer and of what was handed in, share memory.
func TestNewMemory(t *testing.T) {
	r := rand.New(rand.NewSource(6))
	for _, n := range trees(r, 500) {
		before := whole(n)
		seen := map[*api.Node]bool{}
		meet := func(what string, l []*api.Node) {
			for _, list := range l {
				if seen[list] {
					t.Fatalf("%s of %s: a list that was met", what, whole(n))
				}
				seen[list] = true
			}
		}
		meet("what is handed in", lists(n))
		seq := Each(n)
		var told []api.Node
		for range 2 {
			for m := range seq {
				told = append(told, m)
				meet("Each", lists(m))
			}
		}
		for _, m := range Path(n, n.To/2, n.To/2) {
			told = append(told, m)
			meet("Path", lists(m))
		}
		for _, m := range told {
			for i := range m.Kids {
				m.Kids[i].Name = "spoiled"
				clear(m.Kids[i].Kids)
			}
			_ = append(m.Kids, x)
		}
		if whole(n) != before {
			t.Fatalf("what was handed in is %s, not %s any more", whole(n), before)
		}
	}
}

// TestNotKept: P10.7, what is made of a tree behind a call does not change its answer, nor what is made of its answer.
func TestNotKept(t *testing.T) {
	r := rand.New(rand.NewSource(7))
	for _, n := range trees(r, 300) {
		want := wholes(modelEach(n))
		given := deepCopy(n)
		seq := Each(given)
		path := Path(given, n.To, n.To)
		wantPath := wholes(modelPath(n, n.To, n.To))
		for _, list := range lists(given) {
			*list = node(api.NBlock, "spoiled", x)
		}
		if !slices.Equal(wholes(path), wantPath) {
			t.Fatalf("Path of %s: %v", whole(n), wholes(path))
		}
		for range 2 {
			var got []string
			for m := range seq {
				got = append(got, whole(m))
				clear(m.Kids)
			}
			if !slices.Equal(got, want) {
				t.Fatalf("Each of %s: %v", whole(n), got)
			}
		}
	}
}

// TestNames: P10.7, names that are answered share no memory with those handed in.
func TestNames(t *testing.T) {
	b := []byte("name")
	n := paren(ident(unsafe.String(unsafe.SliceData(b), len(b))))
	seq, path := Each(n), Path(n, 0, 0)
	clear(b)
	for m := range seq {
		if m.Kind == api.NIdent && m.Name != "name" || m.Kind == api.NParen && m.Kids[0].Name != "name" {
			t.Errorf("Each: %s", whole(m))
		}
	}
	if len(path) != 2 || path[1].Name != "name" || path[0].Kids[0].Name != "name" {
		t.Errorf("Path: %v", wholes(path))
	}
}

// TestNotChanged: P10.7, all calls leave what is handed in as it was, and have the same answer again.
func TestNotChanged(t *testing.T) {
	r := rand.New(rand.NewSource(8))
	for _, n := range trees(r, 500) {
		before := whole(n)
		depth, e, placed := Depth(n), Check(n), Placed(n, n.To)
		if !Same(n, n) || Depth(n) != depth || Check(n) != e || Placed(n, n.To) != placed {
			t.Fatalf("%s: another answer", before)
		}
		if whole(n) != before {
			t.Fatalf("what was handed in is %s, not %s any more", whole(n), before)
		}
	}
}

// TestDeepest: P10.7, trees of 2^16 nodes below one another: all calls end.
func TestDeepest(t *testing.T) {
	t.Parallel()
	const depth = 1 << 16
	n := deepExpr(depth)
	if got := Depth(n); got != depth {
		t.Errorf("Depth: %d", got)
	}
	if e := Check(n); e != api.ErrLong {
		t.Errorf("Check: %d", e)
	}
	if !Same(n, deepExpr(depth)) || Same(n, deepExpr(depth-1)) {
		t.Error("Same")
	}
	if !Placed(n, 0) {
		t.Error("Placed")
	}
	told := 0
	for range Each(n) {
		told++
	}
	if told != depth {
		t.Errorf("Each: %d nodes", told)
	}
	if l := Path(n, 0, 0); len(l) != depth || l[depth-1].Kind != api.NIdent {
		t.Errorf("Path: %d nodes", len(l))
	}
}
