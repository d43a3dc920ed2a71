package types

import (
	"math"
	"math/rand"
	"slices"
	"strings"
	"testing"

	"emend/api"
)

// someValue is a value of a shape, and what stands behind it there.
func someValue(r *rand.Rand, shape string) (v api.Value, rest string) {
	switch shape[0] {
	case 'n':
		return v, shape[1:]
	case 'i':
		return api.Value{Kind: api.VInt, Int: r.Int63() - r.Int63()}, shape[2:]
	case 'b':
		return api.Value{Kind: api.VBool, Bool: r.Intn(2) == 0}, shape[2:]
	case 's':
		return api.Value{Kind: api.VString, Str: strings.Repeat("\xff", []int{0, 1, 4096}[r.Intn(3)])}, shape[2:]
	case 'f':
		return api.Value{Kind: api.VFloat, Float: []float64{0, math.NaN(), math.Inf(-1), 1.5}[r.Intn(4)]}, shape[2:]
	}
	v.Kind, shape = api.VStruct, strings.TrimPrefix(shape[1:], ",")
	for shape[0] != '}' {
		var field api.Value
		field, shape = someValue(r, shape)
		v.Fields = append(v.Fields, field)
	}
	return v, shape[1:]
}

// spoiltValue is a value of which one thing, somewhere in it, is another one.
func spoiltValue(r *rand.Rand, v api.Value) api.Value {
	v.Fields = slices.Clone(v.Fields)
	if len(v.Fields) > 0 && r.Intn(5) > 0 {
		i := r.Intn(len(v.Fields))
		v.Fields[i] = spoiltValue(r, v.Fields[i])
		return v
	}
	switch r.Intn(9) {
	case 0:
		v.Int++
	case 1:
		v.Bool = !v.Bool
	case 2:
		v.Str += "x"
	case 3:
		v.Float = []float64{math.NaN(), math.SmallestNonzeroFloat64, -1}[r.Intn(3)]
	case 4:
		v.Fields = append(v.Fields, api.Value{})
	case 5:
		v.Fields = append(v.Fields, api.Value{Kind: api.VInt})
	case 6:
		v.Fields = v.Fields[:len(v.Fields)/2]
	case 7:
		v.Kind = r.Intn(9) - 1
	default:
		v = api.Value{Kind: r.Intn(9) - 1}
	}
	return v
}

// checkFits: P14.4, values of a type, of others, and spoilt ones.
func checkFits(t *testing.T, r *rand.Rand, ts *Types, m *model) {
	t.Helper()
	l := m.some()
	for range 200 {
		x, y := l[r.Intn(len(l))], l[r.Intn(len(l))]
		if len(m.structs) > 0 && r.Intn(3) > 0 {
			x = own(m.structs[r.Intn(len(m.structs))])
		}
		var v api.Value
		if shape := m.shape(x); shape != "" {
			v, _ = someValue(r, shape)
		}
		for range r.Intn(3) {
			v = spoiltValue(r, v)
		}
		for _, z := range []Type{x, y} {
			if got := ts.Fits(z, v); got != (m.shape(z) == shown(v)) {
				t.Fatalf("Fits(%v, %v): %t", z, v, got)
			}
		}
	}
}

// one is the types of documents that have no fault: of package p, and, behind @ and the directory, of others.
func one(t *testing.T, text string) *Types {
	t.Helper()
	ts, f := Make(program(t, documents(text)))
	if f.E != api.OK {
		t.Fatalf("%v in %s", f, text)
	}
	return ts
}

// TestSizes: P14.4, by hand.
func TestSizes(t *testing.T) {
	t.Parallel()
	ts := one(t, "package p; import \"q\"; type T struct { a q.U; b T2 }; type T2 struct {}"+
		"; type E struct { a T2; b T2 }; type F struct { a F1 }; type F1 struct { a T2 }; type G struct { a int; b bool; c string; d float64; e E }"+
		q)
	for x, size := range map[Type]int{
		{}: 0, {Kind: Int}: 1, {Kind: Bool}: 1, {Kind: String}: 1, {Kind: Float}: 1, {Kind: Struct}: 0, {Kind: 6}: 0, {Kind: -1}: 0,
		{Struct, "p", "T"}: 3, {Struct, "p", "T2"}: 1, {Struct, "q", "U"}: 2, {Struct, "p", "E"}: 2, {Struct, "p", "F"}: 1,
		{Struct, "p", "F1"}: 1, {Struct, "p", "G"}: 6, {Struct, "q", "T"}: 0, {Struct, "p", "U"}: 0, {Int, "p", ""}: 0, {Int, "", "T"}: 0,
		{None, "p", "T"}: 0, {Bool, "", "bool"}: 0,
	} {
		if got := ts.Size(x); got != size {
			t.Errorf("Size(%v): %d, not %d", x, got, size)
		}
	}
	zero := ts.Zero(Type{Struct, "p", "T"})
	if len(zero.Fields) != 2 || shown(zero) != "{{i,b,}{,}}" || !isZero(zero) {
		t.Errorf("Zero: %v", zero)
	}
}

// TestFits: P14.4, by hand.
func TestFits(t *testing.T) {
	t.Parallel()
	ts := one(t, "package p; type T struct { a int; b string }; type E struct {}")
	pair := func(a, b api.Value) api.Value { return api.Value{Kind: api.VStruct, Fields: []api.Value{a, b}} }
	i, s := api.Value{Kind: api.VInt, Int: 1}, api.Value{Kind: api.VString, Str: "x"}
	long := func(n int) api.Value { return api.Value{Kind: api.VString, Str: strings.Repeat("x", n)} }
	st, empty := Type{Struct, "p", "T"}, Type{Struct, "p", "E"}
	for _, c := range []struct {
		x    Type
		v    api.Value
		want bool
	}{
		{Type{}, api.Value{}, true},
		{Type{}, i, false},
		{Type{}, api.Value{Fields: []api.Value{{}}}, false},
		{Type{Kind: Int}, i, true},
		{Type{Kind: Int}, s, false},
		{Type{Kind: Int}, api.Value{}, false},
		{Type{Kind: Int}, api.Value{Kind: api.VInt, Str: "x"}, false},
		{Type{Kind: Int}, api.Value{Kind: api.VInt, Fields: []api.Value{}}, true},
		{Type{Kind: Int, Pkg: "p"}, i, false},
		{Type{Kind: Int, Name: "T"}, i, false},
		{Type{Kind: Bool}, api.Value{Kind: api.VBool, Bool: true}, true},
		{Type{Kind: Bool}, api.Value{Kind: api.VBool, Int: 1}, false},
		{Type{Kind: Float}, api.Value{Kind: api.VFloat, Float: math.NaN()}, true},
		{Type{Kind: Float}, api.Value{Kind: api.VFloat, Bool: true}, false},
		{Type{Kind: String}, long(0), true},
		{Type{Kind: String}, long(4096), true},
		{Type{Kind: String}, long(4097), false},
		{Type{Kind: String}, api.Value{Kind: api.VString, Str: "\x00\xff"}, true},
		{Type{Kind: String}, api.Value{Kind: api.VString, Float: math.NaN()}, false},
		{st, pair(i, s), true},
		{st, pair(i, long(4097)), false},
		{st, pair(s, i), false},
		{st, api.Value{Kind: api.VStruct, Fields: []api.Value{i}}, false},
		{st, api.Value{Kind: api.VStruct, Fields: []api.Value{i, s, i}}, false},
		{st, api.Value{Kind: api.VStruct, Fields: []api.Value{i, s, {}}}, false},
		{st, api.Value{Kind: api.VStruct, Fields: []api.Value{i, s}, Str: "x"}, false},
		{st, api.Value{Fields: []api.Value{i, s}}, false},
		{st, api.Value{Kind: api.VStruct}, false},
		{empty, api.Value{Kind: api.VStruct}, true},
		{empty, api.Value{}, false},
		{empty, api.Value{Kind: api.VStruct, Fields: []api.Value{{}}}, false},
		{Type{Struct, "q", "T"}, pair(i, s), false},
		{Type{Struct, "", ""}, api.Value{Kind: api.VStruct}, false},
		{Type{Kind: 6}, api.Value{Kind: 6}, false},
		{Type{Kind: -1}, api.Value{Kind: -1}, false},
	} {
		if got := ts.Fits(c.x, c.v); got != c.want {
			t.Errorf("Fits(%v, %v): %t", c.x, c.v.Kind, got)
		}
	}
	// A value that holds itself is none, and the call ends.
	itself := api.Value{Kind: api.VStruct, Fields: make([]api.Value, 2)}
	itself.Fields[0], itself.Fields[1] = itself, itself
	if ts.Fits(st, itself) {
		t.Errorf("a value that holds itself")
	}
}

// TestText: P14.4, of all kinds.
func TestText(t *testing.T) {
	t.Parallel()
	for x, want := range map[Type]string{
		{}: "", {Kind: Int}: "int", {Kind: Bool}: "bool", {Kind: String}: "string", {Kind: Float}: "float64",
		{Struct, "p", "T"}: "p.T", {Struct, "geo", "a_1"}: "geo.a_1", {Struct, "", ""}: ".", {Kind: 6}: "", {Kind: -1}: "",
		{6, "p", "T"}: "", {None, "p", "T"}: "", {math.MaxInt, "p", "T"}: "", {math.MinInt, "p", "T"}: "",
	} {
		if got := x.Text(); got != want {
			t.Errorf("Text of %v: %q, not %q", x, got, want)
		}
	}
}
