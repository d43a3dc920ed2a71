package types

import "emend/api"

// Size is how many values of the four kinds a type's values have, structs without fields counting as one.
func (t *Types) Size(x Type) int {
	if !t.has(x) {
		return 0
	}
	return t.sizes[x]
}

// Zero is a type's zero value.
func (t *Types) Zero(x Type) api.Value {
	if !t.has(x) {
		return api.Value{}
	}
	// The kinds of values have the numbers of those of types.
	v := api.Value{Kind: x.Kind}
	for _, f := range t.fields[x] {
		v.Fields = append(v.Fields, t.Zero(f.Type))
	}
	return v
}

// Fits tells whether a value is one of a type.
func (t *Types) Fits(x Type, v api.Value) bool {
	if !t.has(x) || v.Kind != x.Kind || !isPlain(v) || len(v.Str) > api.MaxString {
		return false
	}
	fields := t.fields[x]
	if len(v.Fields) != len(fields) {
		return false
	}
	for i, f := range fields {
		if !t.Fits(f.Type, v.Fields[i]) {
			return false
		}
	}
	return true
}

// isPlain tells whether what a value's kind does not name, beside its fields, is zero.
func isPlain(v api.Value) bool {
	switch v.Kind {
	case api.VInt:
		v.Int = 0
	case api.VBool:
		v.Bool = false
	case api.VString:
		v.Str = ""
	case api.VFloat:
		v.Float = 0
	}
	return v.Int == 0 && !v.Bool && v.Str == "" && v.Float == 0
}
