package json

import (
	"slices"
	"unicode/utf8"

	"emend/api"
	"emend/jtext"
)

// keySet is the keys that were met in an object.
type keySet map[string]struct{}

// meet makes a key one that was met, and tells whether it was one before.
func (k keySet) meet(key string) (again bool) {
	_, again = k[key]
	k[key] = struct{}{}
	return again
}

// isDeeper tells whether the depth of v is above a bound. It looks no deeper than that.
func isDeeper(v api.JValue, most int) bool {
	if v.Kind != api.JArray && v.Kind != api.JObject {
		return false
	}
	return most == 0 || slices.ContainsFunc(v.Items, func(item api.JValue) bool { return isDeeper(item, most-1) })
}

// faultOf is the first fault of v but for its depth, which has to be looked at ahead of it.
func faultOf(v api.JValue) api.Errno {
	switch {
	case !isFormed(v):
		return api.ErrForm
	case v.Kind == api.JString && !utf8.ValidString(v.Str):
		return api.ErrUtf
	case v.Kind == api.JObject:
		return faultByKeys(v)
	}
	for _, item := range v.Items {
		if e := faultOf(item); e != api.OK {
			return e
		}
	}
	return api.OK
}

// faultByKeys is the first fault of an object that has an Item to each key.
func faultByKeys(v api.JValue) api.Errno {
	met := keySet{}
	for i, key := range v.Keys {
		if !utf8.ValidString(key) {
			return api.ErrUtf
		}
		if met.meet(key) {
			return api.ErrTwice
		}
		if e := faultOf(v.Items[i]); e != api.OK {
			return e
		}
	}
	return api.OK
}

// isFormed tells whether v is of a kind, and has what the kind names, and nothing else.
func isFormed(v api.JValue) bool {
	switch v.Kind {
	case api.JNull, api.JFalse, api.JTrue:
		return v.Str == "" && len(v.Keys) == 0 && len(v.Items) == 0
	case api.JNumber:
		return isNumber(v.Str) && len(v.Keys) == 0 && len(v.Items) == 0
	case api.JString:
		return len(v.Keys) == 0 && len(v.Items) == 0
	case api.JArray:
		return v.Str == "" && len(v.Keys) == 0
	case api.JObject:
		return v.Str == "" && len(v.Keys) == len(v.Items)
	}
	return false
}

// isNumber tells whether s is a number, without blanks around it.
func isNumber(s string) bool {
	tokens, _, e := jtext.Tokens(s)
	return e == api.OK && len(tokens) == 1 && tokens[0].Kind == jtext.Number && tokens[0].Text == s
}
