package json

import (
	"strings"

	"emend/api"
	"emend/jtext"
)

// The words of JSON, and what they are.
const (
	wordNull  = "null"
	wordFalse = "false"
	wordTrue  = "true"
)

// write puts the text of a value that may be behind what is written.
func write(text *strings.Builder, v api.JValue) {
	switch v.Kind {
	case api.JNull:
		text.WriteString(wordNull)
	case api.JFalse:
		text.WriteString(wordFalse)
	case api.JTrue:
		text.WriteString(wordTrue)
	case api.JNumber:
		text.WriteString(v.Str)
	case api.JString:
		writeString(text, v.Str)
	case api.JArray:
		text.WriteByte('[')
		writeItems(text, v)
		text.WriteByte(']')
	case api.JObject:
		text.WriteByte('{')
		writeItems(text, v)
		text.WriteByte('}')
	}
}

// writeItems writes the Items of an array or an object, of an object each behind its key.
func writeItems(text *strings.Builder, v api.JValue) {
	for i, item := range v.Items {
		if i > 0 {
			text.WriteByte(',')
		}
		if v.Kind == api.JObject {
			writeString(text, v.Keys[i])
			text.WriteByte(':')
		}
		write(text, item)
	}
}

// writeString writes a text that is UTF-8 as a string; of such a one there is no error.
func writeString(text *strings.Builder, s string) {
	quoted, _ := jtext.Quote(s)
	text.WriteString(quoted)
}
