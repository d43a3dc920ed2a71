package docs

import (
	"strings"
	"testing"
	"unsafe"
)

// TestDir: P8.1, the chapter's examples, and the edges of names.
func TestDir(t *testing.T) {
	long := strings.Repeat("n", 39)
	for _, c := range []struct{ uri, dir string }{
		{"file:///geo/a.go", "geo"},
		{"file:///for/a.go", ""},
		{"file:///geo/a", ""},
		{"file:///geo/_.go", ""},
		{"file://geo/a.go", ""},
		{"file:///_/a.go", ""},
		{"file:///__/__.go", "__"},
		{"file:///_a/_9.go", "_a"},
		{"file:///Z9_a/zAZ.go", "Z9_a"},
		{"file:///9a/a.go", ""},
		{"file:///a/9a.go", ""},
		// A file may have a reserved word as its name.
		{"file:///a/for.go", "a"},
		{"file:///a/go.go", "a"},
		{"file:///go/a.go", "go"},
		{"file:///" + long + "x/" + long + "y.go", long + "x"},
		{"file:///" + long + "xx/a.go", ""},
		{"file:///a/" + long + "xx.go", ""},
		{"", ""},
		{"file:///", ""},
		{"file:///.go", ""},
		{"file:////.go", ""},
		{"file:///a/.go", ""},
		{"file:////a.go", ""},
		{"file:///a.go", ""},
		{"file:///a/b/c.go", ""},
		{"file:///a//c.go", ""},
		{"file:///a/c.go/", ""},
		{"file:///a/c.go.go", ""},
		{"file:///a/c.GO", ""},
		{"FILE:///a/c.go", ""},
		{"file:///\u00e9/c.go", ""},
		{"file:///a/\u00e9.go", ""},
		{"file:///a/c.go\n", ""},
		{"file:///a/\x00.go", ""},
		{"file:///%61/c.go", ""},
		{" file:///a/c.go", ""},
	} {
		if dir, ok := Dir(c.uri); dir != c.dir || ok != (c.dir != "") {
			t.Errorf("Dir(%q): %q, %t, not %q", c.uri, dir, ok, c.dir)
		}
	}
}

// likeModel tells of a URI of which Dir tells otherwise than the model.
func likeModel(t *testing.T, uri string) {
	t.Helper()
	dir, ok := Dir(uri)
	if want, wantOK := dirOf(uri); dir != want || ok != wantOK {
		t.Errorf("Dir(%q): %q, %t, not %q, %t", uri, dir, ok, want, wantOK)
	}
}

// TestDirOfWords: P8.1, all reserved words, and what is nearly one, on either side.
func TestDirOfWords(t *testing.T) {
	for _, word := range strings.Fields(words) {
		for _, name := range []string{word, word + "s", "_" + word, word[1:], strings.ToUpper(word[:1]) + word[1:], strings.ToUpper(word)} {
			likeModel(t, "file:///"+name+"/a.go")
			likeModel(t, "file:///a/"+name+".go")
		}
		if dir, ok := Dir("file:///" + word + "/a.go"); dir != "" || ok {
			t.Errorf("the directory %s: %q, %t", word, dir, ok)
		}
	}
}

// TestDirOfSpoiled: P8.1, URIs in which a byte is another one, or missing, or one more.
func TestDirOfSpoiled(t *testing.T) {
	for _, uri := range []string{"file:///a/b.go", "file:///geo/a1.go", "file:///_x/_.go", "file:///int/a.go"} {
		for at := range len(uri) + 1 {
			likeModel(t, uri[:at])
			likeModel(t, uri[at:])
			for b := range 256 {
				likeModel(t, uri[:at]+string([]byte{byte(b)})+uri[at:])
				if at < len(uri) {
					likeModel(t, uri[:at]+string([]byte{byte(b)})+uri[at+1:])
					likeModel(t, uri[:at]+uri[at+1:])
				}
			}
		}
	}
}

// TestDirOfLengths: P8.1, names of all lengths about the longest one.
func TestDirOfLengths(t *testing.T) {
	for n := range 300 {
		name := strings.Repeat("_", n)
		likeModel(t, "file:///"+name+"/a.go")
		likeModel(t, "file:///a/"+name+".go")
		likeModel(t, "file:///"+name+"/"+name+".go")
	}
}

// TestDirIsNew: P8.7, a directory is no piece of what was handed in.
func TestDirIsNew(t *testing.T) {
	uri := "file:///geo/a.go"
	dir, _ := Dir(uri)
	if unsafe.StringData(dir) == unsafe.StringData(uri[len(head):]) {
		t.Error("the directory is a piece of the URI")
	}
}
