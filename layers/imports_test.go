package layers_test

import (
	"go/parser"
	"go/token"
	"os"
	"path/filepath"
	"slices"
	"strconv"
	"strings"
	"testing"
)

// calls are the layers that each layer may call; every layer may import api.
func calls() map[string][]string {
	return map[string][]string{
		"api":    nil,
		"field":  nil,
		"plane":  {"field"},
		"words":  nil,
		"tiles":  {"words"},
		"poly":   {"words"},
		"pair":   {"words", "poly"},
		"walk":   {"words"},
		"draw":   {"field", "plane"},
		"desk":   nil, // scripts over all of it
		"proof":  nil,
		"orbit":  {"words", "poly", "pair"},
		"cover":  {"words"},
		"class":  {"field", "plane", "words"},
		"corner": {"field", "plane"},
	}
}

// library are the packages of the standard library that the program may import.
func library() []string {
	return []string{"bytes", "cmp", "container/heap", "errors", "iter", "maps", "math", "math/bits", "slices", "sort", "strconv", "strings", "sync", "sync/atomic", "unicode", "unicode/utf8"}
}

// imports are the paths that the files of a package import, without its tests.
func imports(t *testing.T, folder string) []string {
	t.Helper()
	names, err := filepath.Glob(filepath.Join("..", folder, "*.go"))
	if err != nil || len(names) == 0 {
		t.Fatal(folder, names, err)
	}
	var paths []string
	for _, name := range names {
		if strings.HasSuffix(name, "_test.go") {
			continue
		}
		file, err := parser.ParseFile(token.NewFileSet(), name, nil, parser.ImportsOnly)
		if err != nil {
			t.Fatal(err)
		}
		for _, spec := range file.Imports {
			path, err := strconv.Unquote(spec.Path.Value)
			if err != nil {
				t.Fatal(err)
			}
			paths = append(paths, path)
		}
	}
	return paths
}

// Each layer calls just the layers that the document lists, and few packages of the library.
func TestImports(t *testing.T) {
	for layer, lower := range calls() {
		for _, path := range imports(t, layer) {
			name, own := strings.CutPrefix(path, "horocycle/")
			switch {
			case !own && slices.Contains(library(), path):
			case own && (name == "api" || layer == "desk" || slices.Contains(lower, name)):
			default:
				t.Errorf("%s imports %s", layer, path)
			}
		}
	}
}

// The module has no other one that it requires.
func TestModule(t *testing.T) {
	text, err := os.ReadFile("../go.mod")
	if err != nil || string(text) != "module horocycle\n\ngo 1.27\n" {
		t.Errorf("%q, %v", text, err)
	}
}
