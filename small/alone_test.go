package small

import (
	"go/parser"
	"go/token"
	"os"
	"strconv"
	"strings"
	"testing"
)

// The package stands on package api, and reads texts by package file; its tests, too, know nothing else of the program.
func TestAlone(t *testing.T) {
	entries, err := os.ReadDir(".")
	if err != nil {
		t.Fatal(err)
	}
	files := 0
	for _, entry := range entries {
		if !strings.HasSuffix(entry.Name(), ".go") {
			continue
		}
		parsed, err := parser.ParseFile(token.NewFileSet(), entry.Name(), nil, parser.ImportsOnly)
		if err != nil {
			t.Fatal(err)
		}
		files++
		for _, spec := range parsed.Imports {
			path, _ := strconv.Unquote(spec.Path.Value)
			if strings.HasPrefix(path, "provekernel") && path != "provekernel/api" && path != "provekernel/file" {
				t.Errorf("%s imports %s", entry.Name(), path)
			}
		}
	}
	if files < 5 {
		t.Errorf("only %d files", files)
	}
}
