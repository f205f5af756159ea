package tests

import (
	"bytes"
	"go/ast"
	"go/format"
	"go/parser"
	"go/token"
	"os"
	"path/filepath"
	"strings"
	"testing"
)

const allowedImports = " bytes cmp container/heap errors iter maps math math/bits slices sort strconv strings sync sync/atomic unicode unicode/utf8 "

// TestLanguage holds the program against what a look at its text can tell of the language's rules.
func TestLanguage(t *testing.T) {
	files, err := filepath.Glob("../impl/*")
	if err != nil || len(files) != 18 {
		t.Fatal("a file a layer, and nothing else:", files, err)
	}
	for _, name := range files {
		text, err := os.ReadFile(name)
		if err != nil {
			t.Fatal(err)
		}
		laidOut, err := format.Source(text)
		if err != nil || !bytes.Equal(text, laidOut) {
			t.Error(name, "has not gofmt's layout", err)
		}
		if bytes.Contains(text, []byte("//go:")) {
			t.Error(name, "has a //go: line")
		}
		checkFile(t, name, text)
	}
}

func checkFile(t *testing.T, name string, text []byte) {
	places := token.NewFileSet()
	file, err := parser.ParseFile(places, name, text, parser.SkipObjectResolution)
	if err != nil {
		t.Fatal(err)
	}
	for _, i := range file.Imports {
		if !strings.Contains(allowedImports, " "+strings.Trim(i.Path.Value, `"`)+" ") {
			t.Error(name, "imports", i.Path.Value)
		}
	}
	for _, d := range file.Decls {
		f, ok := d.(*ast.FuncDecl)
		if !ok {
			continue
		}
		if lines := places.Position(f.End()).Line - places.Position(f.Pos()).Line + 1; lines > 60 {
			t.Error(name, f.Name.Name, "has", lines, "lines")
		}
	}
}
