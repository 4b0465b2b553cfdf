package tests

import (
	"go/ast"
	"go/parser"
	"go/token"
	"path/filepath"
	"strconv"
	"strings"
	"testing"
)

const (
	mayImport   = " bytes cmp container/heap errors iter maps math math/bits slices sort strconv strings sync sync/atomic unicode unicode/utf8 "
	mostLines   = 60
	programRoot = "../impl"
)

// What a look at the text can tell of the rules of the language page: imports, lines for the compiler, and how long functions are.
func TestProgramKeepsToTheLanguage(t *testing.T) {
	files, err := filepath.Glob(filepath.Join(programRoot, "*"))
	if err != nil || len(files) == 0 {
		t.Fatal(files, err)
	}
	for _, file := range files {
		if !strings.HasSuffix(file, ".go") {
			t.Errorf("%s: not a Go file", file)
			continue
		}
		places := token.NewFileSet()
		tree, err := parser.ParseFile(places, file, nil, parser.ParseComments)
		if err != nil {
			t.Fatal(err)
		}
		checkFile(t, places, tree)
	}
}

func checkFile(t *testing.T, places *token.FileSet, tree *ast.File) {
	for _, i := range tree.Imports {
		if path, _ := strconv.Unquote(i.Path.Value); !strings.Contains(mayImport, " "+path+" ") {
			t.Errorf("%s: import of %s", places.Position(i.Pos()), path)
		}
	}
	for _, group := range tree.Comments {
		for _, c := range group.List {
			if strings.HasPrefix(c.Text, "//go:") || strings.HasPrefix(c.Text, "// +build") {
				t.Errorf("%s: %s", places.Position(c.Pos()), c.Text)
			}
		}
	}
	for _, d := range tree.Decls {
		f, ok := d.(*ast.FuncDecl)
		if !ok {
			continue
		}
		if n := places.Position(f.End()).Line - places.Position(f.Pos()).Line + 1; n > mostLines {
			t.Errorf("%s: %s has %d lines", places.Position(f.Pos()), f.Name.Name, n)
		}
	}
}
