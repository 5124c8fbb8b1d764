package tests

import (
	"bytes"
	"go/ast"
	"go/format"
	"go/parser"
	"go/token"
	"os"
	"path/filepath"
	"strconv"
	"strings"
	"testing"
)

const maxFuncLines = 60

const allowedImports = " bytes cmp container/heap errors iter maps math math/bits slices sort strconv strings sync sync/atomic unicode unicode/utf8 "

func programFiles(t *testing.T) []string {
	t.Helper()
	names, err := filepath.Glob("../impl/*")
	if err != nil || len(names) == 0 {
		t.Fatal("no program", err)
	}
	return names
}

func parsed(t *testing.T, name string) (*token.FileSet, *ast.File, []byte) {
	t.Helper()
	src, err := os.ReadFile(name)
	if err != nil {
		t.Fatal(err)
	}
	fset := token.NewFileSet()
	f, err := parser.ParseFile(fset, name, src, parser.ParseComments|parser.SkipObjectResolution)
	if err != nil {
		t.Fatal(err)
	}
	return fset, f, src
}

func TestProgramKeepsToTheLanguage(t *testing.T) {
	for _, name := range programFiles(t) {
		if !strings.HasSuffix(name, ".go") {
			t.Errorf("%s: not a Go file", name)
			continue
		}
		fset, f, src := parsed(t, name)
		if laid, err := format.Source(src); err != nil || !bytes.Equal(laid, src) {
			t.Errorf("%s: not gofmt's layout", name)
		}
		checkImports(t, name, f)
		checkComments(t, name, f)
		checkFuncs(t, name, fset, f)
	}
}

func checkImports(t *testing.T, name string, f *ast.File) {
	for _, i := range f.Imports {
		path, _ := strconv.Unquote(i.Path.Value)
		if !strings.Contains(allowedImports, " "+path+" ") {
			t.Errorf("%s: imports %s", name, path)
		}
	}
}

func checkComments(t *testing.T, name string, f *ast.File) {
	for _, g := range f.Comments {
		for _, c := range g.List {
			if strings.HasPrefix(c.Text, "//go:") || strings.HasPrefix(c.Text, "// +build") {
				t.Errorf("%s: %s", name, c.Text)
			}
		}
	}
}

func checkFuncs(t *testing.T, name string, fset *token.FileSet, f *ast.File) {
	for _, d := range f.Decls {
		if fn, ok := d.(*ast.FuncDecl); ok {
			lines := fset.Position(fn.End()).Line - fset.Position(fn.Pos()).Line + 1
			if lines > maxFuncLines {
				t.Errorf("%s: %s has %d lines", name, fn.Name.Name, lines)
			}
		}
	}
	ast.Inspect(f, func(n ast.Node) bool {
		if call, ok := n.(*ast.CallExpr); ok {
			if id, ok := call.Fun.(*ast.Ident); ok && (id.Name == "print" || id.Name == "println") {
				t.Errorf("%s: prints", name)
			}
		}
		return true
	})
}
