package tests

import (
	"go/ast"
	"testing"
)

// funcsOf has the functions of one file by name.
func funcsOf(f *ast.File) map[string]*ast.FuncDecl {
	out := map[string]*ast.FuncDecl{}
	for _, d := range f.Decls {
		if fn, ok := d.(*ast.FuncDecl); ok && fn.Recv == nil {
			out[fn.Name.Name] = fn
		}
	}
	return out
}

// reach marks what a function of the file calls, and what that calls.
func reach(funcs map[string]*ast.FuncDecl, name string, seen map[string]bool) {
	if funcs[name] == nil || seen[name] {
		return
	}
	seen[name] = true
	ast.Inspect(funcs[name].Body, func(n ast.Node) bool {
		if id, ok := n.(*ast.Ident); ok {
			reach(funcs, id.Name, seen)
		}
		return true
	})
}

func isVariadic(fn *ast.FuncDecl) bool {
	params := fn.Type.Params.List
	if len(params) == 0 {
		return false
	}
	_, ok := params[len(params)-1].Type.(*ast.Ellipsis)
	return ok
}

func TestWayOfBytes(t *testing.T) {
	_, f, _ := parsed(t, "../impl/l01_bytes.go")
	funcs := funcsOf(f)
	for _, name := range []string{"PutU", "PutText", "PutSum"} {
		seen := map[string]bool{}
		reach(funcs, name, seen)
		found := false
		for called := range seen {
			found = found || isVariadic(funcs[called])
		}
		if !found {
			t.Errorf("%s puts by no variadic function", name)
		}
	}
}
