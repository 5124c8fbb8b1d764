package tests

import (
	"go/ast"
	"go/importer"
	"go/parser"
	"go/token"
	"go/types"
	"testing"
)

// funcsOf has the functions of one file by name.
func funcsOf(f *ast.File) map[string]*ast.FuncDecl {
	out := map[string]*ast.FuncDecl{}
	for _, d := range f.Decls {
		if fn, ok := d.(*ast.FuncDecl); ok && fn.Recv == nil {
			out[fn.Name.Name] = fn
		}
	}
	return out
}

// reach marks what a function of the file calls, and what that calls.
func reach(funcs map[string]*ast.FuncDecl, name string, seen map[string]bool) {
	if funcs[name] == nil || seen[name] {
		return
	}
	seen[name] = true
	ast.Inspect(funcs[name].Body, func(n ast.Node) bool {
		if id, ok := n.(*ast.Ident); ok {
			reach(funcs, id.Name, seen)
		}
		return true
	})
}

func isVariadic(fn *ast.FuncDecl) bool {
	params := fn.Type.Params.List
	if len(params) == 0 {
		return false
	}
	_, ok := params[len(params)-1].Type.(*ast.Ellipsis)
	return ok
}

func TestWayOfBytes(t *testing.T) {
	_, f, _ := parsed(t, "../impl/l01_bytes.go")
	funcs := funcsOf(f)
	for _, name := range []string{"PutU", "PutText", "PutSum"} {
		seen := map[string]bool{}
		reach(funcs, name, seen)
		found := false
		for called := range seen {
			found = found || isVariadic(funcs[called])
		}
		if !found {
			t.Errorf("%s puts by no variadic function", name)
		}
	}
}

// methodsOf counts the methods of each type of one file.
func methodsOf(f *ast.File) map[string]int {
	out := map[string]int{}
	for _, d := range f.Decls {
		fn, ok := d.(*ast.FuncDecl)
		if !ok || fn.Recv == nil {
			continue
		}
		if id, ok := fn.Recv.List[0].Type.(*ast.Ident); ok {
			out[id.Name]++
		}
	}
	return out
}

// switchedTypes has the types that a function's type switches tell.
func switchedTypes(fn *ast.FuncDecl) map[string]bool {
	out := map[string]bool{}
	ast.Inspect(fn.Body, func(n ast.Node) bool {
		if s, ok := n.(*ast.TypeSwitchStmt); ok {
			for _, c := range s.Body.List {
				for _, e := range c.(*ast.CaseClause).List {
					if id, ok := e.(*ast.Ident); ok {
						out[id.Name] = true
					}
				}
			}
		}
		return true
	})
	return out
}

func hasInterface(f *ast.File) bool {
	found := false
	ast.Inspect(f, func(n ast.Node) bool {
		if i, ok := n.(*ast.InterfaceType); ok && len(i.Methods.List) > 0 {
			found = true
		}
		return true
	})
	return found
}

// One type a kind, each with the methods of the interface, and all told by a type switch.
func TestWayOfValues(t *testing.T) {
	_, f, _ := parsed(t, "../impl/l02_val.go")
	if !hasInterface(f) {
		t.Error("no interface")
	}
	funcs, methods := funcsOf(f), methodsOf(f)
	for name, kinds := range map[string]int{"ValOk": 4, "ValText": 5, "ParseVal": 5} {
		seen := map[string]bool{}
		reach(funcs, name, seen)
		told := map[string]bool{}
		for called := range seen {
			for kind := range switchedTypes(funcs[called]) {
				told[kind] = methods[kind] > 0
			}
		}
		if len(told) < kinds {
			t.Errorf("%s tells %d kinds by type switches", name, len(told))
		}
		for kind, has := range told {
			if !has {
				t.Errorf("%s tells %s, which has no methods", name, kind)
			}
		}
	}
}

// textParams has the names of a function's parameters that are texts.
func textParams(fn *ast.FuncDecl) map[string]bool {
	out := map[string]bool{}
	for _, p := range fn.Type.Params.List {
		if id, ok := p.Type.(*ast.Ident); ok && id.Name == "string" {
			for _, name := range p.Names {
				out[name.Name] = true
			}
		}
	}
	return out
}

// rangesOverRunes tells whether a function ranges over a text that it is given, and takes the runes.
func rangesOverRunes(fn *ast.FuncDecl) bool {
	found := false
	texts := textParams(fn)
	ast.Inspect(fn.Body, func(n ast.Node) bool {
		if r, ok := n.(*ast.RangeStmt); ok && r.Value != nil {
			id, ok := r.X.(*ast.Ident)
			found = found || ok && texts[id.Name]
		}
		return true
	})
	return found
}

func TestWayOfTextsInOrder(t *testing.T) {
	_, f, _ := parsed(t, "../impl/l03_esc.go")
	funcs := funcsOf(f)
	seen := map[string]bool{}
	reach(funcs, "PutEsc", seen)
	for called := range seen {
		if rangesOverRunes(funcs[called]) {
			return
		}
	}
	t.Error("PutEsc reads its text by no range over its runes")
}

// arraysOf has the names of a function's variables that are arrays of bytes of a fixed length.
func arraysOf(fn *ast.FuncDecl) map[string]bool {
	out := map[string]bool{}
	ast.Inspect(fn.Body, func(n ast.Node) bool {
		if v, ok := n.(*ast.ValueSpec); ok {
			if a, ok := v.Type.(*ast.ArrayType); ok && a.Len != nil {
				for _, name := range v.Names {
					out[name.Name] = true
				}
			}
		}
		return true
	})
	return out
}

// cutsAnArray tells whether a function cuts an array of its own by three indexes.
func cutsAnArray(fn *ast.FuncDecl) bool {
	found := false
	arrays := arraysOf(fn)
	ast.Inspect(fn.Body, func(n ast.Node) bool {
		if s, ok := n.(*ast.SliceExpr); ok && s.Slice3 {
			id, ok := s.X.(*ast.Ident)
			found = found || ok && arrays[id.Name]
		}
		return true
	})
	return found
}

func TestWayOfNumbersInOrder(t *testing.T) {
	_, f, _ := parsed(t, "../impl/l04_num.go")
	funcs := funcsOf(f)
	for _, name := range []string{"PutFix", "PutVar"} {
		seen := map[string]bool{}
		reach(funcs, name, seen)
		found := false
		for called := range seen {
			found = found || cutsAnArray(funcs[called])
		}
		if !found {
			t.Errorf("%s cuts no array by three indexes", name)
		}
	}
}

// tabledMethods has the method expressions of the file's own types that stand in a function's tables.
func tabledMethods(fn *ast.FuncDecl, methods map[string]int) map[string]bool {
	out := map[string]bool{}
	ast.Inspect(fn.Body, func(n ast.Node) bool {
		table, ok := n.(*ast.CompositeLit)
		if !ok {
			return true
		}
		for _, e := range table.Elts {
			if kv, ok := e.(*ast.KeyValueExpr); ok {
				e = kv.Value
			}
			if s, ok := e.(*ast.SelectorExpr); ok {
				if id, ok := s.X.(*ast.Ident); ok && methods[id.Name] > 0 {
					out[id.Name+"."+s.Sel.Name] = true
				}
			}
		}
		return true
	})
	return out
}

// Four types, each with a writer and a reader.
func TestWayOfPartsOfKeys(t *testing.T) {
	_, f, _ := parsed(t, "../impl/l05_part.go")
	funcs, methods := funcsOf(f), methodsOf(f)
	for _, name := range []string{"PutPart", "GetPart"} {
		seen := map[string]bool{}
		reach(funcs, name, seen)
		most := 0
		for called := range seen {
			most = max(most, len(tabledMethods(funcs[called], methods)))
		}
		if most < 8 {
			t.Errorf("%s has a table of %d method expressions", name, most)
		}
	}
}

// isIterator tells whether a function answers an iterator.
func isIterator(fn *ast.FuncDecl) bool {
	if fn == nil || fn.Type.Results == nil || len(fn.Type.Results.List) != 1 {
		return false
	}
	found := false
	ast.Inspect(fn.Type.Results, func(n ast.Node) bool {
		if s, ok := n.(*ast.SelectorExpr); ok {
			id, ok := s.X.(*ast.Ident)
			found = found || ok && id.Name == "iter"
		}
		return true
	})
	return found
}

// rangesOverIterators tells whether a function ranges over what one of the file's iterators yields.
func rangesOverIterators(fn *ast.FuncDecl, funcs map[string]*ast.FuncDecl) bool {
	found := false
	ast.Inspect(fn.Body, func(n ast.Node) bool {
		if r, ok := n.(*ast.RangeStmt); ok {
			if call, ok := r.X.(*ast.CallExpr); ok {
				id, ok := call.Fun.(*ast.Ident)
				found = found || ok && isIterator(funcs[id.Name])
			}
		}
		return true
	})
	return found
}

func TestWayOfKeys(t *testing.T) {
	_, f, _ := parsed(t, "../impl/l06_key.go")
	funcs := funcsOf(f)
	for _, name := range []string{"EncodeKey", "DecodeKey"} {
		seen := map[string]bool{}
		reach(funcs, name, seen)
		found := false
		for called := range seen {
			found = found || rangesOverIterators(funcs[called], funcs)
		}
		if !found {
			t.Errorf("%s ranges over no iterator", name)
		}
	}
}

// movesItsPlace tells whether a function answers a closure that sets a number of the function around it, from which it reads.
func movesItsPlace(fn *ast.FuncDecl) bool {
	places := map[string]bool{}
	for _, p := range fn.Type.Params.List {
		if id, ok := p.Type.(*ast.Ident); ok && id.Name == "int" {
			for _, name := range p.Names {
				places[name.Name] = true
			}
		}
	}
	found := false
	ast.Inspect(fn.Body, func(n ast.Node) bool {
		if inner, ok := n.(*ast.FuncLit); ok {
			found = found || setsOneOf(inner, places)
		}
		return true
	})
	return found
}

func setsOneOf(inner *ast.FuncLit, places map[string]bool) bool {
	found := false
	ast.Inspect(inner.Body, func(n ast.Node) bool {
		if a, ok := n.(*ast.AssignStmt); ok && a.Tok == token.ASSIGN {
			for _, left := range a.Lhs {
				id, ok := left.(*ast.Ident)
				found = found || ok && places[id.Name]
			}
		}
		return true
	})
	return found
}

func TestWayOfRows(t *testing.T) {
	_, f, _ := parsed(t, "../impl/l07_row.go")
	funcs := funcsOf(f)
	seen := map[string]bool{}
	reach(funcs, "DecodeRow", seen)
	for called := range seen {
		if movesItsPlace(funcs[called]) {
			return
		}
	}
	t.Error("DecodeRow reads by no closure over its place")
}

// statesOf has the labels of a function to which a goto leads, and how many loops it has.
func statesOf(fn *ast.FuncDecl) (map[string]bool, int) {
	states := map[string]bool{}
	loops := 0
	ast.Inspect(fn.Body, func(n ast.Node) bool {
		switch x := n.(type) {
		case *ast.BranchStmt:
			if x.Tok == token.GOTO {
				states[x.Label.Name] = true
			}
		case *ast.ForStmt, *ast.RangeStmt:
			loops++
		}
		return true
	})
	return states, loops
}

// Between tokens, in a name, at a mark: no state is gone through by a loop.
func TestWayOfTokens(t *testing.T) {
	_, f, _ := parsed(t, "../impl/l08_token.go")
	funcs := funcsOf(f)
	seen := map[string]bool{}
	reach(funcs, "Lex", seen)
	most := 0
	for called := range seen {
		states, loops := statesOf(funcs[called])
		most = max(most, len(states))
		if loops > 0 {
			t.Errorf("%s goes through the text by a loop", called)
		}
	}
	if most < 3 {
		t.Errorf("Lex goes by goto to %d states", most)
	}
}

// errorTypes has the types of one file that have a method Error, and so are errors.
func errorTypes(f *ast.File) map[string]bool {
	out := map[string]bool{}
	for _, d := range f.Decls {
		if fn, ok := d.(*ast.FuncDecl); ok && fn.Recv != nil && fn.Name.Name == "Error" {
			if id, ok := fn.Recv.List[0].Type.(*ast.Ident); ok {
				out[id.Name] = true
			}
		}
	}
	return out
}

// asksFor tells whether a function asks by errors.As for an error of one of these types.
func asksFor(fn *ast.FuncDecl, types map[string]bool) bool {
	asked := map[string]bool{}
	wanted := false
	ast.Inspect(fn.Body, func(n ast.Node) bool {
		switch x := n.(type) {
		case *ast.ValueSpec:
			if id, ok := x.Type.(*ast.Ident); ok && types[id.Name] {
				for _, name := range x.Names {
					asked[name.Name] = true
				}
			}
		case *ast.CallExpr:
			wanted = wanted || isErrorsAs(x) && asked[pointedAt(x.Args[1])]
		}
		return true
	})
	return wanted
}

func isErrorsAs(call *ast.CallExpr) bool {
	s, ok := call.Fun.(*ast.SelectorExpr)
	if !ok || s.Sel.Name != "As" || len(call.Args) != 2 {
		return false
	}
	id, ok := s.X.(*ast.Ident)
	return ok && id.Name == "errors"
}

// pointedAt has the name of the variable whose address is taken.
func pointedAt(e ast.Expr) string {
	if u, ok := e.(*ast.UnaryExpr); ok && u.Op == token.AND {
		if id, ok := u.X.(*ast.Ident); ok {
			return id.Name
		}
	}
	return ""
}

// What is wrong comes as an error, of each code alike.
func TestWayOfTables(t *testing.T) {
	_, f, _ := parsed(t, "../impl/l09_def.go")
	funcs, types := funcsOf(f), errorTypes(f)
	for _, name := range []string{"CheckDef", "DefText"} {
		seen := map[string]bool{}
		reach(funcs, name, seen)
		found := false
		for called := range seen {
			found = found || asksFor(funcs[called], types)
		}
		if !found {
			t.Errorf("%s asks by errors.As for no error of a type of its own", name)
		}
	}
}

// allFuncsOf has the functions and the methods of one file by name.
func allFuncsOf(f *ast.File) map[string]*ast.FuncDecl {
	out := map[string]*ast.FuncDecl{}
	for _, d := range f.Decls {
		if fn, ok := d.(*ast.FuncDecl); ok {
			out[fn.Name.Name] = fn
		}
	}
	return out
}

// callsOf counts the calls of what has this name, by the name alone, anywhere below.
func callsOf(n ast.Node, name string) int {
	count := 0
	ast.Inspect(n, func(n ast.Node) bool {
		if call, ok := n.(*ast.CallExpr); ok {
			if id, ok := call.Fun.(*ast.Ident); ok && id.Name == name {
				count++
			}
		}
		return true
	})
	return count
}

// defersRecover counts the calls of recover that stand in function literals that a function defers.
func defersRecover(fn *ast.FuncDecl) int {
	count := 0
	ast.Inspect(fn.Body, func(n ast.Node) bool {
		if d, ok := n.(*ast.DeferStmt); ok {
			if inner, ok := d.Call.Fun.(*ast.FuncLit); ok {
				count += callsOf(inner, "recover")
			}
		}
		return true
	})
	return count
}

// What gives up stands below the face, and only the face catches it.
func TestWayOfReadingTables(t *testing.T) {
	_, f, _ := parsed(t, "../impl/l10_parse.go")
	funcs := allFuncsOf(f)
	if defersRecover(funcs["ParseDefs"]) == 0 {
		t.Error("ParseDefs defers no recover")
	}
	if callsOf(f, "recover") != defersRecover(funcs["ParseDefs"]) {
		t.Error("a recover stands elsewhere")
	}
	seen := map[string]bool{}
	reach(funcs, "ParseDefs", seen)
	gives := 0
	for called := range seen {
		if called != "ParseDefs" && callsOf(funcs[called], "panic") > 0 {
			gives++
		}
	}
	if gives < 3 {
		t.Errorf("%d functions below ParseDefs give up by a panic", gives)
	}
}

// embeddedTypes has the types of one file that a struct of it embeds.
func embeddedTypes(f *ast.File) map[string]bool {
	out := map[string]bool{}
	ast.Inspect(f, func(n ast.Node) bool {
		if s, ok := n.(*ast.StructType); ok {
			for _, field := range s.Fields.List {
				if id, ok := field.Type.(*ast.Ident); ok && len(field.Names) == 0 {
					out[id.Name] = true
				}
			}
		}
		return true
	})
	return out
}

// methodNamesOf has the names of the methods that the file gives these types.
func methodNamesOf(f *ast.File, types map[string]bool) map[string]bool {
	out := map[string]bool{}
	for _, d := range f.Decls {
		if fn, ok := d.(*ast.FuncDecl); ok && fn.Recv != nil {
			if id, ok := fn.Recv.List[0].Type.(*ast.Ident); ok && types[id.Name] {
				out[fn.Name.Name] = true
			}
		}
	}
	return out
}

// checkProgram fills in what the program's types say of it.
func checkProgram(t *testing.T, info *types.Info) *token.FileSet {
	t.Helper()
	fset := token.NewFileSet()
	var files []*ast.File
	for _, name := range programFiles(t) {
		f, err := parser.ParseFile(fset, name, nil, parser.SkipObjectResolution)
		if err != nil {
			t.Fatal(err)
		}
		files = append(files, f)
	}
	config := types.Config{Importer: importer.ForCompiler(fset, "source", nil)}
	if _, err := config.Check("impl", fset, files, info); err != nil {
		t.Fatal(err)
	}
	return fset
}

// checkedProgram has what the program's types say of each selector in it.
func checkedProgram(t *testing.T) map[token.Position]*types.Selection {
	t.Helper()
	info := types.Info{Selections: map[*ast.SelectorExpr]*types.Selection{}}
	fset := checkProgram(t, &info)
	out := map[token.Position]*types.Selection{}
	for x, s := range info.Selections {
		out[fset.Position(x.Sel.Pos())] = s
	}
	return out
}

// promotedCalls counts the calls below of these methods that reach them through what is embedded.
func promotedCalls(fset *token.FileSet, n ast.Node, names map[string]bool, selections map[token.Position]*types.Selection) int {
	count := 0
	ast.Inspect(n, func(n ast.Node) bool {
		if call, ok := n.(*ast.CallExpr); ok {
			if x, ok := call.Fun.(*ast.SelectorExpr); ok && names[x.Sel.Name] {
				s := selections[fset.Position(x.Sel.Pos())]
				if s != nil && s.Kind() == types.MethodVal && len(s.Index()) > 1 {
					count++
				}
			}
		}
		return true
	})
	return count
}

// A plan embeds its parts, and is asked for what these can do.
func TestWayOfPlans(t *testing.T) {
	fset, f, _ := parsed(t, "../impl/l11_plan.go")
	names := methodNamesOf(f, embeddedTypes(f))
	if len(names) == 0 {
		t.Error("what is embedded has no methods")
	}
	funcs, selections := allFuncsOf(f), checkedProgram(t)
	for _, name := range []string{"KeyOf", "LongKey"} {
		seen := map[string]bool{}
		reach(funcs, name, seen)
		calls := 0
		for called := range seen {
			calls += promotedCalls(fset, funcs[called], names, selections)
		}
		if calls == 0 {
			t.Errorf("%s calls no promoted method", name)
		}
	}
}

// takesPointer tells whether a function is handed a pointer to this type, as an argument or as what it is a method of.
func takesPointer(fn *ast.FuncDecl, name string) bool {
	fields := fn.Type.Params.List
	if fn.Recv != nil {
		fields = append(fields[:len(fields):len(fields)], fn.Recv.List...)
	}
	for _, field := range fields {
		if star, ok := field.Type.(*ast.StarExpr); ok {
			if id, ok := star.X.(*ast.Ident); ok && id.Name == name {
				return true
			}
		}
	}
	return false
}

// clearsField tells whether a function clears a field of this name.
func clearsField(fn *ast.FuncDecl, name string) bool {
	found := false
	ast.Inspect(fn.Body, func(n ast.Node) bool {
		if call, ok := n.(*ast.CallExpr); ok && len(call.Args) == 1 {
			id, isName := call.Fun.(*ast.Ident)
			x, isField := call.Args[0].(*ast.SelectorExpr)
			found = found || isName && isField && id.Name == "clear" && x.Sel.Name == name
		}
		return true
	})
	return found
}

// An operation reaches its disk by a pointer, and there the cache is cleared.
func TestWayOfTheDisk(t *testing.T) {
	_, f, _ := parsed(t, "../impl/l12_disk.go")
	funcs := allFuncsOf(f)
	for _, name := range []string{"WriteSec", "Flush"} {
		seen := map[string]bool{}
		reach(funcs, name, seen)
		reaches, clears := 0, 0
		for called := range seen {
			if takesPointer(funcs[called], "Disk") {
				reaches++
				if clearsField(funcs[called], "Cache") {
					clears++
				}
			}
		}
		if reaches < 2 || clears == 0 {
			t.Errorf("%s: %d functions are handed a pointer to the disk, %d of them clear its cache", name, reaches, clears)
		}
	}
}

// iotaGroup has the names of the constants that one group of a file tells by iota.
func iotaGroup(f *ast.File) map[string]bool {
	out := map[string]bool{}
	for _, d := range f.Decls {
		g, ok := d.(*ast.GenDecl)
		if !ok || g.Tok != token.CONST || !usesName(g, "iota") {
			continue
		}
		for _, s := range g.Specs {
			v := s.(*ast.ValueSpec)
			// One that has a value of its own, without iota, is not told by it.
			if len(v.Values) > 0 && !usesName(v, "iota") {
				continue
			}
			for _, name := range v.Names {
				out[name.Name] = true
			}
		}
	}
	return out
}

// usesName tells whether a name stands anywhere below.
func usesName(n ast.Node, name string) bool {
	found := false
	ast.Inspect(n, func(n ast.Node) bool {
		id, ok := n.(*ast.Ident)
		found = found || ok && id.Name == name
		return true
	})
	return found
}

// Kinds are told by iota, and a page is asked for them by their names.
func TestWayOfPages(t *testing.T) {
	_, f, _ := parsed(t, "../impl/l13_page.go")
	funcs, kinds := allFuncsOf(f), iotaGroup(f)
	for _, kind := range []string{"PgNode", "PgMeta"} {
		if !kinds[kind] {
			t.Errorf("%s is not told by iota", kind)
		}
		for _, name := range []string{"PutPage", "GetPage"} {
			seen := map[string]bool{}
			reach(funcs, name, seen)
			found := false
			for called := range seen {
				found = found || usesName(funcs[called], kind)
			}
			if !found {
				t.Errorf("%s asks for no %s", name, kind)
			}
		}
	}
}

// assertedTypes has the types that a function asks for by assertions: those with two values, and those that panic.
func assertedTypes(fn *ast.FuncDecl) (map[string]bool, map[string]bool) {
	two, one := map[string]bool{}, map[string]bool{}
	paired := map[ast.Expr]bool{}
	ast.Inspect(fn.Body, func(n ast.Node) bool {
		if a, ok := n.(*ast.AssignStmt); ok && len(a.Lhs) == 2 && len(a.Rhs) == 1 {
			paired[a.Rhs[0]] = true
		}
		if x, ok := n.(*ast.TypeAssertExpr); ok {
			if id, ok := x.Type.(*ast.Ident); ok && paired[x] {
				two[id.Name] = true
			} else if ok {
				one[id.Name] = true
			}
		}
		return true
	})
	return two, one
}

// One kind is asked for, and what is not of that must be of the other; no function of the chapter asks itself.
func TestWayOfNodes(t *testing.T) {
	_, f, _ := parsed(t, "../impl/l14_node.go")
	funcs, methods := allFuncsOf(f), methodsOf(f)
	if !hasInterface(f) {
		t.Error("no interface")
	}
	for _, name := range []string{"NodeOk", "SizeOf", "PutNode", "GetNode"} {
		seen := map[string]bool{}
		reach(funcs, name, seen)
		both := 0
		for called := range seen {
			two, one := assertedTypes(funcs[called])
			if len(two)+len(one) > 0 && ast.IsExported(called) {
				t.Errorf("%s itself asks for a kind", called)
			}
			for kind := range two {
				if len(two) == 1 && len(one) == 1 && !one[kind] && methods[kind] > 0 {
					both++
				}
			}
		}
		if both == 0 {
			t.Errorf("%s asks by assertions for no two kinds", name)
		}
	}
}

// comparedTypes has the type of what stands on the left of each == and != of the program.
func comparedTypes(t *testing.T) map[token.Position]string {
	t.Helper()
	info := types.Info{Types: map[ast.Expr]types.TypeAndValue{}}
	fset := checkProgram(t, &info)
	out := map[token.Position]string{}
	for x := range info.Types {
		if c, ok := x.(*ast.BinaryExpr); ok && (c.Op == token.EQL || c.Op == token.NEQ) {
			out[fset.Position(c.OpPos)] = info.Types[c.X].Type.String()
		}
	}
	return out
}

// comparesRoots tells whether a function holds two roots against each other as a whole.
func comparesRoots(fset *token.FileSet, fn *ast.FuncDecl, compared map[token.Position]string) bool {
	found := false
	ast.Inspect(fn.Body, func(n ast.Node) bool {
		c, ok := n.(*ast.BinaryExpr)
		found = found || ok && compared[fset.Position(c.OpPos)] == "impl.Meta"
		return true
	})
	return found
}

// Which root counts is told by roots that are compared as structs.
func TestWayOfRoots(t *testing.T) {
	fset, f, _ := parsed(t, "../impl/l15_meta.go")
	funcs, compared := allFuncsOf(f), comparedTypes(t)
	seen := map[string]bool{}
	reach(funcs, "BestMeta", seen)
	found := false
	for called := range seen {
		found = found || comparesRoots(fset, funcs[called], compared)
	}
	if !found {
		t.Error("BestMeta compares no roots as structs")
	}
}

// nodeMapUses counts, by the place where each stands, the uses of maps of nodes by their sectors: what is stored or asked, and what is deleted.
func nodeMapUses(t *testing.T) (map[token.Position]int, map[token.Position]int) {
	t.Helper()
	info := types.Info{Types: map[ast.Expr]types.TypeAndValue{}}
	fset := checkProgram(t, &info)
	asked, deleted := map[token.Position]int{}, map[token.Position]int{}
	for x := range info.Types {
		switch y := x.(type) {
		case *ast.IndexExpr:
			if isNodeMap(info.Types[y.X].Type) {
				asked[fset.Position(y.Lbrack)]++
			}
		case *ast.CallExpr:
			id, ok := y.Fun.(*ast.Ident)
			if ok && id.Name == "delete" && isNodeMap(info.Types[y.Args[0]].Type) {
				deleted[fset.Position(y.Lparen)]++
			}
		}
	}
	return asked, deleted
}

func isNodeMap(x types.Type) bool {
	if x == nil {
		return false
	}
	m, ok := x.Underlying().(*types.Map)
	return ok && m.Key().String() == "int" && m.Elem().String() == "impl.Node"
}

// usesWithin counts the uses that stand within a function.
func usesWithin(fset *token.FileSet, fn *ast.FuncDecl, uses map[token.Position]int) int {
	from, to := fset.Position(fn.Pos()), fset.Position(fn.End())
	count := 0
	for at, n := range uses {
		if at.Filename == from.Filename && at.Offset >= from.Offset && at.Offset < to.Offset {
			count += n
		}
	}
	return count
}

// New nodes are asked for in a map by their sectors, and what of it is told is deleted there.
func TestWayOfWhatIsUnderWay(t *testing.T) {
	fset, f, _ := parsed(t, "../impl/l16_txn.go")
	asked, deleted := nodeMapUses(t)
	funcs := allFuncsOf(f)
	for _, name := range []string{"NodeAt", "PagesOf", "FreeOf", "TxnOk"} {
		seen := map[string]bool{}
		reach(funcs, name, seen)
		asks, deletes := 0, 0
		for called := range seen {
			asks += usesWithin(fset, funcs[called], asked)
			deletes += usesWithin(fset, funcs[called], deleted)
		}
		if asks == 0 {
			t.Errorf("%s asks no map of new nodes by their sectors", name)
		}
		if name == "TxnOk" && deletes == 0 {
			t.Errorf("%s deletes from no map of new nodes", name)
		}
	}
}

// leftByLabel has the loops of a function that are left by their label from within what a break alone would leave instead.
func leftByLabel(fn *ast.FuncDecl) []ast.Stmt {
	var out []ast.Stmt
	ast.Inspect(fn.Body, func(n ast.Node) bool {
		if l, ok := n.(*ast.LabeledStmt); ok && isLoop(l.Stmt) && breaksFromWithin(l) {
			out = append(out, l.Stmt)
		}
		return true
	})
	return out
}

func isLoop(n ast.Node) bool {
	switch n.(type) {
	case *ast.ForStmt, *ast.RangeStmt:
		return true
	}
	return false
}

// breaksFromWithin tells whether a break of this label stands in a loop, a switch or a select of its own.
func breaksFromWithin(l *ast.LabeledStmt) bool {
	found := false
	ast.Inspect(l.Stmt, func(n ast.Node) bool {
		switch n.(type) {
		case *ast.SwitchStmt, *ast.TypeSwitchStmt, *ast.SelectStmt, *ast.ForStmt, *ast.RangeStmt:
			found = found || n != l.Stmt && breaksTo(n, l.Label.Name)
		}
		return true
	})
	return found
}

func breaksTo(n ast.Node, label string) bool {
	found := false
	ast.Inspect(n, func(n ast.Node) bool {
		b, ok := n.(*ast.BranchStmt)
		found = found || ok && b.Tok == token.BREAK && b.Label != nil && b.Label.Name == label
		return true
	})
	return found
}

// The loop that goes from a node to the kid of a key is the one that is left.
func TestWayOfFinding(t *testing.T) {
	_, f, _ := parsed(t, "../impl/l17_find.go")
	funcs := allFuncsOf(f)
	seen := map[string]bool{}
	reach(funcs, "Find", seen)
	found := false
	for called := range seen {
		for _, loop := range leftByLabel(funcs[called]) {
			found = found || callsOf(loop, "ChildOf") > 0
		}
	}
	if !found {
		t.Error("Find leaves no way down by its label")
	}
}

// funcParamsOf has the names of what a function is handed that are function values of nodes.
func funcParamsOf(fn *ast.FuncDecl, kinds map[string]bool) map[string]bool {
	out := map[string]bool{}
	for _, field := range fn.Type.Params.List {
		if id, ok := field.Type.(*ast.Ident); ok && kinds[id.Name] {
			for _, name := range field.Names {
				out[name.Name] = true
			}
		}
	}
	return out
}

// answers tells whether a function answers one of these types.
func answers(fn *ast.FuncDecl, kinds map[string]bool) bool {
	if fn.Type.Results == nil {
		return false
	}
	for _, field := range fn.Type.Results.List {
		if id, ok := field.Type.(*ast.Ident); ok && kinds[id.Name] {
			return true
		}
	}
	return false
}

// nodeFuncTypes has the names of a file's types of functions that answer a Node.
func nodeFuncTypes(f *ast.File) map[string]bool {
	out := map[string]bool{}
	ast.Inspect(f, func(n ast.Node) bool {
		spec, ok := n.(*ast.TypeSpec)
		if !ok {
			return true
		}
		if fn, ok := spec.Type.(*ast.FuncType); ok && fn.Results != nil && usesName(fn.Results, "Node") {
			out[spec.Name.Name] = true
		}
		return true
	})
	return out
}

// What puts a node answers a function value, which is handed on, called for the node above, and set anew by what that one became.
func TestWayOfPutting(t *testing.T) {
	_, f, _ := parsed(t, "../impl/l18_put.go")
	kinds, funcs := nodeFuncTypes(f), allFuncsOf(f)
	seen := map[string]bool{}
	reach(funcs, "Put", seen)
	putters := map[string]bool{}
	for called := range seen {
		if answers(funcs[called], kinds) && callsOf(funcs[called], "SizeOf") > 0 {
			putters[called] = true
		}
	}
	found := false
	for called := range seen {
		for turn := range funcParamsOf(funcs[called], kinds) {
			found = found || callsOf(funcs[called], turn) > 0 && setByCall(funcs[called], turn, putters)
		}
	}
	if len(putters) == 0 || !found {
		t.Errorf("Put hands on no function value: %v put", putters)
	}
}

// setByCall tells whether what has this name is set to what one of these methods answers.
func setByCall(fn *ast.FuncDecl, name string, methods map[string]bool) bool {
	found := false
	ast.Inspect(fn.Body, func(n ast.Node) bool {
		set, ok := n.(*ast.AssignStmt)
		if !ok || len(set.Lhs) != 1 || len(set.Rhs) != 1 {
			return true
		}
		id, isName := set.Lhs[0].(*ast.Ident)
		call, isCall := set.Rhs[0].(*ast.CallExpr)
		if isName && isCall && id.Name == name {
			x, isMethod := call.Fun.(*ast.SelectorExpr)
			found = found || isMethod && methods[x.Sel.Name]
		}
		return true
	})
	return found
}

// clausesFallen has pairs of a function's clauses, of which the first falls through to the second.
func clausesFallen(fn *ast.FuncDecl) [][2]ast.Stmt {
	var out [][2]ast.Stmt
	ast.Inspect(fn.Body, func(n ast.Node) bool {
		s, ok := n.(*ast.SwitchStmt)
		if !ok {
			return true
		}
		for i, clause := range s.Body.List {
			body := clause.(*ast.CaseClause).Body
			if len(body) == 0 {
				continue
			}
			if last, ok := body[len(body)-1].(*ast.BranchStmt); ok && last.Tok == token.FALLTHROUGH {
				out = append(out, [2]ast.Stmt{clause, s.Body.List[i+1]})
			}
		}
		return true
	})
	return out
}

// asksForBoth tells whether a size is held against the greatest one there.
func asksForBoth(clause ast.Stmt) bool {
	return callsOf(clause, "SizeOf") > 0 && usesName(clause, "MaxBody")
}

// The clause that joins with the one ahead falls through to the one that joins with the one behind: both ask for the size of both.
func TestWayOfTakingAway(t *testing.T) {
	_, f, _ := parsed(t, "../impl/l19_del.go")
	funcs := allFuncsOf(f)
	seen := map[string]bool{}
	reach(funcs, "Del", seen)
	found := 0
	for called := range seen {
		for _, clauses := range clausesFallen(funcs[called]) {
			if asksForBoth(clauses[0]) && asksForBoth(clauses[1]) {
				found++
			}
		}
	}
	if found != 1 {
		t.Errorf("Del falls through from one joining to the other in %d places", found)
	}
}

// numberMaps has the places where a map is asked, or stored into, whose keys and values are numbers.
func numberMaps(t *testing.T) map[token.Position]int {
	t.Helper()
	info := types.Info{Types: map[ast.Expr]types.TypeAndValue{}}
	fset := checkProgram(t, &info)
	out := map[token.Position]int{}
	for x := range info.Types {
		if at, ok := x.(*ast.IndexExpr); ok {
			if m, ok := info.Types[at.X].Type.Underlying().(*types.Map); ok && m.Key().String() == "int" && m.Elem().String() == "int" {
				out[fset.Position(at.Lbrack)]++
			}
		}
	}
	return out
}

// countsIn tells whether a function counts up in one of these places, and compares what stands in one.
func countsIn(fset *token.FileSet, fn *ast.FuncDecl, places map[token.Position]int) (bool, bool) {
	counts, compares := false, false
	isPlace := func(x ast.Expr) bool {
		at, ok := x.(*ast.IndexExpr)
		return ok && places[fset.Position(at.Lbrack)] > 0
	}
	ast.Inspect(fn.Body, func(n ast.Node) bool {
		switch x := n.(type) {
		case *ast.IncDecStmt:
			counts = counts || isPlace(x.X)
		case *ast.BinaryExpr:
			compares = compares || isPlace(x.X) || isPlace(x.Y)
		}
		return true
	})
	return counts, compares
}

// Where a sector is led to, it is counted in a map by its number, and the count is asked.
func TestWayOfWhatIsSound(t *testing.T) {
	fset, f, _ := parsed(t, "../impl/l20_tree.go")
	funcs, places := allFuncsOf(f), numberMaps(t)
	seen := map[string]bool{}
	reach(funcs, "TreeOk", seen)
	counts, compares := false, false
	for called := range seen {
		c, d := countsIn(fset, funcs[called], places)
		counts, compares = counts || c, compares || d
	}
	if !counts || !compares {
		t.Errorf("TreeOk has no map of what was met: %v, %v", counts, compares)
	}
}

// doneInARow tells whether a function ranges over a list of function values, and calls each of them.
func doneInARow(fset *token.FileSet, fn *ast.FuncDecl, lists map[token.Position]int) bool {
	found := false
	ast.Inspect(fn.Body, func(n ast.Node) bool {
		loop, ok := n.(*ast.RangeStmt)
		if !ok || loop.Value == nil {
			return true
		}
		do, isName := loop.Value.(*ast.Ident)
		found = found || isName && lists[fset.Position(loop.X.Pos())] > 0 && callsOf(loop.Body, do.Name) > 0
		return true
	})
	return found
}

// funcLists has the places of what is a list of functions.
func funcLists(t *testing.T) map[token.Position]int {
	t.Helper()
	info := types.Info{Types: map[ast.Expr]types.TypeAndValue{}}
	fset := checkProgram(t, &info)
	out := map[token.Position]int{}
	for x, has := range info.Types {
		if l, ok := has.Type.Underlying().(*types.Slice); ok {
			if _, isFunc := l.Elem().Underlying().(*types.Signature); isFunc {
				out[fset.Position(x.Pos())]++
			}
		}
	}
	return out
}

// answersClosure tells whether a function answers a function literal that uses what the function was handed.
func answersClosure(fn *ast.FuncDecl) bool {
	found := false
	ast.Inspect(fn.Body, func(n ast.Node) bool {
		back, ok := n.(*ast.ReturnStmt)
		if !ok || len(back.Results) != 1 {
			return true
		}
		lit, isLit := back.Results[0].(*ast.FuncLit)
		for _, field := range fn.Type.Params.List {
			for _, name := range field.Names {
				found = found || isLit && usesName(lit.Body, name.Name)
			}
		}
		return true
	})
	return found
}

// What is done is a list of closures, which are called one behind the other.
func TestWayOfMakingSure(t *testing.T) {
	fset, f, _ := parsed(t, "../impl/l21_commit.go")
	funcs, lists := allFuncsOf(f), funcLists(t)
	seen := map[string]bool{}
	reach(funcs, "Commit", seen)
	row, closure := false, false
	for called := range seen {
		row = row || doneInARow(fset, funcs[called], lists)
		closure = closure || answersClosure(funcs[called])
	}
	if !row || !closure {
		t.Errorf("Commit has no list of closures that are called one behind the other: %v, %v", row, closure)
	}
}

// genericTypes has the names of a file's types that have type parameters.
func genericTypes(f *ast.File) map[string]bool {
	out := map[string]bool{}
	ast.Inspect(f, func(n ast.Node) bool {
		if spec, ok := n.(*ast.TypeSpec); ok && spec.TypeParams != nil {
			out[spec.Name.Name] = true
		}
		return true
	})
	return out
}

// genericOf has the name of the type of which this is one with its parameters given.
func genericOf(x ast.Expr) string {
	switch x := x.(type) {
	case *ast.Ident:
		return x.Name
	case *ast.IndexExpr:
		return genericOf(x.X)
	case *ast.IndexListExpr:
		return genericOf(x.X)
	}
	return ""
}

// Rows become a generic type with their keys, whose methods tell their order, and where a row has its place.
func TestWayOfWhatTablesHave(t *testing.T) {
	_, f, _ := parsed(t, "../impl/l22_mdb.go")
	kinds, funcs := genericTypes(f), allFuncsOf(f)
	for _, name := range []string{"MdbOk", "ApplyOp", "ApplyBatch"} {
		seen := map[string]bool{}
		reach(funcs, name, seen)
		makers, methods := 0, 0
		for called := range seen {
			fn := funcs[called]
			switch {
			case fn.Recv != nil && kinds[genericOf(fn.Recv.List[0].Type)]:
				methods++
			case fn.Type.Results != nil && kinds[genericOf(fn.Type.Results.List[0].Type)]:
				makers++
			}
		}
		if makers == 0 || methods < 2 {
			t.Errorf("%s has rows in no generic type: %d make one, %d are its methods", name, makers, methods)
		}
	}
}
