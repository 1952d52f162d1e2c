package tests

import (
	"go/ast"
	"go/parser"
	"go/token"
	"path/filepath"
	"slices"
	"testing"
)

// naming tells in which functions of the program each name is named.
func naming(t *testing.T, names ...string) map[string][]string {
	t.Helper()
	files, err := filepath.Glob("../impl/*.go")
	if err != nil || len(files) == 0 {
		t.Fatal(len(files), err)
	}
	out := map[string][]string{}
	for _, file := range files {
		parsed, err := parser.ParseFile(token.NewFileSet(), file, nil, parser.SkipObjectResolution)
		if err != nil {
			t.Fatal(err)
		}
		for _, d := range parsed.Decls {
			f, ok := d.(*ast.FuncDecl)
			if !ok {
				continue
			}
			ast.Inspect(f.Body, func(n ast.Node) bool {
				if id, ok := n.(*ast.Ident); ok && slices.Contains(names, id.Name) && !slices.Contains(out[id.Name], f.Name.Name) {
					out[id.Name] = append(out[id.Name], f.Name.Name)
				}
				return true
			})
		}
	}
	return out
}

// What is made once stands beside what is answered: one exported function reads it, and works its answer out by what a function makes.
func TestReadersMadeOnceStandBeside(t *testing.T) {
	in := naming(t, "readersOnce", "readersMade", "keptReaders")
	for name, want := range map[string][]string{"readersOnce": {"keptReaders"}, "readersMade": {"keptReaders"}, "keptReaders": {"FullOf"}} {
		if !slices.Equal(in[name], want) {
			t.Errorf("%s is named in %v, want %v", name, in[name], want)
		}
	}
	if got := uses(t, "../impl/l07_full.go", "FullOf", "keptReaders"); got != 0 {
		t.Errorf("what is kept is used %d times in what FullOf answers", got)
	}
}

// uses counts the calls of a name in a function of which the answer is not left alone.
func uses(t *testing.T, file string, function string, name string) int {
	t.Helper()
	parsed, err := parser.ParseFile(token.NewFileSet(), file, nil, parser.SkipObjectResolution)
	if err != nil {
		t.Fatal(err)
	}
	all, alone := 0, 0
	calls := func(e ast.Expr) bool {
		call, ok := e.(*ast.CallExpr)
		if !ok {
			return false
		}
		id, ok := call.Fun.(*ast.Ident)
		return ok && id.Name == name
	}
	for _, d := range parsed.Decls {
		f, ok := d.(*ast.FuncDecl)
		if !ok || f.Name.Name != function {
			continue
		}
		ast.Inspect(f.Body, func(n ast.Node) bool {
			switch x := n.(type) {
			case *ast.Ident:
				if x.Name == name {
					all++
				}
			case *ast.AssignStmt:
				left, ok := x.Lhs[0].(*ast.Ident)
				if ok && left.Name == "_" && len(x.Rhs) == 1 && calls(x.Rhs[0]) {
					alone++
				}
			}
			return true
		})
	}
	return all - alone
}
