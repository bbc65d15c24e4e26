package ct

import (
	"go/ast"
	"go/parser"
	"go/token"
	"path/filepath"
	"strings"
	"testing"
)

// functions are those of the package's files, by name.
func functions(t *testing.T) map[string]*ast.FuncDecl {
	t.Helper()
	names, err := filepath.Glob("*.go")
	if err != nil {
		t.Fatal(err)
	}
	all := map[string]*ast.FuncDecl{}
	for _, name := range names {
		if strings.HasSuffix(name, "_test.go") {
			continue
		}
		file, err := parser.ParseFile(token.NewFileSet(), name, nil, 0)
		if err != nil {
			t.Fatal(err)
		}
		for _, d := range file.Decls {
			if f, ok := d.(*ast.FuncDecl); ok {
				all[f.Name.Name] = f
			}
		}
	}
	return all
}

// branches are what hangs on something in f: what is held against something,
// what is ranged over, what is asked.
func branches(f *ast.FuncDecl) []ast.Node {
	var found []ast.Node
	ast.Inspect(f.Body, func(n ast.Node) bool {
		switch x := n.(type) {
		case *ast.IfStmt:
			found = append(found, x.Cond)
		case *ast.RangeStmt:
			found = append(found, x.X)
		case *ast.ForStmt, *ast.SwitchStmt, *ast.TypeSwitchStmt, *ast.SelectStmt, *ast.BranchStmt:
			found = append(found, x)
		case *ast.BinaryExpr:
			switch x.Op {
			case token.LAND, token.LOR, token.EQL, token.NEQ, token.LSS, token.LEQ, token.GTR, token.GEQ:
				found = append(found, x)
			}
		}
		return true
	})
	return found
}

// onlyLengths tells whether n names nothing, but within len.
func onlyLengths(n ast.Node) bool {
	only := true
	ast.Inspect(n, func(n ast.Node) bool {
		if call, ok := n.(*ast.CallExpr); ok {
			if f, ok := call.Fun.(*ast.Ident); ok && f.Name == "len" {
				return false
			}
		}
		switch n.(type) {
		case *ast.Ident, *ast.CallExpr, *ast.ForStmt, *ast.SwitchStmt, *ast.TypeSwitchStmt, *ast.SelectStmt, *ast.BranchStmt:
			only = false
		}
		return true
	})
	return only
}

// keys are the names of the numbers that f ranges over.
func keys(f *ast.FuncDecl) map[string]bool {
	names := map[string]bool{}
	ast.Inspect(f.Body, func(n ast.Node) bool {
		if r, ok := n.(*ast.RangeStmt); ok {
			if k, ok := r.Key.(*ast.Ident); ok {
				names[k.Name] = true
			}
		}
		return true
	})
	return names
}

// TestNoBranchInNumbers: there is no branch in the functions of numbers.
func TestNoBranchInNumbers(t *testing.T) {
	all := functions(t)
	for _, name := range []string{"Less", "Below", "Same", "Pick"} {
		f := all[name]
		if f == nil {
			t.Fatalf("P1.1: there is no %s", name)
		}
		if len(branches(f)) != 0 {
			t.Errorf("what follows: %s has a branch", name)
		}
	}
}

// TestNoBranchOnBytes: no branch, no loop and no place that is read hangs on
// anything but a length.
func TestNoBranchOnBytes(t *testing.T) {
	for name, f := range functions(t) {
		for _, b := range branches(f) {
			if !onlyLengths(b) {
				t.Errorf("what follows: %s has a branch that hangs on more than lengths", name)
			}
		}
		numbers := keys(f)
		ast.Inspect(f.Body, func(n ast.Node) bool {
			if x, ok := n.(*ast.IndexExpr); ok {
				if i, ok := x.Index.(*ast.Ident); !ok || !numbers[i.Name] {
					t.Errorf("what follows: %s reads a place that hangs on more than lengths", name)
				}
			}
			return true
		})
	}
}

// TestNoBranchCalled: what is called is of this package, or known to be free of
// branches.
func TestNoBranchCalled(t *testing.T) {
	all := functions(t)
	known := map[string]bool{"len": true, "make": true, "byte": true, "uint64": true}
	for name, f := range all {
		ast.Inspect(f.Body, func(n ast.Node) bool {
			call, ok := n.(*ast.CallExpr)
			if !ok {
				return true
			}
			switch x := call.Fun.(type) {
			case *ast.Ident:
				if !known[x.Name] && all[x.Name] == nil {
					t.Errorf("what follows: %s calls %s", name, x.Name)
				}
			case *ast.SelectorExpr:
				if p, ok := x.X.(*ast.Ident); !ok || p.Name != "bits" || x.Sel.Name != "Sub64" {
					t.Errorf("what follows: %s calls %s", name, x.Sel.Name)
				}
			default:
				t.Errorf("what follows: %s calls what has no name", name)
			}
			return true
		})
	}
}
