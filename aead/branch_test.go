package aead

import (
	"go/ast"
	"go/parser"
	"go/token"
	"path/filepath"
	"strings"
	"testing"
)

// functions are those of the package's files, by name.
func functions(t *testing.T) map[string]*ast.FuncDecl {
	t.Helper()
	names, err := filepath.Glob("*.go")
	if err != nil {
		t.Fatal(err)
	}
	all := map[string]*ast.FuncDecl{}
	for _, name := range names {
		if strings.HasSuffix(name, "_test.go") {
			continue
		}
		file, err := parser.ParseFile(token.NewFileSet(), name, nil, 0)
		if err != nil {
			t.Fatal(err)
		}
		for _, d := range file.Decls {
			if f, ok := d.(*ast.FuncDecl); ok {
				all[f.Name.Name] = f
			}
		}
	}
	return all
}

// called is the name of what is called, with that of its package, if it has one.
func called(call *ast.CallExpr) string {
	switch f := call.Fun.(type) {
	case *ast.Ident:
		return f.Name
	case *ast.SelectorExpr:
		if p, ok := f.X.(*ast.Ident); ok {
			return p.Name + "." + f.Sel.Name
		}
	}
	return ""
}

// hangsOn are the names that a condition hangs on, but for lengths, constants,
// what ct.Equal answers, and whether a sequence is left.
func hangsOn(condition ast.Node) []string {
	may := map[string]bool{"len": true, "ct.Equal": true, "yield": true}
	constants := map[string]bool{"api": true, "MaxPlain": true, "tagSize": true}
	var names []string
	ast.Inspect(condition, func(n ast.Node) bool {
		switch x := n.(type) {
		case *ast.CallExpr:
			return !may[called(x)]
		case *ast.Ident:
			if !constants[x.Name] {
				names = append(names, x.Name)
			}
		}
		return true
	})
	return names
}

// TestNoBranchOnBytes: no condition hangs on more than lengths, and on what
// ct.Equal answers.
func TestNoBranchOnBytes(t *testing.T) {
	for name, f := range functions(t) {
		ast.Inspect(f.Body, func(n ast.Node) bool {
			switch x := n.(type) {
			case *ast.IfStmt:
				if names := hangsOn(x.Cond); len(names) != 0 {
					t.Errorf("P7.2: a condition of %s hangs on %q", name, names)
				}
			case *ast.ForStmt, *ast.SwitchStmt, *ast.TypeSwitchStmt, *ast.SelectStmt:
				t.Errorf("P7.2: %s has a branch of a kind that is not looked into", name)
			}
			return true
		})
	}
}

// TestHeldByEqual: Open holds the tags against one another by ct.Equal.
func TestHeldByEqual(t *testing.T) {
	held := 0
	ast.Inspect(functions(t)["Open"], func(n ast.Node) bool {
		if call, ok := n.(*ast.CallExpr); ok && called(call) == "ct.Equal" {
			held++
		}
		return true
	})
	if held != 1 {
		t.Errorf("P7.2: Open asks ct.Equal %d times", held)
	}
}
