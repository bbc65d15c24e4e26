package record

import (
	"go/ast"
	"go/parser"
	"go/token"
	"path/filepath"
	"strings"
	"testing"
)

// functions are those of the package's files, by name.
func functions(t *testing.T) map[string]*ast.FuncDecl {
	t.Helper()
	names, err := filepath.Glob("*.go")
	if err != nil {
		t.Fatal(err)
	}
	all := map[string]*ast.FuncDecl{}
	for _, name := range names {
		if strings.HasSuffix(name, "_test.go") {
			continue
		}
		file, err := parser.ParseFile(token.NewFileSet(), name, nil, 0)
		if err != nil {
			t.Fatal(err)
		}
		for _, d := range file.Decls {
			if f, ok := d.(*ast.FuncDecl); ok {
				all[f.Name.Name] = f
			}
		}
	}
	return all
}

// hangsOn are the names that a condition hangs on, but for lengths, constants,
// whether numbers may be a record's, and whether a sequence is left.
func hangsOn(condition ast.Node) []string {
	may := map[string]bool{"len": true, "mayBe": true, "yield": true}
	constants := map[string]bool{"api": true, "RecordSize": true}
	var names []string
	ast.Inspect(condition, func(n ast.Node) bool {
		switch x := n.(type) {
		case *ast.CallExpr:
			f, ok := x.Fun.(*ast.Ident)
			return !ok || !may[f.Name]
		case *ast.Ident:
			if !constants[x.Name] {
				names = append(names, x.Name)
			}
		}
		return true
	})
	return names
}

// TestNoBranchOnRecords: no condition hangs on more than lengths, and on whether
// bytes are a record at all; but in one, which makes a number of a bool.
func TestNoBranchOnRecords(t *testing.T) {
	for name, f := range functions(t) {
		ast.Inspect(f.Body, func(n ast.Node) bool {
			switch x := n.(type) {
			case *ast.IfStmt:
				if names := hangsOn(x.Cond); len(names) != 0 && name != "one" {
					t.Errorf("W2: a condition of %s hangs on %q", name, names)
				}
			case *ast.BinaryExpr:
				if x.Op == token.LAND || x.Op == token.LOR {
					t.Errorf("W2: %s has a branch within a condition", name)
				}
			case *ast.ForStmt, *ast.SwitchStmt, *ast.TypeSwitchStmt, *ast.SelectStmt:
				t.Errorf("W2: %s has a branch of a kind that is not looked into", name)
			}
			return true
		})
	}
}
