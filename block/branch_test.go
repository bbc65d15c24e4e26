package block

import (
	"go/ast"
	"go/parser"
	"go/token"
	"path/filepath"
	"strings"
	"testing"
)

// functions are those of the package's files, by name.
func functions(t *testing.T) map[string]*ast.FuncDecl {
	t.Helper()
	names, err := filepath.Glob("*.go")
	if err != nil {
		t.Fatal(err)
	}
	all := map[string]*ast.FuncDecl{}
	for _, name := range names {
		if strings.HasSuffix(name, "_test.go") {
			continue
		}
		file, err := parser.ParseFile(token.NewFileSet(), name, nil, 0)
		if err != nil {
			t.Fatal(err)
		}
		for _, d := range file.Decls {
			if f, ok := d.(*ast.FuncDecl); ok {
				all[f.Name.Name] = f
			}
		}
	}
	return all
}

// hangsOn are the names that a condition hangs on, but for lengths and sizes,
// errors, constants, and whether a sequence is left.
func hangsOn(condition ast.Node) []string {
	may := map[string]bool{"len": true, "maySize": true, "plainSize": true, "yield": true}
	public := map[string]bool{"size": true, "e": true, "api": true, "OK": true, "MaxBlock": true}
	var names []string
	ast.Inspect(condition, func(n ast.Node) bool {
		switch x := n.(type) {
		case *ast.CallExpr:
			f, ok := x.Fun.(*ast.Ident)
			return !ok || !may[f.Name]
		case *ast.Ident:
			if !public[x.Name] {
				names = append(names, x.Name)
			}
		}
		return true
	})
	return names
}

// TestNoBranchOnRecords: no condition hangs on more than lengths, sizes and
// errors, and nobody looks into a record.
func TestNoBranchOnRecords(t *testing.T) {
	inside := map[string]bool{"Dead": true, "Key": true, "Value": true, "Seq": true}
	for name, f := range functions(t) {
		ast.Inspect(f.Body, func(n ast.Node) bool {
			switch x := n.(type) {
			case *ast.IfStmt:
				if names := hangsOn(x.Cond); len(names) != 0 {
					t.Errorf("W2: a condition of %s hangs on %q", name, names)
				}
			case *ast.BinaryExpr:
				if (x.Op == token.LAND || x.Op == token.LOR) && len(hangsOn(x)) != 0 {
					t.Errorf("W2: %s has a branch that hangs on %q", name, hangsOn(x))
				}
			case *ast.SelectorExpr:
				if from, ok := x.X.(*ast.Ident); inside[x.Sel.Name] && !(ok && from.Name == "record") {
					t.Errorf("W2: %s looks into a record", name)
				}
			case *ast.ForStmt, *ast.SwitchStmt, *ast.TypeSwitchStmt, *ast.SelectStmt:
				t.Errorf("W2: %s has a branch of a kind that is not looked into", name)
			}
			return true
		})
	}
}
