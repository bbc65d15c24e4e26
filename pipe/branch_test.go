package pipe

import (
	"go/ast"
	"go/parser"
	"go/token"
	"path/filepath"
	"slices"
	"strings"
	"testing"
)

// functions are those of the package's files, by name.
func functions(t *testing.T) map[string]*ast.FuncDecl {
	t.Helper()
	names, err := filepath.Glob("*.go")
	if err != nil {
		t.Fatal(err)
	}
	all := map[string]*ast.FuncDecl{}
	for _, name := range names {
		if strings.HasSuffix(name, "_test.go") {
			continue
		}
		file, err := parser.ParseFile(token.NewFileSet(), name, nil, 0)
		if err != nil {
			t.Fatal(err)
		}
		for _, d := range file.Decls {
			if f, ok := d.(*ast.FuncDecl); ok {
				all[f.Name.Name] = f
			}
		}
	}
	return all
}

// calledName is what a call calls, with the package's name where there is one.
func calledName(call *ast.CallExpr) string {
	switch f := call.Fun.(type) {
	case *ast.Ident:
		return f.Name
	case *ast.SelectorExpr:
		if from, ok := f.X.(*ast.Ident); ok {
			return from.Name + "." + f.Sel.Name
		}
	}
	return "something else"
}

// TestLooksIntoNone: nothing but Run, whose answer shows it, asks what a record is:
// no other function names a record's field, or calls what could ask.
func TestLooksIntoNone(t *testing.T) {
	fields := []string{"Dead", "Key", "Value", "Seq"}
	may := []string{
		"vm.Check", "vm.Map", "spec.Right", "bitonic.Padded", "bitonic.Rounds", "bitonic.Round", "bitonic.Up", "merge.Sort", "merge.Split", "chain.Step", "record.Dead",
		"slices.Repeat", "slices.Chunk", "append", "make", "len", "int64", "yield",
	}
	all := functions(t)
	if all["Run"] == nil || all["Stage"] == nil {
		t.Fatal("there is no Run, or no Stage")
	}
	for name, f := range all {
		if name == "Run" {
			continue
		}
		ast.Inspect(f.Body, func(n ast.Node) bool {
			switch x := n.(type) {
			case *ast.SelectorExpr:
				if from, ok := x.X.(*ast.Ident); slices.Contains(fields, x.Sel.Name) && !(ok && from.Name == "record") {
					t.Errorf("W2: %s asks for %s", name, x.Sel.Name)
				}
			case *ast.CallExpr:
				if called := calledName(x); all[called] == nil && !slices.Contains(may, called) {
					t.Errorf("W2: %s calls %s", name, called)
				}
			case *ast.BinaryExpr:
				if !numbers(x) {
					t.Errorf("W2: %s holds something against something else by %s", name, x.Op)
				}
			}
			return true
		})
	}
}

// numbers tells whether both sides of what is held against each other are public:
// calls, numbers, fields of params and programs, errors, stages and rounds.
func numbers(x *ast.BinaryExpr) bool {
	public := []string{"e", "n", "r", "stage", "fold", "input", "all"}
	for _, side := range []ast.Expr{x.X, x.Y} {
		if name, ok := side.(*ast.Ident); ok && !slices.Contains(public, name.Name) {
			return false
		}
		if _, ok := side.(*ast.IndexExpr); ok {
			return false
		}
	}
	return true
}
