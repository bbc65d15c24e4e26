package merge

import (
	"go/ast"
	"go/parser"
	"go/token"
	"path/filepath"
	"slices"
	"strings"
	"testing"
)

// functions are those of the package's files, by name.
func functions(t *testing.T) map[string]*ast.FuncDecl {
	t.Helper()
	names, err := filepath.Glob("*.go")
	if err != nil {
		t.Fatal(err)
	}
	all := map[string]*ast.FuncDecl{}
	for _, name := range names {
		if strings.HasSuffix(name, "_test.go") {
			continue
		}
		file, err := parser.ParseFile(token.NewFileSet(), name, nil, 0)
		if err != nil {
			t.Fatal(err)
		}
		for _, d := range file.Decls {
			if f, ok := d.(*ast.FuncDecl); ok {
				all[f.Name.Name] = f
			}
		}
	}
	return all
}

// hangsOn are the names in n, but for lengths, rounds and places, which order it
// is, and whether a sequence is left.
func hangsOn(n ast.Node) []string {
	public := []string{"n", "round", "place", "first", "seq", "everyOther"}
	var names []string
	ast.Inspect(n, func(n ast.Node) bool {
		switch x := n.(type) {
		case *ast.CallExpr:
			f, ok := x.Fun.(*ast.Ident)
			return !ok || f.Name != "len" && f.Name != "yield"
		case *ast.Ident:
			if !slices.Contains(public, x.Name) {
				names = append(names, x.Name)
			}
		}
		return true
	})
	return names
}

// deciders are what of n decides what is done, or where.
func deciders(n ast.Node) []ast.Expr {
	switch x := n.(type) {
	case *ast.IfStmt:
		return []ast.Expr{x.Cond}
	case *ast.RangeStmt:
		return []ast.Expr{x.X}
	case *ast.IndexExpr:
		return []ast.Expr{x.Index}
	case *ast.BinaryExpr:
		if x.Op == token.LAND || x.Op == token.LOR {
			return []ast.Expr{x}
		}
	}
	return nil
}

// TestOnHowManyAlone: no condition, no loop and no place hangs on more than how
// many there are, and by which order, and nobody looks into a record.
func TestOnHowManyAlone(t *testing.T) {
	all := functions(t)
	for _, name := range []string{"Sort", "Split", "Sorted"} {
		if all[name] == nil {
			t.Fatalf("there is no %s", name)
		}
	}
	inside := []string{"Dead", "Key", "Value", "Seq"}
	for name, f := range all {
		ast.Inspect(f.Body, func(n ast.Node) bool {
			for _, d := range deciders(n) {
				if names := hangsOn(d); len(names) != 0 {
					t.Errorf("P14.1, what follows: what %s does hangs on %q", name, names)
				}
			}
			switch x := n.(type) {
			case *ast.SelectorExpr:
				if slices.Contains(inside, x.Sel.Name) {
					t.Errorf("P14.1, what follows: %s looks into a record", name)
				}
			case *ast.ForStmt, *ast.SwitchStmt, *ast.TypeSwitchStmt, *ast.SelectStmt:
				t.Errorf("P14.1, what follows: %s has a branch of a kind that is not looked into", name)
			}
			return true
		})
	}
}

// TestByRecord: records are held against each other, and picked, by package record
// alone; the library copies lists, and no more.
func TestByRecord(t *testing.T) {
	may := []string{"record.Before", "record.Ahead", "record.Pick", "slices.Clone", "slices.Concat"}
	for name, f := range functions(t) {
		ast.Inspect(f.Body, func(n ast.Node) bool {
			if call, ok := n.(*ast.CallExpr); ok {
				if x, ok := call.Fun.(*ast.SelectorExpr); ok {
					if from, ok := x.X.(*ast.Ident); !ok || !slices.Contains(may, from.Name+"."+x.Sel.Name) {
						t.Errorf("P14.1, what follows: %s calls %s", name, x.Sel.Name)
					}
				}
			}
			return true
		})
	}
}
