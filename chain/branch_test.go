package chain

import (
	"go/ast"
	"go/parser"
	"go/token"
	"path/filepath"
	"slices"
	"strings"
	"testing"
)

// functions are those of the package's files, by name.
func functions(t *testing.T) map[string]*ast.FuncDecl {
	t.Helper()
	names, err := filepath.Glob("*.go")
	if err != nil {
		t.Fatal(err)
	}
	all := map[string]*ast.FuncDecl{}
	for _, name := range names {
		if strings.HasSuffix(name, "_test.go") {
			continue
		}
		file, err := parser.ParseFile(token.NewFileSet(), name, nil, 0)
		if err != nil {
			t.Fatal(err)
		}
		for _, d := range file.Decls {
			if f, ok := d.(*ast.FuncDecl); ok {
				all[f.Name.Name] = f
			}
		}
	}
	return all
}

// hangsOn are the names in n, but for places, for those of package api, and for
// whether a program may be and a sequence is left.
func hangsOn(n ast.Node) []string {
	var names []string
	ast.Inspect(n, func(n ast.Node) bool {
		switch x := n.(type) {
		case *ast.CallExpr:
			return calledName(x) != "vm.Check" && calledName(x) != "yield"
		case *ast.SelectorExpr:
			if from, ok := x.X.(*ast.Ident); ok && from.Name == "api" {
				return false
			}
		case *ast.Ident:
			if x.Name != "place" {
				names = append(names, x.Name)
			}
		}
		return true
	})
	return names
}

// calledName is what a call calls, with the package's name where there is one.
func calledName(call *ast.CallExpr) string {
	switch f := call.Fun.(type) {
	case *ast.Ident:
		return f.Name
	case *ast.SelectorExpr:
		if from, ok := f.X.(*ast.Ident); ok {
			return from.Name + "." + f.Sel.Name
		}
	}
	return "something else"
}

// deciders are what of n decides what is done, or where.
func deciders(n ast.Node) []ast.Expr {
	switch x := n.(type) {
	case *ast.IfStmt:
		return []ast.Expr{x.Cond}
	case *ast.IndexExpr:
		return []ast.Expr{x.Index}
	case *ast.BinaryExpr:
		if x.Op == token.LAND || x.Op == token.LOR {
			return []ast.Expr{x}
		}
	}
	return nil
}

// TestOnHowManyAlone: no condition and no place hangs on what a record is; all of
// them are gone through.
func TestOnHowManyAlone(t *testing.T) {
	all := functions(t)
	if all["Step"] == nil {
		t.Fatal("there is no Step")
	}
	for name, f := range all {
		ast.Inspect(f.Body, func(n ast.Node) bool {
			for _, d := range deciders(n) {
				if names := hangsOn(d); len(names) != 0 {
					t.Errorf("W2: what %s does hangs on %q", name, names)
				}
			}
			switch x := n.(type) {
			case *ast.RangeStmt:
				if over := ranged(x.X); over != "l" && over != "behind" {
					t.Errorf("W2: %s ranges over %s", name, over)
				}
			case *ast.BranchStmt:
				if x.Tok != token.CONTINUE {
					t.Errorf("W2: %s leaves by %s", name, x.Tok)
				}
			case *ast.ForStmt, *ast.SwitchStmt, *ast.TypeSwitchStmt, *ast.SelectStmt, *ast.SliceExpr:
				t.Errorf("W2: %s has something of a kind that is not looked into", name)
			}
			return true
		})
	}
}

// ranged is the name of what is ranged over, a list's or a call's.
func ranged(x ast.Expr) string {
	switch e := x.(type) {
	case *ast.Ident:
		return e.Name
	case *ast.CallExpr:
		return calledName(e)
	}
	return "something else"
}

// TestCalls: records are held against each other, and picked, by package record
// alone, and folded by package vm.
func TestCalls(t *testing.T) {
	may := []string{"record.Dead", "record.Ahead", "record.Pick", "vm.Check", "vm.Fold", "vm.Finish", "make", "append", "len", "yield"}
	all := functions(t)
	for name, f := range all {
		ast.Inspect(f.Body, func(n ast.Node) bool {
			if call, ok := n.(*ast.CallExpr); ok {
				if called := calledName(call); all[called] == nil && !slices.Contains(may, called) {
					t.Errorf("W2: %s calls %s", name, called)
				}
			}
			return true
		})
	}
}
