package vm

import (
	"go/ast"
	"go/parser"
	"go/token"
	"path/filepath"
	"slices"
	"strings"
	"testing"
)

// functions are those of the package's files, by name.
func functions(t *testing.T) map[string]*ast.FuncDecl {
	t.Helper()
	names, err := filepath.Glob("*.go")
	if err != nil {
		t.Fatal(err)
	}
	all := map[string]*ast.FuncDecl{}
	for _, name := range names {
		if strings.HasSuffix(name, "_test.go") {
			continue
		}
		file, err := parser.ParseFile(token.NewFileSet(), name, nil, 0)
		if err != nil {
			t.Fatal(err)
		}
		for _, d := range file.Decls {
			if f, ok := d.(*ast.FuncDecl); ok {
				all[f.Name.Name] = f
			}
		}
	}
	return all
}

// public are the names that tell of the program alone: the program, its parts,
// its operations, which of its registers one names, its slots' number.
func public() []string {
	return []string{"p", "part", "op", "register", "slots", "api", "int", "int64", "len", "operations", "Check", "mayBe", "mayStand", "yield"}
}

// hangsOn are the names in n, but for those of fields and those that are public.
func hangsOn(n ast.Node) []string {
	var names []string
	ast.Inspect(n, func(n ast.Node) bool {
		switch x := n.(type) {
		case *ast.SelectorExpr:
			names = append(names, hangsOn(x.X)...)
			return false
		case *ast.Ident:
			if !slices.Contains(public(), x.Name) {
				names = append(names, x.Name)
			}
		}
		return true
	})
	return names
}

// deciders are what of n decides what is done, or where.
func deciders(n ast.Node) []ast.Expr {
	switch x := n.(type) {
	case *ast.IfStmt:
		return []ast.Expr{x.Cond}
	case *ast.SwitchStmt:
		if x.Tag != nil {
			return []ast.Expr{x.Tag}
		}
	case *ast.CaseClause:
		return x.List
	case *ast.RangeStmt:
		return []ast.Expr{x.X}
	case *ast.IndexExpr:
		return []ast.Expr{x.Index}
	case *ast.BinaryExpr:
		if x.Op == token.LAND || x.Op == token.LOR {
			return []ast.Expr{x}
		}
	}
	return nil
}

// TestOnTheProgramAlone: no condition, no loop and no place hangs on anything but
// the program.
func TestOnTheProgramAlone(t *testing.T) {
	all := functions(t)
	for _, name := range []string{"Check", "Map", "Fold", "Finish", "Steps"} {
		if all[name] == nil {
			t.Fatalf("there is no %s", name)
		}
	}
	for name, f := range all {
		ast.Inspect(f.Body, func(n ast.Node) bool {
			for _, d := range deciders(n) {
				if names := hangsOn(d); len(names) != 0 {
					t.Errorf("P11.3: what %s does hangs on %q", name, names)
				}
			}
			switch n.(type) {
			case *ast.ForStmt, *ast.TypeSwitchStmt, *ast.SelectStmt:
				t.Errorf("P11.3: %s has a branch of a kind that is not looked into", name)
			}
			return true
		})
	}
}

// called are the names of what is called in n, and of all of the package that is
// called there.
func called(all map[string]*ast.FuncDecl, n ast.Node) []string {
	var names []string
	ast.Inspect(n, func(n ast.Node) bool {
		call, ok := n.(*ast.CallExpr)
		if !ok {
			return true
		}
		switch x := call.Fun.(type) {
		case *ast.SelectorExpr:
			if from, ok := x.X.(*ast.Ident); ok {
				names = append(names, from.Name+"."+x.Sel.Name)
			}
		case *ast.Ident:
			if f := all[x.Name]; f != nil {
				names = append(names, called(all, f.Body)...)
			}
		}
		return true
	})
	return names
}

// TestChosenByCt: what is held against something, and what is picked, is so by
// ct.
func TestChosenByCt(t *testing.T) {
	all := functions(t)
	found := map[string]bool{}
	ast.Inspect(all["result"].Body, func(n ast.Node) bool {
		c, ok := n.(*ast.CaseClause)
		if !ok || len(c.List) == 0 {
			return true
		}
		for code, calls := range map[string][]string{"OpLess": {"ct.Below"}, "OpSame": {"ct.Same"}, "OpPick": {"ct.Pick", "ct.Same"}} {
			if x, ok := c.List[0].(*ast.SelectorExpr); !ok || x.Sel.Name != code {
				continue
			}
			found[code] = true
			got := called(all, c)
			slices.Sort(got)
			if !slices.Equal(got, calls) {
				t.Errorf("P11.3: %s calls %q, not %q", code, got, calls)
			}
		}
		return true
	})
	if len(found) != 3 {
		t.Errorf("P11.3: of the three only these were found: %v", found)
	}
}
