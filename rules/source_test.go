package rules

import (
	"go/ast"
	"go/parser"
	"go/token"
	"io/fs"
	"path/filepath"
	"strconv"
	"strings"
	"testing"
)

// allowed are the library's packages that the program may import: none of them asks the clock, chance or the environment.
const allowed = " bytes cmp container/heap errors iter maps math math/bits slices sort strconv strings sync sync/atomic unicode unicode/utf8 "

// sources tells the program's files, without tests and without what stands beside it.
func sources(t *testing.T, tell func(path string, set *token.FileSet, f *ast.File)) {
	t.Helper()
	count := 0
	err := filepath.WalkDir("..", func(path string, d fs.DirEntry, err error) error {
		if err != nil {
			return err
		}
		name := d.Name()
		if d.IsDir() && (name == "sharedtests" || len(name) > 2 && name[0] == '.') {
			return filepath.SkipDir
		}
		if d.IsDir() || !strings.HasSuffix(name, ".go") || strings.HasSuffix(name, "_test.go") {
			return nil
		}
		set := token.NewFileSet()
		f, err := parser.ParseFile(set, path, nil, parser.ParseComments)
		if err == nil {
			count++
			tell(path, set, f)
		}
		return err
	})
	if err != nil || count < 49 {
		t.Fatal(count, err)
	}
}

// P6: nothing is imported, or started, by which a call could ask the clock, chance or the environment.
func TestImports(t *testing.T) {
	sources(t, func(path string, set *token.FileSet, f *ast.File) {
		for _, i := range f.Imports {
			name, _ := strconv.Unquote(i.Path.Value)
			if !strings.HasPrefix(name, "stet/") && !strings.Contains(allowed, " "+name+" ") {
				t.Errorf("%s imports %s", path, name)
			}
			if i.Name != nil && i.Name.Name == "." {
				t.Errorf("%s imports %s into itself", path, name)
			}
		}
		ast.Inspect(f, func(n ast.Node) bool {
			if x, ok := n.(*ast.GoStmt); ok {
				t.Errorf("%s starts a goroutine", set.Position(x.Pos()))
			}
			return true
		})
	})
}

// P6: at package level stand no variables but tables that are written out, and nothing writes to them.
func TestNothingKeptAtPackageLevel(t *testing.T) {
	sources(t, func(path string, set *token.FileSet, f *ast.File) {
		tables := map[string]bool{}
		for _, d := range f.Decls {
			g, ok := d.(*ast.GenDecl)
			if !ok || g.Tok != token.VAR {
				continue
			}
			for _, s := range g.Specs {
				v := s.(*ast.ValueSpec)
				if len(v.Values) != len(v.Names) {
					t.Errorf("%s: a variable without a value of its own", set.Position(v.Pos()))
				}
				for _, n := range v.Names {
					tables[n.Name] = true
				}
			}
		}
		ast.Inspect(f, func(n ast.Node) bool {
			switch x := n.(type) {
			case *ast.AssignStmt:
				if x.Tok != token.DEFINE {
					for _, e := range x.Lhs {
						checkNotTable(t, set, tables, e)
					}
				}
			case *ast.IncDecStmt:
				checkNotTable(t, set, tables, x.X)
			case *ast.UnaryExpr:
				if x.Op == token.AND {
					checkNotTable(t, set, tables, x.X)
				}
			}
			return true
		})
	})
}

func checkNotTable(t *testing.T, set *token.FileSet, tables map[string]bool, e ast.Expr) {
	t.Helper()
	for {
		switch x := e.(type) {
		case *ast.IndexExpr:
			e = x.X
		case *ast.SelectorExpr:
			e = x.X
		case *ast.ParenExpr:
			e = x.X
		case *ast.Ident:
			if tables[x.Name] && x.Obj != nil && x.Obj.Kind == ast.Var {
				if _, top := x.Obj.Decl.(*ast.ValueSpec); top {
					t.Errorf("%s: %s is written to, or its address taken", set.Position(x.Pos()), x.Name)
				}
			}
			return
		default:
			return
		}
	}
}

// Functions are small: at most 60 lines.
func TestSmallFunctions(t *testing.T) {
	sources(t, func(path string, set *token.FileSet, f *ast.File) {
		for _, d := range f.Decls {
			x, ok := d.(*ast.FuncDecl)
			if ok && set.Position(x.End()).Line-set.Position(x.Pos()).Line >= 60 {
				t.Errorf("%s: %s is too long", set.Position(x.Pos()), x.Name.Name)
			}
		}
	})
}
