package check

import (
	"bytes"
	"go/ast"
	"go/format"
	"go/token"
	"os"
	"slices"
	"strconv"
	"strings"
	"testing"
)

// library is the packages that the program may take from outside itself.
var library = strings.Fields("bytes cmp container/heap errors iter maps math math/bits slices sort strconv strings sync sync/atomic unicode unicode/utf8")

// parts are what may be taken of a package that isn't free as a whole.
var parts = map[string][]string{
	"iter": {"Seq", "Seq2"},
	"sync": {"Mutex", "RWMutex", "WaitGroup", "Once"},
}

const longest = 60 // lines of a function

func TestImports(t *testing.T) {
	for _, s := range sources(t) {
		for _, spec := range s.file.Imports {
			path, err := strconv.Unquote(spec.Path.Value)
			if err != nil {
				t.Fatal(err)
			}
			own, inside := strings.CutPrefix(path, "honeycomb/")
			if !inside && !slices.Contains(library, path) {
				t.Errorf("%s imports %s", s.path, path)
			}
			here, there := slices.Index(layers, s.pack), slices.Index(layers, own)
			if inside && here >= 0 && there >= here {
				t.Errorf("%s imports %s, which isn't below it", s.path, path)
			}
		}
	}
}

func TestPartsOfTheLibrary(t *testing.T) {
	for _, s := range sources(t) {
		ast.Inspect(s.file, func(n ast.Node) bool {
			x, ok := n.(*ast.SelectorExpr)
			if !ok {
				return true
			}
			pack, ok := x.X.(*ast.Ident)
			if !ok || parts[pack.Name] == nil || !imports(s.file, pack.Name) {
				return true
			}
			if !slices.Contains(parts[pack.Name], x.Sel.Name) {
				t.Errorf("%s:%d: %s.%s", s.path, s.lineOf(x), pack.Name, x.Sel.Name)
			}
			return true
		})
	}
}

func imports(file *ast.File, path string) bool {
	return slices.ContainsFunc(file.Imports, func(spec *ast.ImportSpec) bool {
		return spec.Path.Value == strconv.Quote(path)
	})
}

func TestNoLinesForTheCompiler(t *testing.T) {
	for _, s := range sources(t) {
		for _, group := range s.file.Comments {
			for _, c := range group.List {
				if strings.HasPrefix(c.Text, "//go:") || strings.HasPrefix(c.Text, "// +build") {
					t.Errorf("%s:%d: %s", s.path, s.lineOf(c), c.Text)
				}
			}
		}
	}
}

func TestNoPrinting(t *testing.T) {
	for _, s := range sources(t) {
		ast.Inspect(s.file, func(n ast.Node) bool {
			call, ok := n.(*ast.CallExpr)
			if !ok {
				return true
			}
			if f, ok := call.Fun.(*ast.Ident); ok && (f.Name == "print" || f.Name == "println") {
				t.Errorf("%s:%d: %s", s.path, s.lineOf(call), f.Name)
			}
			return true
		})
	}
}

func TestLengthOfFunctions(t *testing.T) {
	for _, s := range sources(t) {
		for _, d := range s.file.Decls {
			f, ok := d.(*ast.FuncDecl)
			if !ok {
				continue
			}
			if lines := s.fset.Position(f.End()).Line - s.lineOf(f) + 1; lines > longest {
				t.Errorf("%s: %s has %d lines", s.path, f.Name.Name, lines)
			}
		}
	}
}

func TestLayout(t *testing.T) {
	for _, s := range sources(t) {
		neat, err := format.Source(s.text)
		if err != nil {
			t.Fatal(err)
		}
		if !bytes.Equal(neat, s.text) {
			t.Errorf("%s isn't as gofmt lays it out", s.path)
		}
	}
}

func TestVariablesOfPackages(t *testing.T) {
	for _, s := range sources(t) {
		for _, d := range s.file.Decls {
			g, ok := d.(*ast.GenDecl)
			if !ok || g.Tok != token.VAR {
				continue
			}
			for _, spec := range g.Specs {
				v := spec.(*ast.ValueSpec)
				if len(v.Values) != len(v.Names) {
					t.Errorf("%s:%d: a variable without a value of its own", s.path, s.lineOf(v))
				}
				for _, value := range v.Values {
					if !mayStand(value) {
						t.Errorf("%s:%d: no value for a package's variable", s.path, s.lineOf(value))
					}
				}
			}
		}
	}
}

// mayStand: is it a table that is written out, or an error made by errors.New?
func mayStand(value ast.Expr) bool {
	switch x := value.(type) {
	case *ast.CallExpr:
		f, ok := x.Fun.(*ast.SelectorExpr)
		if !ok {
			return false
		}
		pack, ok := f.X.(*ast.Ident)
		return ok && pack.Name == "errors" && f.Sel.Name == "New"
	case *ast.CompositeLit:
		plain := true
		ast.Inspect(x, func(n ast.Node) bool {
			switch n.(type) {
			case *ast.MapType, *ast.FuncLit, *ast.FuncType, *ast.CallExpr, *ast.StarExpr:
				plain = false
			}
			return plain
		})
		return plain
	}
	return false
}

func TestGoFilesAlone(t *testing.T) {
	for _, pack := range packs() {
		entries, err := os.ReadDir("../" + pack)
		if err != nil {
			t.Fatal(err)
		}
		for _, entry := range entries {
			if entry.IsDir() || !strings.HasSuffix(entry.Name(), ".go") {
				t.Errorf("%s/%s is no Go file", pack, entry.Name())
			}
		}
	}
}
