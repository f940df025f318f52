// Package check looks at the program's own text: the calls that it must have, and the part of the language that it keeps to.
package check

import (
	"go/ast"
	"go/parser"
	"go/token"
	"os"
	"path/filepath"
	"strings"
	"testing"
)

// layers are the packages from the lowest up: each may call those ahead of it.
var layers = strings.Fields("axis fault cell set table rule iso flat site block leaf arena tree square life jump sweep turn bound runs pattern world script session")

// source is one file of the program, tests aside.
type source struct {
	path string // from the project's folder on
	pack string // its folder
	text []byte
	file *ast.File
	fset *token.FileSet
}

// packs are the folders of the program. They are named one by one, because others may be laid beside them for a test.
func packs() []string {
	return append([]string{"api"}, layers...)
}

// sources are all files of the program, tests aside.
func sources(t *testing.T) []source {
	t.Helper()
	var all []source
	for _, pack := range packs() {
		paths, err := filepath.Glob("../" + pack + "/*.go")
		if err != nil {
			t.Fatal(err)
		}
		all = append(all, parsed(t, pack, paths)...)
	}
	return all
}

func parsed(t *testing.T, pack string, paths []string) []source {
	t.Helper()
	var all []source
	for _, path := range paths {
		if strings.HasSuffix(path, "_test.go") {
			continue
		}
		text, err := os.ReadFile(path)
		if err != nil {
			t.Fatal(err)
		}
		fset := token.NewFileSet()
		file, err := parser.ParseFile(fset, path, text, parser.ParseComments)
		if err != nil {
			t.Fatal(err)
		}
		all = append(all, source{path: strings.TrimPrefix(path, "../"), pack: pack, text: text, file: file, fset: fset})
	}
	return all
}

func (s source) lineOf(n ast.Node) int {
	return s.fset.Position(n.Pos()).Line
}

func TestEveryLayerIsThere(t *testing.T) {
	seen := map[string]int{}
	for _, s := range sources(t) {
		seen[s.pack]++
	}
	for _, pack := range packs() {
		if seen[pack] == 0 {
			t.Errorf("no package %s", pack)
		}
	}
}
