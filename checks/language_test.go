// Package checks holds tests of the source text of all layers: what LANGUAGE.md permits, and which layers a layer may import.
package checks

import (
	"bytes"
	"go/ast"
	"go/format"
	"go/parser"
	"go/token"
	"os"
	"path/filepath"
	"slices"
	"strconv"
	"strings"
	"testing"
)

// layers in the order of the document: each one may import those before it.
var layers = strings.Fields("nat ratio digest group sign equal deal weight beacon delay lock tree rules types quota linear fair odds places plan certify entry ledger disk journal net kiosk merge agree day member light court audit")

var library = strings.Fields("bytes cmp container/heap errors iter maps math math/bits slices sort strconv strings sync sync/atomic unicode unicode/utf8")

// barredCalls are what a permitted package of the library has, and the program may not use.
var barredCalls = []string{"iter.Pull", "iter.Pull2"}

// file is a Go file of a layer.
type file struct {
	layer, path string
	text        []byte
	tree        *ast.File
}

// program returns the Go files of all layers, but for their tests.
func program(t *testing.T) []file {
	t.Helper()
	var l []file
	for _, layer := range append([]string{"api"}, layers...) {
		entries, err := os.ReadDir(filepath.Join("..", layer))
		if err != nil {
			t.Fatal(err)
		}
		for _, e := range entries {
			path := filepath.Join("..", layer, e.Name())
			if strings.HasSuffix(path, "_test.go") || e.Name() == "testdata" {
				continue
			}
			if e.IsDir() || !strings.HasSuffix(path, ".go") {
				t.Errorf("%s is no Go file", path)
				continue
			}
			text, err := os.ReadFile(path)
			if err != nil {
				t.Fatal(err)
			}
			tree, err := parser.ParseFile(token.NewFileSet(), path, text, parser.ParseComments)
			if err != nil {
				t.Fatal(err)
			}
			l = append(l, file{layer, path, text, tree})
		}
	}
	return l
}

// permitted reports whether a layer may import a package: one of the library, a lower layer, or one of the project that is no layer.
func permitted(layer, path string) bool {
	name, own := strings.CutPrefix(path, "sortes/")
	if !own {
		return slices.Contains(library, path)
	}
	if layer == "api" || layer == "nat" {
		return layer == "nat" && name == "api"
	}
	at := slices.Index(layers, name)
	return at < slices.Index(layers, layer)
}

func TestImports(t *testing.T) {
	for _, f := range program(t) {
		for _, i := range f.tree.Imports {
			path, err := strconv.Unquote(i.Path.Value)
			if err != nil || !permitted(f.layer, path) {
				t.Errorf("%s imports %s", f.path, i.Path.Value)
			}
			if i.Name != nil && (i.Name.Name == "." || i.Name.Name == "_") {
				t.Errorf("%s imports %s as %s", f.path, i.Path.Value, i.Name.Name)
			}
		}
		ast.Inspect(f.tree, func(n ast.Node) bool {
			if s, ok := n.(*ast.SelectorExpr); ok {
				if x, ok := s.X.(*ast.Ident); ok && slices.Contains(barredCalls, x.Name+"."+s.Sel.Name) {
					t.Errorf("%s uses %s.%s", f.path, x.Name, s.Sel.Name)
				}
			}
			return true
		})
	}
}

func TestNoDirectives(t *testing.T) {
	for _, f := range program(t) {
		for _, group := range f.tree.Comments {
			for _, c := range group.List {
				if strings.HasPrefix(c.Text, "//go:") || strings.HasPrefix(c.Text, "// +build") {
					t.Errorf("%s: %s", f.path, c.Text)
				}
			}
		}
	}
}

// TestPackageLevel looks for variables of a package without a value, and for printing.
func TestPackageLevel(t *testing.T) {
	for _, f := range program(t) {
		for _, d := range f.tree.Decls {
			g, ok := d.(*ast.GenDecl)
			if !ok || g.Tok != token.VAR {
				continue
			}
			for _, s := range g.Specs {
				if v := s.(*ast.ValueSpec); len(v.Values) == 0 {
					t.Errorf("%s: the variable %s has no initial value", f.path, v.Names[0].Name)
				}
			}
		}
		ast.Inspect(f.tree, func(n ast.Node) bool {
			if c, ok := n.(*ast.CallExpr); ok {
				if x, ok := c.Fun.(*ast.Ident); ok && (x.Name == "print" || x.Name == "println") {
					t.Errorf("%s prints", f.path)
				}
			}
			return true
		})
	}
}

func TestLayout(t *testing.T) {
	for _, f := range program(t) {
		if text, err := format.Source(f.text); err != nil || !bytes.Equal(text, f.text) {
			t.Errorf("%s has not the layout of gofmt", f.path)
		}
	}
}
