// Package layout holds tests of how the program is written: which packages a layer may call, which of the library it may use, and the layout of its files.
package layout

import (
	"bytes"
	"go/ast"
	"go/format"
	"go/parser"
	"go/token"
	"os"
	"path/filepath"
	"slices"
	"strconv"
	"strings"
	"testing"
)

const module = "belfry/"

// layers are the given packages, the lowest first, each with those that it may call beside api. Packages names, tenants, scan, cursor and words, which are not given, stand below those that call them.
var layers = []struct{ name, calls string }{
	{"api", ""},
	{"names", ""},
	{"tenants", ""},
	{"scan", ""},
	{"fixed", ""},
	{"wire", ""},
	{"sha", ""},
	{"attr", "wire"},
	{"words", "attr scan"},
	{"cursor", "attr scan"},
	{"otlp", "fixed wire attr"},
	{"disk", ""},
	{"wal", "wire disk"},
	{"store", "attr"},
	{"audit", "names wire sha"},
	{"ident", "names"},
	{"policy", "names attr words"},
	{"grant", "names attr words"},
	{"metricq", "fixed attr scan"},
	{"logq", "attr scan cursor"},
	{"traceq", "attr metricq scan cursor"},
	{"rewrite", "attr metricq logq traceq"},
	{"meval", "fixed attr store metricq"},
	{"search", "attr store logq traceq"},
	{"quota", "tenants fixed"},
	{"fair", "tenants"},
	{"slots", "fair"},
	{"cache", ""},
	{"frame", "wire"},
	{"gate", "fixed wire sha attr otlp disk wal store audit ident policy grant metricq logq traceq rewrite meval search quota fair slots cache frame"},
}

// library is what of Go's library the program may use.
const library = "bytes cmp container/heap errors iter maps math math/bits slices sort strconv strings sync sync/atomic unicode unicode/utf8"

const maxLines = 60

func listed(list, word string) bool {
	return slices.Contains(strings.Fields(list), word)
}

func isLayer(name string) bool {
	for _, l := range layers {
		if l.name == name {
			return true
		}
	}
	return false
}

// programFiles are the Go files of a package that are no tests.
func programFiles(t *testing.T, name string) []string {
	t.Helper()
	all, err := filepath.Glob(filepath.Join("..", name, "*.go"))
	if err != nil {
		t.Fatal(err)
	}
	return slices.DeleteFunc(all, func(f string) bool { return strings.HasSuffix(f, "_test.go") })
}

func parse(t *testing.T, file string) (*token.FileSet, *ast.File) {
	t.Helper()
	set := token.NewFileSet()
	f, err := parser.ParseFile(set, file, nil, parser.ParseComments)
	if err != nil {
		t.Fatal(err)
	}
	return set, f
}

// packages are all folders of the program's own that hold Go files.
func packages(t *testing.T) []string {
	t.Helper()
	files, err := filepath.Glob(filepath.Join("..", "*", "*.go"))
	if err != nil {
		t.Fatal(err)
	}
	var out []string
	for _, f := range files {
		if p := filepath.Base(filepath.Dir(f)); !slices.Contains(out, p) {
			out = append(out, p)
		}
	}
	return out
}

// Every layer is there.
func TestLayersAreThere(t *testing.T) {
	for _, l := range layers {
		if len(programFiles(t, l.name)) == 0 {
			t.Errorf("there is no package %s", l.name)
		}
	}
}

// A layer calls those below it that are its to call, and of the library what is let in.
func TestImports(t *testing.T) {
	for _, l := range layers {
		for _, file := range programFiles(t, l.name) {
			_, f := parse(t, file)
			for _, i := range f.Imports {
				path, _ := strconv.Unquote(i.Path.Value)
				own, isOwn := strings.CutPrefix(path, module)
				switch {
				case !isOwn && !listed(library, path):
					t.Errorf("%s: imports %s", file, path)
				case isOwn && isLayer(own) && own != "api" && !listed(l.calls, own):
					t.Errorf("%s: %s may not call %s", file, l.name, own)
				}
			}
		}
	}
}

// Packages of the program's own have names that are free.
func TestNames(t *testing.T) {
	for _, p := range packages(t) {
		if p == "form" || p == "try" || strings.HasPrefix(p, "belfry") {
			t.Errorf("a package is named %s", p)
		}
	}
}

// Files are in gofmt's layout, functions are short, and no line is for the compiler.
func TestFiles(t *testing.T) {
	for _, l := range layers {
		for _, file := range programFiles(t, l.name) {
			text, err := os.ReadFile(file)
			if err != nil {
				t.Fatal(err)
			}
			if laid, err := format.Source(text); err != nil || !bytes.Equal(laid, text) {
				t.Errorf("%s: not in gofmt's layout", file)
			}
			set, f := parse(t, file)
			checkFunctions(t, set, f)
			checkRemarks(t, set, f)
		}
	}
}

func checkFunctions(t *testing.T, set *token.FileSet, f *ast.File) {
	t.Helper()
	for _, d := range f.Decls {
		fn, ok := d.(*ast.FuncDecl)
		if !ok {
			continue
		}
		if n := set.Position(fn.End()).Line - set.Position(fn.Pos()).Line + 1; n > maxLines {
			t.Errorf("%s: %s has %d lines", set.Position(fn.Pos()), fn.Name.Name, n)
		}
	}
}

func checkRemarks(t *testing.T, set *token.FileSet, f *ast.File) {
	t.Helper()
	for _, g := range f.Comments {
		for _, c := range g.List {
			if strings.HasPrefix(c.Text, "//go:") || strings.HasPrefix(c.Text, "// +build") {
				t.Errorf("%s: %s", set.Position(c.Pos()), c.Text)
			}
		}
	}
}
