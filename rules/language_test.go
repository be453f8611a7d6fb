package rules_test

import (
	"bytes"
	"go/ast"
	"go/format"
	"go/parser"
	"go/token"
	"os"
	"path/filepath"
	"slices"
	"strconv"
	"strings"
	"testing"
)

const root = ".."

// layers are the packages of the document's map, in its order.
var layers = strings.Fields(`num crc disk frame page manifest segment seglog addr span msg cutter gram order trie links fib net
	ivl line past atoms walk judge valid window diff query snap hist ask recorder world audit tale desk`)

// library is what of Go's library the program may import.
var library = strings.Fields(`bytes cmp container/heap errors iter maps math math/bits slices sort strconv strings sync sync/atomic
	unicode unicode/utf8`)

const longestFunction = 60

// source is a file of the program.
type source struct {
	path, pack string
	text       []byte
	file       *ast.File
	lines      *token.FileSet
}

// sources are the files of the program: those that are no tests.
func sources(t *testing.T) []source {
	t.Helper()
	paths, err := filepath.Glob(filepath.Join(root, "*", "*.go"))
	if err != nil {
		t.Fatal(err)
	}
	var all []source
	for _, p := range paths {
		pack := filepath.Base(filepath.Dir(p))
		if strings.HasSuffix(p, "_test.go") || pack == "sharedtests" {
			continue
		}
		text, err := os.ReadFile(p)
		if err != nil {
			t.Fatal(err)
		}
		lines := token.NewFileSet()
		file, err := parser.ParseFile(lines, p, text, parser.ParseComments)
		if err != nil {
			t.Fatal(err)
		}
		all = append(all, source{p, pack, text, file, lines})
	}
	return all
}

func TestAllLayersAreThere(t *testing.T) {
	all := sources(t)
	for _, pack := range append([]string{"api"}, layers...) {
		if !slices.ContainsFunc(all, func(s source) bool { return s.pack == pack && s.file.Name.Name == pack }) {
			t.Errorf("package %s is not there", pack)
		}
	}
}

// mayImport tells whether the language, and the map for what is of the project, let a package import another one.
func mayImport(pack, path string) bool {
	own, is := strings.CutPrefix(path, "spoor/")
	if !is {
		return slices.Contains(library, path)
	}
	from, to := slices.Index(layers, pack), slices.Index(layers, own)
	return from < 0 || to < from
}

func TestImportsAreTheLanguages(t *testing.T) {
	for _, s := range sources(t) {
		for _, i := range s.file.Imports {
			path, err := strconv.Unquote(i.Path.Value)
			if err != nil {
				t.Fatal(err)
			}
			if !mayImport(s.pack, path) {
				t.Errorf("%s imports %s", s.path, path)
			}
		}
	}
}

func TestFilesAreLaidOutByGofmt(t *testing.T) {
	for _, s := range sources(t) {
		laid, err := format.Source(s.text)
		if err != nil || !bytes.Equal(laid, s.text) {
			t.Errorf("%s is not as gofmt lays it out", s.path)
		}
	}
}

func TestFunctionsAreShort(t *testing.T) {
	for _, s := range sources(t) {
		for _, d := range s.file.Decls {
			f, is := d.(*ast.FuncDecl)
			if !is {
				continue
			}
			if many := s.lines.Position(f.End()).Line - s.lines.Position(f.Pos()).Line + 1; many > longestFunction {
				t.Errorf("%s: %s has %d lines", s.path, f.Name.Name, many)
			}
		}
	}
}

func TestNoFileSpeaksToTheTools(t *testing.T) {
	for _, s := range sources(t) {
		for _, g := range s.file.Comments {
			for _, c := range g.List {
				if strings.HasPrefix(c.Text, "//go:") || strings.HasPrefix(c.Text, "// +build") {
					t.Errorf("%s has the line %s", s.path, c.Text)
				}
			}
		}
	}
}
