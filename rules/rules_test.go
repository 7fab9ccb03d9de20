// Package rules has no code: its tests hold the other packages' files against some rules of the language: imports, layers, orders to the compiler, layout.
package rules

import (
	"bytes"
	"go/ast"
	"go/format"
	"go/parser"
	"go/token"
	"io/fs"
	"os"
	"path"
	"slices"
	"strconv"
	"strings"
	"testing"
)

// longest is how many lines a function may have.
const longest = 60

// layers are the packages, each with those that it stands on, as the document's map has them, and octet of frame, as its chapter has it; by bench's three it stands on all.
func layers() map[string]string {
	return map[string]string{
		"api": "", "octet": "", "digest": "", "real": "octet", "lex": "real", "tree": "real lex", "parse": "real lex tree",
		"check": "tree", "sem": "real tree check", "code": "octet real", "compile": "tree check code", "vm": "real code",
		"dep": "code vm", "clock": "dep", "race": "dep clock", "norm": "dep clock", "search": "vm dep clock",
		"frontier": "octet code search", "witness": "octet sem vm search", "disk": "", "frame": "octet disk",
		"log": "disk frame", "store": "disk frame log", "job": "octet search frontier witness", "tenant": "digest",
		"slots": "", "out": "", "line": "octet", "proto": "octet real line",
		"docket": "parse check compile store job proto", "server": "tenant slots out line proto docket",
		"script": "disk server", "bench": "race norm script",
	}
}

// library has the packages of the library that may be used.
func library() []string {
	return strings.Fields("bytes cmp container/heap errors iter maps math math/bits slices sort strconv strings" +
		" sync sync/atomic unicode unicode/utf8")
}

// sources calls f with each Go file of the program that is no test.
func sources(t *testing.T, f func(name string, text []byte, files *token.FileSet, file *ast.File)) {
	root := os.DirFS("..")
	count := 0
	err := fs.WalkDir(root, ".", func(name string, entry fs.DirEntry, err error) error {
		if err != nil {
			return err
		}
		if entry.IsDir() && (name == "sharedtests" || strings.HasPrefix(entry.Name(), ".") && name != ".") {
			return fs.SkipDir
		}
		if !strings.HasSuffix(name, ".go") || strings.HasSuffix(name, "_test.go") {
			return nil
		}
		text, err := fs.ReadFile(root, name)
		if err != nil {
			return err
		}
		files := token.NewFileSet()
		file, err := parser.ParseFile(files, name, text, parser.ParseComments)
		if err != nil {
			return err
		}
		count++
		f(name, text, files, file)
		return nil
	})
	if err != nil || count < len(layers()) {
		t.Fatalf("%d files: %v", count, err)
	}
}

func TestImports(t *testing.T) {
	sources(t, func(name string, _ []byte, _ *token.FileSet, file *ast.File) {
		for _, spec := range file.Imports {
			imported, err := strconv.Unquote(spec.Path.Value)
			if err != nil {
				t.Error(name, err)
			}
			if own, ok := strings.CutPrefix(imported, "assize/"); ok {
				checkBelow(t, path.Dir(name), own)
			} else if !slices.Contains(library(), imported) {
				t.Errorf("%s imports %s", name, imported)
			}
		}
	})
}

// standsOn tells whether a layer stands on another one, itself or by those between.
func standsOn(layer, other string) bool {
	for _, below := range strings.Fields(layers()[layer]) {
		if below == other || standsOn(below, other) {
			return true
		}
	}
	return false
}

// checkBelow fails if one layer imports another that it does not stand on.
func checkBelow(t *testing.T, layer, below string) {
	_, layered := layers()[layer]
	_, given := layers()[below]
	if layered && given && below != "api" && !standsOn(layer, below) {
		t.Errorf("%s stands on %s", layer, below)
	}
}

func TestNoOrdersToTheCompiler(t *testing.T) {
	sources(t, func(name string, _ []byte, files *token.FileSet, file *ast.File) {
		for _, group := range file.Comments {
			for _, line := range group.List {
				if strings.HasPrefix(line.Text, "//go:") || strings.HasPrefix(line.Text, "// +build") {
					t.Errorf("%s: %s", files.Position(line.Pos()), line.Text)
				}
			}
		}
	})
}

func TestLayout(t *testing.T) {
	sources(t, func(name string, text []byte, files *token.FileSet, file *ast.File) {
		if laid, err := format.Source(text); err != nil || !bytes.Equal(laid, text) {
			t.Error(name, "is not laid out as by gofmt", err)
		}
		for _, d := range file.Decls {
			f, ok := d.(*ast.FuncDecl)
			if !ok {
				continue
			}
			if n := files.Position(f.End()).Line - files.Position(f.Pos()).Line + 1; n > longest {
				t.Errorf("%s: %s has %d lines", name, f.Name.Name, n)
			}
		}
	})
}
