// Package language_test checks the program's own text: the rules of its
// language, the ways that its layers use, and the calls that they declare.
package language_test

import (
	"bytes"
	"go/ast"
	"go/format"
	"go/parser"
	"go/token"
	"go/types"
	"os"
	"path/filepath"
	"slices"
	"strconv"
	"strings"
	"testing"
)

const root = ".."

// A source is a file of the program.
type source struct {
	path string
	pack string // its package
	text []byte
	set  *token.FileSet
	file *ast.File
}

// sources returns all Go files of the program's packages but tests.
func sources(t *testing.T) []source {
	t.Helper()
	var out []source
	for pack := range layers() {
		paths, err := filepath.Glob(filepath.Join(root, pack, "*.go"))
		if err != nil || len(paths) == 0 {
			t.Fatalf("package %s: %v", pack, err)
		}
		for _, path := range paths {
			if !strings.HasSuffix(path, "_test.go") {
				out = append(out, read(t, pack, path))
			}
		}
	}
	return out
}

func read(t *testing.T, pack, path string) source {
	t.Helper()
	text, err := os.ReadFile(path)
	if err != nil {
		t.Fatal(err)
	}
	set := token.NewFileSet()
	file, err := parser.ParseFile(set, path, text, parser.ParseComments)
	if err != nil {
		t.Fatal(err)
	}
	return source{path, pack, text, set, file}
}

func (s source) errorf(t *testing.T, at ast.Node, what string) {
	t.Helper()
	t.Errorf("%v: %s", s.set.Position(at.Pos()), what)
}

func allowedImports() []string {
	return strings.Fields("bytes cmp container/heap errors iter maps math math/bits slices sort strconv strings sync sync/atomic unicode unicode/utf8")
}

// layers returns for each package the layers that it calls, and for those that
// are no layers nothing.
func layers() map[string]string {
	return map[string]string{
		"api": "", "number": "", "lattice": "", "linear": "", "exact": "", "blend": "exact", "whole": "exact blend", "shape": "", "tile": "exact", "line": "exact",
		"recipe": "exact", "shop": "exact blend", "mirror": "", "works": "exact blend whole shape tile line recipe shop mirror",
	}
}

// isShared reports whether a package is no layer, but what any of them may call.
func isShared(pack string) bool {
	return slices.Contains([]string{"api", "number", "lattice", "linear"}, pack)
}

func TestImports(t *testing.T) {
	for _, s := range sources(t) {
		for _, spec := range s.file.Imports {
			path, err := strconv.Unquote(spec.Path.Value)
			if err != nil {
				t.Fatal(err)
			}
			own, isOwn := strings.CutPrefix(path, "cracknel/")
			calls, isLayer := layers()[s.pack]
			switch {
			case !isOwn && !slices.Contains(allowedImports(), path):
				s.errorf(t, spec, "import of "+path)
			case isOwn && isLayer && !isShared(own) && !slices.Contains(strings.Fields(calls), own):
				s.errorf(t, spec, s.pack+" does not call "+own)
			}
		}
	}
}

func TestPackages(t *testing.T) {
	for _, s := range sources(t) {
		if s.file.Name.Name != s.pack {
			t.Errorf("%s is of package %s", s.path, s.file.Name.Name)
		}
	}
}

func TestNoOtherFiles(t *testing.T) {
	text, err := os.ReadFile(filepath.Join(root, "go.mod"))
	if err != nil || !strings.HasPrefix(string(text), "module cracknel\n") || strings.Contains(string(text), "require") {
		t.Errorf("go.mod: %q, %v", text, err)
	}
	for pack := range layers() {
		entries, err := os.ReadDir(filepath.Join(root, pack))
		if err != nil {
			t.Fatal(err)
		}
		for _, entry := range entries {
			if !strings.HasSuffix(entry.Name(), ".go") {
				t.Errorf("%s/%s is no file of the program", pack, entry.Name())
			}
		}
	}
}

func TestLayout(t *testing.T) {
	for _, s := range sources(t) {
		want, err := format.Source(s.text)
		if err != nil || !bytes.Equal(want, s.text) {
			t.Errorf("%s is not laid out by gofmt", s.path)
		}
	}
}

func TestNoDirectives(t *testing.T) {
	for _, s := range sources(t) {
		for _, group := range s.file.Comments {
			for _, c := range group.List {
				if strings.HasPrefix(c.Text, "//go:") || strings.HasPrefix(c.Text, "// +build") {
					s.errorf(t, c, c.Text)
				}
			}
		}
		name := strings.TrimSuffix(filepath.Base(s.path), ".go")
		if strings.Contains(name, "_") {
			t.Errorf("%s: a name that may be a build tag", s.path)
		}
	}
}

func TestFunctions(t *testing.T) {
	for _, s := range sources(t) {
		ast.Inspect(s.file, func(n ast.Node) bool {
			switch x := n.(type) {
			case *ast.FuncDecl:
				if first, last := s.set.Position(x.Pos()).Line, s.set.Position(x.End()).Line; last-first >= 60 {
					s.errorf(t, x, x.Name.Name+" is too long")
				}
				if x.Recv == nil && x.Name.Name == "init" {
					s.errorf(t, x, "start-up code")
				}
			case *ast.CallExpr:
				if f, ok := x.Fun.(*ast.Ident); ok && (f.Name == "print" || f.Name == "println") {
					s.errorf(t, x, "printing")
				}
			}
			return true
		})
	}
}

// isWrittenOut reports whether a value consists of literals, or is an error
// that errors.New creates.
func isWrittenOut(e ast.Expr) bool {
	switch x := e.(type) {
	case *ast.BasicLit, *ast.Ident, *ast.SelectorExpr:
		return true
	case *ast.UnaryExpr:
		return x.Op != token.AND && isWrittenOut(x.X)
	case *ast.KeyValueExpr:
		return isWrittenOut(x.Value)
	case *ast.CallExpr:
		f, ok := x.Fun.(*ast.SelectorExpr)
		return ok && f.Sel.Name == "New" && len(x.Args) == 1 && isWrittenOut(x.Args[0])
	case *ast.CompositeLit:
		if _, isMap := x.Type.(*ast.MapType); isMap {
			return false
		}
		return !slices.ContainsFunc(x.Elts, func(e ast.Expr) bool { return !isWrittenOut(e) })
	}
	return false
}

func TestPackageLevel(t *testing.T) {
	for _, s := range sources(t) {
		for _, d := range s.file.Decls {
			g, ok := d.(*ast.GenDecl)
			if !ok || g.Tok != token.VAR {
				continue
			}
			for _, spec := range g.Specs {
				v := spec.(*ast.ValueSpec)
				if len(v.Values) != len(v.Names) || slices.ContainsFunc(v.Values, func(e ast.Expr) bool { return !isWrittenOut(e) }) {
					s.errorf(t, v, "a variable at package level")
				}
			}
		}
	}
}

// hasWay reports whether a package has a node of its program's text that is as
// wanted.
func hasWay(t *testing.T, pack string, isWanted func(n ast.Node) bool) bool {
	t.Helper()
	found := false
	for _, s := range sources(t) {
		if s.pack == pack {
			ast.Inspect(s.file, func(n ast.Node) bool {
				found = found || n != nil && isWanted(n)
				return !found
			})
		}
	}
	return found
}

// Layer 1 reads Nums by a function that takes any number of them, and passes
// operations as function literals.
func TestWaysOfExact(t *testing.T) {
	isVariadic := func(n ast.Node) bool {
		x, ok := n.(*ast.Ellipsis)
		if !ok {
			return false
		}
		of, ok := x.Elt.(*ast.SelectorExpr)
		return ok && of.Sel.Name == "Num"
	}
	isClosure := func(n ast.Node) bool {
		x, ok := n.(*ast.CallExpr)
		return ok && slices.ContainsFunc(x.Args, func(arg ast.Expr) bool {
			_, ok := arg.(*ast.FuncLit)
			return ok
		})
	}
	if !hasWay(t, "exact", isVariadic) || !hasWay(t, "exact", isClosure) {
		t.Error("exact has no variadic function, or no function literal as an argument")
	}
}

// Layer 2 yields corners by a function that is ranged over, and copies rows.
func TestWaysOfBlend(t *testing.T) {
	isYielding := func(n ast.Node) bool {
		x, ok := n.(*ast.FuncLit)
		if !ok || len(x.Type.Params.List) != 1 || x.Type.Results != nil {
			return false
		}
		_, ok = x.Type.Params.List[0].Type.(*ast.FuncType)
		return ok
	}
	isCopy := func(n ast.Node) bool {
		x, ok := n.(*ast.CallExpr)
		if !ok {
			return false
		}
		f, ok := x.Fun.(*ast.Ident)
		return ok && f.Name == "copy" && len(x.Args) == 2
	}
	if !hasWay(t, "blend", isYielding) || !hasWay(t, "blend", isCopy) {
		t.Error("blend has no function to be ranged over, or copies nothing")
	}
}

// Layer 3 panics with a type of its own, and recovers in a deferred function
// literal.
func TestWaysOfWhole(t *testing.T) {
	isOwnPanic := func(n ast.Node) bool {
		x, ok := n.(*ast.CallExpr)
		if !ok || len(x.Args) != 1 {
			return false
		}
		f, ok := x.Fun.(*ast.Ident)
		value, isLiteral := x.Args[0].(*ast.CompositeLit)
		if !ok || f.Name != "panic" || !isLiteral {
			return false
		}
		name, ok := value.Type.(*ast.Ident)
		return ok && !name.IsExported()
	}
	isRecovery := func(n ast.Node) bool {
		x, ok := n.(*ast.DeferStmt)
		if !ok {
			return false
		}
		literal, ok := x.Call.Fun.(*ast.FuncLit)
		found := false
		if ok {
			ast.Inspect(literal, func(n ast.Node) bool {
				f, ok := n.(*ast.Ident)
				found = found || ok && f.Name == "recover"
				return !found
			})
		}
		return found
	}
	if !hasWay(t, "whole", isOwnPanic) || !hasWay(t, "whole", isRecovery) {
		t.Error("whole has no panic of its own, or does not recover in a deferred function literal")
	}
}

// onlyAPI imports package api alone: others are not looked at, and what
// is of their types is not known.
type onlyAPI struct{ api *types.Package }

func (o onlyAPI) Import(path string) (*types.Package, error) {
	if path == "cracknel/api" && o.api != nil {
		return o.api, nil
	}
	return nil, os.ErrNotExist
}

// typed returns what is known of the types in a package's text.
func typed(t *testing.T, pack string) (types.Info, []*ast.File) {
	t.Helper()
	check := func(pack string, known onlyAPI) (*types.Package, types.Info, []*ast.File) {
		set := token.NewFileSet()
		info := types.Info{Types: map[ast.Expr]types.TypeAndValue{}, Selections: map[*ast.SelectorExpr]*types.Selection{}}
		var files []*ast.File
		for _, s := range sources(t) {
			if s.pack != pack {
				continue
			}
			file, err := parser.ParseFile(set, s.path, s.text, 0)
			if err != nil {
				t.Fatal(err)
			}
			files = append(files, file)
		}
		config := types.Config{Importer: known, Error: func(error) {}}
		out, _ := config.Check("cracknel/"+pack, set, files, &info)
		return out, info, files
	}
	api, _, _ := check("api", onlyAPI{})
	_, info, files := check(pack, onlyAPI{api})
	return info, files
}

// Layer 4 compares points as structs, and visits corners by a range over an
// integer.
func TestWaysOfShape(t *testing.T) {
	info, files := typed(t, "shape")
	isCompared, isRanged := false, false
	for _, file := range files {
		ast.Inspect(file, func(n ast.Node) bool {
			switch x := n.(type) {
			case *ast.BinaryExpr:
				named, ok := info.Types[x.X].Type.(*types.Named)
				isPoint := ok && named.Obj().Name() == "Point"
				isCompared = isCompared || isPoint && (x.Op == token.EQL || x.Op == token.NEQ)
			case *ast.RangeStmt:
				basic, ok := info.Types[x.X].Type.(*types.Basic)
				isRanged = isRanged || ok && basic.Info()&types.IsInteger != 0
			}
			return true
		})
	}
	if !isCompared || !isRanged {
		t.Error("shape does not compare points as structs, or has no range over an integer")
	}
}

// Chapters 4 and 9 allow no other package of the project but api, not even those
// that layers share.
func TestImportsOfShapeAndMirror(t *testing.T) {
	for _, s := range sources(t) {
		for _, spec := range s.file.Imports {
			isAlone := s.pack == "shape" || s.pack == "mirror"
			if isAlone && strings.HasPrefix(spec.Path.Value, `"cracknel/`) && spec.Path.Value != `"cracknel/api"` {
				s.errorf(t, spec, s.pack+" uses no other package but api")
			}
		}
	}
}

// Layer 5 keeps the number of tilings of what is left in a map whose keys are
// arrays, and compares arrays.
func TestWaysOfTile(t *testing.T) {
	info, files := typed(t, "tile")
	isArray := func(of types.Type) bool {
		if of == nil {
			return false
		}
		_, ok := of.Underlying().(*types.Array)
		return ok
	}
	isKept, isCompared := false, false
	for _, file := range files {
		ast.Inspect(file, func(n ast.Node) bool {
			switch x := n.(type) {
			case *ast.IndexExpr:
				if of := info.Types[x.X].Type; of != nil {
					m, ok := of.Underlying().(*types.Map)
					isKept = isKept || ok && isArray(m.Key())
				}
			case *ast.BinaryExpr:
				isEqual := x.Op == token.EQL || x.Op == token.NEQ
				isCompared = isCompared || isEqual && isArray(info.Types[x.X].Type)
			}
			return true
		})
	}
	if !isKept || !isCompared {
		t.Error("tile has no map whose keys are arrays, or compares no arrays")
	}
}

// Layer 6 powers by a generic function anything that can be multiplied, and goes
// on to the next node by a labelled continue.
func TestWaysOfLine(t *testing.T) {
	isGeneric := func(n ast.Node) bool {
		x, ok := n.(*ast.FuncDecl)
		return ok && x.Type.TypeParams != nil
	}
	isLabelled := func(n ast.Node) bool {
		x, ok := n.(*ast.BranchStmt)
		return ok && x.Tok == token.CONTINUE && x.Label != nil
	}
	if !hasWay(t, "line", isGeneric) || !hasWay(t, "line", isLabelled) {
		t.Error("line has no generic function, or no labelled continue")
	}
}

// Layer 7 has nodes of several types that implement one interface, tells them apart
// by a type switch, and numbers the kinds of tokens with iota.
func TestWaysOfRecipe(t *testing.T) {
	isInterface := func(n ast.Node) bool {
		x, ok := n.(*ast.InterfaceType)
		return ok && x.Methods.NumFields() > 0
	}
	isTypeSwitch := func(n ast.Node) bool {
		x, ok := n.(*ast.TypeSwitchStmt)
		return ok && len(x.Body.List) > 3
	}
	isIota := func(n ast.Node) bool {
		x, ok := n.(*ast.Ident)
		return ok && x.Name == "iota"
	}
	if !hasWay(t, "recipe", isInterface) || !hasWay(t, "recipe", isTypeSwitch) || !hasWay(t, "recipe", isIota) {
		t.Error("recipe has no interface, no type switch, or no iota")
	}
}

// Layer 8 searches machines by a method value; its matchings and its tables with
// windows share an embedded table, whose methods are promoted.
func TestWaysOfShop(t *testing.T) {
	info, files := typed(t, "shop")
	isValue, embedding := false, map[string]bool{}
	isPromoted := map[string]bool{}
	for _, file := range files {
		ast.Inspect(file, func(n ast.Node) bool {
			switch x := n.(type) {
			case *ast.CallExpr:
				for _, argument := range x.Args {
					at, ok := argument.(*ast.SelectorExpr)
					of := info.Selections[at]
					isValue = isValue || ok && of != nil && of.Kind() == types.MethodVal
				}
			case *ast.TypeSpec:
				if of, ok := x.Type.(*ast.StructType); ok && len(of.Fields.List[0].Names) == 0 {
					embedding[x.Name.Name] = true
				}
			case *ast.SelectorExpr:
				if of := info.Selections[x]; of != nil && of.Kind() == types.MethodVal && len(of.Index()) > 1 {
					isPromoted[types.TypeString(of.Recv(), func(*types.Package) string { return "" })] = true
				}
			}
			return true
		})
	}
	if !isValue || !embedding["matching"] || !embedding["windowed"] || !isPromoted["*matching"] || !isPromoted["windowed"] {
		t.Errorf("shop: a method value %t, embedding in %v, promoted methods of %v", isValue, embedding, isPromoted)
	}
}

// Layer 9 has a table of functions that decode records, ranges over the map that is
// a quorum, and drops disks from it.
func TestWaysOfMirror(t *testing.T) {
	info, files := typed(t, "mirror")
	isMap := func(e ast.Expr) bool {
		of := info.Types[e].Type
		if of == nil {
			return false
		}
		_, ok := of.Underlying().(*types.Map)
		return ok
	}
	isTable, isRanged, isDropped := false, false, false
	for _, file := range files {
		ast.Inspect(file, func(n ast.Node) bool {
			switch x := n.(type) {
			case *ast.StructType:
				isTable = isTable || slices.ContainsFunc(x.Fields.List, func(f *ast.Field) bool {
					_, ok := f.Type.(*ast.FuncType)
					return ok
				})
			case *ast.RangeStmt:
				isRanged = isRanged || isMap(x.X)
			case *ast.CallExpr:
				f, ok := x.Fun.(*ast.Ident)
				isDropped = isDropped || ok && f.Name == "delete" && isMap(x.Args[0])
			}
			return true
		})
	}
	if !isTable || !isRanged || !isDropped {
		t.Errorf("mirror: a field that is a function %t, a map that is ranged over %t, delete %t", isTable, isRanged, isDropped)
	}
}

// Layer 10 keeps its commands in a table of method expressions, and tells words apart
// by a switch whose cases fall through.
func TestWaysOfWorks(t *testing.T) {
	info, files := typed(t, "works")
	expressions, isFalling := 0, false
	for _, file := range files {
		ast.Inspect(file, func(n ast.Node) bool {
			switch x := n.(type) {
			case *ast.CompositeLit:
				for _, e := range x.Elts {
					at, ok := e.(*ast.SelectorExpr)
					if of := info.Selections[at]; ok && of != nil && of.Kind() == types.MethodExpr {
						expressions++
					}
				}
			case *ast.BranchStmt:
				isFalling = isFalling || x.Tok == token.FALLTHROUGH
			}
			return true
		})
	}
	if expressions < 36 || !isFalling {
		t.Errorf("works: %d method expressions in tables, fallthrough %t", expressions, isFalling)
	}
}
