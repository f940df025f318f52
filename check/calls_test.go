package check

import (
	"bytes"
	"go/ast"
	"go/printer"
	"strings"
	"testing"
)

// calls are those that the chapters list, each behind its package.
const calls = `
axis func Sum(a, b int64) (int64, bool)
axis func (p Point) Good() bool
axis func (p Point) Plus(q Point) (Point, error)
axis func (p Point) Less(q Point) bool
axis func Six() [6]Point
axis func (o Operator) Good() bool
axis func (o Operator) On(p Point) (Point, error)
axis func (o Operator) Then(p Operator) Operator
axis func (o Operator) Back() Operator
fault func (f *Fault) Error() string
fault func (f *Fault) Unwrap() error
fault func Wrap(what string, at int, err error) error
fault func CodeOf(err error) api.Code
fault func Place(err error, what string) (int, bool)
fault func Depth(err error) int
fault func Is(err, from error) bool
cell func (l Lattice) Good() bool
cell func (l Lattice) Halves() int
cell func (l Lattice) Name() string
cell func Named(s string) Lattice
cell func (l Lattice) Check(c Cell) error
cell func Compare(c, d Cell) int
cell func (l Lattice) Beside(c Cell) ([]Cell, error)
cell func (l Lattice) On(o axis.Operator, c Cell) (Cell, error)
set func Of(l ...cell.Cell) Set
set func (s Set) Has(c cell.Cell) bool
set func (s Set) Put(c cell.Cell, live bool) Set
set func (s Set) Same(t Set) bool
set func (s Set) Check(l cell.Lattice) error
set func (s Set) Box() (Box, bool)
set func (s Set) Shift(by axis.Point) (Set, error)
set func (s Set) Turn(l cell.Lattice, o axis.Operator) (Set, error)
table func (t Table) Check() error
table func (t Table) Next(half int, live bool, n int) bool
table func Ring(ring int) Class
table func Classes() []Class
table func Rings(c Class) uint64
rule func Parse(s string) (table.Table, error)
rule func Total(rings uint64) bool
rule func Text(t table.Table) string
iso func Check(t table.Table) (Witness, bool, error)
iso func Keeps(t table.Table, o axis.Operator) bool
flat func Step(t table.Table, s set.Set) (set.Set, error)
flat func Steps(t table.Table, s set.Set, n int) (set.Set, error)
site func (f Leaf) State(a, b int) int
site func (f Leaf) Put(a, b, state int) Leaf
site func (f Leaf) Count() int
site func (f Leaf) Cells(low axis.Point) []cell.Cell
site func Low(p axis.Point) axis.Point
site func (f Leaf) With(c cell.Cell, live bool) Leaf
site func Leaves(s set.Set) map[axis.Point]Leaf
block func New(t table.Table) (*Kernel, error)
block func (k *Kernel) Table() table.Table
block func Of(quarters [4]site.Leaf) Block
block func (x Block) State(a, b int) int
block func (k *Kernel) Step(x Block) Block
block func (x Block) Middle() site.Leaf
block func (x Block) Quarters() [4]site.Leaf
block func (x Block) Empty() bool
leaf func New(k *block.Kernel, most int) *Memo
leaf func (m *Memo) Made() int
leaf func (m *Memo) Kept() int
leaf func (m *Memo) Clear()
leaf func (m *Memo) Result(quarters [4]site.Leaf, n int) site.Leaf
arena func New(most int) *Arena
arena func (a *Arena) Len() int
arena func (a *Arena) Most() int
arena func (a *Arena) SetMost(n int) error
arena func (a *Arena) Leaf(f site.Leaf) (uint32, error)
arena func (a *Arena) Join(kids [4]uint32) (uint32, error)
arena func (a *Arena) Empty(level int) (uint32, error)
arena func (a *Arena) Level(i uint32) int
arena func (a *Arena) Bits(i uint32) site.Leaf
arena func (a *Arena) Kids(i uint32) [4]uint32
arena func (a *Arena) Count(i uint32) uint64
tree func Half(level int) int64
tree func Inside(level int, p axis.Point) bool
tree func Level(b set.Box) int
tree func Get(a *arena.Arena, root uint32, c cell.Cell) bool
tree func Put(a *arena.Arena, root uint32, c cell.Cell, live bool) (uint32, error)
tree func Build(a *arena.Arena, s set.Set) (uint32, error)
tree func Cells(a *arena.Arena, root uint32, most int) (set.Set, error)
tree func Box(a *arena.Arena, root uint32) (set.Box, bool)
square func Expand(a *arena.Arena, root uint32) (uint32, error)
square func Fit(a *arena.Arena, root uint32, level int) (uint32, error)
square func Leaves(a *arena.Arena, at uint32) [4]site.Leaf
square func Centre(a *arena.Arena, at uint32) (uint32, error)
square func Trim(a *arena.Arena, root uint32) (uint32, error)
square func Nine(a *arena.Arena, at uint32) ([9]uint32, error)
life func New(a *arena.Arena, k *block.Kernel) *Life
life func (l *Life) Kernel() *block.Kernel
life func (l *Life) Known() int
life func (l *Life) Forget()
life func (l *Life) Result(at uint32, exp int) (uint32, error)
jump func Leap(l *life.Life, root uint32, exp int) (uint32, error)
jump func Jump(l *life.Life, root uint32, n int) (uint32, error)
jump func Steps(l *life.Life, root uint32, see func(root uint32) bool) (uint32, int, error)
sweep func Reach(a *arena.Arena, roots ...uint32) (int, error)
sweep func Copy(from, to *arena.Arena, roots ...uint32) ([]uint32, error)
sweep func Collect(a *arena.Arena, roots ...uint32) (*arena.Arena, []uint32, error)
turn func Turn(a *arena.Arena, root uint32, l cell.Lattice, o axis.Operator) (uint32, error)
turn func Shift(a *arena.Arena, root uint32, by axis.Point) (uint32, error)
turn func Mix(a *arena.Arena, x, y uint32, how int) (uint32, error)
bound func Extent(b set.Box) int64
bound func Cells(population uint64, n int) uint64
bound func Level(extent int64, n int) int
bound func Nodes(population uint64, n int, extent int64) uint64
runs func Encode(l cell.Lattice, s set.Set) (string, error)
runs func Decode(l cell.Lattice, text string, from int) (set.Set, error)
pattern func Write(p Pattern) (string, error)
pattern func Read(text string) (Pattern, error)
pattern func (p Pattern) Home() Pattern
world func New(text string, most int) (*World, error)
world func (w *World) Table() table.Table
world func (w *World) Rule() string
world func (w *World) Generation() uint64
world func (w *World) Population() uint64
world func (w *World) Box() (set.Box, bool)
world func (w *World) Budget() int
world func (w *World) Nodes() int
world func (w *World) Collect() error
world func (w *World) Forget()
world func (w *World) SetBudget(n int) error
world func (w *World) Get(c cell.Cell) (bool, error)
world func (w *World) Put(c cell.Cell, live bool) error
world func (w *World) Mix(s set.Set, how int) error
world func (w *World) Cells(most int) (set.Set, error)
world func (w *World) Jump(n int) error
world func (w *World) Turn(o axis.Operator) error
world func (w *World) Shift(by axis.Point) error
world func (w *World) Clear() error
world func (w *World) SetRule(text string) error
world func (w *World) Load(text string) error
world func (w *World) Save(notes ...string) (string, error)
script func Parse(s string) (Line, error)
script func Quote(s string) string
script func Unquote(s string) string
script func (l Line) String() string
session func New(rule string, budget int) (*Session, error)
session func (s *Session) World() *world.World
session func (s *Session) Done() int
session func (s *Session) Do(l script.Line) ([]string, error)
session func Told(e error) string
session func (s *Session) Reply(text string) []string
session func (s *Session) Run(text string) string
`

func TestCalls(t *testing.T) {
	seen := map[string]struct{}{}
	for _, s := range sources(t) {
		for _, d := range s.file.Decls {
			if f, ok := d.(*ast.FuncDecl); ok && f.Name.IsExported() {
				seen[s.pack+" "+signature(t, s, f)] = struct{}{}
			}
		}
	}
	for _, call := range strings.Split(strings.TrimSpace(calls), "\n") {
		if _, ok := seen[call]; !ok {
			t.Errorf("no %s", call)
		}
	}
}

// signature is how a function is declared, without its remark and its body.
func signature(t *testing.T, s source, f *ast.FuncDecl) string {
	t.Helper()
	var text bytes.Buffer
	head := &ast.FuncDecl{Recv: f.Recv, Name: f.Name, Type: f.Type}
	if err := printer.Fprint(&text, s.fset, head); err != nil {
		t.Fatal(err)
	}
	return text.String()
}
