package rule_test

import (
	"math"
	"math/rand"
	"slices"
	"strings"
	"testing"

	"honeycomb/api"
	"honeycomb/fault"
	"honeycomb/rule"
	"honeycomb/table"
)

// The calls have just these signatures.
var (
	_ func(string) (table.Table, error) = rule.Parse
	_ func(uint64) bool                 = rule.Total
	_ func(table.Table) string          = rule.Text
	_ [100]int                          = [rule.MaxRule]int{}
)

// bytesOfRules is all bytes that stand in some rule.
const bytesOfRules = "BSGHEV/:0123456789abcdefomp"

// rules are texts of all forms that are read.
var rules = []string{
	"B/SH", "B2/S34H", "B2om/S3pH", "B2omp/SH", "B2o3m4p/S2mp3op4omH", "B123456/S0123456H", "B2op5/S03m6H", "B4omp5/S2o3oH",
	"B12/S1E", "B/SE", "B/SV", "B123/S0123E", "B1/S2:B3/S0E", "B1/S2:B1/S2E", "B/S:B/SV",
	"B4/S3:B5/S3V", "B123456789abc/S0123456789abcV", "B123456789abc/S0123456789abc:B123456789abc/S0123456789abcV", "Bac/S9b:Bb/S0cV",
	"G00000000000000000000000000000000", "Gfffffffffffffffeffffffffffffffff", "G0123456789abcdee0123456789abcdef", "G00000000000000028000000000000001",
}

// told: is it a fault with "rule", that byte, and that code right behind it?
func told(err error, at int, code api.Code) bool {
	f, ok := err.(*fault.Fault)
	return ok && f.What == "rule" && f.At == at && f.Err == error(code)
}

// holds: does Parse answer of a text what the model does?
func holds(t *testing.T, s string) {
	t.Helper()
	want := model(s)
	x, err := rule.Parse(s)
	if x != want.table {
		t.Fatalf("Parse(%q) = %v, not %v", s, x, want.table)
	}
	if want.code == 0 && err != nil || want.code != 0 && !told(err, want.at, want.code) {
		t.Fatalf("Parse(%q): %v, not %v at %d", s, err, want.code, want.at)
	}
}

func TestParse(t *testing.T) {
	one := func(c ...table.Class) uint64 {
		var rings uint64
		for _, c := range c {
			rings |= table.Rings(c)
		}
		return rings
	}
	two := []table.Class{{Count: 2, Letter: 'o'}, {Count: 2, Letter: 'm'}, {Count: 2, Letter: 'p'}}
	for s, want := range map[string]table.Table{
		"B2/SH":                             {Lattice: api.Hex, Born: [2]uint64{one(two...)}},
		"B2omp/SH":                          {Lattice: api.Hex, Born: [2]uint64{one(two...)}},
		"B2mp/S2oH":                         {Lattice: api.Hex, Born: [2]uint64{one(two[1:]...)}, Stay: [2]uint64{one(two[0])}},
		"B6/S05H":                           {Lattice: api.Hex, Born: [2]uint64{1 << 63}, Stay: [2]uint64{one(table.Class{}, table.Class{Count: 5})}},
		"G80000000000000020000000000000001": {Lattice: api.Hex, Born: [2]uint64{1<<63 | 2}, Stay: [2]uint64{1}},
		"B12/S1E":                           {Lattice: api.Edge, Born: [2]uint64{6, 6}, Stay: [2]uint64{2, 2}},
		"B1/S:B/S3E":                        {Lattice: api.Edge, Born: [2]uint64{2, 0}, Stay: [2]uint64{0, 8}},
		"Babc/S09V":                         {Lattice: api.Vertex, Born: [2]uint64{0x1c00, 0x1c00}, Stay: [2]uint64{0x201, 0x201}},
		"B4/S3:B5/S3V":                      {Lattice: api.Vertex, Born: [2]uint64{16, 32}, Stay: [2]uint64{8, 8}},
	} {
		if x, err := rule.Parse(s); err != nil || x != want {
			t.Errorf("Parse(%q) = %v, %v", s, x, err)
		}
	}
}

func TestParseTellsTheByte(t *testing.T) {
	for _, x := range []struct {
		s    string
		at   int
		code api.Code
	}{
		{"", 0, api.ErrEnd}, {"B", 1, api.ErrEnd}, {"B2/S34", 6, api.ErrEnd}, {"B2o", 3, api.ErrEnd}, {"G", 1, api.ErrEnd}, {"G" + strings.Repeat("0", 31), 32, api.ErrEnd},
		{"H", 0, api.ErrForm}, {"E", 0, api.ErrForm}, {"V", 0, api.ErrForm}, {"BH", 1, api.ErrForm}, {"BE", 1, api.ErrForm}, {"B/V", 2, api.ErrForm}, {"b/SH", 0, api.ErrForm}, {"B/sH", 2, api.ErrForm}, {"B/Sh", 3, api.ErrForm},
		{"B7/SH", 1, api.ErrForm}, {"Ba/SH", 1, api.ErrForm}, {"Bd/SV", 1, api.ErrForm}, {"BA/SV", 1, api.ErrForm},
		{"B22/SH", 2, api.ErrForm}, {"B2o2m/SH", 3, api.ErrForm}, {"B/S43H", 4, api.ErrForm}, {"B11/SE", 2, api.ErrForm}, {"B/S:B/Sa9V", 8, api.ErrForm},
		{"B2mo/SH", 3, api.ErrForm}, {"B3po/SH", 3, api.ErrForm}, {"B4pm/SH", 3, api.ErrForm}, {"B2oo/SH", 3, api.ErrForm}, {"B2ompo/SH", 5, api.ErrForm}, {"B2q/SH", 2, api.ErrForm},
		{"Bo/SH", 1, api.ErrForm}, {"B1o/SH", 2, api.ErrForm}, {"B/S5mH", 4, api.ErrForm}, {"B6p/SH", 2, api.ErrForm}, {"B2o/SE", 2, api.ErrForm}, {"B2/S3mV", 5, api.ErrForm},
		{"B1\x00/SH", 2, api.ErrForm}, {"B\x00/SH", 1, api.ErrForm}, {"B2\x00/SE", 2, api.ErrForm}, {"B2/SH\x00", 5, api.ErrForm}, {" B2/SH", 0, api.ErrForm}, {"B2/SH\n", 5, api.ErrForm},
		{"B1/S:V", 5, api.ErrForm}, {"B1/S:B1/S:B1/SV", 9, api.ErrForm}, {"B1/S:B1/SH", 4, api.ErrForm}, {"B1/S:", 4, api.ErrForm}, {":B1/SE", 0, api.ErrForm},
		{"B1/SEE", 5, api.ErrForm}, {"B1/SEV", 5, api.ErrForm}, {"B1/SEH", 4, api.ErrForm}, {"B1/SHE", 4, api.ErrForm}, {"B2/S34HH", 7, api.ErrForm},
		{"GE", 1, api.ErrForm}, {"GH", 1, api.ErrForm}, {"GB/SH", 1, api.ErrForm}, {"G0000000000000000000000000000000A", 32, api.ErrForm}, {"G00000000000000000000000000000000H", 33, api.ErrForm}, {"G000000000000000000000000000000000", 33, api.ErrForm}, {"Gg", 1, api.ErrForm},
		{"B0/SH", 0, api.ErrRule}, {"B012/S3H", 0, api.ErrRule}, {"B0/SE", 0, api.ErrRule}, {"B0/SV", 0, api.ErrRule}, {"B1/S:B0/SV", 0, api.ErrRule}, {"B4/SE", 0, api.ErrRule}, {"B/ScE", 0, api.ErrRule}, {"B1/S:B/S4E", 0, api.ErrRule}, {"G00000000000000010000000000000000", 0, api.ErrRule},
		{"B0/S", 4, api.ErrEnd}, {"B0/SHH", 5, api.ErrForm}, {"B4/SEE", 5, api.ErrForm},
		{"B２/SH", 1, api.ErrForm}, {"\xff", 0, api.ErrForm}, {"\xffV", 0, api.ErrForm},
	} {
		if y, err := rule.Parse(x.s); y != (table.Table{}) || !told(err, x.at, x.code) {
			t.Errorf("Parse(%q) = %v, %v", x.s, y, err)
		}
		if want := model(x.s); want.code != x.code || want.at != x.at {
			t.Errorf("the model of %q: %v at %d", x.s, want.code, want.at)
		}
	}
}

func TestParseOfLongTexts(t *testing.T) {
	for _, x := range []struct {
		s    string
		at   int
		code api.Code
	}{
		{strings.Repeat("B", 100), 1, api.ErrForm},
		{strings.Repeat("B", 101), 100, api.ErrBig},
		{"B2/SH" + strings.Repeat("H", 95), 5, api.ErrForm},
		{"B2/SH" + strings.Repeat("H", 96), 100, api.ErrBig},
		{"G" + strings.Repeat("0", 99), 33, api.ErrForm},
		{"G" + strings.Repeat("0", 100), 100, api.ErrBig},
		{"x" + strings.Repeat("V", 99), 0, api.ErrForm},
		{"x" + strings.Repeat("V", 100), 100, api.ErrBig},
		{strings.Repeat("B0/SH", 1<<16), 100, api.ErrBig},
	} {
		if y, err := rule.Parse(x.s); y != (table.Table{}) || !told(err, x.at, x.code) {
			t.Errorf("Parse of %d bytes = %v, %v", len(x.s), y, err)
		}
	}
}

func TestParseOfTextsThatAreCutOff(t *testing.T) {
	for _, s := range rules {
		if want := model(s); want.code != 0 {
			t.Fatalf("%q is no rule: %v at %d", s, want.code, want.at)
		}
		for i := range len(s) + 1 {
			holds(t, s[:i])
			holds(t, s[i:])
		}
	}
}

func TestParseOfTextsWithAWrongByte(t *testing.T) {
	for _, s := range rules {
		for i := range len(s) + 1 {
			for b := range 256 {
				if !strings.Contains(bytesOfRules, string(rune(b))) && b%16 != i%16 {
					continue
				}
				wrong := string([]byte{byte(b)})
				holds(t, s[:i]+wrong+s[i:])
				if i < len(s) {
					holds(t, s[:i]+wrong+s[i+1:])
				}
			}
		}
	}
}

func TestParseWithoutAByte(t *testing.T) {
	for _, s := range rules {
		for i := range len(s) {
			holds(t, s[:i]+s[i+1:])
		}
	}
}

// All letters behind each count, in each order.
func TestParseOfLetters(t *testing.T) {
	behind := []string{""}
	for n := 0; n < len(behind); n++ {
		if len(behind[n]) < 4 {
			behind = append(behind, behind[n]+"o", behind[n]+"m", behind[n]+"p")
		}
	}
	for _, count := range strings.Split("0123456789abc", "") {
		for _, letters := range behind {
			for _, last := range []string{"H", "E", "V"} {
				holds(t, "B"+count+letters+"/S"+last)
				holds(t, "B1/S"+count+letters+last)
			}
		}
	}
}

// All three counts one behind the other, rising or not.
func TestParseOfCountsThatDoNotRise(t *testing.T) {
	const digits = "0123456789abcd"
	for i := range len(digits) {
		for j := range len(digits) {
			for k := range len(digits) {
				counts := string([]byte{digits[i], digits[j], digits[k]})
				for _, last := range []string{"H", "E", "V"} {
					holds(t, "B/S"+counts+last)
				}
				holds(t, "B"+counts[1:]+"/S:B"+counts[:1]+"/SV")
			}
		}
	}
}

func TestParseOfShortTexts(t *testing.T) {
	texts := []string{""}
	for n := 0; n < len(texts); n++ {
		holds(t, texts[n])
		if len(texts[n]) == 3 {
			continue
		}
		for _, b := range bytesOfRules {
			texts = append(texts, texts[n]+string(b))
		}
	}
}

// Beginnings and ends of rules, put together, go wrong in more than one place.
func TestParseOfMixedTexts(t *testing.T) {
	r := rand.New(rand.NewSource(8))
	for range 20000 {
		s, u := rules[r.Intn(len(rules))], rules[r.Intn(len(rules))]
		mixed := []byte(s[:r.Intn(len(s)+1)] + u[r.Intn(len(u)+1):])
		for range r.Intn(3) {
			if len(mixed) > 0 {
				mixed[r.Intn(len(mixed))] = bytesOfRules[r.Intn(len(bytesOfRules))]
			}
		}
		holds(t, string(mixed))
	}
}

func FuzzParse(f *testing.F) {
	for _, s := range rules {
		f.Add(s)
	}
	f.Fuzz(func(t *testing.T, s string) {
		holds(t, s)
	})
}

func TestTotal(t *testing.T) {
	classes := table.Classes()
	for some := range 1 << len(classes) {
		var rings uint64
		for i, c := range classes {
			if some>>i&1 == 1 {
				rings |= table.Rings(c)
			}
		}
		if !rule.Total(rings) {
			t.Fatalf("Total(%x) is false", rings)
		}
		// Another ring leaves all classes whole only where it is alone in its own.
		ring := some % 64
		if rule.Total(rings^1<<ring) != (ring == 0 || ring == 63) {
			t.Fatalf("Total(%x)", rings^1<<ring)
		}
	}
	if !rule.Total(0) || !rule.Total(math.MaxUint64) {
		t.Error("none, or all")
	}
}

func TestTotalOfAnyRings(t *testing.T) {
	r := rand.New(rand.NewSource(9))
	for range 2000 {
		rings := r.Uint64() & r.Uint64()
		if _, whole := classTexts(rings); rule.Total(rings) != whole {
			t.Fatalf("Total(%x) = %v", rings, !whole)
		}
	}
}

func TestText(t *testing.T) {
	for s, want := range map[string]string{
		"B2omp/SH": "B2/SH", "B2o3omp4m/S4ompH": "B2o34m/S4H", "B2om/S3pH": "B2om/S3pH", "B/SH": "B/SH", "B2/S34H": "B2/S34H",
		"G00000000000000000000000000000001": "B/S0H", "G8000000000000000ffffffffffffffff": "B6/S0123456H", "G00000000000000000000000000000000": "B/SH",
		"G00000000000000020000000000000000": "G00000000000000020000000000000000", "G00000000000000000000000000000002": "G00000000000000000000000000000002",
		"B12/S1E": "B12/S1E", "B12/S1:B12/S1E": "B12/S1E", "B12/S1:B12/SE": "B12/S1:B12/SE", "B12/S1:B1/S1E": "B12/S1:B1/S1E", "B/S:B/SV": "B/SV", "B/S:B/S0V": "B/S:B/S0V",
		"Babc/S0V": "Babc/S0V", "B4/S3:B4/S3V": "B4/S3V",
	} {
		x, err := rule.Parse(s)
		if text := rule.Text(x); err != nil || text != want {
			t.Errorf("Text of %q = %q, %v", s, text, err)
		}
	}
}

// back: is the canonical text of a table that of the model, and read as it? (So no other table has it.)
func back(t *testing.T, x table.Table) {
	t.Helper()
	if err := x.Check(); err != nil {
		t.Fatalf("%v may not be", x)
	}
	text := rule.Text(x)
	if want := modelText(x); text != want {
		t.Fatalf("Text(%v) = %q, not %q", x, text, want)
	}
	if y, err := rule.Parse(text); err != nil || y != x {
		t.Fatalf("%q, of %v, is read as %v, %v", text, x, y, err)
	}
	if rule.Text(x) != text {
		t.Fatalf("Text(%v) has two answers", x)
	}
}

func TestThereAndBackOfClasses(t *testing.T) {
	classes := table.Classes()
	r := rand.New(rand.NewSource(10))
	for some := range 1 << len(classes) {
		x := table.Table{Lattice: api.Hex}
		other := r.Intn(1 << len(classes))
		for i, c := range classes {
			if some>>i&1 == 1 {
				x.Stay[0] |= table.Rings(c)
			}
			if i > 0 && other>>i&1 == 1 {
				x.Born[0] |= table.Rings(c)
			}
		}
		if some%16 == 0 {
			back(t, x)
			x.Stay[0], x.Born[0] = x.Born[0], x.Stay[0]&^1
			back(t, x)
		}
		if text := rule.Text(x); text[0] != 'B' || strings.Contains(text, "omp") {
			t.Fatalf("Text(%v) = %q", x, text)
		}
	}
}

func TestThereAndBackOfRings(t *testing.T) {
	r := rand.New(rand.NewSource(11))
	for ring := range 64 {
		back(t, table.Table{Lattice: api.Hex, Stay: [2]uint64{1 << ring}})
		back(t, table.Table{Lattice: api.Hex, Stay: [2]uint64{^uint64(1 << ring)}})
		if ring > 0 {
			back(t, table.Table{Lattice: api.Hex, Born: [2]uint64{1 << ring}})
		}
		back(t, table.Table{Lattice: api.Hex, Born: [2]uint64{r.Uint64() &^ 1}, Stay: [2]uint64{r.Uint64()}})
		// One of both whole isn't enough.
		back(t, table.Table{Lattice: api.Hex, Born: [2]uint64{r.Uint64() &^ 1}, Stay: [2]uint64{math.MaxUint64}})
		back(t, table.Table{Lattice: api.Hex, Born: [2]uint64{math.MaxUint64 - 1}, Stay: [2]uint64{r.Uint64()}})
	}
}

func TestThereAndBackOfTriangles(t *testing.T) {
	for n := range uint64(1 << 14) {
		x := table.Table{Lattice: api.Edge}
		x.Born = [2]uint64{n & 7 << 1, n >> 3 & 7 << 1}
		x.Stay = [2]uint64{n >> 6 & 15, n >> 10 & 15}
		back(t, x)
	}
	r := rand.New(rand.NewSource(12))
	for range 4000 {
		x := table.Table{Lattice: api.Vertex}
		for half := range 2 {
			x.Born[half], x.Stay[half] = r.Uint64()&0x1ffe, r.Uint64()&0x1fff
		}
		back(t, x)
		x.Born[1] = x.Born[0]
		back(t, x)
		x.Stay[1] = x.Stay[0]
		back(t, x)
	}
}

// What is read of any rule has a canonical text that is one of them, and not longer than a rule may be.
func TestTextOfWhatIsRead(t *testing.T) {
	for _, s := range rules {
		x, err := rule.Parse(s)
		if err != nil {
			t.Fatal(err)
		}
		back(t, x)
		if len(rule.Text(x)) > rule.MaxRule {
			t.Errorf("Text of %q is too long", s)
		}
	}
	if !slices.ContainsFunc(rules, func(s string) bool { x, _ := rule.Parse(s); return rule.Text(x) != s }) {
		t.Error("all rules are canonical")
	}
}
