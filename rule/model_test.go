package rule_test

import (
	"math/bits"
	"regexp"
	"strconv"
	"strings"

	"honeycomb/api"
	"honeycomb/cell"
	"honeycomb/table"
)

// The three forms by patterns: a slow second reading of the chapter's words, against which Parse is held.
const (
	classCounts    = `0?1?(?:2o?m?p?)?(?:3o?m?p?)?(?:4o?m?p?)?5?6?`
	triangleCounts = `0?1?2?3?4?5?6?7?8?9?a?b?c?`
)

var (
	byClasses   = regexp.MustCompile(`\AB(` + classCounts + `)/S(` + classCounts + `)H\z`)
	byRings     = regexp.MustCompile(`\AG([0-9a-f]{16})([0-9a-f]{16})\z`)
	ofTriangles = regexp.MustCompile(`\AB(` + triangleCounts + `)/S(` + triangleCounts + `)(:B(` + triangleCounts + `)/S(` + triangleCounts + `))?([EV])\z`)
)

// form is one of the three, with texts that end what is well begun: one of them fits behind each beginning of a rule.
type form struct {
	whole *regexp.Regexp
	ends  []string
}

func formOf(s string) form {
	switch {
	case strings.HasPrefix(s, "G"):
		f := form{whole: byRings}
		for n := range 34 {
			f.ends = append(f.ends, strings.Repeat("0", n))
		}
		return f
	case strings.HasSuffix(s, "E") || strings.HasSuffix(s, "V"):
		return form{ofTriangles, []string{"B/SE", "/SE", "SE", "E", ""}}
	}
	return form{byClasses, []string{"B/SH", "/SH", "SH", "H", ""}}
}

// begins: is there a rule of this form that begins so?
func (f form) begins(s string) bool {
	for _, end := range f.ends {
		if f.whole.MatchString(s + end) {
			return true
		}
	}
	return false
}

// answer is what Parse answers: a table, or a code and a byte.
type answer struct {
	table table.Table
	code  api.Code
	at    int
}

// model is the answer of any text, by the chapter's words.
func model(s string) answer {
	if len(s) > 100 {
		return answer{code: api.ErrBig, at: 100}
	}
	f := formOf(s)
	for i := range len(s) {
		if !f.begins(s[:i+1]) {
			return answer{code: api.ErrForm, at: i}
		}
	}
	found := f.whole.FindStringSubmatch(s)
	if found == nil {
		return answer{code: api.ErrEnd, at: len(s)}
	}
	t := modelTable(f, found)
	if !mayBe(t) {
		return answer{code: api.ErrRule}
	}
	return answer{table: t}
}

func modelTable(f form, found []string) table.Table {
	switch f.whole {
	case byClasses:
		return table.Table{Lattice: api.Hex, Born: [2]uint64{ringsOf(found[1])}, Stay: [2]uint64{ringsOf(found[2])}}
	case byRings:
		return table.Table{Lattice: api.Hex, Born: [2]uint64{number(found[1])}, Stay: [2]uint64{number(found[2])}}
	}
	born, stay := countsOf(found[1]), countsOf(found[2])
	t := table.Table{Lattice: api.Edge, Born: [2]uint64{born, born}, Stay: [2]uint64{stay, stay}}
	if found[3] != "" {
		t.Born[1], t.Stay[1] = countsOf(found[4]), countsOf(found[5])
	}
	if found[6] == "V" {
		t.Lattice = api.Vertex
	}
	return t
}

func number(s string) uint64 {
	n, err := strconv.ParseUint(s, 16, 64)
	if err != nil {
		panic(err)
	}
	return n
}

// ringsOf asks of each ring whether the counts name it: its count alone, or with its letter.
func ringsOf(counts string) uint64 {
	var rings uint64
	for ring := range 64 {
		_, behind, there := strings.Cut(counts, strconv.Itoa(bits.OnesCount(uint(ring))))
		letters := behind[:len(behind)-len(strings.TrimLeft(behind, "omp"))]
		if there && (letters == "" || strings.IndexByte(letters, letterOf(ring)) >= 0) {
			rings |= 1 << ring
		}
	}
	return rings
}

// letterOf is that of a ring of 2, 3 or 4, looked up by how its bits stand, begun at any of them, in one or the other direction.
func letterOf(ring int) byte {
	letters := map[string]byte{
		"110000": 'o', "101000": 'm', "100100": 'p',
		"111000": 'o', "110100": 'm', "101010": 'p',
		"111100": 'o', "111010": 'm', "110110": 'p',
	}
	for from := range 6 {
		for _, step := range []int{1, 5} {
			var way []byte
			for i := range 6 {
				way = append(way, "01"[ring>>((from+i*step)%6)&1])
			}
			if letter := letters[string(way)]; letter != 0 {
				return letter
			}
		}
	}
	return 0
}

func countsOf(digits string) uint64 {
	var counts uint64
	for n := range 13 {
		if strings.Contains(digits, strconv.FormatInt(int64(n), 16)) {
			counts |= 1 << n
		}
	}
	return counts
}

// mayBe: may there be this table, by the chapter's words?
func mayBe(t table.Table) bool {
	most := map[cell.Lattice]int{api.Hex: 63, api.Edge: 3, api.Vertex: 12}[t.Lattice]
	for half := range 2 {
		for bit := range 64 {
			born, stay := t.Born[half]>>bit&1 == 1, t.Stay[half]>>bit&1 == 1
			if born && bit == 0 || (born || stay) && (bit > most || t.Lattice == api.Hex && half == 1) {
				return false
			}
		}
	}
	return true
}

// modelText is the canonical text of a table, put together of all that might stand in it.
func modelText(t table.Table) string {
	if t.Lattice == api.Hex {
		born, wholeBorn := classTexts(t.Born[0])
		stay, wholeStay := classTexts(t.Stay[0])
		if wholeBorn && wholeStay {
			return "B" + born + "/S" + stay + "H"
		}
		all := strings.Repeat("0", 16) + strconv.FormatUint(t.Born[0], 16)
		text := "G" + all[len(all)-16:]
		all = strings.Repeat("0", 16) + strconv.FormatUint(t.Stay[0], 16)
		return text + all[len(all)-16:]
	}
	up, down := digitsOf(t.Born[0])+"/S"+digitsOf(t.Stay[0]), digitsOf(t.Born[1])+"/S"+digitsOf(t.Stay[1])
	text := "B" + up
	if up != down {
		text += ":B" + down
	}
	return text + map[cell.Lattice]string{api.Edge: "E", api.Vertex: "V"}[t.Lattice]
}

func digitsOf(counts uint64) string {
	text := ""
	for n := range 13 {
		if counts>>n&1 == 1 {
			text += strconv.FormatInt(int64(n), 16)
		}
	}
	return text
}

// classTexts is the counts of rings, and are they of whole classes? It takes the shortest of the counts that mean just these.
func classTexts(rings uint64) (string, bool) {
	text := ""
	for _, ways := range [][]string{
		{"", "0"}, {"", "1"}, lettered("2"), lettered("3"), lettered("4"), {"", "5"}, {"", "6"},
	} {
		of := ringsOf(ways[1])
		i := 0
		for i < len(ways) && ringsOf(ways[i]) != rings&of {
			i++
		}
		if i == len(ways) {
			return "", false
		}
		text += ways[i]
	}
	return text, true
}

func lettered(count string) []string {
	return []string{"", count, count + "o", count + "m", count + "p", count + "om", count + "op", count + "mp"}
}
