package turtle

import (
	"fmt"
	"math/rand"
	"slices"
	"strings"
	"sync"
	"testing"

	"trine/api"
	"trine/lines"
)

func prints(t *testing.T, list []api.Triple, names []api.Name, want string) {
	t.Helper()
	text, number, place := Print(list, names)
	if text != want || number != api.OK || place != 0 {
		t.Errorf("Print(%v, %v) = %q, %d, %d, want %q", list, names, text, number, place, want)
	}
}

func prefixed(names ...api.Name) string {
	out := ""
	for _, n := range names {
		out += "@prefix " + n.Short + ": " + n.Long + " .\n"
	}
	return out
}

func TestU2SubjectsVerbsAndObjects(t *testing.T) {
	prints(t, nil, nil, "")
	prints(t, nil, []api.Name{{Short: "p", Long: "<a:>"}, {Short: "", Long: "<a:>"}}, "@prefix p: <a:> .\n@prefix : <a:> .\n")
	prints(t, []api.Triple{{S: "<a:s>", P: "<a:v>", O: "<a:o>"}}, nil, "<a:s> <a:v> <a:o> .\n")
	prints(t, []api.Triple{
		{S: "_:b", P: "<a:v>", O: "_:c"},
		{S: "<a:s>", P: "<a:w>", O: "<a:o>"},
		{S: "<a:s>", P: "<a:v>", O: "<a:p>"},
		{S: "<a:s>", P: "<a:v>", O: `"x"`},
		{S: "<a:s>", P: "<a:v>", O: "<a:o>"},
		{S: "<a:r>", P: "<a:v>", O: "<a:o>"},
		{S: "<a:s>", P: "<a:w>", O: "<a:o>"},
		{S: "<a:s>", P: isOf, O: isOf},
	}, nil, "<a:r> <a:v> <a:o> .\n<a:s> <a:v> \"x\" , <a:o> , <a:p> ;\n\t<a:w> <a:o> ;\n\ta "+isOf+" .\n_:b <a:v> _:c .\n")
	// a verb stands again behind another subject, and an object behind another verb
	prints(t, []api.Triple{{S: "<a:s>", P: "<a:v>", O: "<a:o>"}, {S: "<a:t>", P: "<a:v>", O: "<a:o>"}, {S: "<a:t>", P: "<a:w>", O: "<a:o>"}}, nil,
		"<a:s> <a:v> <a:o> .\n<a:t> <a:v> <a:o> ;\n\t<a:w> <a:o> .\n")
}

// object is a sentence with the term as its object, and how its text begins.
func object(form string) ([]api.Triple, string) {
	return []api.Triple{{S: "<s:>", P: "<s:>", O: form}}, "<s:> <s:> "
}

func TestU2TextsOfIRIs(t *testing.T) {
	names := []api.Name{{Short: "p", Long: "<a:>"}, {Short: "", Long: "<a:b/>"}, {Short: "q", Long: "<a:b/>"}, {Short: "r", Long: "<a:b/c>"}, {Short: "t", Long: "<" + rdf + ">"}}
	for _, c := range []struct{ form, want string }{
		{"<a:>", "p:"}, {"<a:x>", "p:x"}, {"<a:b>", "p:b"}, {"<a:-_1Z>", "p:-_1Z"}, {"<a:" + x(20) + ">", "p:" + x(20)}, {"<a:" + x(21) + ">", "<a:" + x(21) + ">"},
		{"<a:b/>", ":"}, {"<a:b/x>", ":x"}, {"<a:b/c>", "r:"}, {"<a:b/cx>", "r:x"}, {"<a:b/c" + x(20) + ">", "r:" + x(20)}, {"<a:b/c" + x(21) + ">", "<a:b/c" + x(21) + ">"},
		{"<a:x/>", "<a:x/>"}, {"<a:x.y>", "<a:x.y>"}, {"<a:é>", "<a:é>"}, {"<a:x:y>", "<a:x:y>"}, {"<b:a:x>", "<b:a:x>"}, {"<A:x>", "<A:x>"}, {isOf, "t:type"}, {nilIRI, "t:nil"}, {"_:b", "_:b"},
	} {
		list, ahead := object(c.form)
		prints(t, list, names, prefixed(names...)+ahead+c.want+" .\n")
	}
	prints(t, []api.Triple{{S: "<a:x>", P: "<a:y>", O: "<a:z>"}, {S: isOf, P: isOf, O: isOf}}, names, prefixed(names...)+"p:x p:y p:z .\nt:type a t:type .\n")
	// of several the longest, wherever it stands; of these the first
	names = []api.Name{{Short: "l2", Long: "<a:bc>"}, {Short: "l1", Long: "<a:b>"}, {Short: "l4", Long: "<a:bcd>"}, {Short: "l5", Long: "<a:bcd>"}, {Short: "l0", Long: "<a:>"}}
	for form, want := range map[string]string{"<a:bcde>": "l4:e", "<a:bcde/>": "<a:bcde/>", "<a:bce>": "l2:e", "<a:be>": "l1:e", "<a:e>": "l0:e", "<a:bc>": "l2:"} {
		list, ahead := object(form)
		prints(t, list, names, prefixed(names...)+ahead+want+" .\n")
	}
}

func TestU2TextsOfLiterals(t *testing.T) {
	names := []api.Name{{Short: "p", Long: "<a:>"}, {Short: "xsd", Long: "<" + xsd + ">"}}
	integer, boolean := "^^<"+xsd+"integer>", "^^<"+xsd+"boolean>"
	for _, c := range []struct{ form, want string }{
		{`"x"`, `"x"`}, {`""`, `""`}, {`"5"`, `"5"`}, {`"true"`, `"true"`}, {`"\n\"\\"`, `"\n\"\\"`}, {`"x"@en-gb`, `"x"@en-gb`}, {`"5"@en`, `"5"@en`}, {`"x^^<a:b>"`, `"x^^<a:b>"`},
		{`"5"` + integer, "5"}, {`"-5"` + integer, "-5"}, {`"-007"` + integer, "-007"}, {`"0"` + integer, "0"}, {`"` + strings.Repeat("7", 150) + `"` + integer, strings.Repeat("7", 150)},
		{`"true"` + boolean, "true"}, {`"false"` + boolean, "false"},
		// a text of another kind, or of neither, says another literal
		{`""` + integer, `""` + integer}, {`"-"` + integer, `"-"` + integer}, {`"--5"` + integer, `"--5"` + integer}, {`"+5"` + integer, `"+5"` + integer}, {`"5 "` + integer, `"5 "` + integer}, {`"5.0"` + integer, `"5.0"` + integer}, {`"٣"` + integer, `"٣"` + integer}, {`"true"` + integer, `"true"` + integer},
		{`"True"` + boolean, `"True"` + boolean}, {`"1"` + boolean, `"1"` + boolean}, {`""` + boolean, `""` + boolean},
		{`"x"^^<a:k>`, `"x"^^p:k`}, {`"5"^^<a:>`, `"5"^^p:`}, {`"x"^^<a:k/>`, `"x"^^<a:k/>`}, {`"x"^^<b:k>`, `"x"^^<b:k>`}, {`"1.5"^^<` + xsd + `decimal>`, `"1.5"^^xsd:decimal`}, {`"5"^^<` + xsd + `int>`, `"5"^^xsd:int`}, {`"^^<a:k>"^^<a:k>`, `"^^<a:k>"^^p:k`}, {`"x"^^` + isOf, `"x"^^` + isOf}, {`"\n\""^^<a:k>`, `"\n\""^^p:k`},
	} {
		list, ahead := object(c.form)
		prints(t, list, names, prefixed(names...)+ahead+c.want+" .\n")
	}
}

func TestU2Refuses(t *testing.T) {
	good := api.Triple{S: "_:b", P: "<a:v>", O: `"x"`}
	made := api.Triple{S: "_:n1", P: "<a:v>", O: `"x"`}
	p, bad := api.Name{Short: "p", Long: "<a:>"}, api.Name{Short: "1", Long: "<a:>"}
	var many []api.Triple
	for i := range 301 {
		many = append(many, api.Triple{S: "_:b", P: "<a:v>", O: fmt.Sprintf(`"%d"`, i)})
	}
	var full []api.Name
	for i := range 13 {
		full = append(full, api.Name{Short: fmt.Sprintf("p%d", i), Long: "<a:>"})
	}
	for _, c := range []struct {
		list   []api.Triple
		names  []api.Name
		number api.Errno
		place  int
	}{
		{[]api.Triple{made, good, {}}, full, api.ErrTerm, 2}, {[]api.Triple{{S: `"x"`, P: "<a:v>", O: "_:b"}}, nil, api.ErrTerm, 0}, {append(many, api.Triple{}), nil, api.ErrTerm, 301},
		{many, []api.Name{bad}, api.ErrMany, 0}, {many[:300], full, api.ErrMany, 0}, {nil, full, api.ErrMany, 0}, {[]api.Triple{made}, append([]api.Name{bad}, full...), api.ErrMany, 0},
		{[]api.Triple{made}, []api.Name{p, bad}, api.ErrName, 1}, {nil, []api.Name{{}}, api.ErrName, 0}, {nil, []api.Name{p, {Long: "<a:>"}, p}, api.ErrName, 2}, {nil, []api.Name{{Long: "<a:>"}, p, {Long: "<b:>"}}, api.ErrName, 2}, {nil, append(full[:11:11], full[3]), api.ErrName, 11},
		{[]api.Triple{good, made}, nil, api.ErrLabel, 1}, {[]api.Triple{made, good}, nil, api.ErrLabel, 1}, {[]api.Triple{made, {S: "_:b", P: "<a:v>", O: "_:n00"}}, []api.Name{p}, api.ErrLabel, 0}, {[]api.Triple{good, {S: "<a:s>", P: "<a:v>", O: "_:n1"}, {S: "<a:s>", P: "<a:v>", O: "_:n"}}, nil, api.ErrLabel, 1}, {append(many[:299:299], made), nil, api.ErrLabel, 299},
	} {
		text, number, place := Print(c.list, c.names)
		if text != "" || number != c.number || place != c.place {
			t.Errorf("Print(%.90v, %.90v) = %.90q, %d, %d, want %d at %d", c.list, c.names, text, number, place, c.number, c.place)
		}
	}
	if _, number, _ := Print(many[:300], full[:12]); number != api.OK {
		t.Errorf("300 sentences and 12 names: %d", number)
	}
	if _, number, _ := Print([]api.Triple{{S: "_:n", P: "<a:v>", O: "_:n1x"}, {S: "_:N1", P: "<a:v>", O: `"_:n1"`}}, nil); number != api.OK {
		t.Errorf("labels that are none of those: %d", number)
	}
}

func TestU2NamesThatMayBe(t *testing.T) {
	for short, ok := range map[string]bool{"": true, "a": true, "Z9": true, "true": true, "prefix": true, x(20): true, x(21): false, "1a": false, "-": false, "a-": false, "a_b": false, "_": false, "a:": false, ":": false, "a ": false, "é": false, "a\xff": false, "\xff": false, "a\n": false} {
		if _, number, _ := Print(nil, []api.Name{{Short: short, Long: "<a:>"}}); (number == api.OK) != ok || !ok && number != api.ErrName {
			t.Errorf("Short %q: %d", short, number)
		}
	}
	for long, ok := range map[string]bool{"<a:>": true, "<a:b>": true, "<a:é#>": true, "<a:" + x(196) + ">": true, "<a:" + x(197) + ">": true, "<a:" + x(210) + ">": true, "<a:" + strings.Repeat("é", 99) + ">": true, "<a:" + x(30000) + ">": true, "": false, "<>": false, "<a>": false, "a:": false, "<a:": false, "<a: >": false, `<a:\u0062>`: false, "_:b": false, `"x"`: false, " <a:>": false, "<a:> ": false, "<a:\xff>": false, "<a:>>": false,
		"<" + x(300) + ">": false, "<a:" + x(300): false, "a:" + x(300) + ">": false, "<a:" + x(300) + " >": false, "<a:" + x(300) + "> ": false, "<a:" + x(300) + ">>": false, `<a:\u0062` + x(300) + ">": false, "<a:" + x(300) + "\xff>": false, "_:" + x(300): false, `"` + x(300) + `"`: false, x(30000): false,
	} {
		if _, number, _ := Print(nil, []api.Name{{Short: "p", Long: long}}); (number == api.OK) != ok || !ok && number != api.ErrName {
			t.Errorf("Long %q: %d", long, number)
		}
	}
}

// A long name is printed whole and takes its place among the others, but fits no iri of a set: none is as long.
func TestU2LongNames(t *testing.T) {
	long, full := api.Name{Short: "p", Long: "<a:" + x(210) + ">"}, "<a:"+x(196)+">"
	prints(t, nil, []api.Name{long}, "@prefix p: <a:"+x(210)+"> .\n")
	names := []api.Name{{Short: "o", Long: "<a:" + x(197) + ">"}, {Short: "q", Long: "<a:>"}, {Short: "f", Long: full}, {Short: "", Long: long.Long}, {Short: "e", Long: "<a:" + x(195) + ">"}, long}
	prints(t, []api.Triple{{S: "<a:s>", P: "<a:v>", O: `"x"^^<a:k>`}, {S: "<a:s>", P: full, O: full}, {S: "<a:t>", P: isOf, O: "<a:" + x(195) + ">"}}, names,
		prefixed(names...)+"q:s q:v \"x\"^^q:k ;\n\tf: f: .\nq:t a e: .\n")
	// a long name is held against the others as any other one
	for _, c := range []struct {
		names []api.Name
		place int
	}{
		{[]api.Name{long, {Short: "p", Long: "<a:>"}}, 1}, {[]api.Name{{Short: "p", Long: "<a:>"}, long}, 1}, {[]api.Name{long, {Short: "1", Long: long.Long}}, 1}, {[]api.Name{long, {Short: "q", Long: long.Long + ">"}, {}}, 1},
	} {
		if text, number, place := Print(nil, c.names); text != "" || number != api.ErrName || place != c.place {
			t.Errorf("Print(nil, %.90v) = %.90q, %d, %d, want ErrName at %d", c.names, text, number, place, c.place)
		}
	}
}

// drawn is a set of sentences in which much comes again, and names of which some fit.
func drawn(r *rand.Rand) ([]api.Triple, []api.Name) {
	subjects := []string{"<a:s>", "<a:b/s>", "<a:b/c-1>", "_:b", "_:n", "<c:>", nilIRI, "<a:" + x(21) + ">"}
	verbs := []string{"<a:v>", isOf, "<a:b/v>", "<a:b>", "<c:v.w>"}
	objects := append([]string{`"x"`, `"5"`, whole("5"), whole("-5"), whole("x"), truth("true"), truth("5"), `"x"@en`, `"x\n"^^<a:k>`, `"x"^^<a:b/k>`, `"5"^^<c:k>`, "\"#\t\\\\\""}, append(subjects, verbs...)...)
	longs := []string{"<a:>", "<a:b>", "<a:b/>", "<" + rdf + ">", "<c:>", "<" + xsd + ">", "<d:>"}
	var list []api.Triple
	for range r.Intn(30) {
		list = append(list, api.Triple{S: subjects[r.Intn(len(subjects))], P: verbs[r.Intn(len(verbs))], O: objects[r.Intn(len(objects))]})
	}
	var names []api.Name
	for _, short := range []string{"", "a", "p", "true", "x1"}[r.Intn(6):] {
		names = append(names, api.Name{Short: short, Long: longs[r.Intn(len(longs))]})
	}
	return list, names
}

// What is printed is read again as the same set, and says nothing twice.
func TestU2PrintAndParse(t *testing.T) {
	r := rand.New(rand.NewSource(7))
	for range 500 {
		list, names := drawn(r)
		listBefore, namesBefore := slices.Clone(list), slices.Clone(names)
		text, number, place := Print(list, names)
		set, _, _ := lines.Set(list)
		again, number2, place2 := Parse(text)
		if number != api.OK || place != 0 || number2 != api.OK || place2 != 0 || !slices.Equal(set, again) {
			t.Fatalf("%q: %d, %d, %d, %d", text, number, place, number2, place2)
		}
		if !slices.Equal(list, listBefore) || !slices.Equal(names, namesBefore) {
			t.Fatalf("what was handed in has changed")
		}
		slices.Reverse(list)
		if turned, _, _ := Print(append(list, list...), names); turned != text {
			t.Fatalf("the list turned round prints %q, not %q", turned, text)
		}
		subjects := map[string]bool{}
		verbs := map[string]bool{}
		for _, s := range set {
			subjects[s.S], verbs[s.S+s.P] = true, true
		}
		if strings.Count(text, " .\n")-len(names) != len(subjects) || strings.Count(text, " ;\n\t") != len(verbs)-len(subjects) || strings.Count(text, " , ") != len(set)-len(verbs) {
			t.Fatalf("%q has not as many parts as its set", text)
		}
	}
}

func TestU2CallsAtTheSameTime(t *testing.T) {
	list, names := drawn(rand.New(rand.NewSource(8)))
	want, _, _ := Print(list, names)
	var group sync.WaitGroup
	for range 8 {
		group.Go(func() {
			if text, _, _ := Print(list, names); text != want {
				t.Errorf("another answer at the same time")
			}
		})
	}
	group.Wait()
}
