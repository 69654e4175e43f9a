package tests

import (
	"fmt"
	"math"
	"math/rand"
	"slices"
	"strconv"
	"strings"
	"testing"

	"loop.example/kilntree/impl"
)

func valueOf(atoms ...impl.Atom) impl.Value { return impl.Value{Atoms: atoms} }

func flagAtom(n int64) impl.Atom { return impl.Atom{Kind: impl.AtomFlag, N: n} }

func intAtom(n int64) impl.Atom { return impl.Atom{Kind: impl.AtomInt, N: n} }

func textAtom(text string) impl.Atom { return impl.Atom{Kind: impl.AtomText, Text: text} }

func listAtom(kids int) impl.Atom { return impl.Atom{Kind: impl.AtomList, Kids: kids} }

func recordAtom(kids int) impl.Atom { return impl.Atom{Kind: impl.AtomRecord, Kids: kids} }

// plainFront gives where the value that ends at the last of these atoms
// begins, and whether it is as the document says, with depth atoms above it.
func plainFront(atoms []impl.Atom, depth int) (int, bool) {
	if len(atoms) == 0 || depth > 12 {
		return 0, false
	}
	end := len(atoms) - 1
	a := atoms[end]
	blank := a
	blank.Kind = 0
	switch a.Kind {
	case 1:
		blank.N = 0
		return end, blank == impl.Atom{} && a.N >= 0 && a.N <= 1
	case 2:
		blank.N = 0
		return end, blank == impl.Atom{}
	case 3:
		blank.Text = ""
		return end, blank == impl.Atom{} && len(a.Text) <= 1500
	case 4, 5:
		blank.Kids = 0
		if blank != (impl.Atom{}) || a.Kids < 0 || a.Kids > len(atoms) || a.Kind == 5 && a.Kids%2 == 1 {
			return 0, false
		}
	default:
		return 0, false
	}
	names := []string{}
	for k := a.Kids; k > 0; k-- {
		front, ok := plainFront(atoms[:end], depth+1)
		if !ok {
			return 0, false
		}
		if a.Kind == 5 && k%2 == 1 {
			if atoms[end-1].Kind != 3 {
				return 0, false
			}
			names = append(names, atoms[end-1].Text)
		}
		end = front
	}
	slices.Reverse(names)
	for i := 1; i < len(names); i++ {
		if names[i-1] >= names[i] {
			return 0, false
		}
	}
	return end, true
}

func plainValid(v impl.Value) bool {
	if len(v.Atoms) > 300 {
		return false
	}
	front, ok := plainFront(v.Atoms, 0)
	return ok && front == 0
}

func plainShort(n uint64) string {
	if n < 128 {
		return string([]byte{byte(n)})
	}
	return string([]byte{byte(n%128 + 128)}) + plainShort(n/128)
}

func plainText(text string) string { return plainShort(uint64(len(text))) + text }

// plainForm gives the form of the value that ends at the last of these atoms,
// and the atoms in front of it.
func plainForm(atoms []impl.Atom) (string, []impl.Atom) {
	a := atoms[len(atoms)-1]
	rest := atoms[:len(atoms)-1]
	switch a.Kind {
	case 1:
		return "\x01" + string([]byte{byte(a.N)}), rest
	case 2:
		if a.N >= 0 {
			return "\x02" + plainShort(2*uint64(a.N)), rest
		}
		return "\x02" + plainShort(2*uint64(-(a.N+1))+1), rest
	case 3:
		return "\x03" + plainText(a.Text), rest
	}
	form := ""
	for k := a.Kids; k > 0; k-- {
		if a.Kind == 5 && k%2 == 1 {
			form = plainText(rest[len(rest)-1].Text) + form
			rest = rest[:len(rest)-1]
			continue
		}
		kid, front := plainForm(rest)
		form, rest = kid+form, front
	}
	if a.Kind == 4 {
		return "\x04" + plainShort(uint64(a.Kids)) + form, rest
	}
	return "\x05" + plainShort(uint64(a.Kids/2)) + form, rest
}

// brief keeps what a failed test tells short.
func brief(v impl.Value) string {
	return fmt.Sprintf("%d atoms %.400s", len(v.Atoms), fmt.Sprintf("%+v", v.Atoms[:min(len(v.Atoms), 20)]))
}

func sameValue(v, w impl.Value) bool { return slices.Equal(v.Atoms, w.Atoms) }

// wantForm: v is valid, with this form, which is read as v.
func wantForm(t *testing.T, v impl.Value, form string) {
	t.Helper()
	kept := slices.Clone(v.Atoms)
	if !impl.ValidValue(v) {
		t.Errorf("not valid: the value of form %.60q", form)
	}
	if got := impl.FormValue(v); got != form {
		t.Errorf("form %.60q, want %.60q", got, form)
	}
	if got, ok := impl.ReadValue(form); !ok || !sameValue(got, v) {
		t.Errorf("%.60q is read as %s, %v", form, brief(got), ok)
	}
	if !slices.Equal(kept, v.Atoms) {
		t.Errorf("the value of form %.60q was changed", form)
	}
}

func wantWrongValue(t *testing.T, v impl.Value) {
	t.Helper()
	if impl.ValidValue(v) {
		t.Errorf("valid: %s", brief(v))
	}
	if got := impl.FormValue(v); got != "" {
		t.Errorf("%s has the form %.60q", brief(v), got)
	}
}

func wantWrongText(t *testing.T, s string) {
	t.Helper()
	if got, ok := impl.ReadValue(s); ok || len(got.Atoms) != 0 {
		t.Errorf("%.60q is read as %s, %v", s, brief(got), ok)
	}
}

// wantFormOrNothing: a text that is read is the form of what it is read as.
func wantFormOrNothing(t *testing.T, s string) bool {
	t.Helper()
	v, ok := impl.ReadValue(s)
	if !ok && len(v.Atoms) != 0 {
		t.Errorf("%.60q is not read, but gives %s", s, brief(v))
	}
	if ok && (!plainValid(v) || impl.FormValue(v) != s) {
		t.Errorf("%.60q is read as %s", s, brief(v))
	}
	return ok
}

// randomValue puts the atoms of a value with at most room atoms below one
// another behind atoms.
func randomValue(source *rand.Rand, atoms []impl.Atom, room int) []impl.Atom {
	kind := 1 + source.Intn(5)
	if room == 0 {
		kind = 1 + source.Intn(3)
	}
	switch kind {
	case impl.AtomFlag:
		return append(atoms, flagAtom(source.Int63n(2)))
	case impl.AtomInt:
		return append(atoms, intAtom(int64(source.Uint64())>>source.Intn(64)))
	case impl.AtomText:
		return append(atoms, textAtom(randomText(source)))
	}
	if kind == impl.AtomList {
		kids := source.Intn(5)
		for range kids {
			atoms = randomValue(source, atoms, room-1)
		}
		return append(atoms, listAtom(kids))
	}
	names := []string{}
	for range source.Intn(4) {
		names = append(names, randomText(source))
	}
	slices.Sort(names)
	names = slices.Compact(names)
	for _, name := range names {
		atoms = randomValue(source, append(atoms, textAtom(name)), room-1)
	}
	return append(atoms, recordAtom(2*len(names)))
}

func randomText(source *rand.Rand) string {
	b := make([]byte, source.Intn(4))
	source.Read(b)
	if source.Intn(20) == 0 {
		return strings.Repeat("x", 120+source.Intn(20)) + string(b)
	}
	return string(b)
}

func TestValueLimits(t *testing.T) {
	if impl.MaxText != 1500 || impl.MaxAtoms != 300 || impl.MaxNest != 12 || impl.MaxForm != 100000 {
		t.Error(impl.MaxText, impl.MaxAtoms, impl.MaxNest, impl.MaxForm)
	}
	if impl.AtomFlag != 1 || impl.AtomInt != 2 || impl.AtomText != 3 || impl.AtomList != 4 || impl.AtomRecord != 5 {
		t.Error("kinds")
	}
}

func TestFormsOfEachKind(t *testing.T) {
	wantForm(t, valueOf(flagAtom(0)), "\x01\x00")
	wantForm(t, valueOf(flagAtom(1)), "\x01\x01")
	wantForm(t, valueOf(textAtom("")), "\x03\x00")
	wantForm(t, valueOf(textAtom("\x00\xff\n\"")), "\x03\x04\x00\xff\n\"")
	wantForm(t, valueOf(textAtom(strings.Repeat("t", 127))), "\x03\x7f"+strings.Repeat("t", 127))
	wantForm(t, valueOf(textAtom(strings.Repeat("t", 128))), "\x03\x80\x01"+strings.Repeat("t", 128))
	wantForm(t, valueOf(listAtom(0)), "\x04\x00")
	wantForm(t, valueOf(recordAtom(0)), "\x05\x00")
	wantForm(t, valueOf(intAtom(1), flagAtom(0), listAtom(2)), "\x04\x02\x02\x02\x01\x00")
	wantForm(t, valueOf(textAtom("a"), flagAtom(1), recordAtom(2)), "\x05\x01\x01a\x01\x01")
	// A list in a list, and one behind it; a record in a record under the empty name.
	wantForm(t, valueOf(intAtom(-1), listAtom(1), listAtom(0), listAtom(2)), "\x04\x02\x04\x01\x02\x01\x04\x00")
	wantForm(t, valueOf(textAtom(""), textAtom("k"), textAtom("v"), recordAtom(2), textAtom("z"), listAtom(0), recordAtom(4)),
		"\x05\x02\x00\x05\x01\x01k\x03\x01v\x01z\x04\x00")
}

func TestFormsOfInts(t *testing.T) {
	for n, form := range map[int64]string{
		0:             "\x00",
		-1:            "\x01",
		1:             "\x02",
		63:            "\x7e",
		-64:           "\x7f",
		64:            "\x80\x01",
		-65:           "\x81\x01",
		8191:          "\xfe\x7f",
		-8192:         "\xff\x7f",
		8192:          "\x80\x80\x01",
		1<<62 - 1:     "\xfe\xff\xff\xff\xff\xff\xff\xff\x7f",
		-1 << 62:      "\xff\xff\xff\xff\xff\xff\xff\xff\x7f",
		1 << 62:       "\x80\x80\x80\x80\x80\x80\x80\x80\x80\x01",
		-1<<62 - 1:    "\x81\x80\x80\x80\x80\x80\x80\x80\x80\x01",
		math.MaxInt64: "\xfe\xff\xff\xff\xff\xff\xff\xff\xff\x01",
		math.MinInt64: "\xff\xff\xff\xff\xff\xff\xff\xff\xff\x01",
	} {
		wantForm(t, valueOf(intAtom(n)), "\x02"+form)
	}
	for shift := range 64 {
		for step := int64(-1); step <= 1; step++ {
			for _, n := range []int64{1<<shift + step, -1<<shift + step} {
				form, _ := plainForm([]impl.Atom{intAtom(n)})
				wantForm(t, valueOf(intAtom(n)), form)
			}
		}
	}
}

func TestNamesAscend(t *testing.T) {
	for _, c := range []struct {
		first, second string
		ok            bool
	}{
		{"a", "b", true}, {"", "a", true}, {"a", "aa", true}, {"Z", "a", true}, {"z", "\xff", true}, {"a", "a\x00", true}, {"az", "b", true},
		{"b", "a", false}, {"a", "", false}, {"aa", "a", false}, {"a", "Z", false}, {"\xff", "z", false}, {"a", "a", false}, {"", "", false},
	} {
		v := valueOf(textAtom(c.first), flagAtom(0), textAtom(c.second), flagAtom(1), recordAtom(4))
		form := "\x05\x02" + plainText(c.first) + "\x01\x00" + plainText(c.second) + "\x01\x01"
		if c.ok {
			wantForm(t, v, form)
			continue
		}
		wantWrongValue(t, v)
		wantWrongText(t, form)
		wantWrongValue(t, valueOf(append(v.Atoms, listAtom(1))...))
		wantWrongText(t, "\x04\x01"+form)
	}
	// The third name against the second, and against the first.
	wantWrongText(t, "\x05\x03\x01a\x01\x00\x01c\x01\x00\x01b\x01\x00")
	wantWrongValue(t, valueOf(textAtom("a"), flagAtom(0), textAtom("c"), flagAtom(0), textAtom("b"), flagAtom(0), recordAtom(6)))
	// Names of a record inside do not stand among those around it.
	wantForm(t, valueOf(textAtom("b"), textAtom("a"), flagAtom(0), recordAtom(2), textAtom("c"), textAtom("a"), recordAtom(4)),
		"\x05\x02\x01b\x05\x01\x01a\x01\x00\x01c\x03\x01a")
}

func TestWrongValues(t *testing.T) {
	wrong := []impl.Value{
		{}, {Atoms: []impl.Atom{}},
		valueOf(impl.Atom{}), valueOf(impl.Atom{Kind: 6}), valueOf(impl.Atom{Kind: -1}), valueOf(impl.Atom{Kind: 256 + 1}),
		valueOf(flagAtom(2)), valueOf(flagAtom(-1)), valueOf(flagAtom(256)),
		valueOf(impl.Atom{Kind: impl.AtomFlag, Text: "a"}), valueOf(impl.Atom{Kind: impl.AtomFlag, Kids: -1}),
		valueOf(impl.Atom{Kind: impl.AtomInt, Text: "a"}), valueOf(impl.Atom{Kind: impl.AtomInt, Kids: -1}),
		valueOf(impl.Atom{Kind: impl.AtomText, N: 1}), valueOf(impl.Atom{Kind: impl.AtomText, N: -1}), valueOf(impl.Atom{Kind: impl.AtomText, Kids: -1}),
		valueOf(impl.Atom{Kind: impl.AtomList, N: 1}), valueOf(impl.Atom{Kind: impl.AtomList, Text: "a"}),
		valueOf(impl.Atom{Kind: impl.AtomRecord, N: 1}), valueOf(impl.Atom{Kind: impl.AtomRecord, Text: "a"}),
		// A kid below what has none.
		valueOf(intAtom(1), impl.Atom{Kind: impl.AtomFlag, Kids: 1}), valueOf(intAtom(1), impl.Atom{Kind: impl.AtomInt, Kids: 1}), valueOf(intAtom(1), impl.Atom{Kind: impl.AtomText, Kids: 1}),
		// Wrong counts of kids.
		valueOf(listAtom(1)), valueOf(listAtom(-1)), valueOf(listAtom(math.MaxInt)), valueOf(listAtom(math.MinInt)),
		valueOf(recordAtom(2)), valueOf(recordAtom(-2)), valueOf(recordAtom(math.MaxInt - 1)), valueOf(recordAtom(math.MinInt)),
		valueOf(flagAtom(0), listAtom(2)), valueOf(flagAtom(0), flagAtom(0), listAtom(3)), valueOf(flagAtom(0), flagAtom(0), listAtom(1)), valueOf(flagAtom(0), listAtom(-1)),
		valueOf(textAtom("a"), recordAtom(1)), valueOf(textAtom("a"), flagAtom(0), textAtom("b"), recordAtom(3)), valueOf(textAtom("a"), recordAtom(2)),
		// Not all below the last one.
		valueOf(flagAtom(0), flagAtom(0)), valueOf(flagAtom(0), listAtom(0)), valueOf(listAtom(0), flagAtom(0)), valueOf(flagAtom(0), listAtom(1), listAtom(0)),
		// What is no name in a name's place.
		valueOf(intAtom(1), intAtom(1), recordAtom(2)), valueOf(listAtom(0), intAtom(1), recordAtom(2)), valueOf(recordAtom(0), flagAtom(0), recordAtom(2)),
		valueOf(flagAtom(0), textAtom("a"), recordAtom(2)), valueOf(textAtom("a"), flagAtom(0), flagAtom(0), textAtom("b"), recordAtom(4)),
	}
	for _, v := range wrong {
		wantWrongValue(t, v)
		// The same below a list, alone and behind what is right.
		wantWrongValue(t, valueOf(append(slices.Clone(v.Atoms), listAtom(1))...))
		wantWrongValue(t, valueOf(append(append([]impl.Atom{flagAtom(0)}, v.Atoms...), listAtom(2))...))
	}
}

func TestValidValueIsAsTheDocumentSays(t *testing.T) {
	source := rand.New(rand.NewSource(3))
	valid := 0
	for range 20000 {
		atoms := randomValue(source, nil, 3)
		for range source.Intn(3) {
			spoil(source, atoms)
		}
		v := impl.Value{Atoms: atoms}
		if plainValid(v) {
			valid++
			form, _ := plainForm(atoms)
			wantForm(t, v, form)
		} else {
			wantWrongValue(t, v)
		}
	}
	if valid < 4000 || valid > 16000 {
		t.Errorf("%d valid ones: too few of one sort", valid)
	}
}

// spoil changes a part of an atom, or two atoms about.
func spoil(source *rand.Rand, atoms []impl.Atom) {
	a := &atoms[source.Intn(len(atoms))]
	b := &atoms[source.Intn(len(atoms))]
	switch source.Intn(6) {
	case 0:
		a.Kind = source.Intn(7)
	case 1:
		a.N = source.Int63n(4) - 1
	case 2:
		a.Text = randomText(source)
	case 3:
		a.Kids += source.Intn(3) - 1
	case 4:
		*a, *b = *b, *a
	case 5:
		a.Text, b.Text = b.Text, a.Text
	}
}

func TestRandomValuesComeBack(t *testing.T) {
	source := rand.New(rand.NewSource(4))
	for range 5000 {
		atoms := randomValue(source, nil, source.Intn(5))
		if len(atoms) > impl.MaxAtoms {
			continue
		}
		form, _ := plainForm(atoms)
		wantForm(t, impl.Value{Atoms: atoms}, form)
	}
}

func TestMaxText(t *testing.T) {
	most, more := strings.Repeat("t", impl.MaxText), strings.Repeat("t", impl.MaxText+1)
	wantForm(t, valueOf(textAtom(most)), "\x03\xdc\x0b"+most)
	wantWrongValue(t, valueOf(textAtom(more)))
	wantWrongText(t, "\x03\xdd\x0b"+more)
	wantForm(t, valueOf(textAtom(most), flagAtom(0), recordAtom(2)), "\x05\x01\xdc\x0b"+most+"\x01\x00")
	wantWrongValue(t, valueOf(textAtom(more), flagAtom(0), recordAtom(2)))
	wantWrongText(t, "\x05\x01\xdd\x0b"+more+"\x01\x00")
	// The limit is of bytes, not of letters.
	wantWrongValue(t, valueOf(textAtom(strings.Repeat("é", 751))))
	wantForm(t, valueOf(textAtom(strings.Repeat("é", 750))), "\x03\xdc\x0b"+strings.Repeat("é", 750))
}

func TestMaxAtoms(t *testing.T) {
	flags := func(n int) []impl.Atom { return slices.Repeat([]impl.Atom{flagAtom(1)}, n) }
	form := func(n int) string { return strings.Repeat("\x01\x01", n) }
	wantForm(t, valueOf(append(flags(299), listAtom(299))...), "\x04\xab\x02"+form(299))
	wantWrongValue(t, valueOf(append(flags(300), listAtom(300))...))
	wantWrongText(t, "\x04\xac\x02"+form(300))
	wantWrongText(t, "\x04\xad\x02"+form(301))
	wantWrongValue(t, valueOf(flags(301)...))
	// The names of a record count, and so do lists around.
	record, fields := []impl.Atom{}, ""
	for i := range 149 {
		name := strconv.Itoa(100 + i)
		record = append(record, textAtom(name), flagAtom(0))
		fields += "\x03" + name + "\x01\x00"
	}
	record = append(record, recordAtom(298))
	wantForm(t, valueOf(record...), "\x05\x95\x01"+fields)
	wantForm(t, valueOf(append(slices.Clone(record), listAtom(1))...), "\x04\x01\x05\x95\x01"+fields)
	wantWrongValue(t, valueOf(append(slices.Clone(record), listAtom(1), listAtom(1))...))
	wantWrongText(t, "\x04\x01\x04\x01\x05\x95\x01"+fields)
	wantWrongText(t, "\x05\x96\x01"+fields+"\x03300\x01\x00")
	// Many more atoms than may be, all at one depth.
	wantWrongValue(t, impl.Value{Atoms: make([]impl.Atom, 100000)})
	wantWrongText(t, "\x04\xb0\xea\x01"+form(30000))
}

func TestMaxNest(t *testing.T) {
	for _, inner := range []impl.Atom{flagAtom(1), intAtom(7), textAtom("t"), listAtom(0), recordAtom(0)} {
		list, record := []impl.Atom{inner}, []impl.Atom{inner}
		listForm, _ := plainForm(list)
		recordForm := listForm
		for depth := 1; depth <= 15; depth++ {
			list = append(list, listAtom(1))
			listForm = "\x04\x01" + listForm
			record = append([]impl.Atom{textAtom("n")}, append(record, recordAtom(2))...)
			recordForm = "\x05\x01\x01n" + recordForm
			if depth <= impl.MaxNest {
				wantForm(t, valueOf(list...), listForm)
				wantForm(t, valueOf(record...), recordForm)
			} else {
				wantWrongValue(t, valueOf(list...))
				wantWrongText(t, listForm)
				wantWrongValue(t, valueOf(record...))
				wantWrongText(t, recordForm)
			}
		}
	}
	// The deepest need be neither the first kid nor the last one.
	deep := []impl.Atom{flagAtom(0), flagAtom(0)}
	for range 12 {
		deep = append(deep, listAtom(1))
	}
	wantForm(t, valueOf(deep[1:]...), strings.Repeat("\x04\x01", 12)+"\x01\x00")
	wantWrongValue(t, valueOf(append(deep, flagAtom(0), listAtom(3))...))
	wantWrongText(t, "\x04\x03\x01\x00"+strings.Repeat("\x04\x01", 12)+"\x01\x00\x01\x00")
	fields := append([]impl.Atom{textAtom("a")}, deep[1:]...)
	wantWrongValue(t, valueOf(append(fields, textAtom("b"), flagAtom(0), recordAtom(4))...))
	wantWrongText(t, "\x05\x02\x01a"+strings.Repeat("\x04\x01", 12)+"\x01\x00\x01b\x01\x00")
	// So deep that going down without a limit would be felt.
	wantWrongText(t, strings.Repeat("\x04\x01", 49999)+"\x01\x00")
	wantWrongText(t, strings.Repeat("\x04\x01", 5000000)+"\x01\x00")
}

func TestMaxForm(t *testing.T) {
	big := strings.Repeat("b", impl.MaxText)
	atoms := slices.Repeat([]impl.Atom{textAtom(big)}, 66)
	form := "\x04\x43" + strings.Repeat("\x03\xdc\x0b"+big, 66)
	most := append(slices.Clone(atoms), textAtom(strings.Repeat("l", 797)), listAtom(67))
	mostForm := form + "\x03\x9d\x06" + strings.Repeat("l", 797)
	if len(mostForm) != impl.MaxForm {
		t.Fatal(len(mostForm))
	}
	wantForm(t, impl.Value{Atoms: most}, mostForm)
	more := impl.Value{Atoms: append(slices.Clone(atoms), textAtom(strings.Repeat("l", 798)), listAtom(67))}
	if !impl.ValidValue(more) || impl.FormValue(more) != "" {
		t.Error("a valid value whose form is too long by one")
	}
	wantWrongText(t, form+"\x03\x9e\x06"+strings.Repeat("l", 798))
	most300 := impl.Value{Atoms: append(slices.Repeat([]impl.Atom{textAtom(big)}, 299), listAtom(299))}
	if !impl.ValidValue(most300) || impl.FormValue(most300) != "" {
		t.Error("the longest form of all")
	}
	wantWrongText(t, strings.Repeat("x", impl.MaxForm+1))
	wantWrongText(t, mostForm+"\x00")
}

func TestCutAndLongTexts(t *testing.T) {
	source := rand.New(rand.NewSource(5))
	for range 300 {
		form, _ := plainForm(randomValue(source, nil, 3))
		if _, ok := impl.ReadValue(form); !ok {
			continue
		}
		for n := range form {
			wantWrongText(t, form[:n])
		}
		for _, tail := range []string{"\x00", "\x01", "\x80", "\xff", form} {
			wantWrongText(t, form+tail)
		}
	}
}

func TestWrongTexts(t *testing.T) {
	nine := "\x80\x80\x80\x80\x80\x80\x80\x80\x80"
	for _, number := range []string{
		// Not the least way.
		"\x80\x00", "\x81\x00", "\xff\x00", "\x80\x80\x00", "\xff\xff\x00", nine + "\x00", nine + "\x80\x00",
		// More than 64 bits.
		nine + "\x02", nine + "\x03", nine + "\x7f", nine + "\x80\x01", nine + "\x81\x00", nine + "\x81\x01", nine + nine + "\x01",
		"\xff\xff\xff\xff\xff\xff\xff\xff\xff\x02", "\xff\xff\xff\xff\xff\xff\xff\xff\xff\xff\x01", strings.Repeat("\xff", 90000) + "\x01",
	} {
		wantWrongText(t, "\x02"+number)
		for _, tail := range []string{"", "a", "\x01\x00", "\x01a\x01\x00", strings.Repeat("\x01\x00", 128)} {
			wantWrongText(t, "\x03"+number+tail)
			wantWrongText(t, "\x04"+number+tail)
			wantWrongText(t, "\x05"+number+tail)
			wantWrongText(t, "\x05\x01"+number+tail)
		}
	}
	for _, number := range []string{"", "\x80", "\xff", nine, nine + "\x80", nine + "\x81"} {
		for _, front := range []string{"\x02", "\x03", "\x04", "\x05", "\x05\x01", "\x04\x01\x02"} {
			wantWrongText(t, front+number)
		}
	}
	// The same text, list and record of one, the count of which has a byte too many.
	wantWrongText(t, "\x03\x81\x00a")
	wantWrongText(t, "\x04\x81\x00\x01\x00")
	wantWrongText(t, "\x05\x81\x00\x01a\x01\x00")
	wantWrongText(t, "\x05\x01\x81\x00a\x01\x00")
	// Counts that fit 64 bits, of what is not there.
	for _, number := range []string{nine + "\x01", "\xff\xff\xff\xff\xff\xff\xff\xff\xff\x01", "\xff\xff\xff\xff\xff\xff\xff\xff\x7f", "\x80\x80\x80\x80\x10"} {
		wantWrongText(t, "\x03"+number+"abc")
		wantWrongText(t, "\x04"+number+"\x01\x00")
		wantWrongText(t, "\x05"+number+"\x01a\x01\x00")
		wantWrongText(t, "\x05\x01"+number+"a\x01\x00")
	}
	for b := range 256 {
		wantWrongText(t, string([]byte{byte(b)}))
		if b > 1 {
			wantWrongText(t, string([]byte{1, byte(b)}))
		}
		if b == 0 || b > 5 {
			wantWrongText(t, string([]byte{byte(b), 0}))
			wantWrongText(t, string([]byte{4, 1, byte(b), 0}))
		}
	}
	// A record's name is a text without its kind, and has something behind it.
	wantWrongText(t, "\x05\x01\x03\x01a\x01\x00")
	wantWrongText(t, "\x05\x01\x01a")
	wantWrongText(t, "\x05\x02\x01a\x01\x00\x01b")
}

func TestEveryShortTextIsAFormOrNothing(t *testing.T) {
	bytes := "\x00\x01\x02\x03\x04\x05\x06a\x7f\x80\x81\xff"
	read := 0
	var tryAll func(s string, room int)
	tryAll = func(s string, room int) {
		if wantFormOrNothing(t, s) {
			read++
		}
		if room == 0 {
			return
		}
		for i := range len(bytes) {
			tryAll(s+bytes[i:i+1], room-1)
		}
	}
	tryAll("", 5)
	if read < 300 {
		t.Errorf("only %d were read", read)
	}
}

func TestSpoiledFormsAreFormsOrNothing(t *testing.T) {
	source := rand.New(rand.NewSource(6))
	read, not := 0, 0
	for range 20000 {
		form, _ := plainForm(randomValue(source, nil, 3))
		b := []byte(form)
		for range 1 + source.Intn(2) {
			at := source.Intn(len(b))
			switch source.Intn(3) {
			case 0:
				b[at] += byte(1 + source.Intn(3))
			case 1:
				b[at] ^= 128
			case 2:
				b = slices.Insert(b, at, byte(source.Intn(6)))
			}
		}
		if wantFormOrNothing(t, string(b)) {
			read++
		} else {
			not++
		}
	}
	if read < 1000 || not < 1000 {
		t.Errorf("%d read, %d not", read, not)
	}
}

func TestValuesAreNewMemory(t *testing.T) {
	form := "\x05\x01\x01a\x04\x01\x01\x01"
	v, _ := impl.ReadValue(form)
	all := v.Atoms[:cap(v.Atoms)]
	for i := range all {
		all[i] = impl.Atom{Kind: 9}
	}
	wantForm(t, valueOf(textAtom("a"), flagAtom(1), listAtom(1), recordAtom(2)), form)
	room := []impl.Atom{flagAtom(1), listAtom(1), intAtom(5), textAtom("behind")}
	if impl.FormValue(impl.Value{Atoms: room[:2]}) != "\x04\x01\x01\x01" || !impl.ValidValue(impl.Value{Atoms: room[:2]}) {
		t.Error("a list with room behind its end")
	}
	if !slices.Equal(room, []impl.Atom{flagAtom(1), listAtom(1), intAtom(5), textAtom("behind")}) {
		t.Errorf("changed: %v", room)
	}
}
