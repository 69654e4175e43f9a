package impl

import (
	"errors"
	"slices"
	"strings"
)

// Limits of values.
const (
	MaxText  = 1500
	MaxAtoms = 300
	MaxNest  = 12
	MaxForm  = 100000
)

// Kinds of atoms.
const (
	AtomFlag   = 1
	AtomInt    = 2
	AtomText   = 3
	AtomList   = 4
	AtomRecord = 5
)

// Atom is a part of a value.
type Atom struct {
	Kind int
	N    int64
	Text string
	Kids int
}

// Value is its atoms, each behind its kids.
type Value struct {
	Atoms []Atom
}

// ValidValue says whether a value is valid.
func ValidValue(v Value) bool {
	_, ok := outermost(v)
	return ok
}

// FormValue writes a value.
func FormValue(v Value) string {
	top, ok := outermost(v)
	if !ok {
		return ""
	}
	form := top.write(nil)
	if len(form) > MaxForm {
		return ""
	}
	return string(form)
}

// ReadValue reads a value.
func ReadValue(s string) (Value, bool) {
	r := formReader{rest: s}
	err := r.whole()
	var fault formFault
	if errors.As(err, &fault) {
		return Value{}, false
	}
	return Value{Atoms: r.atoms}, true
}

// part is an atom with all that lies below it: a form begins with the
// outermost atom, which a value has last.
type part interface {
	write(form []byte) []byte
	// nest is how many atoms lie below it, one below the other.
	nest() int
}

type flagPart struct{ n int64 }

type intPart struct{ n int64 }

type textPart struct{ text string }

type listPart struct{ kids []part }

type recordPart struct{ fields []field }

type field struct {
	name  string
	named part
}

func (p flagPart) write(form []byte) []byte {
	return append(form, AtomFlag, byte(p.n))
}

func (p intPart) write(form []byte) []byte {
	return appendShort(append(form, AtomInt), unsigned(p.n))
}

func (p textPart) write(form []byte) []byte {
	return appendText(append(form, AtomText), p.text)
}

func (p listPart) write(form []byte) []byte {
	form = appendShort(append(form, AtomList), uint64(len(p.kids)))
	for _, kid := range p.kids {
		form = kid.write(form)
	}
	return form
}

func (p recordPart) write(form []byte) []byte {
	form = appendShort(append(form, AtomRecord), uint64(len(p.fields)))
	for _, f := range p.fields {
		form = f.named.write(appendText(form, f.name))
	}
	return form
}

func (p flagPart) nest() int { return 0 }

func (p intPart) nest() int { return 0 }

func (p textPart) nest() int { return 0 }

func (p listPart) nest() int {
	below := 0
	for _, kid := range p.kids {
		below = max(below, 1+kid.nest())
	}
	return below
}

func (p recordPart) nest() int {
	below := 0
	for _, f := range p.fields {
		below = max(below, 1+f.named.nest())
	}
	return below
}

// outermost gives the last atom of a value with all others below it, and
// whether the value is valid.
func outermost(v Value) (part, bool) {
	if len(v.Atoms) > MaxAtoms {
		return nil, false
	}
	// Parts that are no kids of an atom yet: the next one takes its from the end.
	var open []part
	for _, a := range v.Atoms {
		if a.Kids < 0 || a.Kids > len(open) {
			return nil, false
		}
		from := len(open) - a.Kids
		p, ok := partOf(a, open[from:])
		if !ok {
			return nil, false
		}
		open = append(open[:from], p)
	}
	if len(open) != 1 || open[0].nest() > MaxNest {
		return nil, false
	}
	return open[0], true
}

// partOf keeps nothing of kids, whose places are used again for other parts.
func partOf(a Atom, kids []part) (part, bool) {
	switch a.Kind {
	case AtomFlag:
		return flagPart{a.N}, a == Atom{Kind: AtomFlag, N: a.N} && (a.N == 0 || a.N == 1)
	case AtomInt:
		return intPart{a.N}, a == Atom{Kind: AtomInt, N: a.N}
	case AtomText:
		return textPart{a.Text}, a == Atom{Kind: AtomText, Text: a.Text} && len(a.Text) <= MaxText
	case AtomList:
		return listPart{slices.Clone(kids)}, a == Atom{Kind: AtomList, Kids: a.Kids}
	case AtomRecord:
		fields, ok := fieldsOf(kids)
		return recordPart{fields}, ok && a == Atom{Kind: AtomRecord, Kids: a.Kids}
	}
	return nil, false
}

func fieldsOf(kids []part) ([]field, bool) {
	if len(kids)%2 != 0 {
		return nil, false
	}
	var fields []field
	for i := 0; i < len(kids); i += 2 {
		name, ok := kids[i].(textPart)
		if !ok || i > 0 && name.text <= fields[i/2-1].name {
			return nil, false
		}
		fields = append(fields, field{name.text, kids[i+1]})
	}
	return fields, true
}

// unsigned gives numbers near 0, with either sign, a short form.
func unsigned(n int64) uint64 {
	if n < 0 {
		return ^(uint64(n) << 1)
	}
	return uint64(n) << 1
}

func signed(u uint64) int64 {
	if u&1 == 1 {
		return int64(^(u >> 1))
	}
	return int64(u >> 1)
}

func appendShort(form []byte, n uint64) []byte {
	for n >= 128 {
		form = append(form, byte(n)|128)
		n >>= 7
	}
	return append(form, byte(n))
}

func appendText(form []byte, text string) []byte {
	return append(appendShort(form, uint64(len(text))), text...)
}

// formFault says why a text is no form.
type formFault struct{ why string }

func (f formFault) Error() string { return "no form: " + f.why }

// formReader takes a form from its front, and puts each atom behind its kids.
type formReader struct {
	rest  string
	atoms []Atom
}

func (r *formReader) whole() error {
	if len(r.rest) > MaxForm {
		return formFault{"too many bytes"}
	}
	if err := r.value(0); err != nil {
		return err
	}
	if r.rest != "" {
		return formFault{"bytes behind its end"}
	}
	return nil
}

// value reads one that has depth atoms above it.
func (r *formReader) value(depth int) error {
	if depth > MaxNest {
		return formFault{"too many atoms above one"}
	}
	kind, err := r.oneByte()
	if err != nil {
		return err
	}
	switch kind {
	case AtomFlag:
		return r.flag()
	case AtomInt:
		return r.number()
	case AtomText:
		return r.text()
	case AtomList:
		return r.list(depth)
	case AtomRecord:
		return r.record(depth)
	}
	return formFault{"no kind"}
}

func (r *formReader) flag() error {
	n, err := r.oneByte()
	if err != nil {
		return err
	}
	if n > 1 {
		return formFault{"a flag that is not 0 or 1"}
	}
	return r.add(Atom{Kind: AtomFlag, N: int64(n)})
}

func (r *formReader) number() error {
	n, err := r.short()
	if err != nil {
		return err
	}
	return r.add(Atom{Kind: AtomInt, N: signed(n)})
}

func (r *formReader) text() error {
	n, err := r.count(MaxText)
	if err != nil {
		return err
	}
	if n > len(r.rest) {
		return formFault{"cut short"}
	}
	// A piece of the text that is read would share its memory.
	text := strings.Clone(r.rest[:n])
	r.rest = r.rest[n:]
	return r.add(Atom{Kind: AtomText, Text: text})
}

func (r *formReader) list(depth int) error {
	n, err := r.count(MaxAtoms)
	if err != nil {
		return err
	}
	for range n {
		if err := r.value(depth + 1); err != nil {
			return err
		}
	}
	return r.add(Atom{Kind: AtomList, Kids: n})
}

func (r *formReader) record(depth int) error {
	n, err := r.count(MaxAtoms)
	if err != nil {
		return err
	}
	last := ""
	for i := range n {
		if err := r.text(); err != nil {
			return err
		}
		name := r.atoms[len(r.atoms)-1].Text
		if i > 0 && name <= last {
			return formFault{"names that do not ascend"}
		}
		last = name
		if err := r.value(depth + 1); err != nil {
			return err
		}
	}
	return r.add(Atom{Kind: AtomRecord, Kids: 2 * n})
}

func (r *formReader) add(a Atom) error {
	if len(r.atoms) == MaxAtoms {
		return formFault{"too many atoms"}
	}
	r.atoms = append(r.atoms, a)
	return nil
}

func (r *formReader) oneByte() (byte, error) {
	if r.rest == "" {
		return 0, formFault{"cut short"}
	}
	b := r.rest[0]
	r.rest = r.rest[1:]
	return b, nil
}

// count is bounded ahead of its use, so that it fits an int whatever is read.
func (r *formReader) count(most uint64) (int, error) {
	n, err := r.short()
	if err != nil {
		return 0, err
	}
	if n > most {
		return 0, formFault{"a count above its limit"}
	}
	return int(n), nil
}

func (r *formReader) short() (uint64, error) {
	var n uint64
	for shift := 0; ; shift += 7 {
		b, err := r.oneByte()
		if err != nil {
			return 0, err
		}
		if shift == 63 && b > 1 {
			return 0, formFault{"a number of more than 64 bits"}
		}
		if shift > 0 && b == 0 {
			return 0, formFault{"a number that is not the least"}
		}
		n |= uint64(b&127) << shift
		if b < 128 {
			return n, nil
		}
	}
}
