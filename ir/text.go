package ir

import (
	"strconv"
	"strings"

	"dataflow/api"
)

// printer prints a valid unit.
type printer struct{ text strings.Builder }

// line prints a line.
func (p *printer) line(words ...string) {
	p.text.WriteString(strings.Join(words, " "))
	p.text.WriteByte('\n')
}

func (p *printer) unit(u api.Unit) {
	for _, c := range u.Hier.Classes {
		p.class(c)
	}
	for _, f := range u.Funcs {
		p.line("func", f.Class, f.Name)
		for _, v := range f.Vars {
			p.line("var", v.Name, v.Type)
		}
		for _, i := range f.Code {
			p.line(wordsOf(i)...)
		}
	}
}

func (p *printer) class(c api.ClassDecl) {
	head := []string{"class", c.Name}
	if c.Super != "" {
		head = append(head, c.Super)
	}
	p.line(head...)
	for _, f := range c.Fields {
		p.line("field", f.Name, f.Type)
	}
	for _, m := range c.Methods {
		kind, result := "virtual", m.Result
		if m.Static {
			kind = "static"
		}
		if result == "" {
			result = "-"
		}
		p.line(append([]string{"method", m.Name, kind, result}, m.Params...)...)
	}
}

// wordsOf returns the words of an instruction.
func wordsOf(i api.Instr) []string {
	list := []string{strconv.Itoa(i.Catch), operations[i.Op].name}
	for _, letter := range words(i.Op) {
		if letter == 'o' {
			list = append(list, operators[i.N])
			continue
		}
		switch p := field(&i, letter).(type) {
		case *int:
			list = append(list, strconv.Itoa(*p))
		case *int64:
			list = append(list, strconv.FormatInt(*p, 10))
		case *string:
			list = append(list, *p)
		case *[]int:
			for _, v := range *p {
				list = append(list, strconv.Itoa(v))
			}
		}
	}
	return list
}
