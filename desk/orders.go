package desk

import (
	"strconv"

	"copyhold/api"
	"copyhold/codec"
	"copyhold/parse"
	"copyhold/render"
	"copyhold/trim"
	"copyhold/twin"
	"copyhold/verify"
)

func (d *Desk) read() string {
	m, fault := parse.Parse(d.text())
	if fault.Code == 0 {
		fault = verify.Check(m)
	}
	return d.take(m, fault)
}

func (d *Desk) trim() string {
	return d.take(trim.Make(*d.module))
}

// take has a module for the one that there was; with a fault there is none any more.
func (d *Desk) take(m api.Module, fault api.Fault) string {
	if fault.Code != 0 {
		d.module = nil
		return no(fault)
	}
	d.module = &m
	return tell("yes", int64(len(m.Funcs)))
}

func (d *Desk) print() string {
	text, fault := render.Print(*d.module)
	if fault.Code != 0 {
		return no(fault)
	}
	return text
}

func (d *Desk) bytes() string {
	b, fault := codec.Encode(*d.module)
	if fault.Code != 0 {
		return no(fault)
	}
	return tell("bytes", int64(len(b)), int64(codec.Sum(b)))
}

func (d *Desk) run(words []string) string {
	numbers, ok := numbersOf(words)
	if !ok || len(numbers) < 2 {
		return unknown()
	}
	fuel, pages := int(numbers[0]), int(numbers[1])
	o, fault := twin.Run(*d.module, numbers[2:], fuel, pages)
	if fault.Code != 0 {
		return no(fault)
	}
	return tell(Ends(o.End), o.Back...) + tell("out", o.Out...) + tell("steps", int64(o.Fuel))
}

// numbersOf is false if a word is no number, or is longer than it needs to be.
func numbersOf(words []string) ([]int64, bool) {
	var numbers []int64
	for _, word := range words {
		n, err := strconv.ParseInt(word, 10, 64)
		if err != nil || strconv.FormatInt(n, 10) != word {
			return nil, false
		}
		numbers = append(numbers, n)
	}
	return numbers, true
}
