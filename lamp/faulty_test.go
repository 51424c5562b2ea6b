package lamp_test

import (
	"slices"
	"strconv"

	"bijou/api"
)

type adder func(name string, change func(l *api.Lamp))

// faulty are changes to the lamp M of the examples, with each of which it is not valid.
func faulty() map[string]func(l *api.Lamp) {
	all := map[string]func(l *api.Lamp){}
	add := func(name string, change func(l *api.Lamp)) {
		if _, ok := all[name]; ok {
			panic("two faults have the name " + name)
		}
		all[name] = change
	}
	addNumbers(add)
	addSpans(add)
	addGauges(add)
	return all
}

func addNumbers(add adder) {
	addNumber := func(name string, last int, field func(l *api.Lamp) *int) {
		for how, n := range outside(0, last) {
			add(name+" "+how, func(l *api.Lamp) { *field(l) = n })
		}
	}
	addNumber("Full.Low", 400, func(l *api.Lamp) *int { return &l.Full.Low })
	addNumber("Full.High", 400, func(l *api.Lamp) *int { return &l.Full.High })
	addNumber("Fade.Low", 9, func(l *api.Lamp) *int { return &l.Fade.Low })
	addNumber("Fade.High", 9, func(l *api.Lamp) *int { return &l.Fade.High })
	addNumber("Norm.Low", 400, func(l *api.Lamp) *int { return &l.Norm.Low })
	addNumber("Norm.High", 400, func(l *api.Lamp) *int { return &l.Norm.High })
	addNumber("Rated", 40, func(l *api.Lamp) *int { return &l.Rated })
	addNumber("Wrong", 3, func(l *api.Lamp) *int { return &l.Wrong })
}

func addSpans(add adder) {
	addSpan := func(name string, last int, field func(l *api.Lamp) *api.Span) {
		for _, s := range []api.Span{span(4, 3), span(last, 0), span(-1, -1), span(last+1, last+1), span(-1, last), span(0, last+1)} {
			add(name+" from "+strconv.Itoa(s.Low)+" to "+strconv.Itoa(s.High), func(l *api.Lamp) { *field(l) = s })
		}
	}
	addSpan("Full", 400, func(l *api.Lamp) *api.Span { return &l.Full })
	addSpan("Fade", 9, func(l *api.Lamp) *api.Span { return &l.Fade })
	addSpan("Norm", 400, func(l *api.Lamp) *api.Span { return &l.Norm })
}

func addGauges(add adder) {
	addNumber := func(name string, first, last int, field func(g *api.Gauge) *int) {
		for how, n := range outside(first, last) {
			for number := range exampleM().Gauges {
				add(name+" "+how+" of the gauge "+strconv.Itoa(number), func(l *api.Lamp) { *field(&l.Gauges[number]) = n })
			}
		}
	}
	addNumber("Hour", 0, 40, func(g *api.Gauge) *int { return &g.Hour })
	addNumber("Low", -400, 400, func(g *api.Gauge) *int { return &g.Low })
	addNumber("High", -400, 400, func(g *api.Gauge) *int { return &g.High })
	for number := range exampleM().Gauges {
		at := " of the gauge " + strconv.Itoa(number)
		for _, s := range []api.Span{span(4, 3), span(400, -400), span(-401, -401), span(401, 401), span(-401, 400), span(-400, 401)} {
			add("from "+strconv.Itoa(s.Low)+" to "+strconv.Itoa(s.High)+at, func(l *api.Lamp) {
				l.Gauges[number].Low, l.Gauges[number].High = s.Low, s.High
			})
		}
	}
	add("11 gauges", func(l *api.Lamp) { l.Gauges = append(slices.Repeat(l.Gauges, 3), gauge(0, 0, 0), gauge(1, 0, 0)) })
	add("11 equal gauges", func(l *api.Lamp) { l.Gauges = slices.Repeat(l.Gauges[:1], 11) })
	add("100000 gauges", func(l *api.Lamp) { l.Gauges = make([]api.Gauge, 100000) })
}
