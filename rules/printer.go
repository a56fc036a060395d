package rules

import (
	"strconv"
	"strings"

	"glossary/api"
	"glossary/scan"
)

// printer writes a form.
type printer struct{ form strings.Builder }

// write writes what doesn't make the form too long.
func (p *printer) write(s string) {
	if p.form.Len()+len(s) > api.MaxSource {
		panic(api.ErrMany)
	}
	p.form.WriteString(s)
}

// text writes a text. Quoted none is shorter, so one that is too long for the form need not be quoted.
func (p *printer) text(s string) {
	if len(s) > api.MaxSource {
		panic(api.ErrMany)
	}
	p.write(scan.Quote(s))
}

// options writes the options that aren't the usual ones.
func (p *printer) options(o api.Options) {
	if o.Strength != usualStrength {
		p.write("[strength " + strconv.Itoa(o.Strength) + "]\n")
	}
	if o.Shifted {
		p.write("[shifted on]\n")
	}
	if o.Back {
		p.write("[backwards on]\n")
	}
}

// variable writes the texts that may be shifted.
func (p *printer) variable(l []string) {
	if len(l) == 0 {
		return
	}
	p.write("& [variable]")
	for _, s := range l {
		p.relation(api.Rule{Level: sameLevel, Text: s})
	}
	p.write("\n")
}

// items writes resets, and behind each its relations.
func (p *printer) items(l []api.Rule) {
	for i, x := range l {
		if x.Kind == api.RReset {
			p.reset(x)
		} else {
			p.relation(x)
		}
		if i == len(l)-1 || l[i+1].Kind == api.RReset {
			p.write("\n")
		}
	}
}

func (p *printer) reset(x api.Rule) {
	p.write("& ")
	if x.Before {
		p.write("[before 1] ")
	}
	if x.Anchor == api.ANone {
		p.text(x.Text)
	} else {
		p.write("[" + anchors[x.Anchor] + "]")
	}
}

func (p *printer) relation(x api.Rule) {
	p.write(" " + signs[x.Level] + " ")
	p.text(x.Text)
	if x.Extend != "" {
		p.write(" / ")
		p.text(x.Extend)
	}
}
