package feed

import (
	"strings"

	"stepstone/api"
	"stepstone/frac"
	"stepstone/tree"
)

// reader makes items of the tokens that it embeds. Its methods tell whether what has to be next was there. If not, they don't take it, so that the fault is where the tokens that are left begin.
type reader struct {
	tokens
	names names
	fault api.Fault
}

func newReader(l []api.Token, end int) *reader {
	return &reader{tokens: append(l, api.Token{At: end}), names: names{}}
}

// items are all, or those ahead of a fault.
func (r *reader) items() []api.Datum {
	var out []api.Datum
reading:
	for !r.isDone() {
		d := api.Datum{At: r.next().At, Whole: true}
		if !r.name(&d) || !r.sign("=") {
			break reading
		}
		d.List = r.try("[")
		for more := !d.List || !r.is("]"); more; more = d.List && r.try(",") {
			if !r.number(&d) {
				break reading
			}
		}
		if d.List && !r.sign("]") || !r.sign(";") {
			break reading
		}
		out = append(out, d)
	}
	return out
}

// need keeps the fault if what has to be is not.
func (r *reader) need(is bool, e api.Errno) bool {
	if !is {
		r.fault = api.Fault{E: e, At: r.next().At}
	}
	return is
}

func (r *reader) sign(text string) bool { return r.need(r.try(text), api.ErrSyntax) }

func (r *reader) name(d *api.Datum) bool {
	d.Name = r.next().Text
	if !r.need(tree.Name(d.Name), api.ErrSyntax) || !r.need(r.names.add(d.Name), api.ErrThere) {
		return false
	}
	r.take()
	return true
}

// number reads a signed one.
func (r *reader) number(d *api.Datum) bool {
	isBelow := r.try("-")
	if !r.need(r.next().Kind == api.TkNumber, api.ErrSyntax) {
		return false
	}
	text := r.next().Text
	x, e := frac.Numeral(text)
	if isBelow && e == api.OK {
		x, e = frac.Neg(x)
	}
	if !r.need(e == api.OK, e) {
		return false
	}
	r.take()
	d.Nums = append(d.Nums, x)
	d.Whole = d.Whole && !strings.ContainsAny(text, ".e")
	return true
}
