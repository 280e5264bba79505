package feed

import (
	"slices"
	"strings"

	"stepstone/api"
	"stepstone/frac"
	"stepstone/nat"
	"stepstone/tree"
	"stepstone/zint"
)

// most is how many items are written, and how many numbers of one.
const most = 1000

// names are those that occurred.
type names map[string]struct{}

// add tells whether a name is new.
func (n names) add(name string) bool {
	_, isThere := n[name]
	n[name] = struct{}{}
	return !isThere
}

// copied is an item in new memory.
func copied(d api.Datum) api.Datum {
	nums := d.Nums
	d.Name = strings.Clone(d.Name)
	d.Nums = nil
	for _, x := range nums {
		d.Nums = append(d.Nums, normal(x))
	}
	return d
}

// normal leaves what is not valid as it is: to find an item is not to judge its numbers.
func normal(x api.Frac) api.Frac {
	n, e := frac.Norm(x)
	if e != api.OK {
		return api.Frac{N: api.Int{Neg: x.N.Neg, M: slices.Clone(x.N.M)}, D: slices.Clone(x.D)}
	}
	return n
}

func areValid(l []api.Datum) bool {
	occurred := names{}
	for _, d := range l {
		if !tree.Name(d.Name) || !occurred.add(d.Name) || !hasValue(d) {
			return false
		}
	}
	return true
}

func hasValue(d api.Datum) bool {
	for _, x := range d.Nums {
		if _, is := whole(x); !is {
			return false
		}
	}
	return d.List || len(d.Nums) == 1
}

func areTooMany(l []api.Datum) bool {
	return len(l) > most || slices.ContainsFunc(l, func(d api.Datum) bool { return len(d.Nums) > most })
}

// whole is the integer that a number is, if it is one.
func whole(x api.Frac) (api.Int, bool) {
	n, e := frac.Norm(x)
	if e != api.OK || nat.Cmp(n.D, nat.Of(1)) != 0 {
		return api.Int{}, false
	}
	return n.N, true
}

// written needs an item that is valid.
func written(d api.Datum) string {
	var digits []string
	for _, x := range d.Nums {
		n, _ := whole(x)
		digits = append(digits, zint.Text(n))
	}
	value := strings.Join(digits, ",")
	if d.List {
		value = "[" + value + "]"
	}
	return d.Name + "=" + value + ";\n"
}
