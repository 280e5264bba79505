package tape

import "stepstone/api"

// field is what one of a step's fields is.
type field uint8

const (
	zero field = iota
	number
	parameter
	step
)

// fields are what A, B and C of a step are.
type fields struct{ a, b, c field }

// fieldsByOp has all zero for what is no Op.
var fieldsByOp = [...]fields{
	api.NdNum:  {c: number},
	api.NdPar:  {a: parameter},
	api.NdAdd:  {a: step, b: step},
	api.NdSub:  {a: step, b: step},
	api.NdMul:  {a: step, b: step},
	api.NdDiv:  {a: step, b: step},
	api.NdNeg:  {a: step},
	api.NdExp:  {a: step},
	api.NdLog:  {a: step},
	api.NdRoot: {a: step},
	api.NdNeed: {a: step},
}

func fieldsOf(op uint8) fields {
	if int(op) < len(fieldsByOp) {
		return fieldsByOp[op]
	}
	return fields{}
}
