package verify

import (
	"heddle/api"
)

// asks answers a list that has, at the number of each operation, what has to be so of its instructions.
func (f *function) asks() []func(in api.Instr) bool {
	return []func(in api.Instr) bool{
		api.OpInt:       f.opInt,
		api.OpFloat:     f.opFloat,
		api.OpBool:      f.opBool,
		api.OpStr:       f.opStr,
		api.OpMove:      f.opMove,
		api.OpArith:     f.opArith,
		api.OpEq:        f.opEq,
		api.OpNot:       f.opNot,
		api.OpConcat:    f.opConcat,
		api.OpSlice:     f.opSlice,
		api.OpLen:       f.opLen,
		api.OpByte:      f.opByte,
		api.OpNew:       f.opNew,
		api.OpLoad:      f.opLoad,
		api.OpStore:     f.opStore,
		api.OpGetField:  f.opGetField,
		api.OpSetField:  f.opSetField,
		api.OpGetElem:   f.opGetElem,
		api.OpSetElem:   f.opSetElem,
		api.OpPart:      f.opPart,
		api.OpPut:       f.opPut,
		api.OpBox:       f.opBox,
		api.OpUnbox:     f.opUnbox,
		api.OpIs:        f.opIs,
		api.OpMake:      f.opMake,
		api.OpGet:       f.opGet,
		api.OpSet:       f.opSet,
		api.OpDelete:    f.opDelete,
		api.OpClear:     f.opClear,
		api.OpCount:     f.opCount,
		api.OpIter:      f.opIter,
		api.OpNext:      f.opNext,
		api.OpJump:      f.opJump,
		api.OpIf:        f.opIf,
		api.OpCall:      f.opCall,
		api.OpRet:       f.opRet,
		api.OpGlobal:    f.opGlobal,
		api.OpSetGlobal: f.opSetGlobal,
		api.OpOut:       f.opOut,
		api.OpHalt:      f.nothing,
		api.OpYield:     f.nothing,
	}
}

func (f *function) nothing(api.Instr) bool {
	return true
}

func (f *function) opInt(in api.Instr) bool {
	return f.are(api.KInt, in.A)
}

func (f *function) opFloat(in api.Instr) bool {
	return f.are(api.KFloat, in.A)
}

func (f *function) opBool(in api.Instr) bool {
	return f.are(api.KBool, in.A) && in.N <= 1
}

func (f *function) opStr(in api.Instr) bool {
	return f.are(api.KStr, in.A) && in.B < len(f.Strs)
}

func (f *function) opMove(in api.Instr) bool {
	t := f.local(in.A)
	return f.is(t, in.B) && f.areNot(api.KIter, t)
}

func (f *function) opArith(in api.Instr) bool {
	way := in.D
	switch {
	case way >= api.AddInt && way <= api.ShrInt:
		return f.are(api.KInt, in.A, in.B, in.C)
	case way == api.LtInt:
		return f.are(api.KBool, in.A) && f.are(api.KInt, in.B, in.C)
	case way >= api.AddF && way <= api.DivF:
		return f.are(api.KFloat, in.A, in.B, in.C)
	case way == api.LtF:
		return f.are(api.KBool, in.A) && f.are(api.KFloat, in.B, in.C)
	case way == api.LtStr:
		return f.are(api.KBool, in.A) && f.are(api.KStr, in.B, in.C)
	case way == api.AndB, way == api.OrB:
		return f.are(api.KBool, in.A, in.B, in.C)
	}
	return false
}

func (f *function) opEq(in api.Instr) bool {
	t := f.local(in.B)
	return f.are(api.KBool, in.A) && f.is(t, in.C) && f.canBeCompared(t)
}

func (f *function) opNot(in api.Instr) bool {
	return f.are(api.KBool, in.A, in.B)
}

func (f *function) opConcat(in api.Instr) bool {
	return f.are(api.KStr, in.A, in.B, in.C)
}

func (f *function) opSlice(in api.Instr) bool {
	return f.are(api.KStr, in.A, in.B) && f.are(api.KInt, in.C, in.D)
}

func (f *function) opLen(in api.Instr) bool {
	return f.are(api.KInt, in.A) && f.are(api.KStr, in.B)
}

func (f *function) opByte(in api.Instr) bool {
	return f.are(api.KInt, in.A, in.C) && f.are(api.KStr, in.B)
}

func (f *function) opNew(in api.Instr) bool {
	return f.are(api.KPtr, in.A)
}

func (f *function) opLoad(in api.Instr) bool {
	return f.is(f.pointed(in.B), in.A)
}

func (f *function) opStore(in api.Instr) bool {
	return f.is(f.pointed(in.A), in.B)
}

func (f *function) opGetField(in api.Instr) bool {
	return f.is(f.field(f.pointed(in.B), in.C), in.A)
}

func (f *function) opSetField(in api.Instr) bool {
	return f.is(f.field(f.pointed(in.A), in.B), in.C)
}

func (f *function) opGetElem(in api.Instr) bool {
	return f.are(api.KInt, in.C) && f.is(f.elem(api.KArray, f.pointed(in.B)), in.A)
}

func (f *function) opSetElem(in api.Instr) bool {
	return f.are(api.KInt, in.B) && f.is(f.elem(api.KArray, f.pointed(in.A)), in.C)
}

func (f *function) opPart(in api.Instr) bool {
	return f.is(f.field(f.local(in.B), in.C), in.A)
}

func (f *function) opPut(in api.Instr) bool {
	return f.is(f.field(f.local(in.A), in.B), in.C)
}

func (f *function) opBox(in api.Instr) bool {
	return f.are(api.KIface, in.A) && f.canBeBoxed(f.local(in.B))
}

func (f *function) opUnbox(in api.Instr) bool {
	return f.are(api.KIface, in.B) && f.canBeBoxed(f.local(in.A))
}

func (f *function) opIs(in api.Instr) bool {
	return f.are(api.KBool, in.A) && f.are(api.KIface, in.B) && f.canBeBoxed(in.C)
}

func (f *function) opMake(in api.Instr) bool {
	return f.are(api.KMap, in.A)
}

func (f *function) opGet(in api.Instr) bool {
	return f.isEntry(f.local(in.B), in.C, in.A) && f.are(api.KBool, in.D)
}

func (f *function) opSet(in api.Instr) bool {
	return f.isEntry(f.local(in.A), in.B, in.C)
}

func (f *function) opDelete(in api.Instr) bool {
	return f.is(f.key(f.local(in.A)), in.B)
}

func (f *function) opClear(in api.Instr) bool {
	return f.are(api.KMap, in.A)
}

func (f *function) opCount(in api.Instr) bool {
	return f.are(api.KInt, in.A) && f.are(api.KMap, in.B)
}

func (f *function) opIter(in api.Instr) bool {
	return f.is(f.elem(api.KIter, f.local(in.A)), in.B)
}

func (f *function) opNext(in api.Instr) bool {
	return f.isEntry(f.elem(api.KIter, f.local(in.A)), in.B, in.C) && f.isPlace(in.D)
}

func (f *function) opJump(in api.Instr) bool {
	return f.isPlace(in.A)
}

func (f *function) opIf(in api.Instr) bool {
	return f.are(api.KBool, in.A) && f.isPlace(in.B)
}

func (f *function) opCall(in api.Instr) bool {
	if in.B >= len(f.Funcs) {
		return false
	}
	called := f.Funcs[in.B]
	return f.areArgs(called, in.Args) && (in.A == 0 || f.isTaken(in.A, called.Result))
}

func (f *function) opRet(in api.Instr) bool {
	if f.Result == 0 {
		return in.A == 0
	}
	return f.isTaken(in.A, f.Result)
}

func (f *function) opGlobal(in api.Instr) bool {
	return f.is(f.global(in.B), in.A)
}

func (f *function) opSetGlobal(in api.Instr) bool {
	return f.is(f.global(in.A), in.B)
}

func (f *function) opOut(in api.Instr) bool {
	return f.areNot(api.KIter, f.local(in.A))
}

// pointed answers the type to which a local points.
func (f *function) pointed(local int) int {
	return f.elem(api.KPtr, f.local(local))
}

// isEntry tells whether two locals have the types of a map's keys and values.
func (f *function) isEntry(m, key, value int) bool {
	return f.is(f.key(m), key) && f.is(f.elem(api.KMap, m), value)
}

// areArgs tells whether locals may be handed to a function. Its head may not have been asked yet, so that it may promise more parameters than it has locals.
func (f *function) areArgs(called api.Func, args []int) bool {
	if len(args) != called.Params || called.Params > len(called.Locals) {
		return false
	}
	for i, number := range args {
		if !f.is(called.Locals[i], number) {
			return false
		}
	}
	return true
}

// global answers the type of the global with that number.
func (f *function) global(number int) int {
	if number < len(f.Globals) {
		return f.Globals[number]
	}
	return none
}
