package model

import (
	"slices"

	"whetstone/api"
)

// pair is two values that are held against each other.
type pair struct{ a, b *api.Value }

func number(n api.Int) api.Value {
	return api.Value{Kind: api.ValueInt, Num: n}
}

func truth(b bool) api.Value {
	return api.Value{Kind: api.ValueBool, Truth: b}
}

// data is that of the constructor of that name; nothing, where there is neither a name nor fields.
func data(name string, fields ...api.Value) api.Value {
	return api.Value{Kind: api.ValueData, Name: name, Fields: fields}
}

// zero is what a field's function tells of data that has no such field.
func zero(sort string) api.Value {
	switch sort {
	case api.SortInt:
		return number(api.Int{})
	case api.SortBool:
		return truth(false)
	}
	return data("")
}

// alike tells whether a and b are the same but for what their fields are.
func alike(a, b api.Value) bool {
	return a.Kind == b.Kind && a.Num.Neg == b.Num.Neg && slices.Equal(a.Num.Digits, b.Num.Digits) &&
		a.Truth == b.Truth && a.Name == b.Name && len(a.Fields) == len(b.Fields)
}

// copied is v in memory of its own.
func copied(v api.Value) api.Value {
	row := ahead[*api.Value]{&v}
	for part := range row.each {
		part.Num.Digits = append([]uint32(nil), part.Num.Digits...)
		part.Fields = append([]api.Value(nil), part.Fields...)
		for i := range slices.Backward(part.Fields) {
			row.lay(&part.Fields[i])
		}
	}
	return v
}

// areAll tells whether all are of that kind.
func areAll(kind api.ValueKind, l ...api.Value) bool {
	return !slices.ContainsFunc(l, func(v api.Value) bool { return v.Kind != kind })
}

func numbers(l ...api.Value) []api.Int {
	nums := make([]api.Int, len(l))
	for i, v := range l {
		nums[i] = v.Num
	}
	return nums
}

func truths(l ...api.Value) []bool {
	row := make([]bool, len(l))
	for i, v := range l {
		row[i] = v.Truth
	}
	return row
}
