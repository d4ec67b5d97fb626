package model

import (
	"slices"

	"whetstone/api"
	"whetstone/num"
	"whetstone/term"
)

// tag is the name of the function that tells a data's constructor.
const tag = "tag"

// sorts are int, bool, and those of datas.
type sorts struct{ datas []api.Data }

// constructor is where a name of one stands first.
type constructor struct {
	data   string // the data's name
	place  int    // in the data
	fields []string
}

// asked is a value, and the sort of which it has to be.
type asked struct {
	sort string
	v    *api.Value
}

func (s sorts) constructor(name string) (c constructor, ok bool) {
	for _, d := range s.datas {
		for place, con := range d.Cons {
			if con.Name == name {
				return constructor{d.Name, place, con.Fields}, true
			}
		}
	}
	return constructor{}, false
}

// ofData tells whether that is a data's sort.
func (s sorts) ofData(sort string) bool {
	if sort == api.SortInt || sort == api.SortBool {
		return false
	}
	return slices.ContainsFunc(s.datas, func(d api.Data) bool { return d.Name == sort })
}

// has tells whether v is of that sort.
func (s sorts) has(sort string, v api.Value) bool {
	row := ahead[asked]{{sort, &v}}
	for now := range row.each {
		fields, ok := s.fields(now.sort, *now.v)
		if !ok {
			return false
		}
		for i, field := range slices.Backward(fields) {
			row.lay(asked{field, &now.v.Fields[i]})
		}
	}
	return true
}

// fields are the sorts of which v's fields, as many, have to be; ok tells whether v is else of that sort.
func (s sorts) fields(sort string, v api.Value) (fields []string, ok bool) {
	switch v.Kind {
	case api.ValueInt:
		return nil, sort == api.SortInt && num.Right(v.Num) && alike(v, number(v.Num))
	case api.ValueBool:
		return nil, sort == api.SortBool && alike(v, truth(v.Truth))
	case api.ValueData:
		if !s.ofData(sort) || !alike(v, data(v.Name, v.Fields...)) {
			return nil, false
		}
		if v.Name == "" {
			return nil, len(v.Fields) == 0
		}
		con, known := s.constructor(v.Name)
		return con.fields, known && con.data == sort && len(v.Fields) == len(con.fields)
	}
	return nil, false
}

// some tells whether v is of some sort: of int, of bool or of a data's.
func (s sorts) some(v api.Value) bool {
	if v.Kind == api.ValueData && v.Name != "" {
		return s.has(s.origin(v).data, v)
	}
	ofOne := func(d api.Data) bool { return s.has(d.Name, v) }
	return s.has(api.SortInt, v) || s.has(api.SortBool, v) || slices.ContainsFunc(s.datas, ofOne)
}

// apply is what the function of that name tells of v, which is of some sort; ok tells whether v is of the function's.
func (s sorts) apply(function string, v api.Value) (told api.Value, ok bool) {
	from, to, known := term.Function(s.datas, function)
	if !known || v.Kind != api.ValueData {
		return api.Value{}, false
	}
	con := s.origin(v)
	if function == tag {
		return number(num.Of(int64(con.place))), true
	}
	if v.Name == "" {
		return zero(to), true
	}
	name, place := cutField(function)
	if v.Name != name {
		return zero(to), con.data == from
	}
	return v.Fields[place], true
}

// cutField cuts the name of a field's function: into that of the constructor and the field's place.
func cutField(function string) (con string, place int) {
	point := len(function) - len(".0")
	return function[:point], int(function[point+1] - '0')
}

// origin is the constructor of data; nothing's has the place -1, and that of a name that no data has says nothing.
func (s sorts) origin(v api.Value) constructor {
	if v.Name == "" {
		return constructor{place: -1}
	}
	con, _ := s.constructor(v.Name)
	return con
}
