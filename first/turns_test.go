package first_test

import (
	"reflect"
	"strconv"
)

// turn is how one part of a thing becomes another one, and comes back.
type turn struct {
	name     string
	do, undo func()
}

// turns is all turns of a thing that x points to: of each number, text, flag and list.
func turns(x any) []turn { return turnsOf("", reflect.ValueOf(x).Elem()) }

func turnsOf(name string, v reflect.Value) []turn {
	old := reflect.New(v.Type()).Elem()
	old.Set(v)
	var l []turn
	set := func(what string, to any) {
		is := reflect.ValueOf(to).Convert(v.Type())
		l = append(l, turn{name + what, func() { v.Set(is) }, func() { v.Set(old) }})
	}
	switch v.Kind() {
	case reflect.Int, reflect.Int64:
		set(" + 1", v.Int()+1)
		set(" - 1", v.Int()-1)
	case reflect.Uint8, reflect.Uint64:
		set(" ^ 1", v.Uint()^1)
	case reflect.Bool:
		set(" turned", !v.Bool())
	case reflect.String:
		set(" and more", v.String()+"\x00")
		if v.Len() > 0 {
			set(" less one", v.String()[1:])
		}
	case reflect.Struct:
		for i := range v.NumField() {
			l = append(l, turnsOf(name+" "+v.Type().Field(i).Name, v.Field(i))...)
		}
	case reflect.Array:
		for i := range v.Len() {
			l = append(l, turnsOf(name+" "+strconv.Itoa(i), v.Index(i))...)
		}
	case reflect.Slice:
		for i := range v.Len() {
			l = append(l, turnsOf(name+" "+strconv.Itoa(i), v.Index(i))...)
		}
		l = append(l, listTurns(name, v, old)...)
	}
	return l
}

// listTurns is turns of a whole list: without its last thing, with one twice, with a zero one more, turned round.
func listTurns(name string, v, old reflect.Value) []turn {
	var l []turn
	set := func(what string, to reflect.Value) {
		l = append(l, turn{name + what, func() { v.Set(to) }, func() { v.Set(old) }})
	}
	fresh := func() reflect.Value {
		return reflect.AppendSlice(reflect.MakeSlice(v.Type(), 0, v.Len()+1), v)
	}
	set(" and a zero one", reflect.Append(fresh(), reflect.Zero(v.Type().Elem())))
	if n := v.Len(); n > 0 {
		set(" less one", fresh().Slice(0, n-1))
		set(" and one twice", reflect.Append(fresh(), v.Index(n-1)))
		round := fresh()
		for i := range n {
			round.Index(i).Set(v.Index(n - 1 - i))
		}
		if !reflect.DeepEqual(round.Interface(), v.Interface()) {
			set(" turned round", round)
		}
	}
	return l
}
