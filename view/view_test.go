package view_test

import (
	"fmt"
	"reflect"
	"testing"

	"moidore/api"
	"moidore/view"
)

// short is a thing as it is told of, not too long to be shown.
func short(x any) string {
	s := fmt.Sprintf("%+v", x)
	if len(s) > 600 {
		return s[:600] + ".."
	}
	return s
}

// same says whether two things are: lists without elements are one with nil ones (R6).
func same[T any](a, b T) bool { return sameOf(reflect.ValueOf(a), reflect.ValueOf(b)) }

func sameOf(v, w reflect.Value) bool {
	if v.Kind() == reflect.Struct {
		for i := range v.NumField() {
			if !sameOf(v.Field(i), w.Field(i)) {
				return false
			}
		}
		return true
	}
	if v.Kind() != reflect.Slice {
		return v.Equal(w)
	}
	if v.Len() != w.Len() {
		return false
	}
	for i := range v.Len() {
		if !sameOf(v.Index(i), w.Index(i)) {
			return false
		}
	}
	return true
}

// want tells of an answer that is not the one that is wanted.
func want[T any](t *testing.T, of string, got T, is bool, wanted T, so bool) {
	t.Helper()
	if !same(got, wanted) || is != so {
		t.Errorf("%s: %s, %t, not %s, %t", of, short(got), is, short(wanted), so)
	}
}

// The chapter's example.
func TestExample(t *testing.T) {
	l := entries(coins(1, 10), coins(2, 20))
	d := api.Diff{Spent: entries(coins(1, 10)), Made: entries(coins(3, 30))}
	next := api.Diff{Spent: entries(coins(3, 30)), Made: entries(coins(4, 40))}
	behind, is := view.Apply(l, d)
	want(t, "applied", behind, is, entries(coins(2, 20), coins(3, 30)), true)
	ahead, is := view.Undo(behind, d)
	want(t, "undone", ahead, is, entries(coins(1, 10), coins(2, 20)), true)
	both, is := view.Join(d, next)
	want(t, "joined", both, is, api.Diff{Spent: entries(coins(1, 10)), Made: entries(coins(4, 40))}, true)
	o, is := view.Find(behind, ref(3, 0, 0))
	want(t, "found", o, is, plainOut(val(30)), true)
}
