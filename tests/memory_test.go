package tests

import (
	"fmt"
	"reflect"
	"slices"
	"testing"
)

// roomy returns the list with room behind it, in which there are the elements of behind.
func roomy[T any](list []T, behind ...T) []T {
	return append(slices.Clone(list), behind...)[:len(list)]
}

// memoryOf writes out all that can be reached from v, also the room behind slices.
func memoryOf(v any) string {
	var write func(v reflect.Value) string
	write = func(v reflect.Value) string {
		text := ""
		switch v.Kind() {
		case reflect.Slice:
			for i := range v.Cap() {
				text += write(v.Slice(0, v.Cap()).Index(i)) + ","
			}
			return fmt.Sprint(v.Len(), "[", text, "]")
		case reflect.Struct:
			for i := range v.NumField() {
				text += write(v.Field(i)) + ","
			}
			return "{" + text + "}"
		case reflect.Interface:
			return write(v.Elem())
		default:
			return fmt.Sprintf("%v", v)
		}
	}
	return write(reflect.ValueOf(v))
}

// overwrite writes over all memory that can be reached from v, also that behind slices.
func overwrite(v any) {
	var write func(v reflect.Value)
	write = func(v reflect.Value) {
		switch v.Kind() {
		case reflect.Slice:
			for i := range v.Cap() {
				write(v.Slice(0, v.Cap()).Index(i))
			}
		case reflect.Struct:
			for i := range v.NumField() {
				write(v.Field(i))
			}
		default:
			if v.CanSet() {
				v.Set(marker(v.Type()))
			}
		}
	}
	write(reflect.ValueOf(v))
}

// marker returns a value that no test expects anywhere.
func marker(t reflect.Type) reflect.Value {
	switch t.Kind() {
	case reflect.String:
		return reflect.ValueOf("overwritten").Convert(t)
	case reflect.Bool:
		return reflect.ValueOf(true).Convert(t)
	case reflect.Complex64:
		return reflect.ValueOf(complex64(12345 - 54321i)).Convert(t)
	default:
		return reflect.ValueOf(54321).Convert(t)
	}
}

// slicesIn returns the slices of which the result v is made that hold no slices themselves.
func slicesIn(v any) []any {
	r := reflect.ValueOf(v)
	if r.Kind() != reflect.Slice || r.Type().Elem().Kind() != reflect.Slice {
		return []any{v}
	}
	var parts []any
	for i := range r.Len() {
		parts = append(parts, r.Index(i).Interface())
	}
	return parts
}

// checkMemory reports if a call changes its arguments, if its result shares memory with them or
// with the result of another call, or if two slices of the result share memory.
func checkMemory(t *testing.T, name string, call func() any, args ...any) {
	t.Helper()
	before := memoryOf(args)
	first, second := call(), call()
	if memoryOf(args) != before {
		t.Errorf("%s changes an argument", name)
	}
	want := fmt.Sprint(second)
	if fmt.Sprint(first) != want {
		t.Errorf("%s gives %v, and then %v", name, first, want)
	}
	overwrite(first)
	if memoryOf(args) != before {
		t.Errorf("the result of %s shares memory with an argument", name)
	}
	if fmt.Sprint(second) != want {
		t.Errorf("two results of %s share memory", name)
	}
	parts := slicesIn(second)
	if len(fmt.Sprint(parts)) <= len("[[]]") {
		t.Errorf("%s gives nothing that could be checked", name)
	}
	for i, part := range parts {
		others := fmt.Sprint(parts[i+1:])
		overwrite(part)
		if fmt.Sprint(parts[i+1:]) != others {
			t.Errorf("two slices of one result of %s share memory", name)
		}
	}
}
