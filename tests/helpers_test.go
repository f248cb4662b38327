package tests

import (
	"cmp"
	"fmt"
	"reflect"
	"slices"
	"strconv"
	"strings"
	"testing"
)

// guard lies behind the length of each list that guarded makes.
const guard = 7777777

func guarded(l ...int) []int {
	whole := append(slices.Clone(l), guard, guard)
	return whole[:len(l)]
}

// wholeOf has what lies behind the list's length, too.
func wholeOf(l []int) []int {
	return slices.Clone(l[:cap(l)])
}

// watch tells, when asked, whether one of the lists has changed since, or what lies behind its length.
func watch(lists ...[]int) func() bool {
	var before [][]int
	for _, l := range lists {
		before = append(before, wholeOf(l))
	}
	return func() bool {
		for i, l := range lists {
			if !slices.Equal(before[i], l[:cap(l)]) {
				return false
			}
		}
		return true
	}
}

// checkNewMemory fails if writing into the answer, or behind it, is to be seen in one of the arguments.
func checkNewMemory(t *testing.T, name string, answer []int, arguments ...[]int) {
	t.Helper()
	same := watch(arguments...)
	whole := answer[:cap(answer)]
	for i := range whole {
		if whole[i] == guard {
			t.Errorf("%s hands out what lies behind an argument's length", name)
		}
		whole[i] = -guard
	}
	if !same() {
		t.Errorf("%s: the answer shares memory with an argument", name)
	}
}

func listsUpTo(longest int, from []int) [][]int {
	out := [][]int{nil}
	ahead := out
	for range longest {
		var next [][]int
		for _, l := range ahead {
			for _, n := range from {
				next = append(next, append(slices.Clone(l), n))
			}
		}
		out = append(out, next...)
		ahead = next
	}
	return out
}

// withGuards copies a value with all its lists, and lays guards behind the length of each list.
func withGuards[T any](v T) T {
	copied := guardedCopy(reflect.ValueOf(&v).Elem())
	return copied.Interface().(T)
}

func guardedCopy(v reflect.Value) reflect.Value {
	out := reflect.New(v.Type()).Elem()
	switch v.Kind() {
	case reflect.Struct:
		for i := range v.NumField() {
			out.Field(i).Set(guardedCopy(v.Field(i)))
		}
	case reflect.Array:
		for i := range v.Len() {
			out.Index(i).Set(guardedCopy(v.Index(i)))
		}
	case reflect.Slice:
		whole := reflect.MakeSlice(v.Type(), v.Len()+2, v.Len()+2)
		for i := range v.Len() {
			whole.Index(i).Set(guardedCopy(v.Index(i)))
		}
		for i := range 2 {
			whole.Index(v.Len() + i).Set(guardOf(v.Type().Elem()))
		}
		out.Set(whole.Slice(0, v.Len()))
	default:
		out.Set(v)
	}
	return out
}

func guardOf(kind reflect.Type) reflect.Value {
	out := reflect.New(kind).Elem()
	switch kind.Kind() {
	case reflect.Struct:
		for i := range out.NumField() {
			out.Field(i).Set(guardOf(out.Field(i).Type()))
		}
	case reflect.Slice:
		out.Set(reflect.Append(out, guardOf(kind.Elem())))
	case reflect.Int:
		out.SetInt(guard)
	case reflect.String:
		out.SetString(strconv.Itoa(guard))
	}
	return out
}

// pictureOf tells all that values hold, and what lies behind the lengths of their lists.
func pictureOf(values ...any) string {
	var b strings.Builder
	for _, v := range values {
		picture(&b, reflect.ValueOf(v))
	}
	return b.String()
}

func picture(b *strings.Builder, v reflect.Value) {
	switch v.Kind() {
	case reflect.Struct:
		for i := range v.NumField() {
			picture(b, v.Field(i))
		}
	case reflect.Slice:
		fmt.Fprintf(b, "(%d of ", v.Len())
		whole := v.Slice(0, v.Cap())
		for i := range whole.Len() {
			picture(b, whole.Index(i))
		}
		b.WriteString(") ")
	default:
		fmt.Fprintf(b, "%v ", v)
	}
}

type span struct {
	from, to uintptr
}

// memoryOf tells where the lists of a value lie, and what lies behind their lengths.
func memoryOf(v reflect.Value) []span {
	var spans []span
	switch v.Kind() {
	case reflect.Struct:
		for i := range v.NumField() {
			spans = append(spans, memoryOf(v.Field(i))...)
		}
	case reflect.Slice:
		if size := uintptr(v.Cap()) * v.Type().Elem().Size(); size > 0 {
			spans = append(spans, span{v.Pointer(), v.Pointer() + size})
		}
		whole := v.Slice(0, v.Cap())
		for i := range whole.Len() {
			spans = append(spans, memoryOf(whole.Index(i))...)
		}
	}
	return spans
}

// checkCall fails if a call panics, writes into an argument, answers unlike the second time, or hands out memory that is an argument's or two lists'.
func checkCall(t *testing.T, name string, call func() []any, arguments ...any) {
	t.Helper()
	defer func() {
		if fault := recover(); fault != nil {
			t.Fatalf("%s%v panics: %v", name, arguments, fault)
		}
	}()
	before := pictureOf(arguments...)
	first := call()
	second := call()
	if pictureOf(arguments...) != before {
		t.Fatalf("%s writes into an argument: now %v", name, arguments)
	}
	if fmt.Sprint(first) != fmt.Sprint(second) {
		t.Fatalf("%s%v: first %v, then %v", name, arguments, first, second)
	}
	if strings.Contains(pictureOf(first...), strconv.Itoa(guard)) {
		t.Fatalf("%s%v hands out what lies behind a list's length", name, arguments)
	}
	var spans []span
	for _, one := range arguments {
		spans = append(spans, memoryOf(reflect.ValueOf(one))...)
	}
	spans = disjointSpans(spans)
	for _, one := range append(first, second...) {
		spans = append(spans, memoryOf(reflect.ValueOf(one))...)
	}
	if len(disjointSpans(spans)) != len(spans) {
		t.Fatalf("%s%v: memory that is not new", name, arguments)
	}
}

// disjointSpans leaves out spans that lie in others: a caller may hand in one list twice.
func disjointSpans(spans []span) []span {
	sorted := slices.Clone(spans)
	slices.SortFunc(sorted, func(a, b span) int {
		return cmp.Or(cmp.Compare(a.from, b.from), cmp.Compare(b.to, a.to))
	})
	var out []span
	for _, one := range sorted {
		if len(out) == 0 || one.from >= out[len(out)-1].to {
			out = append(out, one)
		}
	}
	return out
}
