package polar

import (
	"reflect"
	"slices"
	"testing"

	"watershed/api"
)

// answers are what all calls tell of c.
func answers(c api.Context, rows, cols uint32) []any {
	up, e1 := Up(c, rows)
	down, e2 := Down(c, cols)
	is, e3 := Implies(c, cols, cols>>1)
	list, e4 := Concepts(c)
	return []any{up, down, is, list, e1, e2, e3, e4}
}

// completed is what Complete tells of o.
func completed(o api.Order) []any {
	p, at, e := Complete(o)
	return []any{p, at, e}
}

// P3: what is handed in, and what lies behind its length, stays as it is and is not looked at.
func TestArgumentsStay(t *testing.T) {
	for _, c := range manyContexts() {
		long := append(slices.Clone(c.Rows), 0xdeadbeef, 0xdeadbeef)
		before := slices.Clone(long)
		rows, cols := uint32(0x5a5a)&(1<<uint(len(c.Rows))-1), uint32(0xa5a5)&(1<<uint(c.Cols)-1)
		short := api.Context{Rows: long[:len(c.Rows)], Cols: c.Cols}
		if !reflect.DeepEqual(answers(short, rows, cols), answers(c, rows, cols)) {
			t.Fatal("what lies behind the list is seen", c)
		}
		if !slices.Equal(long, before) {
			t.Fatal(c, long)
		}
	}
	for _, o := range manyOrders(t) {
		long := append(slices.Clone(o.Up), 0xdeadbeef, 0xdeadbeef)
		before := slices.Clone(long)
		if !reflect.DeepEqual(completed(api.Order{N: o.N, Up: long[:o.N]}), completed(o)) {
			t.Fatal("what lies behind the list is seen", o)
		}
		if !slices.Equal(long, before) {
			t.Fatal(o, long)
		}
	}
}

// P3: what is told is new each time; changing it changes neither the argument nor another answer.
func TestAnswersAreNew(t *testing.T) {
	c := api.Context{Rows: []uint32{15, 10, 12, 8}, Cols: 4}
	o := api.Order{N: 4, Up: c.Rows}
	rows := slices.Clone(c.Rows)
	first, then := answers(c, 6, 6), completed(o)
	list, _ := Concepts(c)
	p, at, _ := Complete(o)
	list, p.Up, at = list[:cap(list)], p.Up[:cap(p.Up)], at[:cap(at)]
	for i := range list {
		list[i] = api.Concept{Rows: 0xdeadbeef, Cols: 0xdeadbeef}
	}
	for i := range p.Up {
		p.Up[i] = 0xdeadbeef
	}
	for i := range at {
		at[i] = -1
	}
	if !slices.Equal(c.Rows, rows) || !reflect.DeepEqual(answers(c, 6, 6), first) || !reflect.DeepEqual(completed(o), then) {
		t.Error("an answer shares memory")
	}
}
