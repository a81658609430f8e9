package tests

import (
	"runtime"
	"slices"
	"testing"

	"loop.example/g01355/impl"
)

// guarded is a copy of a list with known values in its spare capacity, which tells whether a
// function has written to either.
type guarded[T comparable] struct {
	list []T
	all  []T
}

func guard[T comparable](list []T, spare T) guarded[T] {
	all := slices.Concat(list, []T{spare, spare, spare, spare})
	return guarded[T]{list: all[:len(list)], all: slices.Clone(all)}
}

func (g guarded[T]) check(t *testing.T, what string) {
	t.Helper()
	if now := g.list[:len(g.all)]; !slices.Equal(now, g.all) {
		t.Errorf("%s: the argument is now %v, not %v", what, now, g.all)
	}
}

func guardSystem(x impl.System) (impl.System, guarded[impl.Block]) {
	g := guard(x.Blocks, impl.Block{-7, -8, -9})
	return impl.System{Points: x.Points, Blocks: g.list}, g
}

// spoil overwrites a result and the capacity behind it, which must not be anybody else's.
func spoil[T any](list []T, with T) {
	list = list[:cap(list)]
	for i := range list {
		list[i] = with
	}
}

func spoilSystem(x impl.System) {
	spoil(x.Blocks, impl.Block{-1, -2, -3})
}

func sameSystem(x impl.System, y impl.System) bool {
	return x.Points == y.Points && slices.Equal(x.Blocks, y.Blocks)
}

// wantSystem checks a system and the code beside it; beside an error, want is the zero value.
func wantSystem(t *testing.T, what string, got impl.System, code int64, want impl.System, wantCode int64) {
	t.Helper()
	if code != wantCode || !sameSystem(got, want) {
		t.Errorf("%s = %v, %d; want %v, %d", what, got, code, want, wantCode)
	}
}

// wantList checks a list and the code beside it.
func wantList[T comparable](t *testing.T, what string, got []T, code int64, want []T, wantCode int64) {
	t.Helper()
	if code != wantCode || !slices.Equal(got, want) {
		t.Errorf("%s = %v, %d; want %v, %d", what, got, code, want, wantCode)
	}
}

// wantValue checks a value and the code beside it.
func wantValue[T comparable](t *testing.T, what string, got T, code int64, want T, wantCode int64) {
	t.Helper()
	if code != wantCode || got != want {
		t.Errorf("%s = %v, %d; want %v, %d", what, got, code, want, wantCode)
	}
}

// wantNoGoroutines checks that no goroutine goes on behind some calls, before which there were so many.
func wantNoGoroutines(t *testing.T, before int) {
	t.Helper()
	// One that has done its last work may still be on its way out.
	for range 1000 {
		if runtime.NumGoroutine() <= before {
			return
		}
		runtime.Gosched()
	}
	t.Errorf("%d goroutines more than before", runtime.NumGoroutine()-before)
}
