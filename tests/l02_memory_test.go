package tests

import (
	"fmt"
	"testing"

	"loop.example/g01285/impl"
)

// markMatrix is what the tests write where a function must neither read nor write.
var markMatrix = impl.Matrix{{9, 9, 9}, {9, 9, 9}, {9, 9, 9}}

// groupArguments are those of the calls below, all with marks in the spare capacity behind them.
type groupArguments struct {
	g       impl.Group
	trivial impl.Group
	list    []impl.Matrix
	point   []int64
	numbers []int64
	m       impl.Matrix
}

func newGroupArguments(t *testing.T) *groupArguments {
	guarded := func(g impl.Group) impl.Group {
		g.Elements = withSpare(g.Elements, markMatrix)
		return g
	}
	// The list is neither ascending nor without repetitions.
	return &groupArguments{
		g:       guarded(named(t, "square", 3)),
		trivial: guarded(groupWith(3, 2, unitOf(2))),
		list:    withSpare([]impl.Matrix{{{2, 0}, {0, 1}}, {{0, 1}, {1, 0}}, {{2, 0}, {0, 1}}}, markMatrix),
		point:   withSpare([]int64{1, 0}, 99),
		numbers: withSpare([]int64{6, 0, 6}, 99),
		m:       impl.Matrix{{1, 1}, {0, 1}},
	}
}

// text tells all of the arguments, with what is in the spare capacities.
func (a *groupArguments) text() string {
	return fmt.Sprint(a.g, whole(a.g.Elements), a.trivial, whole(a.trivial.Elements), whole(a.list), whole(a.point), whole(a.numbers), a.m)
}

// spoil overwrites all memory of the arguments.
func (a *groupArguments) spoil() {
	overwrite(a.g.Elements, markMatrix)
	overwrite(a.trivial.Elements, markMatrix)
	overwrite(a.list, markMatrix)
	overwrite(a.point, 77)
	overwrite(a.numbers, 77)
}

// groupCalls are calls of the functions that return groups, also those that could return an
// argument as it is.
func groupCalls(t *testing.T) map[string]func(a *groupArguments) impl.Group {
	group := first[impl.Group](t)
	return map[string]func(a *groupArguments) impl.Group{
		"GroupOf":                    func(a *groupArguments) impl.Group { return group(impl.GroupOf(3, 2, a.list)) },
		"GroupOf a group":            func(a *groupArguments) impl.Group { return group(impl.GroupOf(3, 2, a.g.Elements)) },
		"GroupOf the unit":           func(a *groupArguments) impl.Group { return group(impl.GroupOf(3, 2, a.trivial.Elements)) },
		"GroupOf nothing":            func(a *groupArguments) impl.Group { return group(impl.GroupOf(3, 2, a.list[:0])) },
		"NamedGroup":                 func(a *groupArguments) impl.Group { return group(impl.NamedGroup("square", 3)) },
		"CentreOf":                   func(a *groupArguments) impl.Group { return group(impl.CentreOf(a.g)) },
		"CentreOf the unit":          func(a *groupArguments) impl.Group { return group(impl.CentreOf(a.trivial)) },
		"StabiliserOf":               func(a *groupArguments) impl.Group { return group(impl.StabiliserOf(a.g, a.point)) },
		"StabiliserOf all":           func(a *groupArguments) impl.Group { return group(impl.StabiliserOf(a.g, []int64{0, 0})) },
		"SubgroupOf":                 func(a *groupArguments) impl.Group { return group(impl.SubgroupOf(a.g, a.numbers)) },
		"SubgroupOf nothing":         func(a *groupArguments) impl.Group { return group(impl.SubgroupOf(a.trivial, nil)) },
		"ConjugateGroup":             func(a *groupArguments) impl.Group { return group(impl.ConjugateGroup(a.g, a.m)) },
		"ConjugateGroup by the unit": func(a *groupArguments) impl.Group { return group(impl.ConjugateGroup(a.g, unitOf(2))) },
	}
}

func TestGroupsShareNoMemory(t *testing.T) {
	for name, call := range groupCalls(t) {
		a := newGroupArguments(t)
		unchanged := a.text()
		g := call(a)
		if a.text() != unchanged {
			t.Errorf("%s changes an argument", name)
		}
		text := fmt.Sprint(g)
		a.spoil()
		if fmt.Sprint(g) != text {
			t.Errorf("%s returns memory of an argument", name)
		}
		b := newGroupArguments(t)
		overwrite(call(b).Elements, markMatrix)
		if b.text() != unchanged {
			t.Errorf("%s: who changes the result changes an argument", name)
		}
		if again := call(newGroupArguments(t)); fmt.Sprint(again) != text {
			t.Errorf("%s returns %v at first and %v later", name, text, again)
		}
	}
}

// TestListsShareNoMemory overwrites the lists of a result one by one.
func TestListsShareNoMemory(t *testing.T) {
	listsOf := first[[][]int64](t)
	calls := map[string]func(a *groupArguments) [][]int64{
		"ClassesOf":             func(a *groupArguments) [][]int64 { return listsOf(impl.ClassesOf(a.g)) },
		"OrbitOfPoint":          func(a *groupArguments) [][]int64 { return listsOf(impl.OrbitOfPoint(a.g, a.point)) },
		"OrbitOfPoint the same": func(a *groupArguments) [][]int64 { return listsOf(impl.OrbitOfPoint(a.trivial, a.point)) },
	}
	for name, call := range calls {
		a := newGroupArguments(t)
		unchanged := a.text()
		lists := call(a)
		text := fmt.Sprint(lists)
		for i := range lists {
			fresh := call(a)
			overwrite(fresh[i], 77)
			for j := range lists {
				if j != i && fmt.Sprint(fresh[j]) != fmt.Sprint(lists[j]) {
					t.Errorf("%s: the lists %d and %d share memory", name, i, j)
				}
			}
		}
		if a.text() != unchanged {
			t.Errorf("%s changes an argument, or returns its memory", name)
		}
		a.spoil()
		if fmt.Sprint(lists) != text {
			t.Errorf("%s returns memory of an argument", name)
		}
	}
}

func TestOtherGroupResultsLeaveArguments(t *testing.T) {
	calls := map[string]func(a *groupArguments){
		"IsGroup":   func(a *groupArguments) { impl.IsGroup(a.g) },
		"IsModular": func(a *groupArguments) { impl.IsModular(a.g) },
		"errors": func(a *groupArguments) {
			a.g.Elements[0], a.g.Elements[1] = a.g.Elements[1], a.g.Elements[0]
			impl.IsGroup(a.g)
			impl.ClassesOf(a.g)
			impl.CentreOf(a.g)
			impl.SubgroupOf(a.g, a.numbers)
			impl.OrbitOfPoint(a.g, a.point)
			impl.ConjugateGroup(a.g, a.m)
			a.g.Elements[0], a.g.Elements[1] = a.g.Elements[1], a.g.Elements[0]
			impl.SubgroupOf(a.trivial, a.numbers)
			impl.OrbitOfPoint(a.g, a.numbers)
			impl.GroupOf(2, 2, a.list)
			impl.GroupOf(13, 2, a.list)
		},
	}
	for name, call := range calls {
		a := newGroupArguments(t)
		unchanged := a.text()
		call(a)
		if a.text() != unchanged {
			t.Errorf("%s changes an argument", name)
		}
	}
}
