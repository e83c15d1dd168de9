package tests

import (
	"math/rand"
	"slices"
	"testing"

	"loop.example/g01285/impl"
)

// isGroupByHand multiplies all pairs of matrices apart from the program.
func isGroupByHand(g impl.Group) bool {
	if len(g.Elements) > impl.MaxOrder || !slices.Contains(g.Elements, unitOf(g.Size)) {
		return false
	}
	for i, x := range g.Elements {
		if i > 0 && before(g.Elements[i-1], x) >= 0 {
			return false
		}
		for _, y := range g.Elements {
			if !slices.Contains(g.Elements, timesMatrix(g.Prime, g.Size, x, y)) {
				return false
			}
		}
	}
	return true
}

// TestPromise2GroupsOfLists makes groups of random lists of Elements of groups: each is a group, has
// the list, and is the least one.
func TestPromise2GroupsOfLists(t *testing.T) {
	r := rand.New(rand.NewSource(6))
	manyGroups(t, func(from impl.Group) {
		p, n := from.Prime, from.Size
		for count := range 4 {
			var list []impl.Matrix
			var numbers []int64
			for range count {
				number := r.Intn(len(from.Elements))
				numbers = append(numbers, int64(number))
				list = append(list, from.Elements[number])
			}
			g, code := impl.GroupOf(p, n, list)
			if code != impl.ErrNone || !impl.IsGroup(g) || !isGroupByHand(g) {
				t.Fatalf("GroupOf(%d, %d, %v) = %v, %d", p, n, list, g, code)
			}
			wantGroup(t, "GroupOf", g, code, groupWith(p, n, closedList(p, n, list, impl.MaxOrder)...))
			subgroup, code := impl.SubgroupOf(from, numbers)
			wantGroup(t, "SubgroupOf", subgroup, code, g)
			if len(from.Elements)%len(g.Elements) != 0 {
				t.Fatalf("%d elements in a subgroup of %d", len(g.Elements), len(from.Elements))
			}
		}
		again, code := impl.GroupOf(p, n, from.Elements)
		wantGroup(t, "GroupOf all Elements", again, code, from)
	})
}

// TestPromise2RandomLists takes random matrices, which make groups of all orders: those above
// MaxOrder are refused.
func TestPromise2RandomLists(t *testing.T) {
	r := rand.New(rand.NewSource(7))
	made, refused := 0, 0
	for _, p := range primes {
		for n := int64(1); n <= 3; n++ {
			for count := range 40 {
				var list []impl.Matrix
				for range 1 + count%2 {
					list = append(list, randomMatrix(r, p, n))
				}
				g, code := impl.GroupOf(p, n, list)
				elements := closedList(p, n, list, impl.MaxOrder)
				if elements == nil {
					refused++
					wantNoGroup(t, "GroupOf", g, code, impl.ErrLimit)
					continue
				}
				made++
				wantGroup(t, "GroupOf", g, code, groupWith(p, n, elements...))
				if !impl.IsGroup(g) {
					t.Fatalf("GroupOf(%d, %d, %v) = %v is no group", p, n, list, g)
				}
			}
		}
	}
	if made < 100 || refused < 100 {
		t.Errorf("%d groups made and %d refused", made, refused)
	}
}

// TestPromise2Orbits multiplies the orders of orbits and stabilisers, and makes both apart from the
// program.
func TestPromise2Orbits(t *testing.T) {
	manyGroups(t, func(g impl.Group) {
		p, n := g.Prime, g.Size
		all := points(p, n)
		if len(all) > 30 {
			all = append(somePoints(p, n), make([]int64, n))
		}
		for _, point := range all {
			var wantOrbit [][]int64
			wantStabiliser := groupWith(p, n)
			for _, x := range g.Elements {
				there := led(p, n, x, point)
				wantOrbit = append(wantOrbit, there)
				if slices.Equal(there, point) {
					wantStabiliser.Elements = append(wantStabiliser.Elements, x)
				}
			}
			slices.SortFunc(wantOrbit, slices.Compare)
			wantOrbit = slices.CompactFunc(wantOrbit, slices.Equal)
			orbit, code := impl.OrbitOfPoint(g, point)
			wantLists(t, "OrbitOfPoint", orbit, code, wantOrbit, impl.ErrNone)
			stabiliser, code := impl.StabiliserOf(g, point)
			wantGroup(t, "StabiliserOf", stabiliser, code, wantStabiliser)
			if !impl.IsGroup(stabiliser) || len(orbit)*len(stabiliser.Elements) != len(g.Elements) {
				t.Fatalf("%v, %v: %d points and %d Elements that leave it", g, point, len(orbit), len(stabiliser.Elements))
			}
			for _, other := range orbit {
				again, code := impl.OrbitOfPoint(g, other)
				wantLists(t, "OrbitOfPoint of another point", again, code, orbit, impl.ErrNone)
			}
		}
	})
}

func TestOrdersDivideTheOrder(t *testing.T) {
	manyGroups(t, func(g impl.Group) {
		for _, x := range g.Elements {
			k, code := impl.OrderOfMatrix(g.Prime, g.Size, x)
			wantNumber(t, "OrderOfMatrix", k, code, orderByHand(g.Prime, g.Size, x), impl.ErrNone)
			if int64(len(g.Elements))%k != 0 {
				t.Fatalf("%v has the order %d in a group of %d", x, k, len(g.Elements))
			}
			powers, code := impl.GroupOf(g.Prime, g.Size, []impl.Matrix{x})
			if code != impl.ErrNone || int64(len(powers.Elements)) != k {
				t.Fatalf("%v of the order %d has %d powers", x, k, len(powers.Elements))
			}
		}
	})
}

// inverseByHand finds the Element that makes the unit with x.
func inverseByHand(g impl.Group, x impl.Matrix) impl.Matrix {
	for _, y := range g.Elements {
		if timesMatrix(g.Prime, g.Size, x, y) == unitOf(g.Size) {
			return y
		}
	}
	return impl.Matrix{}
}

// classesByHand puts each Element to the class of the first one that is conjugate to it.
func classesByHand(g impl.Group) [][]int64 {
	conjugates := func(x impl.Matrix) map[impl.Matrix]bool {
		all := map[impl.Matrix]bool{}
		for _, y := range g.Elements {
			all[timesMatrix(g.Prime, g.Size, timesMatrix(g.Prime, g.Size, y, x), inverseByHand(g, y))] = true
		}
		return all
	}
	var classes [][]int64
	for i, x := range g.Elements {
		reached := conjugates(x)
		found := slices.IndexFunc(classes, func(class []int64) bool { return reached[g.Elements[class[0]]] })
		if found < 0 {
			classes = append(classes, []int64{int64(i)})
		} else {
			classes[found] = append(classes[found], int64(i))
		}
	}
	return classes
}

func TestClassesDivideElements(t *testing.T) {
	manyGroups(t, func(g impl.Group) {
		classes, code := impl.ClassesOf(g)
		wantLists(t, "ClassesOf", classes, code, classesByHand(g), impl.ErrNone)
		alone := groupWith(g.Prime, g.Size)
		var all []int64
		for _, class := range classes {
			all = append(all, class...)
			if len(g.Elements)%len(class) != 0 {
				t.Fatalf("%d Elements in a class of %v", len(class), g)
			}
			if len(class) == 1 {
				alone.Elements = append(alone.Elements, g.Elements[class[0]])
			}
		}
		slices.Sort(all)
		for i, number := range all {
			if int64(i) != number || len(all) != len(g.Elements) {
				t.Fatalf("classes %v of %v", classes, g)
			}
		}
		// The centre has the Elements that are conjugate to themselves alone.
		centre, code := impl.CentreOf(g)
		wantGroup(t, "CentreOf", centre, code, alone)
		if !impl.IsGroup(centre) {
			t.Fatalf("CentreOf(%v) = %v is no group", g, centre)
		}
	})
}

func TestConjugateGroupsAreGroups(t *testing.T) {
	r := rand.New(rand.NewSource(8))
	manyGroups(t, func(g impl.Group) {
		p, n := g.Prime, g.Size
		m := randomMatrix(r, p, n)
		inverse := powerOf(p, n, m, orderByHand(p, n, m)-1)
		want := groupWith(p, n)
		for _, x := range g.Elements {
			want.Elements = append(want.Elements, timesMatrix(p, n, timesMatrix(p, n, inverse, x), m))
		}
		slices.SortFunc(want.Elements, before)
		moved, code := impl.ConjugateGroup(g, m)
		wantGroup(t, "ConjugateGroup", moved, code, want)
		if !impl.IsGroup(moved) || !isGroupByHand(moved) {
			t.Fatalf("ConjugateGroup(%v, %v) = %v is no group", g, m, moved)
		}
		back, code := impl.ConjugateGroup(moved, inverse)
		wantGroup(t, "ConjugateGroup back", back, code, g)
		same, code := impl.ConjugateGroup(g, g.Elements[r.Intn(len(g.Elements))])
		wantGroup(t, "ConjugateGroup by an Element", same, code, g)
	})
}

func TestModularByOrders(t *testing.T) {
	manyGroups(t, func(g impl.Group) {
		// By Cauchy, the prime divides the order where an Element has it as its order.
		want := slices.ContainsFunc(g.Elements, func(x impl.Matrix) bool {
			return orderByHand(g.Prime, g.Size, x) == g.Prime
		})
		if yes, code := impl.IsModular(g); yes != want || code != impl.ErrNone {
			t.Fatalf("IsModular(%v) = %v, %d", g, yes, code)
		}
	})
}
