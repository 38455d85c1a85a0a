package equal_test

import (
	"fmt"
	"math/rand"
	"reflect"
	"slices"
	"testing"

	"manystrand/api"
	"manystrand/equal"
)

func pair(first, second int) api.Node {
	return api.Node{Kind: "rec", Text: "|", Feats: []api.Feat{{N: 1}, {N: 2}}, Kids: []int{first, second}}
}

func TestClasses(t *testing.T) {
	one := api.Node{Kind: "int", N: 1}
	f := func(kid int, feat api.Feat) api.Node {
		return api.Node{Kind: "rec", Text: "f", Feats: []api.Feat{feat}, Kids: []int{kid}}
	}
	for name, c := range map[string]struct {
		nodes []api.Node
		want  []int
	}{
		"none":                      {nil, nil},
		"one":                       {[]api.Node{one}, []int{0}},
		"equal ints":                {[]api.Node{one, {Kind: "int"}, one}, []int{0, 1, 0}},
		"what looks alike":          {[]api.Node{{Kind: "var", N: 1}, one, {Kind: "ref", Text: "cell", N: 1}, {Kind: "ref", Text: "lock", N: 1}, {Kind: "rec", Text: "cell"}}, []int{0, 1, 2, 3, 4}},
		"parts that are equal":      {[]api.Node{pair(1, 2), one, one, pair(2, 1)}, []int{0, 1, 1, 0}},
		"parts that are not":        {[]api.Node{pair(1, 2), one, {Kind: "int", N: 2}, pair(2, 1)}, []int{0, 1, 2, 3}},
		"cycles of several lengths": {[]api.Node{pair(4, 1), pair(4, 2), pair(4, 0), pair(4, 3), one}, []int{0, 0, 0, 0, 1}},
		"other features":            {[]api.Node{f(2, api.Feat{N: 1}), f(2, api.Feat{Text: "a"}), one}, []int{0, 1, 2}},
		"a feature's bytes":         {[]api.Node{f(2, api.Feat{Text: "1 1 b"}), f(2, api.Feat{Text: "1"}), one}, []int{0, 1, 2}},
		"one far below":             {[]api.Node{pair(3, 1), pair(3, 2), pair(3, 0), one, pair(5, 6), one, pair(5, 7), pair(3, 5)}, []int{0, 0, 0, 1, 2, 1, 3, 4}},
	} {
		want := 0
		for _, class := range c.want {
			want = max(want, class+1)
		}
		if of, count := equal.Classes(c.nodes); !slices.Equal(of, c.want) || count != want {
			t.Errorf("%s: %v, %d", name, of, count)
		}
	}
}

// TestByPairs: classes are those of the greatest relation by which equal nodes have equal parts.
func TestByPairs(t *testing.T) {
	m := rand.New(rand.NewSource(8))
	for range 3000 {
		n := 1 + m.Intn(12)
		var nodes []api.Node
		for range n {
			switch m.Intn(5) {
			case 0:
				nodes = append(nodes, api.Node{Kind: "int", N: m.Intn(2)})
			case 1:
				nodes = append(nodes, api.Node{Kind: "rec", Text: "f", Feats: []api.Feat{{Text: "a"}}, Kids: []int{m.Intn(n)}})
			default:
				nodes = append(nodes, pair(m.Intn(n), m.Intn(n)))
			}
		}
		given := fmt.Sprint(nodes)
		of, count := equal.Classes(nodes)
		if fmt.Sprint(nodes) != given {
			t.Fatalf("R4: changes its argument: %s", given)
		}
		eq := byPairs(nodes)
		next := 0
		for i := range nodes {
			if of[i] > next {
				t.Fatalf("%s: numbers out of order: %v", given, of)
			}
			next = max(next, of[i]+1)
			for k := range nodes {
				if eq[i][k] != (of[i] == of[k]) {
					t.Fatalf("%s: %v: %d and %d", given, of, i, k)
				}
			}
		}
		if count != next {
			t.Fatalf("%s: %v, %d", given, of, count)
		}
	}
}

func byPairs(nodes []api.Node) [][]bool {
	eq := make([][]bool, len(nodes))
	for i, n := range nodes {
		for _, o := range nodes {
			eq[i] = append(eq[i], n.Kind == o.Kind && n.Text == o.Text && n.N == o.N && slices.Equal(n.Feats, o.Feats))
		}
	}
	for again := true; again; {
		again = false
		for i, n := range nodes {
			for k, o := range nodes {
				for at := range n.Kids {
					if eq[i][k] && !eq[n.Kids[at]][o.Kids[at]] {
						eq[i][k], again = false, true
					}
				}
			}
		}
	}
	return eq
}

// TestLeast: just the reached nodes, equal ones joined, in the order in which they are first come to.
func TestLeast(t *testing.T) {
	one := api.Node{Kind: "int", N: 1}
	g := api.Graph{Root: 3, Nodes: []api.Node{one, {Kind: "var", N: 9}, pair(0, 2), pair(4, 5), pair(6, 0), pair(6, 7), one, pair(7, 3)}}
	want := api.Graph{Nodes: []api.Node{pair(1, 3), pair(2, 2), one, pair(2, 4), pair(4, 0)}}
	given := fmt.Sprint(g)
	least := equal.Least(g)
	if !reflect.DeepEqual(least, want) {
		t.Errorf("Least: %v", least)
	}
	if part := equal.Part(least, 3); !reflect.DeepEqual(part, api.Graph{Nodes: []api.Node{pair(1, 2), one, pair(2, 3), pair(4, 0), pair(1, 1)}}) {
		t.Errorf("Part: %v", part)
	}
	if part := equal.Part(least, 2); !reflect.DeepEqual(part, api.Graph{Nodes: []api.Node{one}}) {
		t.Errorf("Part: %v", part)
	}
	least.Nodes[1].Feats[0], least.Nodes[1].Kids[0] = api.Feat{N: 9}, 9
	if fmt.Sprint(g) != given {
		t.Errorf("Least shares memory with its argument")
	}
}

func TestBeside(t *testing.T) {
	one := api.Node{Kind: "int", N: 1}
	g := api.Graph{Root: 1, Nodes: []api.Node{one, pair(0, 1)}}
	nodes, root := equal.Beside([]api.Node{one, one}, g)
	if root != 3 || !reflect.DeepEqual(nodes, []api.Node{one, one, one, pair(2, 3)}) || !reflect.DeepEqual(g.Nodes[1], pair(0, 1)) {
		t.Errorf("Beside: %v, %d, of %v", nodes, root, g)
	}
}

// TestMany: as many nodes as there may be variables.
func TestMany(t *testing.T) {
	nodes := []api.Node{{Kind: "int"}}
	for len(nodes) < api.MaxVars {
		nodes = append(nodes, pair(0, len(nodes)+1))
	}
	nodes[len(nodes)-1] = pair(0, 1)
	if _, count := equal.Classes(nodes); count != 2 {
		t.Errorf("a long cycle: %d", count)
	}
	nodes[len(nodes)-1] = pair(0, 0)
	if _, count := equal.Classes(nodes); count != len(nodes) {
		t.Errorf("a long way down: %d", count)
	}
}
