package record_test

import (
	"reflect"
	"slices"
	"testing"

	"manystrand/api"
	"manystrand/graph"
	"manystrand/record"
)

// chain returns a least graph of so many nodes: records below each other with an int below them all.
func chain(nodes int, end int) api.Graph {
	var g api.Graph
	for i := 1; i < nodes; i++ {
		g.Nodes = append(g.Nodes, api.Node{Kind: "rec", Text: "f", Feats: feats("1"), Kids: []int{i}})
	}
	g.Nodes = append(g.Nodes, api.Node{Kind: "int", N: end})
	return g
}

// many returns so many features that are atoms.
func many(n int) (l []api.Feat) {
	for i := range n {
		l = append(l, api.Feat{Text: string([]byte{byte('a' + i/676), byte('a' + i/26%26), byte('a' + i%26)})})
	}
	return l
}

// repeated returns a list of one graph, so many times.
func repeated(g api.Graph, n int) (l []api.Graph) {
	for range n {
		l = append(l, g)
	}
	return l
}

func TestErrorsInOrder(t *testing.T) {
	bad := api.Feat{N: -1}
	f, five, big := parsed("f(1:a)"), parsed("5"), chain(api.MaxGraph, 0)
	for name, c := range map[string]struct {
		do   func() (api.Graph, api.Errno)
		want api.Errno
	}{
		"Dot, no graph":             {func() (api.Graph, api.Errno) { return record.Dot(noGraph, bad) }, api.ErrGraph},
		"Dot, no record":            {func() (api.Graph, api.Errno) { return record.Dot(five, bad) }, api.ErrForm},
		"Dot, no feature":           {func() (api.Graph, api.Errno) { return record.Dot(f, bad) }, api.ErrArg},
		"Subtract, no graph":        {func() (api.Graph, api.Errno) { return record.Subtract(noGraph, bad) }, api.ErrGraph},
		"Subtract, no record":       {func() (api.Graph, api.Errno) { return record.Subtract(five, bad) }, api.ErrForm},
		"Subtract, no feature":      {func() (api.Graph, api.Errno) { return record.Subtract(f, bad) }, api.ErrArg},
		"Adjoin, no graph":          {func() (api.Graph, api.Errno) { return record.Adjoin(noGraph, bad, f) }, api.ErrGraph},
		"Adjoin, no graph behind":   {func() (api.Graph, api.Errno) { return record.Adjoin(five, bad, noGraph) }, api.ErrGraph},
		"Adjoin, no record":         {func() (api.Graph, api.Errno) { return record.Adjoin(five, bad, f) }, api.ErrForm},
		"Adjoin, no feature":        {func() (api.Graph, api.Errno) { return record.Adjoin(big, bad, f) }, api.ErrArg},
		"AdjoinAll, no graph":       {func() (api.Graph, api.Errno) { return record.AdjoinAll(noGraph, five) }, api.ErrGraph},
		"AdjoinAll, no graph after": {func() (api.Graph, api.Errno) { return record.AdjoinAll(five, noGraph) }, api.ErrGraph},
		"Make, no label":            {func() (api.Graph, api.Errno) { return record.Make("\t", many(2000)) }, api.ErrArg},
		"Make, no feature":          {func() (api.Graph, api.Errno) { return record.Make("f", append(many(2000), bad)) }, api.ErrArg},
		"Make, one twice":           {func() (api.Graph, api.Errno) { return record.Make("f", append(many(2000), many(1)...)) }, api.ErrArg},
		"Tuple, no graph":           {func() (api.Graph, api.Errno) { return record.Tuple("\t", append(repeated(f, 2000), noGraph)) }, api.ErrGraph},
		"Tuple, no label":           {func() (api.Graph, api.Errno) { return record.Tuple("\t", repeated(f, 2000)) }, api.ErrArg},
	} {
		if g, err := c.do(); err != c.want || !reflect.DeepEqual(g, api.Graph{}) {
			t.Errorf("P9.1: %s: %v, %d", name, g, err)
		}
	}
}

func TestNoFeature(t *testing.T) {
	g := parsed("f(1:a)")
	for _, f := range noFeats {
		if _, err := record.Dot(g, f); err != api.ErrArg {
			t.Errorf("P9.1: Dot at %v: %d", f, err)
		}
		if _, err := record.Subtract(g, f); err != api.ErrArg {
			t.Errorf("P9.1: Subtract of %v: %d", f, err)
		}
		if _, err := record.Adjoin(g, f, g); err != api.ErrArg {
			t.Errorf("P9.1: Adjoin of %v: %d", f, err)
		}
	}
}

// TestMaxGraph: only what the least graph of the result has counts.
func TestMaxGraph(t *testing.T) {
	big := chain(api.MaxGraph, 0)
	whole := func(l ...api.Graph) api.Graph { // a record that reaches itself
		g, err := record.Tuple("g", l)
		if err != api.OK {
			t.Fatalf("P9.1: Tuple: %d", err)
		}
		root := &g.Nodes[0]
		root.Feats, root.Kids = append(root.Feats, feat("a")), append(root.Kids, 0)
		return g
	}
	for name, c := range map[string]struct {
		do    func() (api.Graph, api.Errno)
		nodes int // 0: there would be too many
	}{
		"Adjoin, one more":         {func() (api.Graph, api.Errno) { return record.Adjoin(big, feat("2"), parsed("1")) }, 0},
		"Adjoin, none more":        {func() (api.Graph, api.Errno) { return record.Adjoin(big, feat("2"), parsed("0")) }, api.MaxGraph},
		"Adjoin, a big part":       {func() (api.Graph, api.Errno) { return record.Adjoin(parsed("g(1:f(1:0))"), feat("2"), big) }, 0},
		"Adjoin, not so big":       {func() (api.Graph, api.Errno) { return record.Adjoin(parsed("g(1:f(1:0))"), feat("2"), chain(999, 0)) }, api.MaxGraph},
		"Adjoin, in its place":     {func() (api.Graph, api.Errno) { return record.Adjoin(big, feat("1"), chain(999, 1)) }, api.MaxGraph},
		"Adjoin, in its place, 1":  {func() (api.Graph, api.Errno) { return record.Adjoin(big, feat("1"), big) }, 0},
		"Adjoin, a new root":       {func() (api.Graph, api.Errno) { return record.Adjoin(whole(chain(998, 0)), feat("2"), parsed("0")) }, api.MaxGraph},
		"Adjoin, a new root, 1":    {func() (api.Graph, api.Errno) { return record.Adjoin(whole(chain(999, 0)), feat("2"), parsed("0")) }, 0},
		"Subtract, a new root":     {func() (api.Graph, api.Errno) { return record.Subtract(whole(chain(998, 0)), feat("1")) }, api.MaxGraph},
		"Subtract, a new root, 1":  {func() (api.Graph, api.Errno) { return record.Subtract(whole(chain(999, 0)), feat("1")) }, 0},
		"Subtract, what reached":   {func() (api.Graph, api.Errno) { return record.Subtract(whole(chain(999, 0)), feat("a")) }, api.MaxGraph},
		"Subtract, nothing left":   {func() (api.Graph, api.Errno) { return record.Subtract(big, feat("1")) }, 1},
		"AdjoinAll, alike":         {func() (api.Graph, api.Errno) { return record.AdjoinAll(big, big) }, api.MaxGraph},
		"AdjoinAll, with itself":   {func() (api.Graph, api.Errno) { return record.AdjoinAll(whole(chain(999, 0)), whole(chain(999, 0))) }, api.MaxGraph},
		"AdjoinAll, unlike":        {func() (api.Graph, api.Errno) { return record.AdjoinAll(big, chain(api.MaxGraph, 1)) }, api.MaxGraph},
		"AdjoinAll, of both":       {func() (api.Graph, api.Errno) { return record.AdjoinAll(big, parsed("f(2:1)")) }, 0},
		"Make, 999":                {func() (api.Graph, api.Errno) { return record.Make("f", many(999)) }, api.MaxGraph},
		"Make, 1000":               {func() (api.Graph, api.Errno) { return record.Make("f", many(1000)) }, 0},
		"Tuple, MaxFeat":           {func() (api.Graph, api.Errno) { return record.Tuple("f", repeated(big, api.MaxFeat)) }, 0},
		"Tuple, MaxFeat of one":    {func() (api.Graph, api.Errno) { return record.Tuple("f", repeated(chain(999, 0), api.MaxFeat)) }, api.MaxGraph},
		"Tuple, more than MaxFeat": {func() (api.Graph, api.Errno) { return record.Tuple("f", repeated(parsed("0"), api.MaxFeat+1)) }, 0},
	} {
		g, err := c.do()
		switch {
		case c.nodes == 0 && (err != api.ErrLimit || g.Nodes != nil):
			t.Errorf("P9.1: %s: %d nodes, %d", name, len(g.Nodes), err)
		case c.nodes > 0 && (len(g.Nodes) != c.nodes || err != api.OK):
			t.Errorf("P9.1: %s: %d nodes, %d", name, len(g.Nodes), err)
		}
	}
}

// TestManyFeatures: a record may have more than MaxFeat features, if they share parts.
func TestManyFeatures(t *testing.T) {
	g, err := record.Tuple("f", repeated(parsed("0"), api.MaxFeat))
	if err != api.OK {
		t.Fatalf("P9.1: Tuple: %d", err)
	}
	g, err = record.Adjoin(g, feat("a"), parsed("0"))
	if width, _ := record.Width(g); width != api.MaxFeat+1 || len(g.Nodes) != 2 || err != api.OK {
		t.Errorf("P9.1: Adjoin: %d features, %d", width, err)
	}
	parts, err := record.Parts(g)
	if len(parts) != api.MaxFeat+1 || err != api.OK {
		t.Errorf("P9.1: Parts: %d, %d", len(parts), err)
	}
	p := record.New()
	if is := p.Fits(g); is != -1 {
		t.Errorf("P9.2: Fits of what nothing is known of: %d", is)
	}
	p.Tell("width", "", api.Feat{}, api.MaxFeat)
	if is := p.Fits(g); is != 0 {
		t.Errorf("P9.2: Fits of one feature less: %d", is)
	}
}

// TestMemory: arguments are neither changed nor kept, and results share no memory with them.
func TestMemory(t *testing.T) {
	g := api.Graph{Nodes: []api.Node{
		{Kind: "rec", Text: "f", Feats: feats("1 b"), Kids: []int{1, 2}},
		{Kind: "rec", Text: "g", Feats: feats("1 2 a"), Kids: []int{0, 2, 1}},
		{Kind: "var", N: 4},
	}}
	same := func() api.Graph {
		l, _ := graph.Least(g)
		return l
	}
	want := same()
	for name, do := range map[string]func(g api.Graph) []api.Graph{
		"Dot":       func(g api.Graph) []api.Graph { r, _ := record.Dot(g, feat("1")); return []api.Graph{r} },
		"Adjoin":    func(g api.Graph) []api.Graph { r, _ := record.Adjoin(g, feat("a"), g); return []api.Graph{r} },
		"AdjoinAll": func(g api.Graph) []api.Graph { r, _ := record.AdjoinAll(g, g); return []api.Graph{r} },
		"Subtract":  func(g api.Graph) []api.Graph { r, _ := record.Subtract(g, feat("b")); return []api.Graph{r} },
		"Parts":     func(g api.Graph) []api.Graph { l, _ := record.Parts(g); return l },
		"Tuple":     func(g api.Graph) []api.Graph { r, _ := record.Tuple("h", []api.Graph{g, g}); return []api.Graph{r} },
	} {
		for _, r := range do(g) {
			spoil(r)
		}
		if !reflect.DeepEqual(g, want) {
			t.Fatalf("R4: %s: changes its argument, or its result shares memory with it: %v", name, g)
		}
		for keep := range do(g) {
			l := do(g)
			before, _ := graph.Text(l[keep])
			for i := range l {
				if i != keep {
					spoil(l[i])
				}
			}
			if after, _ := graph.Text(l[keep]); after != before {
				t.Errorf("R4: %s: its results share memory", name)
			}
		}
	}
	arity, _ := record.Arity(g)
	arity[0] = api.Feat{N: 9}
	if !reflect.DeepEqual(g, want) {
		t.Errorf("R4: Arity: shares memory with its argument")
	}
	l := feats("b a 2 1")
	record.Make("f", l)
	if !slices.Equal(l, feats("b a 2 1")) {
		t.Errorf("R4: Make: changes its argument: %v", l)
	}
}

// spoil changes all that a graph has.
func spoil(g api.Graph) {
	for i := range g.Nodes {
		n := &g.Nodes[i]
		for k := range n.Kids {
			n.Feats[k], n.Kids[k] = api.Feat{}, -1
		}
		*n = api.Node{}
	}
}
