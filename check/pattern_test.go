package check_test

import (
	"math"
	"slices"
	"testing"

	"eyrie/api"
	"eyrie/check"
	"eyrie/syntax"
)

// P7.5

func TestPattern(t *testing.T) {
	for _, x := range []struct {
		text string
		want api.Errno
	}{
		{"pattern p within 10 : A as a", api.OK},
		{"pattern p within 10 : A as a [ x > 3 ] ; B as b where a . x = b . x", api.OK},
		{"pattern p within 10 : A as a ; B as a", api.ErrVar},
		{"pattern p within 10 : A as a | B as a where a . x = 1", api.OK},
		{"pattern p within 10 : A as a where c . x = 1", api.ErrCond},
		{"pattern p within 10 : A as a where x = 1", api.ErrCond},
		{"pattern p within 10 : A as a [ a . x = 1 ]", api.ErrCond},
		{"pattern p within 10 : A as a where 1 = 1", api.ErrCond},
		{"pattern p within 10 : A as a | B as b where a . x = b . y , 1 < b . z", api.OK},
		{"pattern p within 0 : A as a", api.ErrTitle},
		{"pattern p within -1 : A as a", api.ErrTitle},
	} {
		p, _, err := syntax.Parse(x.text)
		if err != api.OK {
			t.Fatalf("%q: error %d", x.text, err)
		}
		wantPattern(t, p, x.want)
		// what stands in empty lists says nothing
		p.Root = roomy(p.Root)
		p.Where = append([]api.Cond{}, p.Where...)
		wantPattern(t, p, x.want)
	}
	wantPattern(t, api.Pattern{}, api.ErrTitle)
	wantPattern(t, pattern(api.Node{}), api.ErrNode)
}

func TestTitles(t *testing.T) {
	for _, s := range notNames() {
		p := pattern(of("a"))
		p.Name = s
		wantPattern(t, p, api.ErrTitle)
	}
	for _, s := range []string{"p", "_", "Z9", "pattern", longest()} {
		p := pattern(of("a"))
		p.Name = s
		wantPattern(t, p, api.OK)
	}
	for _, x := range []struct {
		window int64
		want   api.Errno
	}{
		{0, api.ErrTitle}, {1, api.OK}, {2, api.OK}, {1<<40 - 1, api.OK}, {1 << 40, api.OK}, {1<<40 + 1, api.ErrTitle},
		{-1, api.ErrTitle}, {-10, api.ErrTitle}, {-1 << 40, api.ErrTitle}, {math.MinInt64, api.ErrTitle}, {math.MaxInt64, api.ErrTitle},
	} {
		p := pattern(of("a"))
		p.Window = x.window
		wantPattern(t, p, x.want)
	}
}

func TestWhere(t *testing.T) {
	root := seq(of("a"), of("b"))
	for many := range 40 {
		want := api.OK
		if many > 16 {
			want = api.ErrCond
		}
		l := slices.Repeat([]api.Cond{where("a")}, many)
		wantPattern(t, pattern(root, l...), want)
		// a fault in each of them
		for at := range many {
			for _, c := range []api.Cond{{}, test(), where("c"), where("ab"), cond(num(1), api.RelLt, num(2)), cond(attr("a", "x"), 7, num(2)), cond(attr("a", "x"), api.RelEq, attr("", "y"))} {
				l := slices.Clone(l)
				l[at] = c
				wantPattern(t, pattern(root, l...), api.ErrCond)
			}
		}
	}
	wantPattern(t, pattern(root, slices.Repeat([]api.Cond{where("a")}, 1<<17)...), api.ErrCond)
	// any variable of the Root, however deep, also one that is not sure
	root = or(of("a"), seq(of("b"), and(of("c"), or(of("d"), of("e")))))
	for _, name := range list("a", "b", "c", "d", "e") {
		wantPattern(t, pattern(root, where(name)), api.OK)
		for _, other := range list("a", "b", "c", "d", "e") {
			wantPattern(t, pattern(root, cond(attr(name, "x"), api.RelEq, attr(other, "y"))), api.OK)
		}
		wantPattern(t, pattern(root, cond(attr(name, "x"), api.RelEq, attr("f", "y"))), api.ErrCond)
	}
	// a type is no variable
	wantPattern(t, pattern(root, where("T")), api.ErrCond)
}

// Each fault alone, and each two: the first one in the chapter's order is told.
func TestPatternFaults(t *testing.T) {
	faults := []struct {
		name  string
		want  api.Errno
		spoil func(p *api.Pattern)
	}{
		{"name", api.ErrTitle, func(p *api.Pattern) { p.Name = "1" }},
		{"window", api.ErrTitle, func(p *api.Pattern) { p.Window = 0 }},
		{"deep", api.ErrDeep, func(p *api.Pattern) { p.Root.Kids[0] = tall(8) }},
		{"terms", api.ErrDeep, func(p *api.Pattern) { p.Root.Kids = append(p.Root.Kids, terms(12)...) }},
		{"node", api.ErrNode, func(p *api.Pattern) { p.Root.Var = "v" }},
		{"test", api.ErrCond, func(p *api.Pattern) { p.Root.Kids[1].Tests = append(p.Root.Kids[1].Tests, where("b")) }},
		{"tests", api.ErrCond, func(p *api.Pattern) { p.Root.Kids[1].Tests = append(p.Root.Kids[1].Tests, tests(17)...) }},
		{"alts", api.ErrDeep, func(p *api.Pattern) {
			// twelve terms: none is left for what stood there, nor for what another fault put there
			kids := []api.Node{p.Root.Kids[1]}
			kids[0] = or(kids[0], of("v1"), of("v2"))
			for range 3 {
				kids = append(kids, or(of("v3"), of("v4"), of("v5")))
			}
			p.Root.Kids = append(kids, p.Root.Kids[2:]...)
		}},
		{"binds", api.ErrVar, func(p *api.Pattern) { p.Root.Kids[1].Var = "a" }},
		{"many", api.ErrCond, func(p *api.Pattern) { p.Where = append(p.Where, slices.Repeat(p.Where[:1], 17)...) }},
		{"where", api.ErrCond, func(p *api.Pattern) { p.Where[0].Rel = 0 }},
		{"unbound", api.ErrCond, func(p *api.Pattern) { p.Where[0].Left.Var = "z" }},
	}
	made := func() api.Pattern { return pattern(seq(of("a"), of("b")), where("b")) }
	wantPattern(t, made(), api.OK)
	seen := map[[2]api.Errno]bool{}
	for i, x := range faults {
		p := made()
		x.spoil(&p)
		wantPattern(t, p, x.want)
		for _, y := range faults[i+1:] {
			if x.name == "alts" && y.name == "binds" {
				continue
			}
			p := made()
			// the tree is taken apart last
			if x.name == "deep" || x.name == "terms" || x.name == "node" {
				y.spoil(&p)
				x.spoil(&p)
			} else {
				x.spoil(&p)
				y.spoil(&p)
			}
			if err := check.Pattern(p); err != modelPattern(p) || err != x.want {
				t.Errorf("%s and %s: error %d, not %d", x.name, y.name, err, x.want)
			}
			seen[[2]api.Errno{x.want, y.want}] = true
		}
	}
	if len(seen) < 14 {
		t.Errorf("%d pairs: %v", len(seen), seen)
	}
}

// Patterns by chance, with some faults, against the chapter's words.
func TestAnyPattern(t *testing.T) {
	r := dice()
	seen := map[api.Errno]int{}
	for range 20000 {
		p := pattern(someTree(r, 1+r.IntN(14), names(2+r.IntN(20))))
		if r.IntN(8) == 0 {
			p.Root = anyTree(r, 1+r.IntN(14), names(9))
		}
		p.Name = append(notNames(), slices.Repeat([]string{"p", "q1", longest()}, 20)...)[r.IntN(72)]
		p.Window = []int64{0, -1, 1 << 41, 1, 2, 3, 5, 10, 100, 1 << 40}[r.IntN(10)]
		if vars := check.Vars(p.Root); len(vars) > 0 {
			p.Where = someConds(r, r.IntN(3), append(vars, vars...))
		}
		if r.IntN(20) == 0 {
			p.Where = slices.Repeat(someConds(r, 1, names(2)), r.IntN(20))
		}
		want := modelPattern(p)
		seen[want]++
		wantPattern(t, p, want)
	}
	for _, err := range []api.Errno{api.OK, api.ErrTitle, api.ErrNode, api.ErrDeep, api.ErrVar, api.ErrCond} {
		if seen[err] < 50 {
			t.Errorf("error %d: %d", err, seen[err])
		}
	}
}

// full is a pattern in which each field says something.
func full(t *testing.T) api.Pattern {
	t.Helper()
	p, _, err := syntax.Parse(`pattern p within 10 : A as a [ x > 3 , y = "s" ] ; ( B as b | C as c [ 1 != z ] ) & D as d where a . x = d . x , 5 < a . y`)
	if err != api.OK {
		t.Fatalf("error %d", err)
	}
	return p
}

// changes are changes of a full pattern, each of one field.
func changes() map[string]func(p *api.Pattern) {
	inner := func(p *api.Pattern) *api.Node { return &p.Root.Kids[1].Kids[0].Kids[1] }
	m := map[string]func(p *api.Pattern){
		"name":             func(p *api.Pattern) { p.Name = "P" },
		"no name":          func(p *api.Pattern) { p.Name = "" },
		"window":           func(p *api.Pattern) { p.Window++ },
		"no window":        func(p *api.Pattern) { p.Window = 0 },
		"fewer where":      func(p *api.Pattern) { p.Where = p.Where[:1] },
		"no where":         func(p *api.Pattern) { p.Where = nil },
		"more where":       func(p *api.Pattern) { p.Where = append(p.Where, p.Where[0]) },
		"where turned":     func(p *api.Pattern) { slices.Reverse(p.Where) },
		"no root":          func(p *api.Pattern) { p.Root = api.Node{} },
		"root's kind":      func(p *api.Pattern) { p.Root.Kind = api.NdAnd },
		"root's var":       func(p *api.Pattern) { p.Root.Var = "v" },
		"root's type":      func(p *api.Pattern) { p.Root.Type = "T" },
		"root's tests":     func(p *api.Pattern) { p.Root.Tests = tests(1) },
		"fewer kids":       func(p *api.Pattern) { p.Root.Kids = p.Root.Kids[:1] },
		"no kids":          func(p *api.Pattern) { p.Root.Kids = nil },
		"more kids":        func(p *api.Pattern) { p.Root.Kids = append(p.Root.Kids, p.Root.Kids[0]) },
		"kids turned":      func(p *api.Pattern) { slices.Reverse(p.Root.Kids) },
		"kid's kind":       func(p *api.Pattern) { p.Root.Kids[0].Kind = 0 },
		"kid's var":        func(p *api.Pattern) { p.Root.Kids[0].Var = "b" },
		"kid's type":       func(p *api.Pattern) { p.Root.Kids[0].Type = "a" },
		"kid's kids":       func(p *api.Pattern) { p.Root.Kids[0].Kids = terms(1) },
		"kid's first test": func(p *api.Pattern) { p.Root.Kids[0].Tests[0].Rel = 0 },
		"kid's last test":  func(p *api.Pattern) { p.Root.Kids[0].Tests[1].Right.Value.S = "S" },
		"fewer tests":      func(p *api.Pattern) { p.Root.Kids[0].Tests = p.Root.Kids[0].Tests[:1] },
		"no tests":         func(p *api.Pattern) { p.Root.Kids[0].Tests = nil },
		"deep kind":        func(p *api.Pattern) { inner(p).Kind = 2 },
		"deep var":         func(p *api.Pattern) { inner(p).Var = "C" },
		"deep type":        func(p *api.Pattern) { inner(p).Type = "" },
		"deep kids":        func(p *api.Pattern) { inner(p).Kids = terms(2) },
		"deep test":        func(p *api.Pattern) { inner(p).Tests[0].Left.Value.N = -1 },
		"deep tests":       func(p *api.Pattern) { inner(p).Tests = nil },
		"fewer deep kids":  func(p *api.Pattern) { p.Root.Kids[1].Kids[0].Kids = p.Root.Kids[1].Kids[0].Kids[:1] },
	}
	for name, change := range map[string]func(c *api.Cond){
		"rel":        func(c *api.Cond) { c.Rel++ },
		"left var":   func(c *api.Cond) { c.Left.Var = "q" },
		"left attr":  func(c *api.Cond) { c.Left.Attr = "q" },
		"left kind":  func(c *api.Cond) { c.Left.Value.Kind++ },
		"left n":     func(c *api.Cond) { c.Left.Value.N++ },
		"left s":     func(c *api.Cond) { c.Left.Value.S += "q" },
		"right var":  func(c *api.Cond) { c.Right.Var = "q" },
		"right attr": func(c *api.Cond) { c.Right.Attr = "q" },
		"right kind": func(c *api.Cond) { c.Right.Value.Kind++ },
		"right n":    func(c *api.Cond) { c.Right.Value.N++ },
		"right s":    func(c *api.Cond) { c.Right.Value.S += "q" },
		"turned":     func(c *api.Cond) { c.Left, c.Right = c.Right, c.Left },
	} {
		m["where's "+name] = func(p *api.Pattern) { change(&p.Where[1]) }
		m["test's "+name] = func(p *api.Pattern) { change(&p.Root.Kids[0].Tests[1]) }
		m["deep test's "+name] = func(p *api.Pattern) { change(&inner(p).Tests[0]) }
	}
	return m
}

func TestSame(t *testing.T) {
	if !check.Same(full(t), full(t)) || !check.Same(api.Pattern{}, api.Pattern{}) {
		t.Errorf("the same is not the same")
	}
	for name, change := range changes() {
		p, q := full(t), full(t)
		change(&q)
		if check.Same(p, q) || check.Same(q, p) {
			t.Errorf("%s: the same", name)
		}
		change(&p)
		if !check.Same(p, q) || !check.Same(p, p) {
			t.Errorf("%s of both: not the same", name)
		}
		if check.Same(full(t), q) || check.Same(api.Pattern{}, q) {
			t.Errorf("%s: the same as without it, or as nothing", name)
		}
	}
}

// Empty and nil lists are the same, at each place.
func TestSameOfEmptyLists(t *testing.T) {
	p, q := pattern(seq(of("a"), of("b"))), pattern(seq(of("a"), of("b")))
	for _, n := range places(&q.Root) {
		if len(n.Kids) == 0 {
			n.Kids = []api.Node{}
		}
		n.Tests = []api.Cond{}
	}
	q.Where = []api.Cond{}
	if !check.Same(p, q) || !check.Same(q, p) || !check.Same(q, q) {
		t.Errorf("not the same")
	}
	// what stands behind a list's end is not of it
	p.Where, q.Where = tests(3)[:0], []api.Cond{{Rel: 9}}[:0]
	p.Root.Kids[0].Kids = terms(2)[:0]
	q.Root.Kids = append(q.Root.Kids, of("c"))[:2]
	if !check.Same(p, q) || !check.Same(q, p) {
		t.Errorf("not the same")
	}
}

func TestSameOfAnyPatterns(t *testing.T) {
	r := dice()
	same := 0
	for range 20000 {
		vars := names(2)
		p := pattern(anyTree(r, 1+r.IntN(3), vars), someConds(r, max(0, r.IntN(4)-2), vars)...)
		q := pattern(anyTree(r, 1+r.IntN(3), vars), someConds(r, max(0, r.IntN(4)-2), vars)...)
		want := modelSame(p, q)
		if check.Same(p, q) != want || check.Same(q, p) != want {
			t.Fatalf("%s and %s: not %v", shownPattern(p), shownPattern(q), want)
		}
		if !check.Same(p, modelClone(p)) {
			t.Fatalf("%s: not the same as its copy", shownPattern(p))
		}
		if want {
			same++
		}
	}
	if same < 30 {
		t.Errorf("%d are the same", same)
	}
}

func TestClone(t *testing.T) {
	r := dice()
	l := []api.Pattern{full(t), {}, pattern(of("a")), pattern(seq())}
	for range 500 {
		l = append(l, pattern(anyTree(r, 1+r.IntN(20), names(9)), someConds(r, r.IntN(5), names(3))...))
		l = append(l, taken(r))
	}
	for _, p := range l {
		if c := check.Clone(p); !modelSame(c, p) || !check.Same(c, p) || check.Pattern(c) != check.Pattern(p) {
			t.Errorf("%s: %s", shownPattern(p), shownPattern(c))
		}
	}
}

// A change of a clone, at each level, changes nothing of what it was made of; and the other way round.
func TestClonesAreTheirOwn(t *testing.T) {
	for name, change := range changes() {
		p := full(t)
		c := check.Clone(p)
		change(&c)
		if !modelSame(p, full(t)) {
			t.Errorf("%s of the clone: %s", name, shownPattern(p))
		}
		c = check.Clone(p)
		change(&p)
		if !modelSame(c, full(t)) {
			t.Errorf("%s of what was cloned: %s", name, shownPattern(c))
		}
		c = check.Clone(full(t))
		d := check.Clone(c)
		change(&d)
		if !modelSame(c, full(t)) {
			t.Errorf("%s of the clone's clone: %s", name, shownPattern(c))
		}
	}
	// each list by itself, and what stands behind it
	r := dice()
	for range 300 {
		p := taken(r)
		p.Root = roomy(p.Root)
		was := modelClone(p)
		c := check.Clone(p)
		many := len(below(p.Root))
		for at := range many {
			c := check.Clone(p)
			n := places(&c.Root)[at]
			_ = append(n.Tests, api.Cond{Rel: 99})
			for i := range n.Tests {
				n.Tests[i] = api.Cond{Rel: 98}
			}
			_ = append(n.Kids, api.Node{Kind: 99})
			for i := range n.Kids {
				n.Kids[i] = api.Node{Kind: 98}
			}
			// no two lists of the clone share memory
			n.Tests, n.Kids = slices.Clone(below(was.Root)[at].Tests), cloned(below(was.Root)[at]).Kids
			if !modelSame(p, was) || !modelSame(c, was) || !behind(p.Root) {
				t.Fatalf("%s shares memory", shownPattern(was))
			}
		}
		for i := range c.Where {
			c.Where[i] = api.Cond{}
		}
		_ = append(c.Where, api.Cond{Rel: 99})
		if !modelSame(p, was) {
			t.Fatalf("%s shares its Where", shownPattern(was))
		}
	}
}

// A clone of empty lists holds none of their memory.
func TestCloneOfEmptyLists(t *testing.T) {
	p := pattern(of("a"))
	p.Root.Kids, p.Root.Tests, p.Where = terms(3)[:0], tests(3)[:0], tests(3)[:0]
	c := check.Clone(p)
	if cap(c.Root.Kids) != 0 || cap(c.Root.Tests) != 0 || cap(c.Where) != 0 {
		t.Errorf("room for %d, %d, %d", cap(c.Root.Kids), cap(c.Root.Tests), cap(c.Where))
	}
	if !check.Same(c, pattern(of("a"))) {
		t.Errorf("%s", shownPattern(c))
	}
}
