package sample_test

import (
	"math/rand"
	"testing"

	"assize/api"
	"assize/check"
	"assize/code"
	"assize/sample"
	"assize/tree"
)

func TestProgramsMayBe(t *testing.T) {
	kinds := map[int]int{}
	for seed := range int64(3000) {
		p := sample.Program(rand.New(rand.NewSource(seed)).Intn)
		if spot := check.Check(p); spot.Err != api.OK {
			t.Fatal(seed, spot)
		}
		if !tree.Same(p, sample.Program(rand.New(rand.NewSource(seed)).Intn)) {
			t.Fatal(seed, "is another program")
		}
		for _, th := range p.Threads {
			for _, s := range th.Body {
				kinds[s.Kind]++
			}
		}
	}
	for kind := api.Assign; kind <= api.Skip; kind++ {
		if kinds[kind] < 300 {
			t.Error("too few of", kind, kinds)
		}
	}
}

func TestExpressionsAreOfTheirTypes(t *testing.T) {
	p := api.Program{Shared: []api.Var{{Name: "a", First: api.Value{T: api.Int}}, {Name: "b", First: api.Value{T: api.Real}}},
		Threads: []api.Thread{{Name: "t"}}}
	pick := rand.New(rand.NewSource(1)).Intn
	ops := map[api.Op]int{}
	for range 3000 {
		want := sample.Type(pick)
		e := sample.Expr(pick, want, 5, p.Shared)
		if got, err := check.TypeOf(p, 0, e); got != want || err != api.OK || tree.Height(e) > 5 {
			t.Fatal(got, want, err, tree.Height(e))
		}
		ops[e.Op]++
	}
	for op := api.Lit; op <= api.ToReal; op++ {
		if ops[op] == 0 {
			t.Error("none of", op)
		}
	}
}

func TestCodesMayBe(t *testing.T) {
	kinds, ops := map[int]int{}, map[api.Op]int{}
	for seed := range int64(3000) {
		c := sample.Code(rand.New(rand.NewSource(seed)).Intn)
		if err := code.Check(c); err != api.OK {
			t.Fatal(seed, err)
		}
		if !code.Same(c, sample.Code(rand.New(rand.NewSource(seed)).Intn)) {
			t.Fatal(seed, "is another code")
		}
		for _, b := range c.Bodies {
			for _, n := range b.Nodes {
				kinds[n.Kind]++
				for _, i := range n.Code {
					ops[i.Op]++
				}
			}
		}
	}
	for kind := api.SetLocal; kind <= api.Pass; kind++ {
		if kinds[kind] < 300 {
			t.Error("too few of", kind, kinds)
		}
	}
	for op := api.Lit; op <= api.Fetch; op++ {
		if isInstr := op != api.Name && op <= api.ToReal || op >= api.Load; isInstr != (ops[op] >= 100) {
			t.Error("so many of", op, ops)
		}
	}
}
