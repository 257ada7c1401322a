package sample

import "wreckage/api"

// kinds is how many kinds of numbers a recipe has; v, of which there are as many, tells those of a kind apart.
const kinds = 32

// first is main of the image of a recipe.
func first(l []int) api.Func {
	var code []api.Instr
	add := func(text string, v int) { code = written(code, text, v) }
	add("int 0 5; bool 1 1; text 2 0; new 3; zero 4; zero 5; int 7 2; make 6 7; new 8", 0)
	rows := rows()
	for _, x := range l {
		x = max(x, 0)
		row, v := rows[x%kinds], x/kinds%kinds
		add(row[v%len(row)], v)
	}
	add("return -1", 0)
	return function("main", 0, none, "n on s p r a l k q", code)
}

// rows has what the numbers of each kind stand for: one of these texts, chosen by v.
func rows() [kinds][]string {
	return [...][]string{
		{"int 0 v"},
		{"add 0 0 7"},
		{"sub 7 7 0"},
		{"mul 0 0 7"},
		{"div 0 0 7"},
		{"less 1 0 7"},
		{"not 1 1"},
		{"same 1 0 7"},
		{"store 3 0"},
		{"load 0 3"},
		{"new 3"},
		{"zero 3"},
		{"put 4 0 0"},
		{"field 7 4 0"},
		{"put 4 2 3"},
		{"new 8"},
		{"store 8 4"},
		{"load 4 8"},
		{"make 6 7"},
		{"set 6 7 0"},
		{"at 0 6 7"},
		{"set 5 7 0"},
		{"at 0 5 7"},
		{"len 7 6"},
		{"arg 0; call 0 1"},
		{"arg 0; defer 2", "arg 0; defer 4", "arg 0; defer 7"},
		{"defer 5", "defer 6"},
		{"arg 7; go 3"},
		{"wake 1 7", "copy 7 0", "text 2 1", "recover 1 0"},
		{"branch 1 @; panic 0"},
		{"branch 1 @; exit"},
		{"branch 1 @; block 7"},
	}
}

// others are the functions behind main, which are the same ones in the image of each recipe.
func others() []api.Func {
	code := func(text string) []api.Instr { return written(nil, text, 0) }
	return []api.Func{
		function("work", 1, typeInt, "n k on", code("int 1 1; less 2 0 1; branch 2 8; sub 1 0 1; arg 1; call 1 1; add 1 1 0; return 1; return 0; return -1")),
		function("late", 1, none, "n on k", code("recover 1 2; branch 1 4; less 1 0 2; branch 1 5; return -1; panic 0; return -1")),
		function("task", 1, none, "k on", code("yield; wake 1 0; branch 1 4; block 0; return -1")),
		function("fail", 1, none, "n", code("panic 0; return -1")),
		function("leave", 0, none, "", code("exit; return -1")),
		function("quiet", 0, none, "on n", code("recover 0 1; return -1")),
		function("again", 1, none, "n on k", code("recover 1 2; panic 0; return -1")),
	}
}
