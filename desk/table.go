package desk

import "trellis/api"

// command: a row of the table of lines: its words behind the first one, and what carries it out.
type command struct {
	words string
	does  func(order) ([]string, api.Errno)
}

// commandOf tells the command that the next word names, and whether there is one.
func commandOf(r *reader) (command, bool) {
	w, good := r.word()
	c, is := commands()[w.says]
	return c, good && w.bare && is
}

// commands: the table of lines, by their first words.
func commands() map[string]command {
	return map[string]command{
		"set":    {"D NAME KEY TREE", order.set},
		"delete": {"D NAME KEY", order.delete},
		"append": {"D NAME KEY FLOAT+", order.append},
		"branch": {"D NAME NAME", order.branch},
		"drop":   {"D NAME", order.drop},
		"merge":  {"D NAME NAME SIDE?", order.merge},
		"begin":  {"D", order.begin},
		"commit": {"D NAME", order.commit},
		"cancel": {"D", order.cancel},

		"get":    {"D NAME KEY", order.get},
		"all":    {"D NAME", order.entries},
		"heads":  {"D", order.heads},
		"log":    {"D NAME NUMBER", order.log},
		"prove":  {"D NAME KEY", order.prove},
		"verify": {"LINK KEY HEX+", order.verify},
		"diff":   {"D NAME NAME", order.diff},
		"count":  {"D NAME KEY", order.count},
		"sum":    {"D NAME KEY NUMBER NUMBER", order.sum},
		"ends":   {"D NAME KEY NUMBER NUMBER", order.ends},

		"sweep":  {"D", order.sweep},
		"check":  {"D", order.check},
		"blocks": {"D", order.blocks},
		"lose":   {"D LINK", order.lose},
		"force":  {"D LINK HEX", order.force},
		"copy":   {"D NAME D NAME", order.copy},
		"fetch":  {"D NAME D NAME NUMBER", order.fetch},

		"lay":   {"TREE", order.lay},
		"read":  {"HEX NUMBER", order.read},
		"loose": {"HEX NUMBER", order.loose},
	}
}
