package code

import (
	"strconv"
	"strings"

	"caliper/api"
)

// words are those of the ops, in the order of their numbers, from 1 on.
const words = "done never type equal multiple max maxout min minout longest shortest pattern mostitems leastitems unique mostprops leastprops required depends call try probe clear atleast atmost zero go lacks unless prefix items count prop matching rest names left"

func textOf(c *api.Code) string {
	wordOf := strings.Fields(words)
	var out strings.Builder
	for r, from := range c.Routines {
		putLine(&out, "routine", r)
		for at := from; at < endOf(c, r); at++ {
			i := c.Ins[at]
			putLine(&out, strconv.Itoa(at)+" "+wordOf[i.Op-1], operandsIn(i)...)
		}
	}
	return out.String()
}

// operandsIn answers the numbers that an instruction's op has.
func operandsIn(i api.Ins) []int {
	var all []int
	areAll(i, func(o operand, n int) bool {
		if o != nothing {
			all = append(all, n)
		}
		return true
	})
	return all
}

func putLine(out *strings.Builder, word string, numbers ...int) {
	out.WriteString(word)
	for _, n := range numbers {
		out.WriteByte(' ')
		out.WriteString(strconv.Itoa(n))
	}
	out.WriteByte(10)
}
