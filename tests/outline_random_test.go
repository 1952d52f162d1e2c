package tests

import (
	"math/rand"
	"slices"
	"strings"
	"testing"

	"loop.example/g00465/impl"
)

// plainly is a tree in which some texts and Keys are others that are PlainOk.
func plainly(r *rand.Rand, n node) node {
	words := []string{"a", "b", "web", "cpu", "a.b/c-1", "nulls", "Z_9", strings.Repeat("k", 60)}
	if n.Kind == impl.NdText && r.Intn(2) == 0 {
		return textNode(words[r.Intn(len(words))])
	}
	out := n
	out.Kids = nil
	for _, kid := range n.Kids {
		out.Kids = append(out.Kids, plainly(r, kid))
	}
	if n.Kind != impl.NdMap {
		return out
	}
	model := map[string]node{}
	for i, key := range n.Keys {
		if r.Intn(2) == 0 {
			key = words[r.Intn(len(words))]
		}
		model[key] = out.Kids[i]
	}
	return mapOf(model)
}

// inLines writes a tree in lines by the test's own means: Keys in any order, quoted or not, lists and maps in lines or in braces, blanks about all in braces, and lines that say nothing between.
func inLines(r *rand.Rand, n node) []string {
	if len(n.Kids) == 0 || r.Intn(6) == 0 {
		return withIdle(r, strings.TrimLeft(inOneLine(r, n), " "))
	}
	return withIdle(r, blockLines(r, n, "")...)
}

func inOneLine(r *rand.Rand, n node) string {
	if n.Kind == impl.NdText && impl.PlainOk(n.S) && r.Intn(2) == 0 {
		return n.S
	}
	return strings.ReplaceAll(loosely(r, n), "\n", "\t")
}

func blockLines(r *rand.Rand, n node, in string) []string {
	var blocks [][]string
	for i, kid := range n.Kids {
		head := in + "-"
		if n.Kind == impl.NdMap {
			head = in + looseKey(r, n.Keys[i]) + ":"
		}
		if len(kid.Kids) == 0 || r.Intn(3) == 0 {
			blocks = append(blocks, []string{head + " " + inOneLine(r, kid)})
		} else {
			blocks = append(blocks, append([]string{head}, blockLines(r, kid, in+"  ")...))
		}
	}
	if n.Kind == impl.NdMap {
		r.Shuffle(len(blocks), func(i, j int) { blocks[i], blocks[j] = blocks[j], blocks[i] })
	}
	return slices.Concat(blocks...)
}

func looseKey(r *rand.Rand, key string) string {
	if impl.PlainOk(key) && r.Intn(3) > 0 {
		return key
	}
	return looseText(r, key)
}

func withIdle(r *rand.Rand, lines ...string) []string {
	var out []string
	for _, line := range append(lines, "") {
		for r.Intn(4) == 0 {
			out = append(out, idle()[r.Intn(len(idle()))])
		}
		out = append(out, line)
	}
	return out[:len(out)-1]
}

func TestInLinesIsReadAsItWas(t *testing.T) {
	r := rand.New(rand.NewSource(6))
	for range 20000 {
		tree := plainly(r, anyTree(r, 1+r.Intn(impl.MaxDeep)))
		s := text(inLines(r, tree)...)
		if r.Intn(3) == 0 {
			s = strings.TrimSuffix(s, "\n")
		}
		if len(s) > impl.MaxBytes || !impl.TreeOk(tree) {
			continue
		}
		wantOutline(t, s, tree)
		outlineHeld(t, s)
	}
}

// Texts that are nearly right: a line is moved, taken away, put in twice or further in or out, or one of its bytes is spoiled.
func TestOutlineOfSpoiledTexts(t *testing.T) {
	r := rand.New(rand.NewSource(7))
	for range 60000 {
		lines := inLines(r, plainly(r, anyTree(r, 2+r.Intn(4))))
		for range 1 + r.Intn(2) {
			lines = spoiled(r, lines)
		}
		outlineHeld(t, text(lines...))
		outlineHeld(t, strings.Join(lines, "\n"))
	}
}

func spoiled(r *rand.Rand, lines []string) []string {
	if len(lines) == 0 {
		return []string{"a: 1"}
	}
	at, to := r.Intn(len(lines)), r.Intn(len(lines))
	line := lines[at]
	switch r.Intn(8) {
	case 0:
		return slices.Delete(lines, at, at+1)
	case 1:
		return slices.Insert(lines, to, line)
	case 2:
		lines[at], lines[to] = lines[to], lines[at]
	case 3:
		lines[at] = strings.Repeat(" ", r.Intn(5)) + line
	case 4:
		lines[at] = strings.TrimPrefix(line, strings.Repeat(" ", 1+r.Intn(4)))
	case 5:
		head, _, _ := strings.Cut(line, " ")
		lines[at] = head
	default:
		lines[at] = spoiledLine(r, line)
	}
	return lines
}

func spoiledLine(r *rand.Rand, line string) string {
	const bytes = "--::  ##\"\\/[]{},01na\t\r\n\x00\x7f\xff"
	at, c := r.Intn(len(line)+1), bytes[r.Intn(len(bytes)):][:1]
	if at == len(line) || r.Intn(2) == 0 {
		return line[:at] + c + line[at:]
	}
	if r.Intn(2) == 0 {
		return line[:at] + line[at+1:]
	}
	return line[:at] + c + line[at+1:]
}
