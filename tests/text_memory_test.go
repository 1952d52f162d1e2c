package tests

import (
	"fmt"
	"math/rand"
	"reflect"
	"sync"
	"testing"

	"loop.example/g00465/impl"
)

func TestSaidWritesIntoNothing(t *testing.T) {
	for form := -1; form <= mostForms; form++ {
		writesIntoNothing(t, fmt.Sprintf("Said %d", form), func(n node) string { return impl.Said(form, n) })
	}
}

func TestHeardSharesNothing(t *testing.T) {
	r := rand.New(rand.NewSource(128))
	for form := range mostForms {
		heard := func(s string) (node, int) {
			n, ok := impl.Heard(form, s)
			if !ok {
				return n, 0
			}
			return n, -1
		}
		var texts []string
		for range 500 {
			texts = append(texts, saidOf(form, plainly(r, anyTree(r, 1+r.Intn(5)))))
		}
		for _, n := range append(goodTrees(), shapeModels(fullOrder())...) {
			texts = append(texts, saidOf(form, n))
		}
		readsShareNothing(t, fmt.Sprintf("Heard %d", form), heard, texts)
	}
}

// Orders of all sorts, and such as are none, with spare room behind their lists, in which something stands.
func TestSaidOrderWritesIntoNothing(t *testing.T) {
	orders := append(manyShaped(), order{}, withMetrics(webOrder(), namedMetrics("e", "d", "c", "b", "a")...), withNotes(webOrder(), keyedNotes("b", "a")...))
	for _, change := range orderFaults() {
		o := anew(webOrder())
		change(&o)
		orders = append(orders, o)
	}
	for _, o := range orders {
		arg := roomyOrder(o)
		was := wholeOrder(arg)
		for form := -1; form <= mostForms; form++ {
			for shape := -1; shape <= 3; shape++ {
				said := impl.SaidOrder(form, shape, arg)
				if !reflect.DeepEqual(wholeOrder(arg), was) {
					t.Fatalf("what was handed in is %+v, it was %+v", wholeOrder(arg), was)
				}
				// What stands in spare room counts for nothing.
				wantSaidOrder(t, form, shape, o, said)
			}
		}
	}
}

// Lists that share room with others, and with each other, are left as they are.
func TestSaidOrderOfListsThatShareRoom(t *testing.T) {
	metrics := func() []metric {
		return []metric{metricOf("a", 1, 1), cpuOf(10), metricOf("d", 3, 3), metricOf("e", 1, 1), cpuOf(20)}
	}
	notes := func() []note { return keyedNotes("a", "b", "r", "s", "t") }
	list, keyed := metrics(), notes()
	for low := range 2 {
		for high := 2; high <= 4; high++ {
			o := withNotes(withMetrics(webOrder(), list[low:high]...), keyed[low:high]...)
			for shape, tree := range shapeModels(withNotes(withMetrics(webOrder(), metrics()[low:high]...), notes()[low:high]...)) {
				for form := range mostForms {
					wantSaidOrder(t, form, shape, o, saidOf(form, tree))
				}
			}
			if !reflect.DeepEqual(list, metrics()) || !reflect.DeepEqual(keyed, notes()) {
				t.Fatalf("what was handed in is %+v, %+v", list, keyed)
			}
		}
	}
}

// What is written into one answer, or into the room behind its lists, is not to be seen in another one.
func TestHeardOrderSharesNothing(t *testing.T) {
	shared := withMetrics(fullOrder(), metricOf("a", 1, 1), metricOf("b", 2, 2), cpuOf(10), metricOf("d", 3, 3))
	for _, want := range append(manyShaped(), shared) {
		for shape, tree := range shapeModels(want) {
			for form := range mostForms {
				s := saidOf(form, tree)
				first, _, _ := impl.HeardOrder(form, s)
				for range 2 {
					o, _, _ := impl.HeardOrder(form, s)
					metrics, notes := o.Metrics[:cap(o.Metrics)], o.Notes[:cap(o.Notes)]
					for i := range metrics {
						metrics[i] = metricOf("scribbled", 9, 9)
					}
					for i := range notes {
						notes[i] = noteOf("scribbled", "9")
					}
				}
				if !impl.OrderSame(first, want) {
					t.Fatalf("an earlier answer, the later ones written into: %+v", first)
				}
				wantOrderHeard(t, form, s, want, shape)
			}
		}
	}
}

// Nothing is kept from one call to another, also where many call at the same time.
func TestTextsAtTheSameTime(t *testing.T) {
	texts := webTexts()
	got := make([]string, 32)
	var all sync.WaitGroup
	for i := range got {
		all.Go(func() {
			for n := range 100 {
				form, shape := (n+i)%mostForms, (n+i)%3
				o, heard, way := impl.HeardOrder(form, texts[form][shape])
				tree, ok := impl.Heard(form, texts[form][shape])
				if heard != shape || way != "" || !ok || impl.Said(form, tree) != texts[form][shape] || impl.SaidOrder(form, shape, o) != texts[form][shape] {
					got[i] = fmt.Sprintf("form %d, shape %d: %+v, %d, %q, %s", form, shape, o, heard, way, brief(tree))
				}
			}
		})
	}
	all.Wait()
	for i := range got {
		if got[i] != "" {
			t.Error(got[i])
		}
	}
}
