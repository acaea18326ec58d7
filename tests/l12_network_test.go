package tests

import (
	"fmt"
	"iter"
	"math"
	"regexp"
	"slices"
	"strings"
	"testing"

	"loop.example/g00907/impl"
)

// networkOf reads the notation of a network, whatever its numbers are.
func networkOf(notation string) impl.Network {
	words := strings.Fields(notation)
	var n impl.Network
	fmt.Sscan(words[0], &n.Wires)
	for _, word := range words[1:] {
		var c impl.Comparator
		fmt.Sscanf(word, "%d-%d", &c.Low, &c.High)
		n.Comparators = append(n.Comparators, c)
	}
	return n
}

// notationOf is the inverse of networkOf.
func notationOf(n impl.Network) string {
	notation := fmt.Sprint(n.Wires)
	for _, c := range n.Comparators {
		notation += fmt.Sprintf(" %d-%d", c.Low, c.High)
	}
	return notation
}

func isNetworkModel(n impl.Network) bool {
	valid := n.Wires >= 1 && n.Wires <= 16 && len(n.Comparators) <= 200
	for _, c := range n.Comparators {
		valid = valid && c.Low != c.High && min(c.Low, c.High) >= 0 && max(c.Low, c.High) < n.Wires
	}
	return valid
}

// applyModel gives the least and the greatest of two values to the wires of every comparator.
func applyModel(n impl.Network, list []int) []int {
	values := slices.Clone(list)
	for _, c := range n.Comparators {
		a, b := values[c.Low], values[c.High]
		values[c.Low], values[c.High] = min(a, b), max(a, b)
	}
	return values
}

// binaryLists are the binary inputs of a network as lists, each at the index of its mask.
func binaryLists(wires int) [][]int {
	var lists [][]int
	for input := range 1 << wires {
		list := make([]int, wires)
		for i := range list {
			list[i] = input >> i % 2
		}
		lists = append(lists, list)
	}
	return lists
}

func unsortedModel(n impl.Network) int {
	return slices.IndexFunc(binaryLists(n.Wires), func(input []int) bool { return !slices.IsSorted(applyModel(n, input)) })
}

// layersModel looks at all earlier comparators.
func layersModel(n impl.Network) []int {
	layers := []int{}
	for _, c := range n.Comparators {
		layer := 1
		for k, earlier := range n.Comparators[:len(layers)] {
			if slices.Contains([]int{earlier.Low, earlier.High}, c.Low) || slices.Contains([]int{earlier.Low, earlier.High}, c.High) {
				layer = max(layer, layers[k]+1)
			}
		}
		layers = append(layers, layer)
	}
	return layers
}

// standardModel exchanges the numbers in the later comparators one by one. It also returns the number
// that every wire has in the end.
func standardModel(n impl.Network) (impl.Network, []int) {
	n.Comparators = slices.Clone(n.Comparators)
	names := steppedList(n.Wires, 0, 1)
	for i, c := range n.Comparators {
		if c.Low < c.High {
			continue
		}
		turned := func(wire int) int {
			switch wire {
			case c.Low:
				return c.High
			case c.High:
				return c.Low
			}
			return wire
		}
		n.Comparators[i] = impl.Comparator{Low: c.High, High: c.Low}
		for k, later := range n.Comparators[i+1:] {
			n.Comparators[i+1+k] = impl.Comparator{Low: turned(later.Low), High: turned(later.High)}
		}
		for wire := range names {
			names[wire] = turned(names[wire])
		}
	}
	return n, names
}

// redundantModel takes the lists of all binary inputs through the network together.
func redundantModel(n impl.Network) []int {
	lists := binaryLists(n.Wires)
	redundant := []int{}
	for i, c := range n.Comparators {
		if !slices.ContainsFunc(lists, func(values []int) bool { return values[c.Low] > values[c.High] }) {
			redundant = append(redundant, i)
		}
		for k, values := range lists {
			lists[k] = applyModel(impl.Network{Comparators: n.Comparators[i : i+1]}, values)
		}
	}
	return redundant
}

func pruneModel(n impl.Network) impl.Network {
	n.Comparators = slices.Clone(n.Comparators)
	for _, i := range slices.Backward(redundantModel(n)) {
		n.Comparators = slices.Delete(n.Comparators, i, i+1)
	}
	return n
}

// bubbleNetwork sorts by comparators of neighbours.
func bubbleNetwork(wires int) impl.Network {
	n := impl.Network{Wires: wires}
	for r := wires - 1; r > 0; r-- {
		for i := range r {
			n.Comparators = append(n.Comparators, impl.Comparator{Low: i, High: i + 1})
		}
	}
	return n
}

// upsideDown returns n with all comparators reversed.
func upsideDown(n impl.Network) impl.Network {
	n.Comparators = slices.Clone(n.Comparators)
	for i, c := range n.Comparators {
		n.Comparators[i] = impl.Comparator{Low: c.High, High: c.Low}
	}
	return n
}

// joined returns the network with the comparators of both.
func joined(a, b impl.Network) impl.Network {
	return impl.Network{Wires: a.Wires, Comparators: slices.Concat(a.Comparators, b.Comparators)}
}

// mixedNetwork has comparators without an order, about half of them reversed.
func mixedNetwork(wires, count, seed int) impl.Network {
	n := impl.Network{Wires: wires}
	state := seed*7919 + wires*31 + count
	next := func(limit int) int {
		state = (state*1103515245 + 12345) % (1 << 31)
		return state >> 12 % limit
	}
	for range count {
		low := next(wires)
		n.Comparators = append(n.Comparators, impl.Comparator{Low: low, High: (low + 1 + next(wires-1)) % wires})
	}
	return n
}

// allNetworks yields the networks with the number of wires and at most that many comparators.
func allNetworks(wires, most int) iter.Seq[impl.Network] {
	var pairs []impl.Comparator
	for low := range wires {
		for high := range wires {
			if low != high {
				pairs = append(pairs, impl.Comparator{Low: low, High: high})
			}
		}
	}
	return func(yield func(impl.Network) bool) {
		for count := range most + 1 {
			for codes := range listsOver(steppedList(len(pairs), 0, 1), count) {
				n := impl.Network{Wires: wires}
				for _, code := range codes {
					n.Comparators = append(n.Comparators, pairs[code])
				}
				if !yield(n) {
					return
				}
			}
		}
	}
}

// networkSamples are valid networks with any number of wires.
func networkSamples() []impl.Network {
	var networks []impl.Network
	for wires := 1; wires <= impl.MaxWires; wires++ {
		bubble := bubbleNetwork(wires)
		networks = append(networks, impl.Network{Wires: wires}, impl.Network{Wires: wires, Comparators: []impl.Comparator{}}, bubble, upsideDown(bubble))
		if wires < 2 {
			continue
		}
		missing := impl.Network{Wires: wires, Comparators: bubble.Comparators[:len(bubble.Comparators)-1]}
		networks = append(networks, missing, joined(mixedNetwork(wires, 20, 3), bubble), joined(bubble, mixedNetwork(wires, 20, 4)))
		for seed, count := range []int{1, 2, wires, 3 * wires, impl.MaxComparators - 1, impl.MaxComparators} {
			networks = append(networks, mixedNetwork(wires, count, seed))
		}
	}
	return networks
}

// smallNetworks are those of networkSamples whose binary inputs are soon tried, and all short ones.
func smallNetworks() []impl.Network {
	networks := slices.DeleteFunc(networkSamples(), func(n impl.Network) bool { return n.Wires > 7 })
	for _, limits := range [][2]int{{1, 1}, {2, 6}, {3, 4}, {4, 2}} {
		networks = slices.AppendSeq(networks, allNetworks(limits[0], limits[1]))
	}
	return networks
}

// largestChecked are networks with MaxCheckedWires wires.
func largestChecked() []impl.Network {
	w := impl.MaxCheckedWires
	return []impl.Network{
		{Wires: w}, bubbleNetwork(w), upsideDown(bubbleNetwork(w)), joined(bubbleNetwork(w), bubbleNetwork(w)),
		joined(mixedNetwork(w, 100, 9), bubbleNetwork(w)), mixedNetwork(w, impl.MaxComparators, 1),
	}
}

// invalidNetworks are networks that break one condition each.
func invalidNetworks() []impl.Network {
	networks := []impl.Network{
		{}, {Wires: -1}, {Wires: impl.MaxWires + 1}, {Wires: math.MinInt}, {Wires: math.MaxInt}, {Wires: 1 << 32}, {Wires: 64}, {Wires: 1<<32 + 2},
		{Comparators: []impl.Comparator{{}}}, networkOf("0 0-1"), networkOf("-2 0-1"), networkOf("17 0-1"), networkOf("1 0-0"), networkOf("1 0-1"), networkOf("1 1-0"),
		{Wires: 2, Comparators: make([]impl.Comparator, 1<<20)},
	}
	for _, wires := range []int{2, 3, impl.MaxCheckedWires, impl.MaxWires} {
		networks = append(networks, mixedNetwork(wires, impl.MaxComparators+1, 1), mixedNetwork(wires, 2*impl.MaxComparators, 1))
		for _, bad := range []int{-1, wires, wires + 1, -wires, math.MinInt, math.MaxInt, 1 << 32, 1<<32 + 1, 1 << 8, 64} {
			networks = append(networks, withComparator(wires, 0, bad, 1), withComparator(wires, 2, 0, bad), withComparator(wires, 4, bad, bad))
		}
		for at := range 5 {
			for _, equal := range []int{0, 1, wires - 1} {
				networks = append(networks, withComparator(wires, at, equal, equal))
			}
		}
	}
	return networks
}

// withComparator returns a network of four comparators, and the given one among them.
func withComparator(wires, at, low, high int) impl.Network {
	n := mixedNetwork(wires, 4, 5)
	n.Comparators = slices.Insert(n.Comparators, at, impl.Comparator{Low: low, High: high})
	return n
}

// wideNetworks are valid networks with more than MaxCheckedWires wires.
func wideNetworks() []impl.Network {
	return slices.DeleteFunc(networkSamples(), func(n impl.Network) bool { return n.Wires <= impl.MaxCheckedWires })
}

func sameNetworks(a, b impl.Network) bool {
	return a.Wires == b.Wires && slices.Equal(a.Comparators, b.Comparators)
}

// checkNetwork checks that a call that returned n and ok has succeeded with the network wanted.
func checkNetwork(t *testing.T, what string, n impl.Network, ok bool, want impl.Network) {
	t.Helper()
	if !ok || !sameNetworks(n, want) {
		t.Error(what, "returned", notationOf(n), ok, "instead of", notationOf(want))
	}
}

// checkZeroNetwork checks that a call that returned n and ok has failed with the zero Network.
func checkZeroNetwork(t *testing.T, what string, n impl.Network, ok bool) {
	t.Helper()
	if ok || n.Wires != 0 || len(n.Comparators) != 0 {
		t.Error(what, "returned", n.Wires, "wires,", len(n.Comparators), "comparators and", ok)
	}
}

// stopIfFailed ends a test that has failed, and names the network for which it has.
func stopIfFailed(t *testing.T, n impl.Network) {
	t.Helper()
	if t.Failed() {
		n.Comparators = n.Comparators[:min(len(n.Comparators), impl.MaxComparators+1)]
		t.Fatal("the network is", notationOf(n))
	}
}

// checkUnchecked checks that the functions that try every binary input refuse n.
func checkUnchecked(t *testing.T, n impl.Network) {
	t.Helper()
	input, ok := impl.FirstUnsorted(n)
	checkNone(t, "FirstUnsorted", nil, ok)
	checkZeros(t, "FirstUnsorted", input)
	redundant, ok := impl.RedundantComparators(n)
	checkNone(t, "RedundantComparators", redundant, ok)
	pruned, ok := impl.PruneNetwork(n)
	checkZeroNetwork(t, "PruneNetwork", pruned, ok)
	stopIfFailed(t, n)
}

func TestNetworkLimits(t *testing.T) {
	if impl.MaxWires != 16 || impl.MaxComparators != 200 || impl.MaxCheckedWires != 12 {
		t.Error("the limits are not those of the document")
	}
}

func TestNetworkExamples(t *testing.T) {
	input, ok := impl.FirstUnsorted(impl.Network{Wires: 2})
	checkNumbers(t, "FirstUnsorted", []int{input}, ok, 1)
	n, ok := impl.StandardForm(impl.Network{Wires: 2, Comparators: []impl.Comparator{{Low: 1, High: 0}, {Low: 0, High: 1}}})
	checkNetwork(t, "StandardForm", n, ok, impl.Network{Wires: 2, Comparators: []impl.Comparator{{Low: 0, High: 1}, {Low: 0, High: 1}}})
	example := impl.Network{Wires: 3, Comparators: []impl.Comparator{{Low: 0, High: 1}, {Low: 1, High: 2}, {Low: 0, High: 1}}}
	s, ok := impl.FormatNetwork(example)
	if !ok || s != "3 0-1 1-2 0-1" {
		t.Error("FormatNetwork returned", s, ok)
	}
	n, ok = impl.ParseNetwork("3 0-1 1-2 0-1")
	checkNetwork(t, "ParseNetwork", n, ok, example)
}

func TestIsValidNetworkOfValidNetworks(t *testing.T) {
	for _, n := range slices.Concat(networkSamples(), smallNetworks()) {
		if !impl.IsValidNetwork(n) {
			t.Fatal("refused", notationOf(n))
		}
	}
	for _, notation := range []string{"1", "16", "2 0-1", "2 1-0", "16 0-15", "16 15-0", "16 15-14", "3 0-2 0-2 2-0"} {
		if !impl.IsValidNetwork(networkOf(notation)) {
			t.Error("refused", notation)
		}
	}
	// A comparator beyond the length does not count.
	some := []impl.Comparator{{Low: 0, High: 1}, {Low: 1, High: 1}}
	if !impl.IsValidNetwork(impl.Network{Wires: 2, Comparators: some[:1]}) {
		t.Error("refused a part of a slice")
	}
}

// Every number of wires meets comparators of all wires near its limits.
func TestIsValidNetworkOfEveryComparator(t *testing.T) {
	for wires := -1; wires <= impl.MaxWires+2; wires++ {
		for low := -2; low <= impl.MaxWires+2; low++ {
			for high := -2; high <= impl.MaxWires+2; high++ {
				n := impl.Network{Wires: wires, Comparators: []impl.Comparator{{Low: low, High: high}}}
				if valid := impl.IsValidNetwork(n); valid != isNetworkModel(n) {
					t.Fatal("IsValidNetwork of", notationOf(n), "returned", valid)
				}
			}
		}
	}
}

func TestNetworkFunctionsOfInvalidNetworks(t *testing.T) {
	for _, n := range invalidNetworks() {
		if impl.IsValidNetwork(n) {
			t.Error("IsValidNetwork returned true")
		}
		for _, wires := range []int{0, 1, 2, 3, min(max(n.Wires, 0), 1<<10)} {
			list, ok := impl.ApplyNetwork(n, make([]int, wires))
			checkNone(t, "ApplyNetwork", list, ok)
		}
		layers, ok := impl.NetworkLayers(n)
		checkNone(t, "NetworkLayers", layers, ok)
		depth, ok := impl.NetworkDepth(n)
		checkNone(t, "NetworkDepth", nil, ok)
		checkZeros(t, "NetworkDepth", depth)
		standard, ok := impl.StandardForm(n)
		checkZeroNetwork(t, "StandardForm", standard, ok)
		s, ok := impl.FormatNetwork(n)
		if ok || s != "" {
			t.Error("FormatNetwork returned", s, ok)
		}
		checkUnchecked(t, n)
	}
}

func TestFunctionsOfBinaryInputsOfTooManyWires(t *testing.T) {
	networks := wideNetworks()
	if len(networks) < 4*(impl.MaxWires-impl.MaxCheckedWires) {
		t.Error("there are", len(networks), "networks")
	}
	for _, n := range networks {
		checkUnchecked(t, n)
	}
	for _, n := range largestChecked() {
		_, isTried := impl.FirstUnsorted(n)
		_, isCompared := impl.RedundantComparators(n)
		_, isPruned := impl.PruneNetwork(n)
		if !isTried || !isCompared || !isPruned {
			t.Error(isTried, isCompared, isPruned, "for", notationOf(n))
		}
	}
}

func TestApplyNetworkOfNamedLists(t *testing.T) {
	for _, c := range []struct {
		network    string
		list, want []int
	}{
		{"1", []int{7}, []int{7}}, {"2", []int{2, 1}, []int{2, 1}},
		{"2 0-1", []int{2, 1}, []int{1, 2}}, {"2 0-1", []int{1, 2}, []int{1, 2}}, {"2 0-1", []int{3, 3}, []int{3, 3}},
		{"2 1-0", []int{1, 2}, []int{2, 1}}, {"2 1-0", []int{2, 1}, []int{2, 1}}, {"2 0-1 1-0", []int{1, 2}, []int{2, 1}}, {"2 1-0 0-1", []int{2, 1}, []int{1, 2}},
		{"3 0-1 1-2", []int{3, 2, 1}, []int{2, 1, 3}}, {"3 1-2 0-1", []int{3, 2, 1}, []int{1, 3, 2}}, {"3 2-0", []int{1, 5, 2}, []int{2, 5, 1}}, {"3 0-2", []int{2, 5, 1}, []int{1, 5, 2}},
		{"4 0-1 2-3 0-2 1-3 1-2", []int{4, 2, 3, 1}, []int{1, 2, 3, 4}}, {"4 1-0 3-2 2-0 3-1 2-1", []int{4, 2, 3, 1}, []int{4, 3, 2, 1}},
		{"2 0-1", []int{impl.MaxKey, -impl.MaxKey}, []int{-impl.MaxKey, impl.MaxKey}}, {"2 1-0", []int{-impl.MaxKey, impl.MaxKey}, []int{impl.MaxKey, -impl.MaxKey}},
		{"16 0-15", steppedList(16, 16, -1), []int{1, 15, 14, 13, 12, 11, 10, 9, 8, 7, 6, 5, 4, 3, 2, 16}},
	} {
		list, ok := impl.ApplyNetwork(networkOf(c.network), c.list)
		checkPartition(t, "ApplyNetwork of "+c.network, list, nil, ok, c.want)
	}
}

// checkApply checks ApplyNetwork for one list, and returns the list that it returned.
func checkApply(t *testing.T, n impl.Network, list []int) []int {
	t.Helper()
	values, ok := impl.ApplyNetwork(n, list)
	checkPartition(t, "ApplyNetwork", values, nil, ok, applyModel(n, list))
	if t.Failed() {
		t.Fatal("the list is", list, "and the network", notationOf(n))
	}
	return values
}

func TestApplyNetworkOfManyLists(t *testing.T) {
	for _, n := range networkSamples() {
		for _, list := range listsFor(n) {
			checkApply(t, n, list)
		}
		bubble := bubbleNetwork(n.Wires)
		for _, list := range listsFor(bubble) {
			checkPartition(t, "ApplyNetwork", checkApply(t, bubble, list), nil, true, sortedOf(list))
		}
	}
}

// listsFor are lists with an element per wire of n, with and without equal elements.
func listsFor(n impl.Network) [][]int {
	lists := [][]int{mixedList(n.Wires), steppedList(n.Wires, n.Wires, -1), steppedList(n.Wires, 0, 1), steppedList(n.Wires, 4, 0), steppedPermutation(n.Wires, 1, n.Wires/2)}
	for _, modulus := range []int{2, 3, 5, 200001} {
		list := make([]int, n.Wires)
		for i := range list {
			list[i] = (i*7919+modulus)*(i+3)%modulus - modulus/2
		}
		lists = append(lists, list)
	}
	return lists
}

func TestApplyNetworkOfInvalidLists(t *testing.T) {
	for _, n := range networkSamples() {
		for length := range impl.MaxWires + 3 {
			if length != n.Wires {
				list, ok := impl.ApplyNetwork(n, mixedList(length))
				checkNone(t, "ApplyNetwork", list, ok)
			}
		}
		for _, list := range invalidLists() {
			got, ok := impl.ApplyNetwork(n, list)
			checkNone(t, "ApplyNetwork", got, ok)
		}
		for i := range n.Wires {
			for _, e := range []int{impl.MaxKey + 1, -impl.MaxKey - 1, math.MaxInt, math.MinInt} {
				list := mixedList(n.Wires)
				list[i] = e
				got, ok := impl.ApplyNetwork(n, list)
				checkNone(t, "ApplyNetwork", got, ok)
			}
		}
		stopIfFailed(t, n)
	}
	// A list whose next element is there, but does not belong to it.
	list, ok := impl.ApplyNetwork(networkOf("2 0-1"), []int{2, 1}[:1])
	checkNone(t, "ApplyNetwork", list, ok)
}

func TestFirstUnsortedOfNamedNetworks(t *testing.T) {
	for _, c := range []struct {
		network string
		input   int
	}{
		{"1", -1}, {"2", 1}, {"3", 1}, {"12", 1}, {"2 0-1", -1}, {"2 0-1 0-1", -1}, {"2 1-0 0-1", -1},
		// Reversed comparators leave or bring the value 1 to wire 0.
		{"2 1-0", 1}, {"2 0-1 1-0", 1}, {"3 1-0 2-1 1-0", 1}, {"3 2-0", 1},
		// The smallest of several inputs that are not sorted.
		{"3 0-1", 1}, {"3 1-2", 1}, {"3 0-2", 2}, {"3 0-1 1-2", 3}, {"3 1-2 0-1", 1}, {"3 0-2 0-1", 2}, {"3 0-2 1-2", 5}, {"3 0-1 0-2", 1}, {"3 1-2 0-2", 3}, {"3 0-1 1-2 0-2", 3}, {"3 0-1 0-2 1-2", -1}, {"3 0-1 1-2 0-1", -1}, {"3 1-2 0-1 1-2", -1}, {"3 0-2 1-2 0-1", -1}, {"3 1-2 0-2 0-1", -1},
		{"4 0-1 2-3 0-2 1-3 1-2", -1}, {"4 0-1 2-3 0-2 1-3", 5}, {"4 0-1 2-3 0-2 1-2", 1}, {"4 0-2 1-3 0-1 2-3 1-2", -1}, {"4 0-1 2-3 1-2 0-1 2-3", 3}, {"4 0-1 2-3 1-2 0-1 2-3 1-2", -1},
		{"4 1-0 0-1 2-3 0-2 1-3 1-2", -1}, {"4 3-0 0-1 2-3 0-2 1-3 1-2", -1}, {"4 0-1 2-3 0-2 1-3 1-2 3-2", 1}, {"4 0-1 2-3 0-2 1-3 1-2 2-1", 3}, {"4 0-1 2-3 0-2 1-3 1-2 1-0", 7},
	} {
		input, ok := impl.FirstUnsorted(networkOf(c.network))
		checkNumbers(t, "FirstUnsorted of "+c.network, []int{input}, ok, c.input)
	}
}

// checkUnsorted checks FirstUnsorted for n.
func checkUnsorted(t *testing.T, n impl.Network) {
	t.Helper()
	input, ok := impl.FirstUnsorted(n)
	checkNumbers(t, "FirstUnsorted", []int{input}, ok, unsortedModel(n))
	stopIfFailed(t, n)
}

func TestFirstUnsortedIsTheSmallestInput(t *testing.T) {
	for _, n := range slices.Concat(smallNetworks(), largestChecked()) {
		checkUnsorted(t, n)
	}
	// Without one of its comparators no bubble network sorts.
	for wires := 2; wires <= 8; wires++ {
		bubble := bubbleNetwork(wires)
		for i := range bubble.Comparators {
			n := impl.Network{Wires: wires, Comparators: slices.Delete(slices.Clone(bubble.Comparators), i, i+1)}
			checkUnsorted(t, n)
			if unsortedModel(n) < 0 {
				t.Fatal("the bubble network of", wires, "wires sorts without comparator", i)
			}
		}
	}
}

// checkZeroOne checks that n sorts all lists over as many elements as it has wires if it sorts the
// binary inputs, and that it does not sort the one that is named if it does not.
func checkZeroOne(t *testing.T, n impl.Network) {
	t.Helper()
	input, ok := impl.FirstUnsorted(n)
	if !ok {
		t.Error("FirstUnsorted returned", input, ok)
	} else if input >= 0 {
		list := binaryLists(n.Wires)[input]
		if slices.IsSorted(checkApply(t, n, list)) {
			t.Error("FirstUnsorted returned", input, "which is sorted")
		}
	} else {
		for list := range listsOver(steppedList(n.Wires, -1, 1), n.Wires) {
			checkPartition(t, "ApplyNetwork", checkApply(t, n, list), nil, true, sortedOf(list))
		}
	}
	stopIfFailed(t, n)
}

// Promise 12: what sorts the binary inputs sorts every list.
func TestNetworksWithoutAnUnsortedInputSort(t *testing.T) {
	sorting := 0
	for _, limits := range [][2]int{{1, 1}, {2, 5}, {3, 5}, {4, 2}} {
		for n := range allNetworks(limits[0], limits[1]) {
			checkZeroOne(t, n)
			if unsortedModel(n) < 0 {
				sorting++
			}
		}
	}
	if sorting < 100 {
		t.Error("there are only", sorting, "short networks that sort")
	}
	for wires := 1; wires <= 6; wires++ {
		checkZeroOne(t, bubbleNetwork(wires))
		checkZeroOne(t, upsideDown(bubbleNetwork(wires)))
	}
	checkZeroOne(t, networkOf("4 0-1 2-3 0-2 1-3 1-2"))
	checkZeroOne(t, networkOf("5 0-1 3-4 2-4 2-3 1-4 0-3 0-2 1-3 1-2"))
	checkZeroOne(t, joined(mixedNetwork(5, 8, 2), bubbleNetwork(5)))
}

func TestNetworkLayersOfNamedNetworks(t *testing.T) {
	for _, c := range []struct {
		network string
		layers  []int
		depth   int
	}{
		{"1", nil, 0}, {"16", nil, 0}, {"2 0-1", []int{1}, 1}, {"2 1-0", []int{1}, 1}, {"2 0-1 0-1 1-0", []int{1, 2, 3}, 3},
		// Comparators without a common wire share a layer, also one that comes late.
		{"4 0-1 2-3", []int{1, 1}, 1}, {"6 0-1 0-1 0-1 2-3 4-5 3-5", []int{1, 2, 3, 1, 1, 2}, 3},
		// One common wire is enough: the low or the high one of either.
		{"3 0-1 0-2", []int{1, 2}, 2}, {"3 0-1 1-2", []int{1, 2}, 2}, {"3 0-1 2-0", []int{1, 2}, 2}, {"3 0-1 2-1", []int{1, 2}, 2},
		// The greater one of two layers counts, and the last comparator need not be in the greatest.
		{"4 0-1 0-1 2-3 1-2", []int{1, 2, 1, 3}, 3}, {"4 2-3 0-1 0-1 2-1", []int{1, 1, 2, 3}, 3}, {"5 0-1 1-2 2-3 3-4", []int{1, 2, 3, 4}, 4}, {"5 3-4 2-3 1-2 0-1", []int{1, 2, 3, 4}, 4}, {"5 0-1 0-1 0-1 3-4 2-3", []int{1, 2, 3, 1, 2}, 3},
		{"4 0-1 2-3 0-2 1-3 1-2", []int{1, 1, 2, 2, 3}, 3}, {"16 0-15 14-1 15-14", []int{1, 1, 2}, 2},
	} {
		layers, ok := impl.NetworkLayers(networkOf(c.network))
		checkPartition(t, "NetworkLayers of "+c.network, layers, nil, ok, c.layers)
		depth, ok := impl.NetworkDepth(networkOf(c.network))
		checkNumbers(t, "NetworkDepth of "+c.network, []int{depth}, ok, c.depth)
	}
	depth, ok := impl.NetworkDepth(joined(bubbleNetwork(2), mixedNetwork(2, impl.MaxComparators-1, 1)))
	checkNumbers(t, "NetworkDepth", []int{depth}, ok, impl.MaxComparators)
}

func TestNetworkLayersOfManyNetworks(t *testing.T) {
	for _, n := range slices.Concat(networkSamples(), smallNetworks()) {
		want := layersModel(n)
		layers, ok := impl.NetworkLayers(n)
		checkPartition(t, "NetworkLayers", layers, nil, ok, want)
		depth, ok := impl.NetworkDepth(n)
		checkNumbers(t, "NetworkDepth", []int{depth}, ok, slices.Max(append(want, 0)))
		stopIfFailed(t, n)
	}
}

func TestStandardFormOfNamedNetworks(t *testing.T) {
	for _, c := range [][2]string{
		{"1", "1"}, {"16", "16"}, {"2 1-0", "2 0-1"}, {"2 0-1", "2 0-1"}, {"2 1-0 1-0", "2 0-1 0-1"}, {"2 1-0 0-1 1-0", "2 0-1 0-1 0-1"}, {"2 0-1 1-0", "2 0-1 0-1"},
		// Earlier comparators stay as they are, and those of other wires.
		{"3 0-2 2-0", "3 0-2 0-2"}, {"4 0-1 3-2 0-1", "4 0-1 2-3 0-1"}, {"3 0-1 1-2 0-1", "3 0-1 1-2 0-1"},
		// The exchange turns later ones, which are exchanged in turn.
		{"3 2-0 0-1 1-2", "3 0-2 1-2 0-2"}, {"3 1-0 2-1 2-0", "3 0-1 0-2 0-1"}, {"3 1-0 2-1 0-2", "3 0-1 0-2 0-1"}, {"4 3-0 2-1 0-1 3-2", "4 0-3 1-2 2-3 0-1"}, {"4 1-0 2-1 3-2 0-3", "4 0-1 0-2 0-3 0-1"}, {"16 15-0 0-15 15-14", "16 0-15 0-15 14-15"},
	} {
		n, ok := impl.StandardForm(networkOf(c[0]))
		checkNetwork(t, "StandardForm of "+c[0], n, ok, networkOf(c[1]))
	}
}

func hasStandardForm(n impl.Network) bool {
	return !slices.ContainsFunc(n.Comparators, func(c impl.Comparator) bool { return c.Low >= c.High })
}

// checkStandard checks StandardForm of n, and that it has the same layers.
func checkStandard(t *testing.T, n impl.Network) impl.Network {
	t.Helper()
	want, _ := standardModel(n)
	standard, ok := impl.StandardForm(n)
	checkNetwork(t, "StandardForm", standard, ok, want)
	if !hasStandardForm(standard) || hasStandardForm(n) && !sameNetworks(standard, n) {
		t.Error("StandardForm returned", notationOf(standard))
	}
	again, ok := impl.StandardForm(standard)
	checkNetwork(t, "StandardForm", again, ok, standard)
	layers, ok := impl.NetworkLayers(standard)
	checkPartition(t, "NetworkLayers", layers, nil, ok, layersModel(n))
	stopIfFailed(t, n)
	return standard
}

func TestStandardFormOfManyNetworks(t *testing.T) {
	for _, n := range networkSamples() {
		checkStandard(t, n)
	}
}

// Promise 12: the values are the same, each on the wire that has got the number of its wire.
func TestStandardFormKeepsTheEffect(t *testing.T) {
	for _, n := range smallNetworks() {
		standard := checkStandard(t, n)
		_, names := standardModel(n)
		for _, list := range append(binaryLists(n.Wires), listsFor(n)...) {
			values, renamed := checkApply(t, n, list), checkApply(t, standard, list)
			for wire, name := range names {
				if renamed[name] != values[wire] {
					t.Fatal("of", list, notationOf(n), "makes", values, "and", notationOf(standard), "makes", renamed)
				}
			}
		}
	}
}

func TestStandardFormOfSortingNetworksSorts(t *testing.T) {
	reversed := 0
	for _, n := range slices.Concat(smallNetworks(), largestChecked()) {
		if input, ok := impl.FirstUnsorted(n); !ok || input >= 0 {
			continue
		}
		if !hasStandardForm(n) {
			reversed++
		}
		input, ok := impl.FirstUnsorted(checkStandard(t, n))
		checkNumbers(t, "FirstUnsorted", []int{input}, ok, -1)
		stopIfFailed(t, n)
	}
	// A bubble network upside down sorts descending, and its standard form sorts.
	for wires := 1; wires <= impl.MaxCheckedWires; wires++ {
		input, ok := impl.FirstUnsorted(checkStandard(t, upsideDown(bubbleNetwork(wires))))
		checkNumbers(t, "FirstUnsorted", []int{input}, ok, -1)
	}
	if reversed < 100 {
		t.Error("only", reversed, "networks that sort have reversed comparators")
	}
}

func TestRedundantComparatorsOfNamedNetworks(t *testing.T) {
	for _, c := range []struct {
		network   string
		redundant []int
	}{
		{"1", nil}, {"12", nil}, {"2 0-1", nil}, {"2 1-0", nil}, {"12 0-11 11-0", nil},
		// A comparator twice in a row, and a reversed one that exchanges again.
		{"2 0-1 0-1", []int{1}}, {"2 1-0 1-0", []int{1}}, {"2 0-1 1-0", nil}, {"2 0-1 1-0 0-1", nil}, {"2 0-1 0-1 1-0", []int{1}}, {"2 0-1 1-0 1-0 0-1 0-1", []int{2, 4}}, {"2 0-1 0-1 0-1 0-1", []int{1, 2, 3}},
		// Others in between that have other wires, or that leave the values in order.
		{"4 0-1 2-3 0-1 2-3", []int{2, 3}}, {"4 0-1 2-3 1-0 2-3", []int{3}}, {"3 0-1 1-2 0-2", []int{2}}, {"3 1-2 0-1 0-2", []int{2}}, {"3 0-1 0-2 1-2", nil}, {"3 0-1 1-2 0-1 1-2", []int{3}}, {"3 0-1 1-2 0-1 0-2", []int{3}}, {"3 0-1 1-2 1-2 0-1", []int{2}}, {"3 0-1 0-2 1-2 0-1", []int{3}},
		// All after a network that sorts, and one of the least and the greatest value before it does.
		{"4 0-1 2-3 0-2 1-3 1-2 0-3 0-1", []int{5, 6}}, {"4 0-1 2-3 0-2 1-3 0-3", []int{4}}, {"12 11-10 11-10", []int{1}},
	} {
		redundant, ok := impl.RedundantComparators(networkOf(c.network))
		checkPartition(t, "RedundantComparators of "+c.network, redundant, nil, ok, c.redundant)
	}
}

func TestPruneNetworkOfNamedNetworks(t *testing.T) {
	for _, c := range [][2]string{
		{"1", "1"}, {"12", "12"}, {"2 0-1", "2 0-1"}, {"2 0-1 0-1", "2 0-1"}, {"2 1-0 1-0", "2 1-0"}, {"2 0-1 1-0", "2 0-1 1-0"}, {"2 0-1 0-1 1-0", "2 0-1 1-0"}, {"2 0-1 0-1 0-1 0-1", "2 0-1"},
		{"3 0-1 0-1 1-2", "3 0-1 1-2"}, {"3 0-1 1-2 0-1 1-2", "3 0-1 1-2 0-1"}, {"4 0-1 2-3 0-1 2-3", "4 0-1 2-3"}, {"4 0-1 2-3 0-2 1-3 1-2 0-3 0-1", "4 0-1 2-3 0-2 1-3 1-2"}, {"12 11-10 11-10", "12 11-10"},
	} {
		n, ok := impl.PruneNetwork(networkOf(c[0]))
		checkNetwork(t, "PruneNetwork of "+c[0], n, ok, networkOf(c[1]))
	}
}

// checkPruned checks RedundantComparators and PruneNetwork of n.
func checkPruned(t *testing.T, n impl.Network) impl.Network {
	t.Helper()
	redundant, ok := impl.RedundantComparators(n)
	checkPartition(t, "RedundantComparators", redundant, nil, ok, redundantModel(n))
	pruned, ok := impl.PruneNetwork(n)
	checkNetwork(t, "PruneNetwork", pruned, ok, pruneModel(n))
	left, ok := impl.RedundantComparators(pruned)
	checkPartition(t, "RedundantComparators after PruneNetwork", left, nil, ok, nil)
	stopIfFailed(t, n)
	return pruned
}

// Promise 12: the values are the same on every wire.
func TestPruneNetworkKeepsTheEffect(t *testing.T) {
	shorter := 0
	for _, n := range smallNetworks() {
		pruned := checkPruned(t, n)
		if len(pruned.Comparators) < len(n.Comparators) {
			shorter++
		}
		for _, list := range append(binaryLists(n.Wires), listsFor(n)...) {
			checkPartition(t, "ApplyNetwork", checkApply(t, pruned, list), nil, true, checkApply(t, n, list))
		}
		stopIfFailed(t, n)
	}
	if shorter < 100 {
		t.Error("only", shorter, "networks have redundant comparators")
	}
	for _, n := range networksForAllLists() {
		pruned := checkPruned(t, n)
		for list := range listsOver(steppedList(n.Wires, 5, -2), n.Wires) {
			checkPartition(t, "ApplyNetwork", checkApply(t, pruned, list), nil, true, checkApply(t, n, list))
		}
		stopIfFailed(t, n)
	}
}

// networksForAllLists are networks that are tried on all lists over as many elements as wires.
func networksForAllLists() []impl.Network {
	return []impl.Network{
		networkOf("3 0-1 1-2 0-1 1-2"), joined(bubbleNetwork(4), upsideDown(bubbleNetwork(4))), joined(bubbleNetwork(5), bubbleNetwork(5)),
		mixedNetwork(3, 12, 1), mixedNetwork(4, 25, 2), mixedNetwork(5, 40, 3),
	}
}

func TestPruneNetworkOfManyWires(t *testing.T) {
	for _, n := range largestChecked() {
		pruned := checkPruned(t, n)
		for _, list := range listsFor(n) {
			checkPartition(t, "ApplyNetwork", checkApply(t, pruned, list), nil, true, checkApply(t, n, list))
		}
	}
	for wires := 8; wires < impl.MaxCheckedWires; wires++ {
		checkPruned(t, mixedNetwork(wires, 60, wires))
		checkPruned(t, joined(bubbleNetwork(wires), bubbleNetwork(wires)))
	}
}

func TestFormatNetworkOfNamedNetworks(t *testing.T) {
	for _, c := range []struct {
		network  impl.Network
		notation string
	}{
		{impl.Network{Wires: 1}, "1"}, {impl.Network{Wires: 16, Comparators: []impl.Comparator{}}, "16"},
		{impl.Network{Wires: 2, Comparators: []impl.Comparator{{Low: 1}}}, "2 1-0"},
		{impl.Network{Wires: 16, Comparators: []impl.Comparator{{Low: 15, High: 10}, {Low: 9, High: 14}}}, "16 15-10 9-14"},
		{impl.Network{Wires: 4, Comparators: []impl.Comparator{{Low: 3, High: 0}, {Low: 3, High: 0}, {Low: 0, High: 3}}}, "4 3-0 3-0 0-3"},
	} {
		s, ok := impl.FormatNetwork(c.network)
		if !ok || s != c.notation {
			t.Error("FormatNetwork returned", s, ok, "instead of", c.notation)
		}
		n, ok := impl.ParseNetwork(c.notation)
		checkNetwork(t, "ParseNetwork of "+c.notation, n, ok, c.network)
	}
	// The longest notation of all.
	long := "16" + strings.Repeat(" 15-14", impl.MaxComparators)
	s, ok := impl.FormatNetwork(networkOf(long))
	if !ok || s != long {
		t.Error("FormatNetwork returned", s, ok)
	}
	n, ok := impl.ParseNetwork(long)
	checkNetwork(t, "ParseNetwork", n, ok, networkOf(long))
}

func TestParseNetworkInvertsFormatNetwork(t *testing.T) {
	for _, original := range slices.Concat(networkSamples(), smallNetworks()) {
		s, ok := impl.FormatNetwork(original)
		if !ok || s != notationOf(original) {
			t.Fatal("FormatNetwork returned", s, ok, "instead of", notationOf(original))
		}
		n, ok := impl.ParseNetwork(s)
		checkNetwork(t, "ParseNetwork", n, ok, original)
		stopIfFailed(t, original)
	}
}

// invalidNotations are strings that are the notation of no network.
func invalidNotations() []string {
	notations := []string{
		"", " ", "x", "-", "0-1", "-1", "0", "17", "100", "4294967298", "18446744073709551618", "2.0", "2,0-1", "0x2", "２", "2\n", "\t2", "2\x00",
		// Leading zeros and signs.
		"02", "00", "01", "+2", "-2", "-0", "02 0-1", "+2 0-1", "2 00-1", "2 0-01", "2 01-0", "2 +0-1", "2 0-+1", "2 -0-1", "2 0--1", "2 -1-0", "2 1--0", "2 0-1-",
		// Further spaces and separators.
		"2 ", " 2", "2  0-1", "2 0-1 ", " 2 0-1", "2 0 -1", "2 0- 1", "2 0 - 1", "2 0-1  0-1", "2\t0-1", "2 0-1\n", "2 0-1\t0-1", "2 0-1,1-0", "2 0--1", "2 0-1-0", "2-0-1", "2 0_1", "2 0:1", "20-1", "2 0-10-1", "2 0-1 0-1 ", "2 0-1 -",
		// Missing numbers.
		"2 0", "2 1", "2 0-", "2 -1", "2 -", "2 0-1 0", "2 0-1 0-", "2 0-1 -0", "2 0-1 -", " 0-1", "-0-1", "2 0-1 1 0-1",
		// Equal wires and wires out of range.
		"1 0-0", "1 0-1", "1 1-0", "2 0-0", "2 1-1", "2 2-2", "2 0-2", "2 2-0", "2 0-1 1-2", "2 0-1 2-1 0-1", "16 0-16", "16 16-0", "15 0-15", "3 0-4294967297", "3 0-99999999999999999999", "3 256-1", "2 a-b", "2 0-b", "2 0x0-1", "2 0-1 x",
		// Too many wires or comparators, and strings that are too long.
		"17 0-1", "16" + strings.Repeat(" 0-1", impl.MaxComparators+1), "2" + strings.Repeat(" 0-1", impl.MaxComparators+1), "2" + strings.Repeat(" 1-0", 1<<16),
		strings.Repeat("2", 1<<16), strings.Repeat(" ", 1<<16), strings.Repeat("-", 1<<16), "2 0-1" + strings.Repeat(" ", 1<<16), "2" + strings.Repeat(" ", 3999), "2 " + strings.Repeat("0", 3000) + "-1", strings.Repeat("0", 3000) + "2",
	}
	for _, n := range invalidNetworks() {
		n.Comparators = n.Comparators[:min(len(n.Comparators), 2*impl.MaxComparators)]
		notations = append(notations, notationOf(n))
	}
	return append(notations, oddStrings()...)
}

func TestParseNetworkOfInvalidNotations(t *testing.T) {
	for _, s := range invalidNotations() {
		n, ok := impl.ParseNetwork(s)
		checkZeroNetwork(t, "ParseNetwork", n, ok)
		if t.Failed() {
			t.Fatalf("the string is %.200q", s)
		}
	}
}

var notationForm = regexp.MustCompile(`^(0|[1-9][0-9]*)( (0|[1-9][0-9]*)-(0|[1-9][0-9]*))*$`)

// isNotationModel looks for the form alone, and then at the numbers.
func isNotationModel(s string) bool {
	return notationForm.MatchString(s) && isNetworkModel(networkOf(s))
}

// checkNotation checks ParseNetwork of any string.
func checkNotation(t *testing.T, s string) bool {
	t.Helper()
	n, ok := impl.ParseNetwork(s)
	if isNotationModel(s) {
		checkNetwork(t, "ParseNetwork", n, ok, networkOf(s))
	} else {
		checkZeroNetwork(t, "ParseNetwork", n, ok)
	}
	if t.Failed() {
		t.Fatalf("the string is %q", s)
	}
	return ok
}

func TestParseNetworkOfAllShortStrings(t *testing.T) {
	valid := 0
	for _, s := range wordsOver("012 -", 7) {
		if checkNotation(t, s) {
			valid++
		}
	}
	// Without comparators 1, 2, 10, 11 and 12 wires; 2 wires with a comparator; 10, 11 and 12 wires with
	// one of the 6 comparators of the wires 0, 1 and 2; and 11 wires with one of the 6 comparators of wire
	// 10 and one of these, and 12 wires with one of the 12 of wire 10 or 11.
	if valid != 5+2+18+6+12 {
		t.Error(valid, "strings are notations")
	}
}

// One byte of a notation is changed, taken out or put in.
func TestParseNetworkOfOneChangedByte(t *testing.T) {
	for _, s := range []string{"2 0-1", "3 0-1 1-2 0-1", "16 15-0 0-15 10-9", "12"} {
		for i := range len(s) {
			checkNotation(t, s[:i]+s[i+1:])
			for c := range 256 {
				checkNotation(t, s[:i]+string([]byte{byte(c)})+s[i+1:])
				checkNotation(t, s[:i]+string([]byte{byte(c)})+s[i:])
			}
		}
		for c := range 256 {
			checkNotation(t, s+string([]byte{byte(c)}))
		}
	}
}

// networkFunctions are the functions of a network, with the comparators or the numbers of the result
// as a network of its own.
func networkFunctions() []func(n impl.Network) []impl.Comparator {
	list := func(function func(n impl.Network) ([]int, bool)) func(n impl.Network) []impl.Comparator {
		return func(n impl.Network) []impl.Comparator {
			numbers, _ := function(n)
			result := comparatorsOf(numbers)
			overwrite(numbers)
			return result
		}
	}
	number := func(function func(n impl.Network) (int, bool)) func(n impl.Network) []impl.Comparator {
		return list(func(n impl.Network) ([]int, bool) { i, ok := function(n); return []int{i}, ok })
	}
	network := func(function func(n impl.Network) (impl.Network, bool)) func(n impl.Network) []impl.Comparator {
		return func(n impl.Network) []impl.Comparator { result, _ := function(n); return result.Comparators }
	}
	return []func(n impl.Network) []impl.Comparator{
		func(n impl.Network) []impl.Comparator { impl.IsValidNetwork(n); return nil },
		func(n impl.Network) []impl.Comparator {
			s, _ := impl.FormatNetwork(n)
			return comparatorsOf([]int{len(s)})
		},
		list(func(n impl.Network) ([]int, bool) { return impl.ApplyNetwork(n, mixedList(min(max(n.Wires, 0), 20))) }),
		number(impl.FirstUnsorted), list(impl.NetworkLayers), number(impl.NetworkDepth),
		network(impl.StandardForm), list(impl.RedundantComparators), network(impl.PruneNetwork),
	}
}

func comparatorsOf(numbers []int) []impl.Comparator {
	var comparators []impl.Comparator
	for _, number := range numbers {
		comparators = append(comparators, impl.Comparator{Low: number, High: beyondMark})
	}
	return comparators
}

// beyondComparator is to a network what beyondMark is to an integer list.
func beyondComparator() impl.Comparator { return impl.Comparator{Low: beyondMark, High: beyondMark} }

// Comparators beyond the length count nowhere, no call changes any, and every call returns new memory.
func TestNetworkFunctionsLeaveTheirArguments(t *testing.T) {
	for _, original := range slices.Concat(networkSamples(), invalidNetworks(), largestChecked()) {
		n := impl.Network{Wires: original.Wires, Comparators: paddedWith(beyondComparator(), original.Comparators)}
		for i, function := range networkFunctions() {
			result := function(n)
			first := slices.Clone(result)
			overwriteWith(impl.Comparator{Low: beyondMark + 1}, result)
			if !isPaddedWith(beyondComparator(), n.Comparators, original.Comparators) {
				t.Fatal("function", i, "changed its argument, or shares its memory, which is", notationOf(original))
			}
			if again := function(original); !slices.Equal(again, first) {
				t.Fatal("function", i, "returned", again, "after", first)
			}
		}
	}
}

func TestApplyNetworkLeavesItsList(t *testing.T) {
	for _, n := range append(networkSamples(), invalidNetworks()...) {
		functions := []func(list []int) []int{func(list []int) []int { values, _ := impl.ApplyNetwork(n, list); return values }}
		lists := append(listsFor(impl.Network{Wires: min(max(n.Wires, 1), impl.MaxWires)}), []int{}, []int{2, 1, 0}, make([]int, impl.MaxList+1))
		checkLeavesLists(t, functions, lists)
		checkKeepsNothing(t, functions, lists)
	}
}

func TestParseNetworkReturnsNewMemory(t *testing.T) {
	for _, original := range networkSamples() {
		s := notationOf(original)
		n, _ := impl.ParseNetwork(s)
		overwriteWith(beyondComparator(), n.Comparators)
		again, ok := impl.ParseNetwork(s)
		checkNetwork(t, "ParseNetwork", again, ok, original)
	}
}
