package tests

import (
	"cmp"
	"math"
	"slices"
	"testing"

	"loop.example/wholenet/impl"
)

// notWeights are numbers of which none is the weight of a class.
var notWeights = append([]int{0, 10, 11, 18, 81}, strangeNumbers...)

// notSizes are numbers of which none is the size of a job.
var notSizes = append([]int{0, 10, 11, 18, 81}, strangeNumbers...)

// notClasses returns numbers of which none is one of so many classes.
func notClasses(classes int) []int {
	return append([]int{classes, classes + 1, 4, 5}, strangeNumbers...)
}

// jobsOf returns jobs, given as the class and the size of each.
func jobsOf(numbers ...int) []impl.Job {
	var jobs []impl.Job
	for pair := range slices.Chunk(numbers, 2) {
		jobs = append(jobs, impl.Job{Class: pair[0], Size: pair[1]})
	}
	return jobs
}

// mixedJobs returns so many jobs of so many classes.
func mixedJobs(many, classes, seed int) []impl.Job {
	jobs := make([]impl.Job, many)
	for i, n := range mixedNumbers(many, 30000, seed) {
		jobs[i] = impl.Job{Class: n % classes, Size: n/classes%9 + 1}
	}
	return jobs
}

// mixedWeights returns so many weights.
func mixedWeights(many, seed int) []int {
	weights := mixedNumbers(many, 9, seed)
	for i := range weights {
		weights[i]++
	}
	return weights
}

// mixedOrder returns the indexes of so many jobs, in some order.
func mixedOrder(many, seed int) []int {
	order, keys := upTo(0, many), mixedNumbers(many, 30000, seed)
	slices.SortFunc(order, func(a, b int) int { return cmp.Or(cmp.Compare(keys[a], keys[b]), b-a) })
	return order
}

// badWeights are numbers that are no weights.
func badWeights() [][]int {
	bad := [][]int{nil, {}, {1, 1, 1, 1, 1}, {9, 9, 9, 9, 9, 9}, slices.Repeat([]int{1}, 300)}
	for _, x := range notWeights {
		for many := 1; many <= 4; many++ {
			for at := range many {
				weights := mixedWeights(many, at)
				weights[at] = x
				bad = append(bad, weights)
			}
		}
	}
	return bad
}

// badJobs returns lists that are no jobs of so many classes, each of which is some
// when one thing about it is changed.
func badJobs(classes int) [][]impl.Job {
	bad := [][]impl.Job{mixedJobs(61, classes, 1), mixedJobs(62, classes, 2), mixedJobs(1000, classes, 3)}
	var wrong []impl.Job
	for _, class := range notClasses(classes) {
		wrong = append(wrong, impl.Job{Class: class, Size: 1}, impl.Job{Class: class, Size: 9})
	}
	for _, size := range notSizes {
		wrong = append(wrong, impl.Job{Class: 0, Size: size}, impl.Job{Class: classes - 1, Size: size})
	}
	for i, job := range wrong {
		for _, many := range []int{1, 2, 60} {
			for _, at := range []int{0, many / 2, many - 1} {
				jobs := mixedJobs(many, classes, i)
				jobs[at] = job
				bad = append(bad, jobs)
			}
		}
	}
	return bad
}

// fairByTurns returns the order in which jobs are done in turn, as the test reckons
// it. A class with jobs left has never lost credit, so that a job is done in the
// first turn behind which the turns have given as much as the jobs up to it take.
func fairByTurns(weights []int, jobs []impl.Job) []int {
	turns, sums := make([]int, len(jobs)), make([]int, len(weights))
	for i, job := range jobs {
		sums[job.Class] += job.Size
		gives := 9 * weights[job.Class]
		turns[i] = (sums[job.Class] + gives - 1) / gives
	}
	order := upTo(0, len(jobs))
	slices.SortStableFunc(order, func(i, j int) int {
		return cmp.Or(cmp.Compare(turns[i], turns[j]), cmp.Compare(jobs[i].Class, jobs[j].Class))
	})
	return order
}

// strictByClasses returns the order in which jobs are done by classes, as the test
// reckons it.
func strictByClasses(jobs []impl.Job) []int {
	order := upTo(0, len(jobs))
	slices.SortStableFunc(order, func(i, j int) int { return cmp.Compare(jobs[i].Class, jobs[j].Class) })
	return order
}

// servedByHand returns how much of each class has been done, as the test reckons it.
func servedByHand(classes int, jobs []impl.Job, order []int) []int {
	served, done := make([]int, classes), map[int]bool{}
	for _, i := range order {
		if !done[i] {
			done[i] = true
			served[jobs[i].Class] += jobs[i].Size
		}
	}
	return served
}

// waitsByHand returns how much is done ahead of the job that stands at a place of an
// order, as the test reckons it.
func waitsByHand(jobs []impl.Job, order []int, place int) int {
	if place == 0 {
		return 0
	}
	return waitsByHand(jobs, order, place-1) + jobs[order[place-1]].Size
}

// checkOrders looks at both orders of jobs.
func checkOrders(t *testing.T, weights []int, jobs []impl.Job) {
	t.Helper()
	if !impl.JobsValid(weights, jobs) {
		t.Fatalf("JobsValid(%v, %v) = false", weights, jobs)
	}
	if got, want := impl.FairOrder(weights, jobs), fairByTurns(weights, jobs); !slices.Equal(got, want) {
		t.Fatalf("FairOrder(%v, %v) = %v, want %v", weights, jobs, got, want)
	}
	if got, want := impl.StrictOrder(weights, jobs), strictByClasses(jobs); !slices.Equal(got, want) {
		t.Fatalf("StrictOrder(%v, %v) = %v, want %v", weights, jobs, got, want)
	}
}

// checkDone looks at what has been done, and how much ahead of each job, all along
// an order that has each job at most once.
func checkDone(t *testing.T, weights []int, jobs []impl.Job, order []int) {
	t.Helper()
	for n := range len(order) + 1 {
		got, want := impl.ServedBy(weights, jobs, order[:n]), servedByHand(len(weights), jobs, order[:n])
		if !slices.Equal(got, want) {
			t.Fatalf("ServedBy(%v, %v, %v) = %v, want %v", weights, jobs, order[:n], got, want)
		}
	}
	for place, k := range order {
		if got, want := impl.WaitsBefore(jobs, order, k), waitsByHand(jobs, order, place); got != want {
			t.Fatalf("WaitsBefore(%v, %v, %d) = %d, want %d", jobs, order, k, got, want)
		}
	}
}

// checkNoJobs looks whether there is no order of what are no jobs, and nothing of
// them is done.
func checkNoJobs(t *testing.T, weights []int, jobs []impl.Job) {
	t.Helper()
	if impl.JobsValid(weights, jobs) {
		t.Fatalf("JobsValid(%v, %v) = true", weights, jobs)
	}
	if got := impl.FairOrder(weights, jobs); len(got) != 0 {
		t.Fatalf("FairOrder(%v, %v) = %v", weights, jobs, got)
	}
	if got := impl.StrictOrder(weights, jobs); len(got) != 0 {
		t.Fatalf("StrictOrder(%v, %v) = %v", weights, jobs, got)
	}
	for _, order := range [][]int{nil, upTo(0, min(1, len(jobs))), upTo(0, len(jobs))} {
		if got := impl.ServedBy(weights, jobs, order); len(got) != 0 {
			t.Fatalf("ServedBy(%v, %v, %v) = %v", weights, jobs, order, got)
		}
	}
}

func TestQueueConstants(t *testing.T) {
	got := []int{impl.MaxClasses, impl.MaxJobs, impl.MaxSize, impl.TurnGives}
	if want := []int{4, 60, 9, 9}; !slices.Equal(got, want) {
		t.Errorf("MaxClasses, MaxJobs, MaxSize and TurnGives are %v, want %v", got, want)
	}
}

func TestJobsValid(t *testing.T) {
	cases := []struct {
		name    string
		weights []int
		jobs    []impl.Job
		want    bool
	}{
		{"no jobs", []int{1}, nil, true},
		{"no jobs of four classes", []int{9, 1, 5, 2}, nil, true},
		{"the smallest job", []int{1}, jobsOf(0, 1), true},
		{"the greatest job", []int{9}, jobsOf(0, 9), true},
		{"a job as great as a turn", []int{1}, jobsOf(0, 9, 0, 9), true},
		{"a job of the last class", []int{1, 2, 3, 4}, jobsOf(3, 5), true},
		{"sixty jobs", []int{1}, slices.Repeat(jobsOf(0, 1), 60), true},
		{"sixty-one jobs", []int{1}, slices.Repeat(jobsOf(0, 1), 61), false},
		{"no classes", nil, nil, false},
		{"no classes, and a job", nil, jobsOf(0, 1), false},
		{"five classes", []int{1, 1, 1, 1, 1}, jobsOf(0, 1), false},
		{"no weight", []int{0}, jobsOf(0, 1), false},
		{"no weight of a class without jobs", []int{1, 0}, jobsOf(0, 1), false},
		{"too great a weight", []int{10}, jobsOf(0, 1), false},
		{"a weight below 0", []int{-1}, nil, false},
		{"no such class", []int{1, 1}, jobsOf(2, 1), false},
		{"a class below 0", []int{1, 1}, jobsOf(-1, 1), false},
		{"no size", []int{1}, jobsOf(0, 0), false},
		{"a size below 0", []int{1}, jobsOf(0, -1), false},
		{"too great a size, for a turn that gives more", []int{9}, jobsOf(0, 10), false},
		{"a wrong job behind good ones", []int{1, 1}, jobsOf(0, 1, 1, 9, 1, 10), false},
	}
	for _, c := range cases {
		if got := impl.JobsValid(c.weights, c.jobs); got != c.want {
			t.Errorf("%s: JobsValid(%v, %v) = %v", c.name, c.weights, c.jobs, got)
		}
	}
}

// TestEveryJob looks at each weight, class and size there can be.
func TestEveryJob(t *testing.T) {
	for classes := 1; classes <= 4; classes++ {
		for class := range classes {
			for weight := 1; weight <= 9; weight++ {
				weights := slices.Repeat([]int{1}, classes)
				weights[class] = weight
				for size := 1; size <= 9; size++ {
					jobs := jobsOf(class, size)
					checkOrders(t, weights, jobs)
					checkDone(t, weights, jobs, []int{0})
				}
			}
		}
	}
}

func TestNoJobs(t *testing.T) {
	for _, weights := range badWeights() {
		checkNoJobs(t, weights, nil)
		checkNoJobs(t, weights, jobsOf(0, 1))
		checkNoJobs(t, weights, mixedJobs(60, max(1, min(4, len(weights))), 1))
	}
	for classes := 1; classes <= 4; classes++ {
		for i, jobs := range badJobs(classes) {
			checkNoJobs(t, mixedWeights(classes, i), jobs)
		}
	}
}

func TestFairOrder(t *testing.T) {
	cases := []struct {
		name    string
		weights []int
		jobs    []impl.Job
		want    []int
	}{
		{"no jobs", []int{1, 2, 3}, nil, nil},
		{"by turns", []int{1, 1}, jobsOf(0, 9, 0, 9, 1, 9, 1, 9), []int{0, 2, 1, 3}},
		{"by turns, the jobs of the last class first", []int{1, 1}, jobsOf(1, 9, 1, 9, 0, 9, 0, 9), []int{2, 0, 3, 1}},
		{"mixed", []int{1, 1}, jobsOf(1, 9, 0, 9, 1, 1, 0, 1), []int{1, 0, 3, 2}},
		{"one class", []int{1}, jobsOf(0, 9, 0, 1, 0, 9, 0, 5), []int{0, 1, 2, 3}},
		{"all in the first turn", []int{1, 1}, jobsOf(1, 4, 0, 3, 1, 5, 0, 6), []int{1, 3, 0, 2}},
		{"a class of twice the weight", []int{2, 1}, jobsOf(0, 9, 0, 9, 0, 9, 1, 9, 1, 9, 1, 9), []int{0, 1, 3, 2, 4, 5}},
		{"the second one of twice the weight", []int{1, 2}, jobsOf(0, 9, 0, 9, 0, 9, 1, 9, 1, 9, 1, 9), []int{0, 3, 4, 1, 5, 2}},
		{"the greatest weight", []int{9, 1}, append(slices.Repeat(jobsOf(0, 9), 10), jobsOf(1, 9, 1, 9)...), []int{0, 1, 2, 3, 4, 5, 6, 7, 8, 10, 9, 11}},
		{"credits that are left", []int{1, 1}, jobsOf(0, 5, 0, 5, 0, 5, 0, 5, 1, 9, 1, 9, 1, 9), []int{0, 4, 1, 2, 5, 3, 6}},
		{"credits that are left over turns", []int{1, 1}, jobsOf(0, 6, 0, 6, 0, 6, 0, 9, 1, 9, 1, 9, 1, 9), []int{0, 4, 1, 2, 5, 3, 6}},
		{"a small job behind a great one", []int{1, 1}, jobsOf(0, 5, 0, 9, 0, 1, 1, 9, 1, 9), []int{0, 3, 1, 2, 4}},
		{"as great as what is left", []int{1, 1}, jobsOf(0, 4, 0, 5, 0, 1, 1, 9), []int{0, 1, 3, 2}},
		{"one greater than what is left", []int{1, 1}, jobsOf(0, 5, 0, 5, 1, 9), []int{0, 2, 1}},
		{"a class becomes empty", []int{1, 1, 1}, jobsOf(0, 1, 1, 9, 1, 9, 1, 9, 2, 9, 2, 9), []int{0, 1, 4, 2, 5, 3}},
		{"the last class becomes empty", []int{1, 1, 1}, jobsOf(0, 9, 0, 9, 0, 9, 1, 9, 1, 9, 2, 1), []int{0, 3, 5, 1, 4, 2}},
		{"a class without jobs", []int{9, 1, 2}, jobsOf(1, 9, 1, 9, 2, 9, 2, 9, 2, 9), []int{0, 2, 3, 1, 4}},
		{"the last class alone has jobs", []int{1, 1, 1, 1}, jobsOf(3, 9, 3, 9, 3, 9), []int{0, 1, 2}},
		{"four classes", []int{1, 1, 1, 1}, jobsOf(3, 9, 2, 9, 1, 9, 0, 9, 3, 9, 2, 9, 1, 9, 0, 9), []int{3, 2, 1, 0, 7, 6, 5, 4}},
	}
	for _, c := range cases {
		if got := impl.FairOrder(c.weights, c.jobs); !slices.Equal(got, c.want) {
			t.Errorf("%s: FairOrder(%v, %v) = %v, want %v", c.name, c.weights, c.jobs, got, c.want)
		}
		if want := fairByTurns(c.weights, c.jobs); !slices.Equal(want, c.want) {
			t.Errorf("%s: the test reckons %v, want %v", c.name, want, c.want)
		}
	}
}

func TestStrictOrder(t *testing.T) {
	cases := []struct {
		name    string
		weights []int
		jobs    []impl.Job
		want    []int
	}{
		{"no jobs", []int{1, 2, 3}, nil, nil},
		{"by classes", []int{1, 1}, jobsOf(0, 9, 0, 9, 1, 9, 1, 9), []int{0, 1, 2, 3}},
		{"the jobs of the last class first", []int{1, 1}, jobsOf(1, 9, 1, 9, 0, 9, 0, 9), []int{2, 3, 0, 1}},
		{"mixed", []int{1, 1}, jobsOf(1, 9, 0, 9, 1, 1, 0, 1), []int{1, 3, 0, 2}},
		{"whatever the weights are", []int{1, 9, 5}, jobsOf(2, 1, 1, 9, 0, 9, 0, 9, 1, 1), []int{2, 3, 1, 4, 0}},
		{"a class without jobs", []int{1, 1, 1, 1}, jobsOf(3, 9, 1, 9, 3, 1), []int{1, 0, 2}},
		{"one class", []int{3}, jobsOf(0, 9, 0, 1, 0, 9), []int{0, 1, 2}},
	}
	for _, c := range cases {
		if got := impl.StrictOrder(c.weights, c.jobs); !slices.Equal(got, c.want) {
			t.Errorf("%s: StrictOrder(%v, %v) = %v, want %v", c.name, c.weights, c.jobs, got, c.want)
		}
	}
}

// checkAllJobs looks at the orders of all lists of at most so many jobs of some sizes.
func checkAllJobs(t *testing.T, weights, sizes []int, many int) {
	t.Helper()
	kinds := len(weights) * len(sizes)
	for _, list := range listsOf(upTo(0, kinds), many) {
		jobs := make([]impl.Job, len(list))
		for i, n := range list {
			jobs[i] = impl.Job{Class: n / len(sizes), Size: sizes[n%len(sizes)]}
		}
		checkOrders(t, weights, jobs)
		checkNotAhead(t, weights, jobs)
	}
}

// TestAllFewJobs looks at all lists of few jobs.
func TestAllFewJobs(t *testing.T) {
	checkAllJobs(t, []int{1}, []int{1, 2, 3, 4, 5, 6, 7, 8, 9}, 4)
	for _, weights := range [][]int{{1, 1}, {1, 2}, {2, 1}, {1, 9}} {
		checkAllJobs(t, weights, []int{1, 4, 5, 9}, 4)
	}
	for _, weights := range [][]int{{1, 1, 1}, {3, 1, 2}} {
		checkAllJobs(t, weights, []int{4, 5, 9}, 4)
	}
	checkAllJobs(t, []int{1, 1, 1, 1}, []int{1, 9}, 4)
	// Enough of one size to have the turn three times.
	checkAllJobs(t, []int{1, 1}, []int{5}, 9)
	checkAllJobs(t, []int{1, 2, 1}, []int{7}, 7)
}

// TestMixedJobs looks at lists of up to all the jobs that there can be.
func TestMixedJobs(t *testing.T) {
	for seed := range 25 {
		for classes := 1; classes <= 4; classes++ {
			for _, many := range []int{0, 1, 7, 23, 59, 60} {
				weights, jobs := mixedWeights(classes, seed), mixedJobs(many, classes, seed)
				checkOrders(t, weights, jobs)
				checkOrders(t, slices.Repeat([]int{1 + seed%9}, classes), jobs)
				checkDone(t, weights, jobs, fairByTurns(weights, jobs))
				checkDone(t, weights, jobs, mixedOrder(many, seed))
			}
		}
	}
}

// TestOrdersOfOneSize looks at as many jobs as there can be of one size and one class,
// and of all classes in turn.
func TestOrdersOfOneSize(t *testing.T) {
	for weight := 1; weight <= 9; weight++ {
		for size := 1; size <= 9; size++ {
			for classes := 1; classes <= 4; classes++ {
				jobs, last := make([]impl.Job, 60), make([]impl.Job, 60)
				for i := range jobs {
					jobs[i], last[i] = impl.Job{Class: i % classes, Size: size}, impl.Job{Class: classes - 1, Size: size}
				}
				weights := slices.Repeat([]int{weight}, classes)
				checkOrders(t, weights, jobs)
				checkOrders(t, weights, last)
				weights[0] = 1
				checkOrders(t, weights, jobs)
			}
		}
	}
}

func TestServedBy(t *testing.T) {
	jobs := jobsOf(0, 9, 1, 2, 0, 5, 2, 1, 1, 7)
	cases := []struct {
		name  string
		order []int
		want  []int
	}{
		{"nothing", nil, []int{0, 0, 0, 0}},
		{"one job", []int{1}, []int{0, 2, 0, 0}},
		{"all of a class", []int{0, 2}, []int{14, 0, 0, 0}},
		{"all", []int{0, 1, 2, 3, 4}, []int{14, 9, 1, 0}},
		{"all, in another order", []int{4, 2, 0, 3, 1}, []int{14, 9, 1, 0}},
		{"one twice", []int{2, 2}, []int{5, 0, 0, 0}},
		{"one again behind others", []int{4, 3, 4, 1, 3}, []int{0, 9, 1, 0}},
		{"one very often", slices.Repeat([]int{0}, 5000), []int{9, 0, 0, 0}},
		{"past the end", []int{5}, nil},
		{"past the end, behind others", []int{0, 1, 5}, nil},
		{"past the end, ahead of others", []int{5, 0, 1}, nil},
		{"below 0", []int{0, -1, 1}, nil},
	}
	for _, c := range cases {
		if got := impl.ServedBy([]int{1, 9, 5, 2}, jobs, c.order); !slices.Equal(got, c.want) {
			t.Errorf("%s: ServedBy(%v) = %v, want %v", c.name, c.order, got, c.want)
		}
	}
	for classes := 1; classes <= 4; classes++ {
		weights := slices.Repeat([]int{1}, classes)
		if got := impl.ServedBy(weights, nil, nil); !slices.Equal(got, make([]int, classes)) {
			t.Errorf("ServedBy(%v) of no jobs = %v", weights, got)
		}
		if got := impl.ServedBy(weights, nil, []int{0}); len(got) != 0 {
			t.Errorf("ServedBy(%v) of a job that there is not = %v", weights, got)
		}
	}
}

// TestServedByAnyOrder looks at all short lists of indexes, whatever jobs they have
// twice, and however many there are.
func TestServedByAnyOrder(t *testing.T) {
	jobs := jobsOf(0, 1, 1, 3, 0, 5, 1, 9)
	for _, order := range listsOf([]int{-1, 0, 1, 2, 3, 4}, 5) {
		var want []int
		if !slices.Contains(order, -1) && !slices.Contains(order, 4) {
			want = servedByHand(2, jobs, order)
		}
		if got := impl.ServedBy([]int{1, 2}, jobs, order); !slices.Equal(got, want) {
			t.Fatalf("ServedBy(%v) = %v, want %v", order, got, want)
		}
	}
	for seed := range 20 {
		jobs := mixedJobs(60, 4, seed)
		order := mixedNumbers(1000, 1+3*seed, seed)
		if got, want := impl.ServedBy([]int{1, 1, 1, 1}, jobs, order), servedByHand(4, jobs, order); !slices.Equal(got, want) {
			t.Errorf("ServedBy(%v, %v) = %v, want %v", jobs, order, got, want)
		}
	}
}

// TestOrdersWithoutJobs looks at orders in which one number is no index.
func TestOrdersWithoutJobs(t *testing.T) {
	weights, jobs := []int{1, 2, 3}, mixedJobs(20, 3, 5)
	for _, x := range append([]int{20, 21, 60}, strangeNumbers...) {
		for _, many := range []int{1, 2, 20} {
			for at := range many {
				order := upTo(0, many)
				order[at] = x
				if got := impl.ServedBy(weights, jobs, order); len(got) != 0 {
					t.Errorf("ServedBy(%v) = %v", order, got)
				}
				// Each of them is asked for: those ahead of the wrong one too.
				for _, k := range order {
					if got := impl.WaitsBefore(jobs, order, k); got != -1 {
						t.Errorf("WaitsBefore(%v, %d) = %d", order, k, got)
					}
				}
			}
		}
	}
}

func TestApartBound(t *testing.T) {
	cases := []struct {
		weights []int
		a, b    int
		want    int
	}{
		{[]int{1, 2}, 0, 1, 26}, {[]int{1, 2}, 1, 0, 34}, {[]int{1, 2}, 0, 0, 17}, {[]int{1, 2}, 1, 1, 52},
		{[]int{1}, 0, 0, 17}, {[]int{9}, 0, 0, 801}, {[]int{9, 1, 5, 3}, 3, 0, 267}, {[]int{9, 1, 5, 3}, 0, 3, 315},
		{[]int{1}, 0, 1, -1}, {[]int{1}, 1, 0, -1}, {[]int{1, 2}, 0, 2, -1}, {[]int{1, 2}, -1, 1, -1}, {[]int{1, 2}, 0, -1, -1},
		{nil, 0, 0, -1}, {[]int{1, 1, 1, 1, 1}, 0, 1, -1}, {[]int{1, 10}, 0, 0, -1}, {[]int{0, 1}, 1, 1, -1}, {[]int{1, 1, 0}, 0, 1, -1},
	}
	for _, c := range cases {
		if got := impl.ApartBound(c.weights, c.a, c.b); got != c.want {
			t.Errorf("ApartBound(%v, %d, %d) = %d, want %d", c.weights, c.a, c.b, got, c.want)
		}
	}
}

// TestAllApartBounds looks at all weights of two of up to four classes.
func TestAllApartBounds(t *testing.T) {
	for classes := 1; classes <= 4; classes++ {
		for a := range classes {
			for b := range classes {
				for weight := range 81 {
					weights := mixedWeights(classes, weight)
					weights[a] = weight/9 + 1
					if a != b {
						weights[b] = weight%9 + 1
					}
					want := (9*weights[b] + 8) * weights[a]
					if got := impl.ApartBound(weights, a, b); got != want {
						t.Errorf("ApartBound(%v, %d, %d) = %d, want %d", weights, a, b, got, want)
					}
				}
			}
		}
	}
}

func TestNoApartBound(t *testing.T) {
	for _, weights := range badWeights() {
		for a := range 4 {
			for b := range 4 {
				if got := impl.ApartBound(weights, a, b); got != -1 {
					t.Errorf("ApartBound(%v, %d, %d) = %d", weights, a, b, got)
				}
			}
		}
	}
	for classes := 1; classes <= 4; classes++ {
		weights := mixedWeights(classes, classes)
		for class := range classes {
			for _, x := range notClasses(classes) {
				for _, pair := range [][2]int{{class, x}, {x, class}, {x, x}} {
					if got := impl.ApartBound(weights, pair[0], pair[1]); got != -1 {
						t.Errorf("ApartBound(%v, %d, %d) = %d", weights, pair[0], pair[1], got)
					}
				}
			}
		}
	}
}

func TestWaitsBefore(t *testing.T) {
	jobs := jobsOf(0, 9, 1, 2, 0, 5, 2, 1, 1, 7)
	cases := []struct {
		name  string
		order []int
		k     int
		want  int
	}{
		{"the first one", []int{3, 0, 1}, 3, 0},
		{"the second one", []int{3, 0, 1}, 0, 1},
		{"the last one", []int{3, 0, 1}, 1, 10},
		{"all ahead", []int{0, 1, 2, 3, 4}, 4, 17},
		{"others are behind", []int{0, 1, 2, 3, 4}, 2, 11},
		{"not in it", []int{0, 1, 2}, 3, -1},
		{"nothing is in it", nil, 0, -1},
		{"no index", []int{0, 1, 2}, 5, -1},
		{"no index, though it is in it", []int{0, 1, 5}, 5, -1},
		{"one past the end behind it", []int{0, 1, 5}, 1, -1},
		{"one past the end ahead of it", []int{5, 0, 1}, 1, -1},
		{"one below 0 behind it", []int{0, 1, -1}, 0, -1},
		{"it stands there twice", []int{0, 1, 2, 1, 3}, 1, 9},
		{"the first one stands there twice", []int{1, 0, 1}, 1, 0},
		{"one ahead of it stands there twice", []int{0, 2, 0, 1}, 1, 23},
		{"one ahead of it stands there behind it too", []int{2, 1, 2}, 1, 5},
	}
	for _, c := range cases {
		if got := impl.WaitsBefore(jobs, c.order, c.k); got != c.want {
			t.Errorf("%s: WaitsBefore(%v, %d) = %d, want %d", c.name, c.order, c.k, got, c.want)
		}
	}
	if got := impl.WaitsBefore(nil, nil, 0); got != -1 {
		t.Errorf("WaitsBefore of no jobs = %d", got)
	}
}

// TestWaitsBeforeAnyOrder looks at all short lists of indexes.
func TestWaitsBeforeAnyOrder(t *testing.T) {
	jobs := jobsOf(0, 1, 1, 3, 0, 5, 1, 9)
	for _, order := range listsOf([]int{-1, 0, 1, 2, 3, 4}, 5) {
		for k := -2; k <= 5; k++ {
			want := -1
			if at := slices.Index(order, k); at >= 0 && !slices.Contains(order, -1) && !slices.Contains(order, 4) {
				want = waitsByHand(jobs, order, at)
			}
			if got := impl.WaitsBefore(jobs, order, k); got != want {
				t.Fatalf("WaitsBefore(%v, %d) = %d, want %d", order, k, got, want)
			}
		}
	}
}

// TestWaitsBeforeWrongSizes looks at jobs one of which has a size that there is not:
// that counts if the job is in the order, wherever it stands.
func TestWaitsBeforeWrongSizes(t *testing.T) {
	for _, size := range notSizes {
		for at := range 5 {
			jobs := jobsOf(0, 9, 1, 2, 0, 5, 2, 1, 1, 7)
			jobs[at].Size = size
			whole := mixedOrder(5, at)
			for _, k := range whole {
				if got := impl.WaitsBefore(jobs, whole, k); got != -1 {
					t.Errorf("WaitsBefore(%v, %v, %d) = %d", jobs, whole, k, got)
				}
			}
			without := slices.DeleteFunc(slices.Clone(whole), func(i int) bool { return i == at })
			for place, k := range without {
				if got, want := impl.WaitsBefore(jobs, without, k), waitsByHand(jobs, without, place); got != want {
					t.Errorf("WaitsBefore(%v, %v, %d) = %d, want %d", jobs, without, k, got, want)
				}
			}
		}
	}
}

// TestWaitsBeforeStrangeJobs looks at more jobs than there can be, of classes that
// there are not: nothing about them but their sizes counts.
func TestWaitsBeforeStrangeJobs(t *testing.T) {
	for i, class := range append([]int{0, 3, 4}, strangeNumbers...) {
		jobs := mixedJobs(200, 4, i)
		for j := range jobs {
			jobs[j].Class = class
		}
		order := mixedOrder(200, i)
		for place := 0; place < 200; place += 19 {
			if got, want := impl.WaitsBefore(jobs, order, order[place]), waitsByHand(jobs, order, place); got != want {
				t.Errorf("WaitsBefore of 200 jobs of the class %d = %d, want %d", class, got, want)
			}
		}
	}
	long := append(slices.Repeat([]int{1}, 5000), 0)
	if got := impl.WaitsBefore(jobsOf(0, 1, 0, 9), long, 0); got != 45000 {
		t.Errorf("WaitsBefore behind 5000 jobs of the size 9 = %d", got)
	}
}

// mostAhead returns how far a class gets ahead of another one at most in an order, as
// long as that one has jobs left: what has been done of both, each times the weight
// of the other one.
func mostAhead(weights []int, jobs []impl.Job, order []int, a, b int) int {
	most := math.MinInt
	for n := range order {
		// Of the jobs that come from here on, one of b is left.
		if !slices.ContainsFunc(order[n:], func(i int) bool { return jobs[i].Class == b }) {
			break
		}
		served := impl.ServedBy(weights, jobs, order[:n])
		most = max(most, weights[b]*served[a]-weights[a]*served[b])
	}
	return most
}

// checkNotAhead looks whether no class gets further ahead of another one than
// ApartBound tells.
func checkNotAhead(t *testing.T, weights []int, jobs []impl.Job) {
	t.Helper()
	order := impl.FairOrder(weights, jobs)
	if len(order) != len(jobs) {
		t.Fatalf("FairOrder(%v, %v) = %v", weights, jobs, order)
	}
	for a := range weights {
		for b := range weights {
			most, bound := mostAhead(weights, jobs, order, a, b), impl.ApartBound(weights, a, b)
			if most > bound {
				t.Fatalf("FairOrder(%v, %v) = %v: the class %d gets ahead of %d by %d, at most %d may be", weights, jobs, order, a, b, most, bound)
			}
		}
	}
}

// TestNoClassIsFarAhead is promise 12: no class is more than a turn and a frame ahead
// of another one. For all lists of few jobs, TestAllFewJobs looks at it.
func TestNoClassIsFarAhead(t *testing.T) {
	for seed := range 25 {
		for classes := 1; classes <= 4; classes++ {
			for _, many := range []int{7, 30, 60} {
				checkNotAhead(t, mixedWeights(classes, seed), mixedJobs(many, classes, seed))
				checkNotAhead(t, slices.Repeat([]int{1}, classes), mixedJobs(many, classes, seed))
			}
		}
	}
	for weight := range 81 {
		for size := 1; size <= 9; size++ {
			checkNotAhead(t, []int{weight/9 + 1, weight%9 + 1}, slices.Repeat(jobsOf(0, size, 1, 9), 30))
			checkNotAhead(t, []int{weight/9 + 1, weight%9 + 1}, slices.Repeat(jobsOf(0, 9, 1, size), 30))
		}
	}
}

// TestHowFarAhead looks at jobs with which a class gets as far ahead of the next one
// as it may: it has its second turn, and of the first one of the other class a credit
// is left to which one is missing for a job. By classes it gets further.
func TestHowFarAhead(t *testing.T) {
	for weight := range 81 {
		weights := []int{weight/9 + 1, weight%9 + 1}
		jobs := slices.Repeat(jobsOf(0, 9), 2*weights[0]+9)
		jobs = append(jobs, slices.Repeat(jobsOf(1, 9), weights[1]-1)...)
		jobs = append(jobs, jobsOf(1, 1, 1, 9)...)
		bound := impl.ApartBound(weights, 0, 1)
		if most := mostAhead(weights, jobs, impl.FairOrder(weights, jobs), 0, 1); most != bound {
			t.Errorf("with the weights %v, a class gets ahead by %d, and may by %d", weights, most, bound)
		}
		if most := mostAhead(weights, jobs, impl.StrictOrder(weights, jobs), 0, 1); most <= bound {
			t.Errorf("with the weights %v, a class gets ahead by %d by classes, and may by %d", weights, most, bound)
		}
	}
}

// TestJobsOfAClassStayInOrder looks whether both orders have each job once, and those
// of a class as they stand.
func TestJobsOfAClassStayInOrder(t *testing.T) {
	for seed := range 50 {
		classes := seed%4 + 1
		weights, jobs := mixedWeights(classes, seed), mixedJobs(seed+11, classes, seed)
		for name, order := range map[string][]int{"FairOrder": impl.FairOrder(weights, jobs), "StrictOrder": impl.StrictOrder(weights, jobs)} {
			last := slices.Repeat([]int{-1}, classes)
			for _, i := range order {
				if i <= last[jobs[i].Class] {
					t.Errorf("%s(%v, %v) = %v: %d comes too late", name, weights, jobs, order, i)
				}
				last[jobs[i].Class] = i
			}
			if len(order) != len(jobs) {
				t.Errorf("%s(%v, %v) = %v", name, weights, jobs, order)
			}
		}
	}
}

func TestQueuesShareNoMemory(t *testing.T) {
	for classes := 1; classes <= 4; classes++ {
		// weights and an order, one behind the other, and numbers behind them.
		whole := slices.Concat(mixedWeights(classes, 1), mixedOrder(40, 2), mixedNumbers(60, 9, 3))
		before := slices.Clone(whole)
		weights, order := whole[:classes], whole[classes:classes+40]
		allJobs := mixedJobs(60, classes, 4)
		jobsBefore := slices.Clone(allJobs)
		jobs := allJobs[:40]
		calls := map[string]func() []int{
			"FairOrder":   func() []int { return impl.FairOrder(weights, jobs) },
			"StrictOrder": func() []int { return impl.StrictOrder(weights, jobs) },
			"ServedBy":    func() []int { return impl.ServedBy(weights, jobs, order) },
		}
		for name, call := range calls {
			first, second := call(), call()
			if len(first) == 0 || !slices.Equal(first, second) {
				t.Errorf("%s returns %v, and then %v", name, first, second)
			}
			checkApart(t, name, whole, before, first, second)
		}
		impl.JobsValid(weights, jobs)
		impl.ApartBound(weights, 0, classes-1)
		impl.WaitsBefore(jobs, order, order[20])
		checkApart(t, "a function that only looks", whole, before)
		if !slices.Equal(allJobs, jobsBefore) {
			t.Errorf("jobs change: %v, want %v", allJobs, jobsBefore)
		}
	}
}
