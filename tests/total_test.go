package tests

import (
	"reflect"
	"slices"
	"strings"
	"testing"

	"loop.example/g01164/impl"
)

// Each function of the chapters that have landed; issues to come add theirs.
var functions = map[string]any{
	"IsWord":       impl.IsWord,
	"IsSet":        impl.IsSet,
	"SetOf":        impl.SetOf,
	"Begins":       impl.Begins,
	"Ends":         impl.Ends,
	"CountIn":      impl.CountIn,
	"LettersOf":    impl.LettersOf,
	"LessWord":     impl.LessWord,
	"Concat":       impl.Concat,
	"ReverseSet":   impl.ReverseSet,
	"RenameSet":    impl.RenameSet,
	"JoinSets":     impl.JoinSets,
	"WithoutWord":  impl.WithoutWord,
	"LeftQuotient": impl.LeftQuotient,
	"LengthsOf":    impl.LengthsOf,
	"BordersOf":    impl.BordersOf,
	"SetText":      impl.SetText,
	"ParseSet":     impl.ParseSet,

	"DanglingOf":     impl.DanglingOf,
	"IsCode":         impl.IsCode,
	"ShortestDouble": impl.ShortestDouble,
	"TwoReadings":    impl.TwoReadings,
	"CountReadings":  impl.CountReadings,
	"CanRead":        impl.CanRead,
	"ReadWord":       impl.ReadWord,
	"AllReadings":    impl.AllReadings,
	"WriteMessage":   impl.WriteMessage,
	"CountWritten":   impl.CountWritten,
	"CountMessages":  impl.CountMessages,
	"GreatestCode":   impl.GreatestCode,
	"FirstRefused":   impl.FirstRefused,
	"IsUniquelyRead": impl.IsUniquelyRead,

	"KraftSum":        impl.KraftSum,
	"SumOfLengths":    impl.SumOfLengths,
	"CanBePrefix":     impl.CanBePrefix,
	"FirstPrefixCode": impl.FirstPrefixCode,
	"RoomLeft":        impl.RoomLeft,
	"IsPrefixSet":     impl.IsPrefixSet,
	"IsSuffixSet":     impl.IsSuffixSet,
	"FillPrefix":      impl.FillPrefix,
	"IsMaximalPrefix": impl.IsMaximalPrefix,
	"SumsOfPowers":    impl.SumsOfPowers,
	"FirstMissing":    impl.FirstMissing,
	"IsCompleteSet":   impl.IsCompleteSet,
	"CountLengths":    impl.CountLengths,
	"AllLengths":      impl.AllLengths,

	"InnerWords":          impl.InnerWords,
	"ReplaceLetters":      impl.ReplaceLetters,
	"FactorOver":          impl.FactorOver,
	"PutBehind":           impl.PutBehind,
	"IsTwoSided":          impl.IsTwoSided,
	"IsPartFree":          impl.IsPartFree,
	"LevelsOf":            impl.LevelsOf,
	"ReadFromLeft":        impl.ReadFromLeft,
	"CountCompletePrefix": impl.CountCompletePrefix,
	"AllCompletePrefix":   impl.AllCompletePrefix,
	"ShrinkPrefix":        impl.ShrinkPrefix,

	"StatesOf":         impl.StatesOf,
	"StateAfter":       impl.StateAfter,
	"IsStepWord":       impl.IsStepWord,
	"ShortestStepWord": impl.ShortestStepWord,
	"MeetingWord":      impl.MeetingWord,
	"CommonDivisor":    impl.CommonDivisor,
	"CanBeInStep":      impl.CanBeInStep,
	"IsCommaFree":      impl.IsCommaFree,
	"FirstInside":      impl.FirstInside,
	"CountTurnedWords": impl.CountTurnedWords,
	"FirstCommaFree":   impl.FirstCommaFree,
	"StatesBehind":     impl.StatesBehind,

	"LeastGenerators": impl.LeastGenerators,
	"WrittenUpTo":     impl.WrittenUpTo,
	"MeetGenerators":  impl.MeetGenerators,
	"FreeHull":        impl.FreeHull,
	"HullSteps":       impl.HullSteps,
	"CanMeet":         impl.CanMeet,
	"RootOf":          impl.RootOf,
	"IsPrimitive":     impl.IsPrimitive,
	"TurnsOf":         impl.TurnsOf,
	"AreTurns":        impl.AreTurns,
	"CommonRoot":      impl.CommonRoot,
	"PeriodsOf":       impl.PeriodsOf,

	"CostOf":         impl.CostOf,
	"MergeRun":       impl.MergeRun,
	"BestCost":       impl.BestCost,
	"FirstBest":      impl.FirstBest,
	"CountBest":      impl.CountBest,
	"AreBest":        impl.AreBest,
	"BestWithin":     impl.BestWithin,
	"WordsFor":       impl.WordsFor,
	"OrderedCost":    impl.OrderedCost,
	"OrderedLengths": impl.OrderedLengths,
	"CanBeOrdered":   impl.CanBeOrdered,
	"OrderedWords":   impl.OrderedWords,
	"EvenCost":       impl.EvenCost,
	"SplitCost":      impl.SplitCost,

	"LetterCounts":    impl.LetterCounts,
	"AreLetterAlike":  impl.AreLetterAlike,
	"WeightOf":        impl.WeightOf,
	"WeightedSum":     impl.WeightedSum,
	"FirstTooHeavy":   impl.FirstTooHeavy,
	"MeanLength":      impl.MeanLength,
	"InnerWeight":     impl.InnerWeight,
	"CountByLetters":  impl.CountByLetters,
	"CountWithCounts": impl.CountWithCounts,
	"PrefixAlike":     impl.PrefixAlike,
	"IsFullCode":      impl.IsFullCode,

	"RestsAfter":    impl.RestsAfter,
	"HasDelay":      impl.HasDelay,
	"DelayOf":       impl.DelayOf,
	"DelayBack":     impl.DelayBack,
	"PairWaiting":   impl.PairWaiting,
	"IsBeginning":   impl.IsBeginning,
	"FirstWords":    impl.FirstWords,
	"DecidedWords":  impl.DecidedWords,
	"RestUndecided": impl.RestUndecided,
	"MissingBehind": impl.MissingBehind,
}

const spare = 3

// roomy returns a copy with marked room behind its end, which no function may touch or hand out.
func roomy[T any](values []T, mark T) []T {
	room := slices.Clone(values)
	for range spare {
		room = append(room, mark)
	}
	return room[:len(values)]
}

// poolOf lists fresh arguments of a type: valid ones, limits met and exceeded, and nonsense.
func poolOf(t *testing.T, kind reflect.Type) []reflect.Value {
	var pool []any
	switch kind {
	case reflect.TypeFor[string]():
		for _, s := range append(noWordTexts, "", "a", "abaab", "a,b,ab", "-", ",", "b,a", "aba", "baa", "aaaa", strings.Repeat("a", 60), strings.Repeat("abc", 20), strings.Repeat(",", 1000)) {
			pool = append(pool, s)
		}
	case reflect.TypeFor[int]():
		for _, n := range []int{-1 << 63, -1, 0, 1, 2, 3, 6, 7, 8, 9, 10, 11, 12, 13, 20, 21, 40, 41, 60, 61, 1000000, 1000001, 1<<63 - 1} {
			pool = append(pool, n)
		}
	case reflect.TypeFor[[]string]():
		for _, l := range append(noSets, nil, list("a"), list("a b ab"), list("ab a b a"), list("aa ab ba"), list("a ab ba"), list("a ab bb"), list("a ba bb"), list("a ba bba"), list("aa ab ba bb"), list("a bb"), list("a bba bbbb"), list("a b c"), list("a aa aaa aaaa"), list("aa ab ac bb bbc bcc"), list("aaaaaaa bbbbbbbb"), list("a ab"), list(slowTwentyOne), list(missingTwelve), twelve(), slices.Repeat(list("b a"), 20), make([]string, 60)) {
			pool = append(pool, roomy(l, "MARK"))
		}
	case reflect.TypeFor[[]int]():
		for _, l := range [][]int{nil, {0}, {0, 1, 2}, {2, 0, 1}, {2, 1, 0}, {0, 1, 3}, {-1, 0, 1}, {0, 0, 0}, {0, 2}, {1, 0}, {12}, {1}, {1, 1}, {1, 2, 3}, {1, 2, 3, 4, 5, 6, 7, 8, 8, 8}, {3, 2, 1}, {9}, {11}, {1, 2, 1}, {2, 1, 2}, {1, 1, 2, 4}, {3, 3, 2, 1}, {6, 5, 4, 3, 2, 1}, {1, 2, 3, 4, 5, 6, 7}, {100}, {1, 101}, slices.Repeat([]int{100}, 12), slices.Repeat([]int{100}, 13), slices.Repeat([]int{11}, 12), slices.Repeat([]int{8}, 12), slices.Repeat([]int{8}, 13), {1, 1, 0}, {0, 0, 10}, {0, 11, 0}, {4, 4, 4}, {13, 0, 0}, {-1 << 63, 1<<63 - 1, 0}, {1<<63 - 1, 1<<63 - 1, 3}, make([]int, 60), make([]int, 61), make([]int, 100)} {
			pool = append(pool, roomy(l, -77))
		}
	default:
		t.Fatalf("no arguments of type %v", kind)
	}
	values := make([]reflect.Value, len(pool))
	for i, v := range pool {
		values[i] = reflect.ValueOf(v)
	}
	return values
}

// whole shows a value with the room behind it.
func whole(v reflect.Value) any {
	if v.Kind() == reflect.Slice {
		v = v.Slice(0, v.Cap())
		kept := reflect.MakeSlice(v.Type(), v.Len(), v.Len())
		reflect.Copy(kept, v)
		v = kept
	}
	return v.Interface()
}

// scribble overwrites a slice and all room behind it.
func scribble(v reflect.Value) {
	if v.Kind() != reflect.Slice {
		return
	}
	v = v.Slice(0, v.Cap())
	for i := range v.Len() {
		if v.Index(i).Kind() == reflect.Slice {
			scribble(v.Index(i))
		} else if v.Index(i).Kind() == reflect.String {
			v.Index(i).SetString("SCRIBBLE")
		} else {
			v.Index(i).SetZero()
		}
	}
}

func everyChoice(pools [][]reflect.Value, use func([]reflect.Value)) {
	chosen := make([]reflect.Value, len(pools))
	var choose func(int)
	choose = func(k int) {
		if k == len(pools) {
			use(chosen)
			return
		}
		for _, v := range pools[k] {
			chosen[k] = v
			choose(k + 1)
		}
	}
	choose(0)
}

func checkCall(t *testing.T, name string, f reflect.Value, args []reflect.Value) {
	defer func() {
		if r := recover(); r != nil {
			t.Errorf("%s panics: %v", name, r)
		}
	}()
	var before []any
	for _, a := range args {
		before = append(before, whole(a))
	}
	results := f.Call(args)
	checkKept(t, name, args, before)
	checkZeroIfFailed(t, name, results)
	checkApart(t, name, results)
	again := f.Call(args)
	for i := range results {
		if !reflect.DeepEqual(results[i].Interface(), again[i].Interface()) {
			t.Errorf("%s: two equal calls differ", name)
		}
		scribble(results[i])
	}
	checkKept(t, name, args, before)
}

// Called before and after the results were overwritten, so that memory that they share with arguments shows.
func checkKept(t *testing.T, name string, args []reflect.Value, before []any) {
	for i, a := range args {
		if !reflect.DeepEqual(whole(a), before[i]) {
			t.Fatalf("%s changes argument %d: %v became %v", name, i, before[i], whole(a))
		}
	}
}

func checkZeroIfFailed(t *testing.T, name string, results []reflect.Value) {
	last := results[len(results)-1]
	if len(results) == 1 || last.Bool() {
		return
	}
	for _, r := range results[:len(results)-1] {
		if !r.IsZero() && !(r.Kind() == reflect.Slice && r.Len() == 0) {
			t.Errorf("%s fails with %v", name, r)
		}
	}
}

// slicesIn lists all slices of a value, with the room behind them.
func slicesIn(v reflect.Value) []reflect.Value {
	if v.Kind() != reflect.Slice {
		return nil
	}
	v = v.Slice(0, v.Cap())
	found := []reflect.Value{v}
	for i := range v.Len() {
		found = append(found, slicesIn(v.Index(i))...)
	}
	return found
}

// checkApart fails if two slices of a result share memory: one of both then begins within the other one.
func checkApart(t *testing.T, name string, results []reflect.Value) {
	var all []reflect.Value
	for _, r := range results {
		all = append(all, slicesIn(r)...)
	}
	for i, v := range all {
		for j, w := range all {
			begin := v.Pointer()
			end := begin + uintptr(v.Len())*v.Type().Elem().Size()
			if i != j && w.Len() > 0 && begin <= w.Pointer() && w.Pointer() < end {
				t.Fatalf("%s: two slices of the result share memory", name)
			}
		}
	}
}

func TestEveryFunctionAcceptsAllArguments(t *testing.T) {
	for name, f := range functions {
		v := reflect.ValueOf(f)
		var pools [][]reflect.Value
		for i := range v.Type().NumIn() {
			pools = append(pools, poolOf(t, v.Type().In(i)))
		}
		everyChoice(pools, func(args []reflect.Value) { checkCall(t, name, v, args) })
	}
}

// Both arguments may be one and the same slice.
func TestEveryFunctionAcceptsOneListTwice(t *testing.T) {
	for _, v := range poolOf(t, reflect.TypeFor[[]string]()) {
		for name, f := range map[string]any{"JoinSets": impl.JoinSets, "LeftQuotient": impl.LeftQuotient, "ReplaceLetters": impl.ReplaceLetters, "FactorOver": impl.FactorOver, "AreLetterAlike": impl.AreLetterAlike} {
			checkCall(t, name, reflect.ValueOf(f), []reflect.Value{v, v})
		}
		checkCall(t, "PutBehind", reflect.ValueOf(impl.PutBehind), []reflect.Value{v, reflect.ValueOf(0), v})
		checkCall(t, "MeetGenerators", reflect.ValueOf(impl.MeetGenerators), []reflect.Value{v, v, reflect.ValueOf(4)})
	}
	for _, v := range poolOf(t, reflect.TypeFor[[]int]()) {
		checkCall(t, "CostOf", reflect.ValueOf(impl.CostOf), []reflect.Value{v, v})
		checkCall(t, "AreBest", reflect.ValueOf(impl.AreBest), []reflect.Value{v, v, reflect.ValueOf(2)})
	}
}
