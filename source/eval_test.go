package source_test

import (
	"math"
	"strings"
	"testing"

	"attest/api"
)

func TestG4Values(t *testing.T) {
	for _, c := range []struct {
		text      string
		is, parts int
	}{
		{"5", 5, 1}, {"((5))", 5, 1}, {"97", 0, 1}, {"98", 1, 1}, {"9223372036854775807", math.MaxInt % 97, 1}, {"-5", 92, 2}, {"-0", 0, 2}, {"-97", 0, 2}, {"--5", 5, 3},
		{"a", 10, 1}, {"b", 20, 1}, {"a + b", 30, 3}, {"a - b", 87, 3}, {"a * b", 6, 3}, {"a / b", 49, 3}, {"b / a", 2, 3}, {"0 / a", 0, 3}, {"a * b + b / a - 1", 7, 9},
		{"96 + 96", 95, 3}, {"a == b", 0, 3}, {"a == a", 1, 3}, {"a == 107", 1, 3}, {"0 == 97", 1, 3}, {"(a == a) + (b == b)", 2, 7}, {"-1 == 96", 1, 4},
		{"let x = a + b; x * x", 27, 7}, {"let x = 1; b", 20, 3}, {"let x = let x = a; x + 1; x + 1", 12, 9}, {"(let x = a; x) - (let x = b; x)", 87, 7}, {"let x = a; let y = x; let z = y; x + y + z", 30, 11},
		{"need a == a; b", 20, 4}, {"need a + 97 == a; b", 20, 6}, {"need a == 10; need b == 20; a + b", 30, 9},
		{"if a then b else 1 / 0", 20, 3}, {"if 0 then 1 / 0 else b", 20, 3}, {"if 97 then 1 / 0 else b", 20, 3}, {"if a == b then 1 else 2", 2, 5}, {"if a - b then 1 else 2", 1, 5}, {"if -1 then 3 else 4", 3, 4},
		{"g()", 7, 2}, {"f(1, 2)", 96, 6}, {"f(b, a)", 10, 6}, {"f(f(1, 2), g())", 89, 12}, {"-f(1, 2)", 1, 7}, {"let x = 5; f(x, x)", 0, 8}, {"h(0)", 1, 7}, {"h(1)", 0, 7},
	} {
		text := "fn f(a, b) = a - b fn main(a, b) = " + c.text + " fn g() = 7 fn h(x) = if x == 0 then 1 else 0"
		comesTo(t, 97, text, []int{10, 20}, c.parts, api.Value{Is: c.is, Parts: c.parts})
		comesTo(t, 97, text, []int{10, 20}, api.MaxSteps, api.Value{Is: c.is, Parts: c.parts})
		endsBy(t, 97, text, []int{10, 20}, c.parts-1, api.ErrLong)
		endsBy(t, 97, text, []int{10, 20}, 0, api.ErrLong)
	}
}

func TestG4FunctionsSeeTheirOwnNames(t *testing.T) {
	comesTo(t, 97, "fn main(a, b) = let c = f(b, a); c + a fn f(a, b) = let c = a; c - b", []int{1, 9}, 100, api.Value{Is: 9, Parts: 12})
	comesTo(t, 97, "fn main(main) = let f = f(main); f fn f(f) = f + 1", []int{1}, 100, api.Value{Is: 2, Parts: 7})
	comesTo(t, 97, "fn main(n) = if n then let m = main(n - 1); m + n else 0", []int{4}, 100, api.Value{Is: 10, Parts: 4*10 + 3})
}

func TestG4ManyPrimes(t *testing.T) {
	for _, p := range primes {
		comesTo(t, p, "fn main(a) = a", []int{-1}, 1, api.Value{Is: p - 1, Parts: 1})
		comesTo(t, p, "fn main(a) = a", []int{p}, 1, api.Value{Is: 0, Parts: 1})
		comesTo(t, p, "fn main(a) = a * a", []int{p - 1}, 3, api.Value{Is: 1, Parts: 3})
		comesTo(t, p, "fn main(a) = 1 / a * a", []int{p - 1}, 5, api.Value{Is: 1, Parts: 5})
		comesTo(t, p, "fn main(a) = 1 / 2 + a / 2", []int{1}, 7, api.Value{Is: 1, Parts: 7})
		for _, n := range []int{math.MaxInt, math.MinInt, -p, p + 1, -p - 1} {
			is := (n%p + p) % p
			comesTo(t, p, "fn main(a) = a", []int{n}, 1, api.Value{Is: is, Parts: 1})
			comesTo(t, p, "fn main(a, b) = need a == b; if a - b then 1 else 2", []int{n, is}, 8, api.Value{Is: 2, Parts: 8})
		}
	}
}

func TestG5Stuck(t *testing.T) {
	// Each ends by being stuck, once so many parts were looked at.
	for _, c := range []struct {
		text  string
		parts int
	}{
		{"1 / 0", 3}, {"0 / 0", 3}, {"a / 97", 3}, {"1 / (a - a)", 5}, {"1 / 0 + main(a)", 4}, {"2 + 1 / 0 + main(a)", 6}, {"need 1 == 2; 3", 3}, {"need a == 2; main(a)", 3}, {"need a == a; need a == 2; a", 6},
		{"-(1 / 0)", 4}, {"(1 / 0) == (1 / 0)", 4}, {"let x = 1 / 0; main(a)", 4}, {"let x = a; x / 0", 5}, {"if 1 / 0 then main(a) else main(a)", 4}, {"if a then 1 / 0 else main(a)", 5}, {"if 0 then main(a) else 1 / 0", 5},
		{"main(1 / 0)", 4}, {"f(1 / 0, main(a))", 4}, {"f(a, 0)", 6}, {"need 1 / 0 == main(a); 2", 4}, {"need 1 == 1 / 0; 2", 5}, {"(need 1 == 2; 3) / main(a)", 4},
	} {
		text := "fn main(a) = " + c.text + " fn f(a, b) = a / b"
		for _, fuel := range []int{c.parts, c.parts + 1, api.MaxSteps} {
			endsBy(t, 97, text, []int{5}, fuel, api.ErrStuck)
		}
		for fuel := range c.parts {
			endsBy(t, 97, text, []int{5}, fuel, api.ErrLong)
		}
	}
	comesTo(t, 97, "fn main(a) = if a then 1 / a else 0", []int{0}, 100, api.Value{Is: 0, Parts: 3})
}

func TestG5PartsAreLookedAtFromTheLeft(t *testing.T) {
	// The first of two parts goes on for ever, and the second is stuck; then the other way round.
	for _, c := range []string{"% + %", "% - %", "% * %", "% / %", "% == %", "f(%, %)", "let x = %; %", "need % == %; 1", "need 1 == 1; % + %", "if % then % else 1", "if 1 then % else %", "if 0 then % else %", "-(% + %)"} {
		long, stuck := "main()", "(1 / 0)"
		first := strings.Replace(strings.Replace(c, "%", long, 1), "%", stuck, 1)
		second := strings.Replace(strings.Replace(c, "%", stuck, 1), "%", long, 1)
		if strings.HasPrefix(c, "if 0") {
			first, second = second, first
		}
		endsBy(t, 97, "fn main() = "+first+" fn f(a, b) = a", nil, api.MaxSteps, api.ErrLong)
		endsBy(t, 97, "fn main() = "+second+" fn f(a, b) = a", nil, api.MaxSteps, api.ErrStuck)
	}
}

func TestG5Sizes(t *testing.T) {
	for _, fuel := range []int{0, 100, -1, api.MaxSteps + 1, math.MinInt} { // ErrSize comes first
		endsBy(t, 97, "fn main() = 1 / 0", []int{1}, fuel, api.ErrSize)
		endsBy(t, 97, "fn main(a) = a", nil, fuel, api.ErrSize)
		endsBy(t, 97, "fn main(a) = a", []int{1, 2}, fuel, api.ErrSize)
		endsBy(t, 97, "fn f(a) = a fn main(a, b) = f(a)", []int{1}, fuel, api.ErrSize)
	}
	comesTo(t, 97, "fn main() = 1", nil, 1, api.Value{Is: 1, Parts: 1})
	comesTo(t, 97, "fn main() = 1", []int{}, 1, api.Value{Is: 1, Parts: 1})
}

func TestG5Fuel(t *testing.T) {
	for _, fuel := range []int{-1, api.MaxSteps + 1, math.MinInt, math.MaxInt} {
		endsBy(t, 97, "fn main() = 1", nil, fuel, api.ErrRange)
		endsBy(t, 97, "fn main() = 1 / 0", nil, fuel, api.ErrRange)
	}
	endsBy(t, 97, "fn main() = 1", nil, 0, api.ErrLong)
	comesTo(t, 97, "fn main() = 1", nil, 1, api.Value{Is: 1, Parts: 1})
	comesTo(t, 97, "fn main() = 1", nil, api.MaxSteps, api.Value{Is: 1, Parts: 1})
}

func TestG5AsManyPartsAsMayBe(t *testing.T) {
	const p = 2013265921
	// Six parts a round, and three at its end, or one more for each - ahead of what stands there.
	count := func(last string) string { return "fn main(n) = if n then main(n - 1) else " + last }
	rounds := (api.MaxSteps - 4) / 6
	more := api.MaxSteps - 6*rounds - 3
	last := strings.Repeat("-", more) + "1"
	is := 1
	if more%2 == 1 {
		is = p - 1
	}
	comesTo(t, p, count(last), []int{rounds}, api.MaxSteps, api.Value{Is: is, Parts: api.MaxSteps})
	endsBy(t, p, count(last), []int{rounds}, api.MaxSteps-1, api.ErrLong)
	endsBy(t, p, count("-"+last), []int{rounds}, api.MaxSteps, api.ErrLong)
	// Calls within calls, as deep as may be.
	endsBy(t, p, "fn main() = main()", nil, api.MaxSteps, api.ErrLong)
	endsBy(t, p, "fn main() = 1 + main()", nil, api.MaxSteps, api.ErrLong)
	endsBy(t, p, "fn main() = f(f(f(main()))) fn f(a) = a", nil, api.MaxSteps, api.ErrLong)
}
