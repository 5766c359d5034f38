package ratio_test

import (
	"math"
	"testing"

	"heartwood/api"
	"heartwood/ratio"
)

// P4.5

func wantLogs(t *testing.T, n, floor, ceil int) {
	t.Helper()
	if k, err := ratio.FloorLog(n); k != floor || err != api.OK {
		t.Errorf("FloorLog(%d) = %d %v, want %d", n, k, err, floor)
	}
	if k, err := ratio.CeilLog(n); k != ceil || err != api.OK {
		t.Errorf("CeilLog(%d) = %d %v, want %d", n, k, err, ceil)
	}
}

func TestLogs(t *testing.T) {
	wantLogs(t, 1, 0, 0)
	wantLogs(t, 2, 1, 1)
	wantLogs(t, 3, 1, 2)
	wantLogs(t, 9, 3, 4)
	for k := 2; k <= 40; k++ {
		wantLogs(t, 1<<k, k, k)
		wantLogs(t, 1<<k-1, k-1, k)
		wantLogs(t, 1<<(k-1)+1, k-1, k)
		wantLogs(t, 3<<(k-2), k-1, k)
	}
	for n, k := 1, 0; n <= 3000; n++ {
		if n == 2<<k {
			k++
		}
		if n == 1<<k {
			wantLogs(t, n, k, k)
		} else {
			wantLogs(t, n, k, k+1)
		}
	}
}

func wantRoot(t *testing.T, n, wanted int) {
	t.Helper()
	if k, err := ratio.Root(n); k != wanted || err != api.OK {
		t.Errorf("Root(%d) = %d %v, want %d", n, k, err, wanted)
	}
}

func TestRoot(t *testing.T) {
	wantRoot(t, 15, 3)
	wantRoot(t, 0, 0)
	wantRoot(t, api.MaxInt, 1<<20)
	for n, k := 0, 0; n <= 5000; n++ {
		if n == (k+1)*(k+1) {
			k++
		}
		wantRoot(t, n, k)
	}
	for k := 1; k <= 1<<20; k++ {
		if k > 2000 && k < 1<<20-2000 && k%97 != 0 && k&(k-1) != 0 {
			continue
		}
		wantRoot(t, k*k-1, k-1)
		wantRoot(t, k*k, k)
		if k < 1<<20 {
			wantRoot(t, k*k+2*k, k)
		}
	}
}

func TestNumbersOutOfRange(t *testing.T) {
	functions := map[string]func(int) (int, api.Errno){"FloorLog": ratio.FloorLog, "CeilLog": ratio.CeilLog, "Root": ratio.Root}
	for name, f := range functions {
		for _, n := range []int{-1, -2, -100, -api.MaxInt, -api.MaxInt - 1, api.MaxInt + 1, api.MaxInt + 2, 2 * api.MaxInt, 1 << 62, math.MaxInt, math.MaxInt - 1, math.MinInt, math.MinInt + 1} {
			if k, err := f(n); k != 0 || err != api.ErrRange {
				t.Errorf("%s(%d) = %d %v", name, n, k, err)
			}
		}
		if k, err := f(0); name != "Root" && (k != 0 || err != api.ErrRange) {
			t.Errorf("%s(0) = %d %v", name, k, err)
		}
	}
}
