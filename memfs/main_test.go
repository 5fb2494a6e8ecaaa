package memfs_test

import (
	"os"
	"runtime/debug"
	"testing"
)

// TestMain lets what is thrown away lie for longer: the tests make very many file systems,
// few of which are there at one time.
func TestMain(m *testing.M) {
	debug.SetGCPercent(1000)
	os.Exit(m.Run())
}
